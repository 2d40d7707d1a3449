import PyProof.Rows.All
import Wide.All
import OpenK.AllK
import Wide.FinOn
import Lean
import PyProof.EqAt
import PyProof.EqKinds
import PyProof.TupleCall
import PySem.Challenge.RW_camplay_k09_whole_rows_refused
set_option Elab.async false
set_option linter.all false
set_option maxRecDepth 100000
set_option maxHeartbeats 4000000
open List (all_cons all_eq_true any_cons append_nil cons_append filterMap_cons filter_append filter_cons forIn_cons forIn_nil getD_eq_getElem?_getD length_cons length_drop length_filter_le length_map length_nil length_set length_take lookup_cons map_append map_congr_left map_cons map_drop map_eq_nil_iff map_id map_map map_nil map_set map_take mem_append mem_append_left mem_append_right mem_cons mem_cons_of_mem mem_cons_self mem_filter mem_iff_getElem mem_map mem_of_getElem? mem_of_mem_drop mem_of_mem_take mem_range mem_singleton nodup_append nodup_cons not_mem_nil of_mem_zip size_toArray sum_cons take_add_one take_length take_of_length_le)
abbrev Frg := PySem.W.Frag
namespace L2
open PySem PySem.Spec PyProof.Rows
noncomputable abbrev Key:=Sum Int Str
noncomputable def keyIs:Key->Value->Bool
 | .inl k,v=>Value.isInt k v
 | .inr x,v=>Value.isStrOf x v
noncomputable def keyH(w:World):Key->Int
 | .inl k=>hashInt k
 | .inr x=>hashStr w x
theorem JE:∀{k:Key} {v:Value},keyIs k v=true->(∃i t,k=Sum.inl i/\v=Value.int i t)\/(∃x t,k=Sum.inr x/\v=Value.str x t)
 | .inl i,v,h=>by
  obtain⟨t,e⟩:=Value.isInt_shape (k:=i) (v:=v) h;exact .inl ⟨i,t,rfl,e⟩
 | .inr x,v,h=>by
  obtain⟨t,e⟩:=Value.isStrOf_shape (x:=x) (v:=v) h;exact .inr ⟨x,t,rfl,e⟩
theorem j16(i:Int)(t:Tok):keyIs (.inl i) (.int i t)=true:=by simp[keyIs,Value.isInt]
theorem j17(x:Str)(t:Tok):keyIs (.inr x) (.str x t)=true:=by simp[keyIs,Value.isStrOf]
theorem j4i(a b:Int):decide ((Sum.inl a:Key)=Sum.inl b)=(a==b):=by
 by_cases e:a=b
 ·subst e;simp
 ·have h:¬(Sum.inl a:Key)=Sum.inl b:=fun q=>e (Sum.inl.inj q)
  rw[decide_eq_false h];exact(beq_eq_false_iff_ne.mpr e).symm
theorem j4l(a b:Str):decide ((Sum.inr a:Key)=Sum.inr b)=decide (a=b):=by
 by_cases e:a=b
 ·subst e;simp
 ·have h:¬(Sum.inr a:Key)=Sum.inr b:=fun q=>e (Sum.inr.inj q)
  rw[decide_eq_false h,decide_eq_false e]
theorem j4j(a:Int)(b:Str):decide ((Sum.inl a:Key)=Sum.inr b)=false:=decide_eq_false (fun q=>nomatch q)
theorem j4k(a:Str)(b:Int):decide ((Sum.inr a:Key)=Sum.inl b)=false:=decide_eq_false (fun q=>nomatch q)
noncomputable def mixKind(prog:Program)(w:World):PySem.KeyKind prog w Key where
 is:=keyIs
 hash:=keyH w
 inj:=fun v a b ha hb=>by
  rcases JE ha with⟨i,t,rfl,rfl⟩ | ⟨x,t,rfl,rfl⟩
  ·rcases JE hb with⟨j,u,rfl,e⟩ | ⟨y,u,rfl,e⟩
   ·injection e with e1 _;rw[e1]
   ·exact nomatch e
  ·rcases JE hb with⟨j,u,rfl,e⟩ | ⟨y,u,rfl,e⟩
   ·exact nomatch e
   ·injection e with e1 _;rw[e1]
 byValue:=fun k v h=>by
  rcases JE h with⟨i,t,rfl,rfl⟩ | ⟨x,t,rfl,rfl⟩<;>rfl
 pyHash:=fun hv h=>by
  rcases JE hv with⟨i,t,rfl,rfl⟩ | ⟨x,t,rfl,rfl⟩
  ·exact wpAny_pyHash_int h
  ·exact wpAny_pyHash_str h
 eqBool:=fun hu hv h=>by
  rcases JE hu with⟨i,t,rfl,rfl⟩ | ⟨x,t,rfl,rfl⟩
  ·rcases JE hv with⟨j,u,rfl,rfl⟩ | ⟨y,u,rfl,rfl⟩
   ·rw[j4i]at h;exact wpAny_eqBool_int h
   ·rw[j4j]at h;exact SeqAt.EqAt.int_str i t y u _ _ _ _ h
  ·rcases JE hv with⟨j,u,rfl,rfl⟩ | ⟨y,u,rfl,rfl⟩
   ·rw[j4k]at h;exact SeqAt.EqAt.str_int x t j u _ _ _ _ h
   ·rw[j4l]at h;exact wpAny_eqBool_str h
 «strs»:=fun k x t v h=>by
  rcases JE h with⟨i,u,rfl,e⟩ | ⟨y,u,rfl,e⟩
  ·exact nomatch e
  ·injection e with e1 _;subst e1;cases v<;>rfl
theorem xx(prog:Program)(w:World)(i:Int)(t:Tok):(mixKind prog w).is (.inl i) (.int i t)=true:=j16 i t
theorem xy(prog:Program)(w:World)(x:Str)(t:Tok):(mixKind prog w).is (.inr x) (.str x t)=true:=j17 x t
inductive V where
 | non | bl (b:Bool) | int (i:Int) | str (x:Str) | byt (b:Array UInt8) | flt (b:UInt64) | ref (a:Addr) | ty (n:String)
 deriving DecidableEq
noncomputable def RelV:V->Value->Prop
 | .non,u=>u=Value.none
 | .bl b,u=>u=Value.bool b
 | .int i,u=>∃t,u=Value.int i t
 | .str x,u=>∃t,u=Value.str x t
 | .byt b,u=>∃t,u=Value.bytes b t
 | .flt b,u=>∃t,u=Value.float b t
 | .ref a,u=>u=Value.ref a
 | .ty n,u=>u=Value.type n
noncomputable abbrev Vals:List V->List Value->Prop:=Paired RelV
theorem Vals.length{xs:List V}{us:List Value}(r:Vals xs us):xs.length=us.length:=Paired.length r
theorem Vals.get:∀{xs:List V} {us:List Value} {i:Nat} {x:V},Vals xs us->xs[i]?=some x->∃u,us[i]?=some u/\RelV x u
 | _,_,_,_,.nil,e=>by simp at e
 | _,_,0,_,.cons r _,e=>by simp at e;subst e;exact⟨_,rfl,r⟩
 | _,_,i+1,x,.cons _ t,e=>by
  obtain⟨u,h1,h2⟩:=Vals.get (i:=i) (x:=x) t (by simpa using e);exact⟨u,by simpa using h1,h2⟩
theorem Vals.set{x:V}{u:Value}(r:RelV x u):∀{xs:List V} {us:List Value} (i:Nat),Vals xs us->Vals (xs.set i x) (us.set i u)
 | _,_,_,.nil=>.nil
 | _,_,0,.cons _ t=>.cons r t
 | _,_,i+1,.cons q t=>.cons q (Vals.set r i t)
theorem Vals.append:∀{xs ys:List V} {us ws:List Value},Vals xs us->Vals ys ws->Vals (xs++ys) (us++ws)
 | _,_,_,_,.nil,s=>s
 | _,_,_,_,.cons r t,s=>.cons r (Vals.append t s)
theorem Vals.take:∀{xs:List V} {us:List Value} (n:Nat),Vals xs us->Vals (xs.take n) (us.take n)
 | _,_,0,_=>.nil
 | _,_,_+1,.nil=>.nil
 | _,_,n+1,.cons r t=>.cons r (Vals.take n t)
theorem Vals.drop:∀{xs:List V} {us:List Value} (n:Nat),Vals xs us->Vals (xs.drop n) (us.drop n)
 | _,_,0,r=>r
 | _,_,_+1,.nil=>.nil
 | _,_,n+1,.cons _ t=>Vals.drop n t
noncomputable def RelO:Option V->Option Value->Prop
 | some v,some u=>RelV v u
 | none,none=>True
 | _,_=>False
noncomputable def KV{κ:Type}:List (κ×V)->List (κ×Value)->Prop:=Paired fun(p:κ×V) (q:κ×Value)=>p.1=q.1/\RelV p.2 q.2
noncomputable def kV:Key->V
 | .inl i=>.int i
 | .inr x=>.str x
inductive HO where
 | lst (xs:List V)
 | tup (xs:List V)
 | dK (kvs:List (Key×V)) | dT (kvs:List (List Key×V))
 | set (S:Int->Bool) (n:Nat)
 | ins (C dx:Addr) (fs:List (Str×V))
 | own (x:Addr)
 | xd (fs:List (Str×V))
 | met (f x:Addr)
 | rng (lo hi:Int)
 | frz (o:Obj) (u:HO)
 | tbl (ps:Array Value)
 | ext (φ:Heap->Prop)
noncomputable abbrev Hp:=Addr->Option HO
noncomputable def upd(H:Hp)(a:Addr)(o:HO):Hp:=fun b=>if b=a then some o else H b
theorem jn{H:Hp}{a:Addr}{o:HO}:upd H a o a=some o:=by unfold upd;rw[if_pos rfl]
theorem jq{H:Hp}{a b:Addr}{o:HO}(h:b≠a):upd H a o b=H b:=by unfold upd;rw[if_neg h]
theorem qQ{H:Hp}{a b:Addr}{o u:HO}(h:H a=some o)(h':H b=some u)(d:o≠u):a≠b:=by
 intro e;subst e;rw[h]at h';exact d (Option.some.inj h')
theorem ji{H:Hp}{a b:Addr}{o:HO}(h:H a=some o)(h':H b=none):a≠b:=by
 intro e;subst e;rw[h]at h';cases h'
section
variable(P:Program)(w:World)
noncomputable def ObjOk(H:Hp)(h:Heap)(a:Addr):HO->Prop
 | .lst xs=>xs.length<=sizeLine/\∃(its:List Value) (n:Nat),Vals xs its/\h.get? a=some {cls:=.type "list",data:=.seq its.toArray n}
 | .tup xs=>xs.length<=sizeLine/\∃its:List Value,Vals xs its/\IsTup h a its.toArray
 | .dK kvs=>kvs.length<=sizeLine/\(a==sysModules)=false/\∃vs,KV kvs vs/\h.DictOf (mixKind P w) a vs
 | .dT kvs=>kvs.length<=sizeLine/\(a==sysModules)=false/\∃xs:List (List Key×Addr×Value),
   Paired (fun(p:List Key×V) (q:List Key×Addr×Value)=>p.1=q.1/\H q.2.1=some (.tup (p.1.map kV))/\RelV p.2 q.2.2) kvs xs/\
   ∃o es ep,h.get? a=some o/\o.ExactDict/\o.data = .dict es ep/\es.toList=xs.map (entryOfKey (tupleKind (mixKind P w)))/\(xs.map (·.1)).Nodup
 | .set S n=>h.SetOf (intKind P w) a S n
 | .ins C dx fs=>H dx=some (.own a)/\fs.length<=1000/\dx≠a/\h.get? a=some (PySem.W.instObj C dx)/\
   ∃mA,h.Ns1 dx mA/\(∀f,RelO (fs.lookup f) (mA f))/\PySem.Within mA (fs.map (·.1))
 | .own _=>∃o,h.get? a=some o
 | .xd fs=>∃mA,h.Ns1 a mA/\∀f,RelO (fs.lookup f) (mA f)
 | .rng lo hi=>∃t u v,h.get? a=some {cls:=.type "range",data:=.fields #[.int lo t,.int hi u,.int 1 v]}
 | .frz o u=>h.get? a=some o/\ObjOk H h a u
 | .tbl ps=>h.get? a=some {cls:=.none,data:=.fields ps}
 | .met f x=>h.get? a=some (PySem.W.methodObj (.ref f) (.ref x))
 | .ext φ=>φ h/\(∃o,h.get? a=some o)/\∀h1 h2:Heap,φ h1->(∀o,h1.get? a=some o->h2.get? a=some o)->φ h2
def HOk(H:Hp)(h:Heap):Prop:=∀a o,H a=some o->ObjOk P w H h a o
end
section
variable{P:Program}{w:World}{H H':Hp}{h h':Heap}{a:Addr}{o:HO}
theorem ObjOk.lt(x:ObjOk P w H h a o):a<h.objs.size:=by
 cases o with
 | lst xs=>obtain⟨_,_,_,_,e⟩:=x;exact Heap.lt_size e
 | tup xs=>obtain⟨_,_,_,p⟩:=x;exact p.lt
 | dK kvs=>obtain⟨_,_,_,_,o,_,_,e,_⟩:=x;exact Heap.lt_size e
 | dT kvs=>obtain⟨_,_,_,_,o,_,_,e,_⟩:=x;exact Heap.lt_size e
 | set S n=>obtain⟨o,_,_,_,e,_⟩:=x;exact Heap.lt_size e
 | ins C dx fs=>obtain⟨_,_,_,e,_⟩:=x;exact Heap.lt_size e
 | own y=>obtain⟨_,e⟩:=x;exact Heap.lt_size e
 | xd fs=>obtain⟨_,⟨_,_,_,e,_⟩,_⟩:=x;exact Heap.lt_size e
 | rng lo hi=>obtain⟨_,_,_,e⟩:=x;exact Heap.lt_size e
 | frz ob u=>obtain⟨e,_⟩:=x;exact Heap.lt_size e
 | tbl ps=>exact Heap.lt_size (show h.get? a=some _ from x)
 | met f y=>exact Heap.lt_size (show h.get? a=some _ from x)
 | ext φ=>obtain⟨_,⟨_,e⟩,_⟩:=x;exact Heap.lt_size e
theorem Paired.mapP{α β:Type}{F G:α->β->Prop}:∀{l₁:List α} {l₂:List β},Paired F l₁ l₂->(∀a b,F a b->G a b)->Paired G l₁ l₂
 | _,_,.nil,_=>.nil
 | _,_,.cons r t,f=>.cons (f _ _ r) (Paired.mapP t f)
theorem ObjOk.stay(x:ObjOk P w H h a o)(k:∀b u,(b=a\/H b=some (.own a))->h.get? b=some u->h'.get? b=some u)
  (ho:∀b,H b=some (.own a)->H' b=some (.own a)) (ht:∀b xs,H b=some (.tup xs)->H' b=some (.tup xs)):ObjOk P w H' h' a o:=by
 induction o with
 | lst xs=>obtain⟨z,its,n,r,e⟩:=x;exact⟨z,its,n,r,k _ _ (.inl rfl) e⟩
 | tup xs=>obtain⟨z,its,r,ob,e,c⟩:=x;exact⟨z,its,r,ob,k _ _ (.inl rfl) e,c⟩
 | dK kvs=>obtain⟨z,y,vs,r,ob,es,ep,e,c⟩:=x;exact⟨z,y,vs,r,ob,es,ep,k _ _ (.inl rfl) e,c⟩
 | dT kvs=>
  obtain⟨z,y,xs,r,ob,es,ep,e,c⟩:=x;exact⟨z,y,xs,Paired.mapP r fun p q z=>⟨z.1,ht _ _ z.2.1,z.2.2⟩,ob,es,ep,k _ _ (.inl rfl) e,c⟩
 | set S n=>obtain⟨ob,es,ep,t,e,c⟩:=x;exact⟨ob,es,ep,t,k _ _ (.inl rfl) e,c⟩
 | ins C dx fs=>
  obtain⟨d,z,ne,e,mA,⟨od,es,ep,e2,c⟩,r⟩:=x;exact⟨ho _ d,z,ne,k _ _ (.inl rfl) e,mA,⟨od,es,ep,k _ _ (.inr d) e2,c⟩,r⟩
 | own y=>obtain⟨ob,e⟩:=x;exact⟨ob,k _ _ (.inl rfl) e⟩
 | xd fs=>obtain⟨mA,⟨od,es,ep,e,c⟩,r⟩:=x;exact⟨mA,⟨od,es,ep,k _ _ (.inl rfl) e,c⟩,r⟩
 | rng lo hi=>obtain⟨t,u,v,e⟩:=x;exact⟨t,u,v,k _ _ (.inl rfl) e⟩
 | frz ob u ih=>obtain⟨e,q⟩:=x;exact⟨k _ _ (.inl rfl) e,ih q⟩
 | tbl ps=>
  have e:h.get? a=some {cls:=.none,data:=.fields ps}:=x;show h'.get? a=some {cls:=.none,data:=.fields ps};exact k a _ (.inl rfl) e
 | met f y=>
  have e:h.get? a=some (PySem.W.methodObj (.ref f) (.ref y)):=x;show h'.get? a=some (PySem.W.methodObj (.ref f) (.ref y));exact k a _ (.inl rfl) e
 | ext φ=>obtain⟨p,⟨o,e⟩,st⟩:=x;exact⟨st _ _ p fun o q=>k _ _ (.inl rfl) q,⟨o,k _ _ (.inl rfl) e⟩,st⟩
theorem HOk.lt(x:HOk P w H h)(e:H a=some o):a<h.objs.size:=(x a o e).lt
theorem HOk.fresh(x:HOk P w H h)(e:h.objs.size<=a):H a=none:=by
 cases q:H a with
 | none=>rfl
 | some u=>exact absurd (Nat.lt_of_lt_of_le (x.lt q) e) (Nat.lt_irrefl _)
theorem HOk.kept(x:HOk P w H h)(k:∀b u,h.get? b=some u->h'.get? b=some u):HOk P w H h':=fun a o e=>
 (x a o e).stay (fun b u _ q=>k b u q) (fun _ q=>q) fun _ _ q=>q
theorem HOk.laid(x:HOk P w H h)(k:∀b u,h.get? b=some u->h'.get? b=some u)(hp:h.objs.size<=a)(new:ObjOk P w (upd H a o) h' a o):HOk P w (upd H a o) h':=fun b u e=>by
 have hn:=x.fresh hp;by_cases hb:b=a
 ·subst hb;rw[jn]at e;cases e;exact new
 ·rw[jq hb]at e;exact(x b u e).stay (fun c v _ q=>k c v q) (fun c q=>by rw[jq (ji q hn)];exact q) fun c xs q=>by rw[jq (ji q hn)];exact q
end
def Rd(H:Hp)(a:Addr)(u:HO):Prop:=H a=some u\/∃o,H a=some (.frz o u)
theorem Rd.ok{P:Program}{w:World}{H:Hp}{h:Heap}{a:Addr}{u:HO}(r:Rd H a u)(x:HOk P w H h):ObjOk P w H h a u:=by
 rcases r with r | ⟨o,r⟩
 ·exact x a u r
 ·obtain⟨_,q⟩:=x a _ r;exact q
noncomputable def Mut:Option HO->Prop
 | some (.lst _)=>True
 | some (.dK _)=>True
 | some (.dT _)=>True
 | some (.set _ _)=>True
 | some (.ins _ _ _)=>True
 | some (.ext _)=>True
 | _=>False
section
variable{P:Program}{w:World}{H:Hp}{h h':Heap}{x e:Addr}{o':HO}
theorem HOk.write(ok:HOk P w H h)(mu:Mut (H x))(he:e=x\/H e=some (.own x))(k:∀b u,b≠e->h.get? b=some u->h'.get? b=some u)(heo:∃u,h'.get? e=some u)
  (new:ObjOk P w (upd H x o') h' x o'):HOk P w (upd H x o') h':=fun b u q=>by
 have nown:∀c y,H c=some (.own y)->c≠x:=fun c y r z=>by subst z;rw[r]at mu;exact mu
 have ntup:∀c xs,H c=some (.tup xs)->c≠x:=fun c xs r z=>by subst z;rw[r]at mu;exact mu
 by_cases hb:b=x
 ·subst hb;rw[jn]at q;cases q;exact new
 ·rw[jq hb]at q;by_cases hbe:b=e
  ·have q':H b=some (.own x):=by
    rcases he with z | z
    ·exact absurd (hbe.trans z) hb
    ·rw[hbe];exact z
   rw[q]at q';cases q';obtain⟨v,hv⟩:=heo;exact⟨v,by rw[hbe];exact hv⟩
  ·refine(ok b u q).stay (fun c v hc r=>k c v ?_ r) (fun c r=>by rw[jq (nown c b r)];exact r) fun c xs r=>by rw[jq (ntup c xs r)];exact r
   rcases hc with rfl | hc
   ·exact hbe
   ·rintro rfl;rcases he with z | z
    ·exact nown c b hc z
    ·rw[hc]at z;cases z;exact hb rfl
end
structure Un(fs ex:List Addr)(H H':Hp)(h h':Heap):Prop where
 keep:∀b o,h.get? b=some o->H b=none->b∉fs->b∉ex->h'.get? b=some o
 slot:∀b o,h.get? b=some o->H b=none->b∈fs->b∉ex->∃sl,h'.get? b=some {o with slots:=sl}
 free:∀b o,h.get? b=some o->H b=none->b∉ex->H' b=none
 there:∀b o,h.get? b=some o->b∉ex->∃o',h'.get? b=some o'
 tups:∀b xs,H b=some (.tup xs)->H' b=some (.tup xs)
 frzs:∀b o u,H b=some (.frz o u)->H' b=some (.frz o u)
 tbls:∀b ps,H b=some (.tbl ps)->∃more,H' b=some (.tbl (ps++more))
section
variable{fs fs' ex ex':List Addr}{H H1 H2:Hp}{h h1 h2 h':Heap}{a x e:Addr}{o:HO}
theorem Un.any(u:Un fs ex H H1 h h1){b:Addr}{ob:Obj}(q:h.get? b=some ob)(n:H b=none)(hx:b∉ex):∃sl,h1.get? b=some {ob with slots:=sl}:=by
 by_cases hb:b∈fs
 ·exact u.slot b ob q n hb hx
 ·exact⟨ob.slots,u.keep b ob q n hb hx⟩
theorem Un.kept(k:∀b u,h.get? b=some u->h'.get? b=some u):Un fs ex H H h h':=
 ⟨fun b ob q _ _ _=>k b ob q,fun b ob q _ _ _=>⟨ob.slots,k b ob q⟩,fun _ _ _ n _=>n,fun b ob q _=>⟨ob,k b ob q⟩,fun _ _ q=>q,fun _ _ _ q=>q,fun _ ps q=>⟨#[],by rw[q];simp⟩⟩
theorem Un.refl:Un fs ex H H h h:=Un.kept fun _ _ q=>q
theorem Un.laid(k:∀b u,h.get? b=some u->h'.get? b=some u)(hp:h.objs.size<=a)(hn:H a=none):Un fs ex H (upd H a o) h h' where
 keep:=fun b u q _ _ _=>k b u q
 slot:=fun b u q _ _ _=>⟨u.slots,k b u q⟩
 free:=fun b u q n _=>by rw[jq (Nat.ne_of_lt (Nat.lt_of_lt_of_le (Heap.lt_size q) hp))];exact n
 there:=fun b u q _=>⟨u,k b u q⟩
 tups:=fun b xs q=>by rw[jq (ji q hn)];exact q
 frzs:=fun b u xs q=>by rw[jq (ji q hn)];exact q
 tbls:=fun b ps q=>⟨#[],by rw[jq (ji q hn),q];simp⟩
theorem Un.write(mu:Mut (H x))(he:e=x\/H e=some (.own x))(k:∀b u,b≠e->h.get? b=some u->h'.get? b=some u)(heo:∃u,h'.get? e=some u):Un fs ex H (upd H x o) h h':=by
 have hx:∀b,H b=none->b≠x:=fun b n z=>by subst z;rw[n]at mu;exact mu
 have hb:∀b,H b=none->b≠e:=fun b n z=>by
  subst z;rcases he with r | r
  ·exact hx b n r
  ·rw[n]at r;cases r
 have hm:∀b u,H b=some u->¬Mut (some u)->b≠x:=fun b u q nm z=>by subst z;rw[q]at mu;exact nm mu
 refine⟨fun b u q n _ _=>k b u (hb b n) q,fun b u q n _ _=>⟨u.slots,k b u (hb b n) q⟩,fun b u q n _=>by rw[jq (hx b n)];exact n,fun b u q _=>?_,
  fun b xs q=>by rw[jq (hm b _ q fun z=>z)];exact q,fun b u xs q=>by rw[jq (hm b _ q fun z=>z)];exact q,fun b ps q=>⟨#[],by rw[jq (hm b _ q fun z=>z),q];simp⟩⟩
 by_cases hbe:b=e
 ·subst hbe;exact heo
 ·exact⟨u,k b u hbe q⟩
end
noncomputable def trk(h:Heap)(H:Hp):List Addr:=(List.range h.objs.size).filter fun a=>(H a).isSome
noncomputable def hidT(h:Heap)(H:Hp):Heap:=PySem.W.hideAll h (trk h H)
theorem j13(h:Heap)(H:Hp):(hidT h H).objs.size=h.objs.size:=PySem.W.hideAll_size _ _
theorem j2b{h:Heap}{H:Hp}{b:Addr}{o:Obj}(e:h.get? b=some o)(n:H b=none):(hidT h H).get? b=some o:=
 PySem.W.hideAll_get _ e fun hm=>by
  have q:(H b).isSome=true:=(mem_filter.mp hm).2;rw[n]at q;simp at q
theorem j3r{h:Heap}{H:Hp}{b:Addr}{o:Obj}(e:(hidT h H).get? b=some o):h.get? b=some o/\H b=none:=by
 have e':h.get? b=some o:=PySem.W.of_hideAll (trk h H) e;refine⟨e',?_⟩;cases q:H b with
 | none=>rfl
 | some x=>
  have hm:b∈trk h H:=mem_filter.mpr ⟨mem_range.mpr (Heap.lt_size e'),by simp[q]⟩;have z:(hidT h H).get? b=none:=PySem.W.hideAll_none (trk h H) hm;rw[z]at e;cases e
structure Mod(K:Frg)(mg:Str->Option Value)(base:Heap):Prop where
 kin:K.In base
 glob:base.Ns mainGlobals mg
 blt:∃mb,base.Ns builtinsNs mb/\∀x:Str,x≠"__name__"->mb x=bootBuiltins x
 nolimit:base.NoLimit
structure Cx where
 prog:Program
 w:World
 K:Frg
 mg:Str->Option Value
 base:Heap
 A:Around
 N:List Str
 s₀:Shared
 H₀:Hp
 env:Env
 outer:List Env
 stack:List Env
 ex:List Addr
 fn:Str->Bool
 calm:Bool
 pn:List (Addr×Obj)
 xe:Value->Shared->Prop
noncomputable def frs(l:List Env):List Addr:=l.filterMap (·.frame)
noncomputable abbrev Cx.fs(X:Cx):List Addr:=frs X.outer
def Vis(sc:Scope)(x:Str):Prop:=sc.names.lookup x=some .local\/sc.names.lookup x=some .cell\/sc.names.lookup x=some .free
def Loc(sc:Scope)(x:Str):Prop:=sc.names.lookup x=some .local\/sc.names.lookup x=some .cell
def Look(env:Env)(h:Heap)(m:Str->Option Value)(x:Str)(u:Value):Prop:=
 (env.kindOf x=some .local/\m x=some u)\/((env.kindOf x=some .cell\/env.kindOf x=some .free)/\∃c,env.cells.lookup x=some c/\h.IsCell c (some u))
structure Cx.Ok(X:Cx):Prop where
 mod:Mod X.K X.mg X.base
 kind:X.env.scope.kind = .function
 glob:X.env.globals=mainGlobals
 blt:X.env.builtins=builtinsNs
 above:X.s₀.heap.objs.size<=X.env.locals
 inj:∀x y c,X.env.cells.lookup x=some c->X.env.cells.lookup y=some c->x=y
 has:∀x,(X.env.kindOf x=some .cell\/X.env.kindOf x=some .free)->∃c,X.env.cells.lookup x=some c
 cab:∀x c,X.fn x=true->X.env.cells.lookup x=some c->X.s₀.heap.objs.size<=c
 hd:X.calm=true->X.A.handled=none
 frames:X.A.frames=some X.stack
 stk:X.stack=X.outer\/(X.stack=X.env::X.outer/\X.env.frame=some X.env.locals)
 exf:∀b∈X.ex,b≠X.env.locals/\∀x c,X.env.cells.lookup x=some c->c≠b
 bs:∀b o,X.base.get? b=some o->X.s₀.heap.get? b=some o/\X.H₀ b=none
 bsz:X.base.objs.size<=X.s₀.heap.objs.size
 noex:∀b o,X.base.get? b=some o->b∉X.ex
 exfs:∀b∈X.ex,b∉X.fs
 funs:X.s₀.heap.FunFrames X.base X.outer
 frf:∀b∈X.fs,X.H₀ b=none
structure Inv(X:Cx)(pins:List (Addr×Obj))(σ:List (Option V))(H:Hp)(s:Shared):Prop where
 ok:X.Ok
 os:s.os=X.s₀.os
 bare:AllBare s.gens
 base:Un X.fs X.ex X.H₀ H X.s₀.heap s.heap
 loc:∃m,s.heap.Ns X.env.locals m/\∀(i:Nat) (x:Str) (v:V),X.N[i]?=some x->σ[i]?=some (some v)->Vis X.env.scope x->∃u,RelV v u/\Look X.env s.heap m x u
 cell:∀x c,X.env.cells.lookup x=some c->∃v,s.heap.IsCell c v
 free:H X.env.locals=none
 freeC:∀x c,X.env.cells.lookup x=some c->H c=none
 pin:∀p∈X.pn++pins,s.heap.get? p.1=some p.2/\H p.1=none/\p.1≠X.env.locals/\p.1∉X.fs/\∀v,p.2.data≠.cell v
 hok:HOk X.prog X.w H s.heap
 len:σ.length=X.N.length
section
variable{X:Cx}{pins:List (Addr×Obj)}{σ:List (Option V)}{H H':Hp}{s:Shared}{h':Heap}
theorem Cx.Ok.nofr(ok:X.Ok){b:Addr}{o:Obj}(e:X.base.get? b=some o):b∉X.fs:=fun hb=>by
 have:=(ok.funs.mem hb).1;rw[e]at this;cases this
theorem Inv.bs(I:Inv X pins σ H s):∀b o,X.base.get? b=some o->s.heap.get? b=some o/\H b=none:=fun b o e=>
 ⟨I.base.keep b o (I.ok.bs b o e).1 (I.ok.bs b o e).2 (I.ok.nofr e) (I.ok.noex b o e),I.base.free b o (I.ok.bs b o e).1 (I.ok.bs b o e).2 (I.ok.noex b o e)⟩
theorem Inv.bk(I:Inv X pins σ H s):∀b o,X.base.get? b=some o->s.heap.get? b=some o:=fun b o e=>(I.bs b o e).1
theorem Inv.mod(I:Inv X pins σ H s):Mod X.K X.mg X.base:=I.ok.mod
theorem Inv.kIn(I:Inv X pins σ H s):X.K.In s.heap:=I.ok.mod.kin.keeps I.bk
theorem Inv.lt(I:Inv X pins σ H s):X.env.locals<s.heap.objs.size:=let ⟨_,hn,_⟩:=I.loc;hn.lt
theorem Inv.sz(I:Inv X pins σ H s):X.s₀.heap.objs.size<=s.heap.objs.size:=Nat.le_trans I.ok.above (Nat.le_of_lt I.lt)
theorem Inv.nofs(I:Inv X pins σ H s){a:Addr}(h:s.heap.objs.size<=a):a∉X.fs:=fun hb=>by
 obtain⟨_,o,ho,_⟩:=I.ok.funs.mem hb;exact absurd (Nat.lt_of_lt_of_le (Heap.lt_size ho) (Nat.le_trans I.sz h)) (Nat.lt_irrefl _)
theorem Inv.cne(I:Inv X pins σ H s):∀x c,X.env.cells.lookup x=some c->c≠X.env.locals:=fun x c e z=>by
 obtain⟨v,o,ho,hd⟩:=I.cell x c e;obtain⟨m,⟨o',es,ep,ho',hd',_⟩,_⟩:=I.loc;rw[z,ho']at ho;cases ho;rw[hd']at hd;cases hd
theorem Inv.funs(I:Inv X pins σ H s):s.heap.FunFrames X.base X.outer:=by
 have all:∀(l:List Env),(∀b∈frs l,b∈X.fs)->X.s₀.heap.FunFrames X.base l->s.heap.FunFrames X.base l:=by
  intro l
  induction l with
  | nil=>intro _ _;trivial
  | cons env r ih=>
   intro hs hl;obtain⟨hk,⟨L,o,hf,hn,ho,hd⟩,hr⟩:=hl;have hL:L∈X.fs:=hs L (by unfold frs;rw[filterMap_cons,hf];exact mem_cons_self);obtain⟨sl,e⟩:=I.base.slot L o ho (I.ok.frf L hL) hL fun z=>I.ok.exfs L z hL
   exact⟨hk,⟨L,_,hf,hn,e,hd⟩,ih (fun b hb=>hs b (by unfold frs;rw[filterMap_cons,hf];exact mem_cons_of_mem _ hb)) hr⟩
 exact all X.outer (fun _ hb=>hb) I.ok.funs
theorem Inv.stack(I:Inv X pins σ H s):s.heap.FunFrames X.base X.stack:=by
 rcases I.ok.stk with e | ⟨e,hf⟩
 ·rw[e];exact I.funs
 ·rw[e];obtain⟨m,hn,_⟩:=I.loc;refine .cons (by rw[I.ok.kind];decide) hf hn ?_ I.funs;exact Heap.get?_none_of_le (Nat.le_trans I.ok.bsz I.ok.above)
theorem Inv.stkSub(I:Inv X pins σ H s):∀b∈frs X.stack,b∈X.env.locals::X.fs:=fun b hb=>by
 rcases I.ok.stk with e | ⟨e,hf⟩
 ·rw[e]at hb;exact mem_cons_of_mem _ hb
 ·rw[e]at hb;unfold frs at hb;rw[filterMap_cons,hf]at hb;exact hb
theorem Inv.stkFree(I:Inv X pins σ H s):∀b∈frs X.stack,H b=none:=fun b hb=>by
 rcases mem_cons.mp (I.stkSub b hb)with e | hb
 ·rw[e];exact I.free
 ·obtain⟨_,o,ho,_⟩:=I.ok.funs.mem hb;exact I.base.free b o ho (I.ok.frf b hb) fun z=>I.ok.exfs b z hb
theorem Inv.step{g':Array GenState}{t':Nat}{d':Drawn}{ch:List Addr}(I:Inv X pins σ H s)
  (hch:∀b∈ch,(b∈X.ex\/X.s₀.heap.objs.size<=b)/\b≠X.env.locals/\(∀x c,X.env.cells.lookup x=some c->c≠b)/\∀p∈X.pn++pins,p.1≠b)
  (keep:∀b o,b≠X.env.locals->b∉X.fs->b∉ch->s.heap.get? b=some o->H b=none->h'.get? b=some o)
  (slot:∀b o,b≠X.env.locals->b∈X.fs->b∉ch->s.heap.get? b=some o->H b=none->∃sl,h'.get? b=some {o with slots:=sl}) (free:∀b o,b∉ch->s.heap.get? b=some o->H b=none->H' b=none)
  (there:∀b o,b∉ch->s.heap.get? b=some o->∃o',h'.get? b=some o')
  (tups:∀b xs,H b=some (.tup xs)->H' b=some (.tup xs)) (frzs:∀b o u,H b=some (.frz o u)->H' b=some (.frz o u)) (tbls:∀b ps,H b=some (.tbl ps)->∃more,H' b=some (.tbl (ps++more)))
  (ns:∀m,s.heap.Ns X.env.locals m->h'.Ns X.env.locals m) (hok:HOk X.prog X.w H' h') (hg:AllBare g') :
  Inv X pins σ H' {s with heap:=h',gens:=g',drawn:=d',toks:=t'}:=by
 have neL:∀b o,X.s₀.heap.get? b=some o->b≠X.env.locals:=fun b o e=>Nat.ne_of_lt (Nat.lt_of_lt_of_le (Heap.lt_size e) I.ok.above)
 have neC:∀b o,X.s₀.heap.get? b=some o->b∉X.ex->b∉ch:=fun b o e hx hb=>by
  rcases(hch b hb).1 with z | z
  ·exact hx z
  ·exact absurd (Nat.lt_of_lt_of_le (Heap.lt_size e) z) (Nat.lt_irrefl _)
 have cellK:∀x c,X.env.cells.lookup x=some c->∀v,s.heap.IsCell c v->h'.IsCell c v:=fun x c e v ⟨o,ho,hd⟩=>by
  have nch:c∉ch:=fun z=>(hch c z).2.2.1 x c e rfl
  by_cases hc:c∈X.fs
  ·obtain⟨sl,q⟩:=slot c o (I.cne x c e) hc nch ho (I.freeC x c e);exact⟨_,q,hd⟩
  ·exact⟨o,keep c o (I.cne x c e) hc nch ho (I.freeC x c e),hd⟩
 refine⟨I.ok,I.os,hg,⟨fun b o e n hb hx=>?_,fun b o e n hb hx=>?_,fun b o e n hx=>?_,fun b o e hx=>?_,fun b xs e=>tups b xs (I.base.tups b xs e),fun b o xs e=>frzs b o xs (I.base.frzs b o xs e),fun b ps e=>?_⟩,?_,fun x c e=>?_,?_,fun x c e=>?_,fun p hp=>?_,hok,I.len⟩
 ·exact keep b o (neL b o e) hb (neC b o e hx) (I.base.keep b o e n hb hx) (I.base.free b o e n hx)
 ·obtain⟨sl,e1⟩:=I.base.slot b o e n hb hx;obtain⟨sl',e2⟩:=slot b _ (neL b o e) hb (neC b o e hx) e1 (I.base.free b o e n hx);exact⟨sl',e2⟩
 ·obtain⟨o',e1⟩:=I.base.there b o e hx;exact free b o' (neC b o e hx) e1 (I.base.free b o e n hx)
 ·obtain⟨o',e1⟩:=I.base.there b o e hx;exact there b o' (neC b o e hx) e1
 ·obtain⟨m1,e1⟩:=I.base.tbls b ps e;obtain⟨m2,e2⟩:=tbls b _ e1;exact⟨m1++m2,by rw[e2,Array.append_assoc]⟩
 ·obtain⟨m,hn,hl⟩:=I.loc;refine⟨m,ns m hn,fun i x v e1 e2 e3=>?_⟩;obtain⟨u,r,l⟩:=hl i x v e1 e2 e3;refine⟨u,r,?_⟩;rcases l with l | ⟨k,c,e,z⟩
  ·exact .inl l
  ·exact .inr ⟨k,c,e,cellK x c e _ z⟩
 ·obtain⟨v,z⟩:=I.cell x c e;exact⟨v,cellK x c e v z⟩
 ·obtain⟨m,⟨o,_,_,ho,_⟩,_⟩:=I.loc;exact free _ o (fun z=>(hch _ z).2.1 rfl) ho I.free
 ·obtain⟨v,o,ho,hd⟩:=I.cell x c e;exact free c o (fun z=>(hch c z).2.2.1 x c e rfl) ho (I.freeC x c e)
 ·obtain⟨e,n,ne,nf,d⟩:=I.pin p hp;have nch:p.1∉ch:=fun z=>(hch p.1 z).2.2.2 p hp rfl
  exact⟨keep p.1 p.2 ne nf nch e n,free p.1 p.2 nch e n,ne,nf,d⟩
theorem Inv.un{t':Nat}(I:Inv X pins σ H s)(u:Un X.fs [] H H' s.heap h')(hok:HOk X.prog X.w H' h'):Inv X pins σ H' {s with heap:=h',toks:=t'}:=by
 obtain⟨m,⟨o,es,ep,ho,r⟩,_⟩:=id I.loc;obtain⟨sl,hL⟩:=u.any ho I.free (by simp);exact I.step (g':=s.gens) (d':=s.drawn) (ch:=[]) (fun _ z=>nomatch z) (fun b o _ hb _ e n=>u.keep b o e n hb (by simp)) (fun b o _ hb _ e n=>u.slot b o e n hb (by simp)) (fun b o _ e n=>u.free b o e n (by simp)) (fun b o _ e=>u.there b o e (by simp)) u.tups u.frzs u.tbls (fun m' hm=>by
  obtain⟨o',es',ep',ho',r'⟩:=hm;rw[ho]at ho';cases ho';exact⟨_,es',ep',hL,r'⟩) hok I.bare
theorem Inv.call{g':Array GenState}{t':Nat}{d':Drawn}{ch:List Addr}(I:Inv X pins σ H s)(u:Un (frs X.stack) ch H H' s.heap h')(hok:HOk X.prog X.w H' h')(hg:AllBare g')
  (hch:∀b∈ch,(b∈X.ex\/X.s₀.heap.objs.size<=b)/\b≠X.env.locals/\(∀x c,X.env.cells.lookup x=some c->c≠b)/\∀p∈X.pn++pins,p.1≠b) :
  Inv X pins σ H' {s with heap:=h',gens:=g',drawn:=d',toks:=t'}:=by
 obtain⟨m,⟨o,es,ep,ho,r⟩,_⟩:=id I.loc;obtain⟨sl,hL⟩:=u.any ho I.free fun z=>(hch _ z).2.1 rfl
 exact I.step (ch:=ch) hch (fun b o hL hb hc e n=>u.keep b o e n (fun z=>(mem_cons.mp (I.stkSub b z)).elim hL hb) hc) (fun b o _ _ hc e n=>u.any e n hc) (fun b o hc e n=>u.free b o e n hc) (fun b o hc e=>u.there b o e hc) u.tups u.frzs u.tbls (fun m' hm=>by
  obtain⟨o',es',ep',ho',r'⟩:=hm;rw[ho]at ho';cases ho';exact⟨_,es',ep',hL,r'⟩) hok hg
theorem Inv.turned{t':Nat}{it:Addr}(I:Inv X pins σ H s)(k:∀b o,b≠it->s.heap.get? b=some o->h'.get? b=some o)(hn:H it=none)(hL:it≠X.env.locals)
  (h1:it∈X.ex\/X.s₀.heap.objs.size<=it) (h2:∀x c,X.env.cells.lookup x=some c->c≠it) (h3:∀p∈X.pn++pins,p.1≠it):Inv X pins σ H {s with heap:=h',toks:=t'}:=by
 have nit:∀b u,H b=some u->b≠it:=fun b u e z=>by rw[z,hn]at e;cases e
 refine I.step (g':=s.gens) (d':=s.drawn) (ch:=[it]) (fun b hb=>?_) (fun b o _ _ hc e _=>k b o (fun z=>hc (by simp[z])) e) (fun b o _ _ hc e _=>⟨o.slots,k b o (fun z=>hc (by simp[z])) e⟩) (fun _ _ _ _ n=>n)
  (fun b o hc e=>⟨o,k b o (fun z=>hc (by simp[z])) e⟩) (fun _ _ e=>e) (fun _ _ _ e=>e) (fun b ps e=>⟨#[],by rw[e];simp⟩) (fun m hm=>?_) (fun b u e=>?_) I.bare
 ·have e:b=it:=by simpa using hb
  subst e;exact⟨h1,hL,h2,h3⟩
 ·obtain⟨o,es,ep,ho,r⟩:=hm;exact⟨o,es,ep,k _ o (Ne.symm hL) ho,r⟩
 ·refine(I.hok b u e).stay (fun c v hc q=>k c v ?_ q) (fun _ q=>q) fun _ _ q=>q
  rcases hc with z | z
  ·rw[z];exact nit b u e
  ·exact nit c _ z
theorem Inv.tok(I:Inv X pins σ H s)(t:Nat):Inv X pins σ H {s with toks:=t}:=I.un (h':=s.heap) (t':=t) Un.refl I.hok
theorem Inv.kept{t':Nat}(I:Inv X pins σ H s)(k:∀b u,s.heap.get? b=some u->h'.get? b=some u):Inv X pins σ H {s with heap:=h',toks:=t'}:=I.un (Un.kept k) (I.hok.kept k)
theorem Inv.laid{a:Addr}{o:HO}{t':Nat}(I:Inv X pins σ H s)(k:∀b u,s.heap.get? b=some u->h'.get? b=some u)(hp:s.heap.objs.size<=a)(new:ObjOk X.prog X.w (upd H a o) h' a o) :
  Inv X pins σ (upd H a o) {s with heap:=h',toks:=t'}:=I.un (Un.laid k hp (I.hok.fresh hp)) (I.hok.laid k hp new)
theorem Inv.write{x e:Addr}{o:HO}{t':Nat}(I:Inv X pins σ H s)(mu:Mut (H x))(he:e=x\/H e=some (.own x))(k:∀b u,b≠e->s.heap.get? b=some u->h'.get? b=some u)(heo:∃u,h'.get? e=some u)
  (new:ObjOk X.prog X.w (upd H x o) h' x o):Inv X pins σ (upd H x o) {s with heap:=h',toks:=t'}:=I.un (Un.write mu he k heo) (I.hok.write mu he k heo new)
theorem Inv.weak{σ':List (Option V)}(I:Inv X pins σ H s)(hl:σ'.length=σ.length)(w:∀(i:Nat) v,σ'[i]?=some (some v)->σ[i]?=some (some v)):Inv X pins σ' H s:=
 ⟨I.ok,I.os,I.bare,I.base,let ⟨m,hn,hl'⟩:=I.loc;⟨m,hn,fun i x v e1 e2 e3=>hl' i x v e1 (w i v e2) e3⟩,I.cell,I.free,I.freeC,I.pin,I.hok,hl.trans I.len⟩
theorem Inv.pins_of{pins':List (Addr×Obj)}(I:Inv X pins σ H s)(h:∀p∈pins',s.heap.get? p.1=some p.2/\H p.1=none/\p.1≠X.env.locals/\p.1∉X.fs/\∀v,p.2.data≠.cell v):Inv X pins' σ H s:=
 ⟨I.ok,I.os,I.bare,I.base,I.loc,I.cell,I.free,I.freeC,fun p hp=>(mem_append.mp hp).elim (fun z=>I.pin p (mem_append_left _ z)) (h p),I.hok,I.len⟩
theorem kW{N:List Str}(hN:N.Nodup){i j:Nat}{x:Str}(a:N[i]?=some x)(b:N[j]?=some x):i=j:=by
 obtain⟨h1,e1⟩:=List.getElem?_eq_some_iff.mp a;obtain⟨h2,e2⟩:=List.getElem?_eq_some_iff.mp b;exact(List.getElem_inj hN).mp (e1.trans e2.symm)
theorem wq{M:Model}{A:Around}{E:Value->Shared->Prop}{i:Nat}{x:Str}{v:V}{u:Value}{Q:Unit->Shared->Prop}(I:Inv X pins σ H s)(hN:X.N.Nodup)(hi:X.N[i]?=some x)(hx:Loc X.env.scope x)(r:RelV v u)
  (h:∀s',Inv X pins (σ.set i (some v)) H s'->(∃a,Heap.SameBut a s.heap s'.heap/\(a=X.env.locals\/X.env.cells.lookup x=some a))->Q () s') (hf:X.fn x=true\/X.env.scope.names.lookup x=some .local:=by first | exact .inl rfl | exact .inr rfl | assumption):wpAny M A (storeName X.env x u) Q E s:=by
 obtain⟨m,hn,hl⟩:=id I.loc;have hcls:(X.env.scope.kind == .class||(X.env.scope.kind == .module&&X.env.locals != X.env.globals))=false:=by rw[I.ok.kind];rfl
 have hiσ:i<σ.length:=by rw[I.len];exact(List.getElem?_eq_some_iff.mp hi).1
 have cne:=I.cne;have tracked:∀{a:Addr} {h':Heap},(∃o,s.heap.get? a=some o/\H a=none)->Heap.SameBut a s.heap h'->HOk X.prog X.w H h':=fun {a h'} ha hs b ob e=>by
  obtain⟨_,_,hfree⟩:=ha;refine(I.hok b ob e).stay (fun c w' hc q=>(hs.2 c ?_).trans q) (fun _ q=>q) fun _ _ q=>q
  rintro rfl;rcases hc with rfl | hc
  ·rw[hfree]at e;cases e
  ·rw[hfree]at hc;cases hc
 rcases hx with hk | hk
 ·refine wpAny_storeName_local hk hn (fun h' hn' hs=>?_) hcls;obtain⟨oL,_,_,hoL,_⟩:=id hn;refine h _ ⟨I.ok,I.os,I.bare,⟨fun b o e n hb hx=>?_,fun b o e n hb hx=>?_,I.base.free,fun b o e hx=>?_,I.base.tups,I.base.frzs,I.base.tbls⟩,⟨_,hn',fun j y v' e1 e2 e3=>?_⟩,fun y c e=>?_,I.free,I.freeC,fun p hp=>?_,tracked ⟨oL,hoL,I.free⟩ hs,by simpa using I.len⟩ ⟨_,hs,.inl rfl⟩
  ·exact(hs.2 b (Nat.ne_of_lt (Nat.lt_of_lt_of_le (Heap.lt_size e) I.ok.above))).trans (I.base.keep b o e n hb hx)
  ·obtain⟨sl,e1⟩:=I.base.slot b o e n hb hx;exact⟨sl,(hs.2 b (Nat.ne_of_lt (Nat.lt_of_lt_of_le (Heap.lt_size e) I.ok.above))).trans e1⟩
  ·obtain⟨o',e1⟩:=I.base.there b o e hx;exact⟨o',(hs.2 b (Nat.ne_of_lt (Nat.lt_of_lt_of_le (Heap.lt_size e) I.ok.above))).trans e1⟩
  ·by_cases hj:j=i
   ·subst hj;rw[hi]at e1;cases e1;rw[List.getElem?_set_self hiσ]at e2;cases e2;exact⟨u,r,.inl ⟨hk,by simp⟩⟩
   ·rw[List.getElem?_set_ne (Ne.symm hj)]at e2;obtain⟨u',r',q⟩:=hl j y v' e1 e2 e3;refine⟨u',r',?_⟩;rcases q with⟨k,e⟩ | ⟨k,c,e,z⟩
    ·refine .inl ⟨k,?_⟩;have:y≠x:=fun e=>hj (kW hN e1 (e▸hi))
     simp[this,e]
    ·exact .inr ⟨k,c,e,z.sameBut hs (cne y c e)⟩
  ·obtain⟨w',z⟩:=I.cell y c e;exact⟨w',z.sameBut hs (cne y c e)⟩
  ·obtain⟨e,n,ne,nf,d⟩:=I.pin p hp;exact⟨(hs.2 p.1 ne).trans e,n,ne,nf,d⟩
 ·have hfn:X.fn x=true:=by
   rcases hf with z | z
   ·exact z
   ·rw[z]at hk;cases hk
  obtain⟨c,hc⟩:=I.ok.has x (.inl hk);obtain⟨w',z⟩:=I.cell x c hc;refine wpAny_storeName_cell I.ok.kind hk hc z (fun h' hc' hs=>?_);obtain⟨oc,hoc,hocd⟩:=id z;refine h {s with heap:=h'} ⟨I.ok,I.os,I.bare,⟨fun b o e n hb hx=>?_,fun b o e n hb hx=>?_,I.base.free,fun b o e hx=>?_,I.base.tups,I.base.frzs,I.base.tbls⟩,⟨m,hn.sameBut hs (Ne.symm (cne x c hc)),fun j y v' e1 e2 e3=>?_⟩,fun y c' e=>?_,I.free,I.freeC,fun p hp=>?_,tracked ⟨oc,hoc,I.freeC x c hc⟩ hs,by simpa using I.len⟩ ⟨c,hs,.inr hc⟩
  ·exact(hs.2 b (Nat.ne_of_lt (Nat.lt_of_lt_of_le (Heap.lt_size e) (I.ok.cab x c hfn hc)))).trans (I.base.keep b o e n hb hx)
  ·obtain⟨sl,e1⟩:=I.base.slot b o e n hb hx;exact⟨sl,(hs.2 b (Nat.ne_of_lt (Nat.lt_of_lt_of_le (Heap.lt_size e) (I.ok.cab x c hfn hc)))).trans e1⟩
  ·obtain⟨o',e1⟩:=I.base.there b o e hx;exact⟨o',(hs.2 b (Nat.ne_of_lt (Nat.lt_of_lt_of_le (Heap.lt_size e) (I.ok.cab x c hfn hc)))).trans e1⟩
  ·by_cases hj:j=i
   ·subst hj;rw[hi]at e1;cases e1;rw[List.getElem?_set_self hiσ]at e2;cases e2;exact⟨u,r,.inr ⟨.inl hk,c,hc,hc'⟩⟩
   ·rw[List.getElem?_set_ne (Ne.symm hj)]at e2;obtain⟨u',r',q⟩:=hl j y v' e1 e2 e3;refine⟨u',r',?_⟩;rcases q with q | ⟨k,c',e,z'⟩
    ·exact .inl q
    ·refine .inr ⟨k,c',e,z'.sameBut hs ?_⟩;rintro rfl;exact hj (kW hN e1 (I.ok.inj _ _ _ e hc▸hi))
  ·by_cases hcc:c'=c
   ·subst hcc;exact⟨_,hc'⟩
   ·obtain⟨w2,z2⟩:=I.cell y c' e;exact⟨w2,z2.sameBut hs hcc⟩
  ·obtain⟨e,n,ne,nf,d⟩:=I.pin p hp;refine⟨(hs.2 p.1 ?_).trans e,n,ne,nf,d⟩;intro q;rw[q,hoc]at e;have q':oc=p.2:=Option.some.inj e;exact d w' (by rw[<-q'];exact hocd)
theorem Ko{M:Model}{A:Around}{E:Value->Shared->Prop}{i:Nat}{x:Str}{v:V}{u:Value}{Q:Unit->Shared->Prop}(I:Inv X pins σ H s)(hN:X.N.Nodup)(hi:X.N[i]?=some x)(hx:Loc X.env.scope x)(r:RelV v u)
  (h:∀s',Inv X pins (σ.set i (some v)) H s'->Q () s') (hf:X.fn x=true\/X.env.scope.names.lookup x=some .local:=by first | exact .inl rfl | exact .inr rfl | assumption):wpAny M A (storeName X.env x u) Q E s:=
 wq I hN hi hx r (fun s' I' _=>h s' I') hf
theorem Inv.call'{s':Shared}{ch:List Addr}(I:Inv X pins σ H s)(ho:s'.os=s.os)(u:Un (frs X.stack) ch H H' s.heap s'.heap)(hok:HOk X.prog X.w H' s'.heap)(hg:AllBare s'.gens)
  (hch:∀b∈ch,(b∈X.ex\/X.s₀.heap.objs.size<=b)/\b≠X.env.locals/\(∀x c,X.env.cells.lookup x=some c->c≠b)/\∀p∈X.pn++pins,p.1≠b):Inv X pins σ H' s':=by
 obtain⟨h',g',d',t',o'⟩:=s';have e:o'=s.os:=ho;subst e;exact I.call (g':=g') (t':=t') (d':=d') u hok hg hch
end
noncomputable abbrev XK:=Value->Option Addr->Hp->Prop
noncomputable abbrev St:=List (Option V)
noncomputable abbrev VK:=V->Hp->Prop
noncomputable abbrev TE:=St->Hp->VK->Prop
noncomputable abbrev TT:=St->Hp->(Bool->Hp->Prop)->Prop
noncomputable abbrev TA:=St->Hp->(List V->Hp->Prop)->Prop
structure Ends where
 nx:St->Hp->Prop
 rt:VK
 bk:St->Hp->Prop:=fun _ _=>False
 ct:St->Hp->Prop:=fun _ _=>False
noncomputable abbrev TS:=Ends->St->Hp->Prop
def EP(X:Cx)(pins:List (Addr×Obj))(σ:St)(Q:VK)(u:Value)(s':Shared):Prop:=∃v H',Inv X pins σ H' s'/\RelV v u/\Q v H'
def TP(X:Cx)(pins:List (Addr×Obj))(σ:St)(Q:Bool->Hp->Prop)(b:Bool)(s':Shared):Prop:=∃H',Inv X pins σ H' s'/\Q b H'
def AP(X:Cx)(pins:List (Addr×Obj))(σ:St)(Q:List V->Hp->Prop)(us:List Value)(s':Shared):Prop:=∃vs H',Inv X pins σ H' s'/\Vals vs us/\Q vs H'
def SP(X:Cx)(pins:List (Addr×Obj))(D:Ends)(f:Flow)(s':Shared):Prop:=
 match f with
 | .next=>∃σ' H',Inv X pins σ' H' s'/\D.nx σ' H'
 | .brk=>∃σ' H',Inv X pins σ' H' s'/\D.bk σ' H'
 | .cont=>∃σ' H',Inv X pins σ' H' s'/\D.ct σ' H'
 | .ret u=>∃v σ' H',Inv X pins σ' H' s'/\RelV v u/\D.rt v H'
def PE(X:Cx)(e:Expr)(t:TE):Prop:=
 ∀(pins:List (Addr×Obj)) (s:Shared) (σ:St) (H:Hp) (Q:VK),Inv X pins σ H s->t σ H Q->wpAny (model X.prog X.w) X.A (eval e X.env) (EP X pins σ Q) X.xe s
def PT(X:Cx)(e:Expr)(t:TT):Prop:=
 ∀(pins:List (Addr×Obj)) (s:Shared) (σ:St) (H:Hp) (Q:Bool->Hp->Prop),Inv X pins σ H s->t σ H Q->wpAny (model X.prog X.w) X.A (isTrue e X.env (eval e X.env)) (TP X pins σ Q) X.xe s
def PW(X:Cx)(e:Expr)(t:TT):Prop:=
 ∀(whole:Sem Value) (pins:List (Addr×Obj)) (s:Shared) (σ:St) (H:Hp) (Q:Bool->Hp->Prop),Inv X pins σ H s->t σ H Q->wpAny (model X.prog X.w) X.A (isTrue e X.env whole) (TP X pins σ Q) X.xe s
theorem PW.pt{X:Cx}{e:Expr}{t:TT}(h:PW X e t):PT X e t:=h _
def PA(X:Cx)(es:List Expr)(t:TA):Prop:=
 ∀(pos:Pos) (pins:List (Addr×Obj)) (s:Shared) (σ:St) (H:Hp) (Q:List V->Hp->Prop),Inv X pins σ H s->t σ H Q->wpAny (model X.prog X.w) X.A (spliced (backTo pos (starEach es X.env))) (AP X pins σ Q) X.xe s
def PS(X:Cx)(st:Stmt)(t:TS):Prop:=
 ∀(pins:List (Addr×Obj)) (s:Shared) (σ:St) (H:Hp) (D:Ends),Inv X pins σ H s->t D σ H->wpAny (model X.prog X.w) X.A (exec st X.env) (SP X pins D) X.xe s
def PSs(X:Cx)(st:List Stmt)(t:TS):Prop:=
 ∀(pins:List (Addr×Obj)) (s:Shared) (σ:St) (H:Hp) (D:Ends),Inv X pins σ H s->t D σ H->wpAny (model X.prog X.w) X.A (execs st X.env) (SP X pins D) X.xe s
theorem thn{α:Type}{t:Sem α}{Q Q':α->Shared->Prop}{M:Model}{A:Around}{E:Value->Shared->Prop}{s:Shared}(h:wpAny M A t Q E s)(hQ:∀a s,Q a s->Q' a s):wpAny M A t Q' E s:=wpAny_mono h hQ fun _ _ x=>x
section
variable{X:Cx}
def tVar(i:Nat):TE:=fun σ H Q=>∃v,σ[i]?=some (some v)/\Q v H
def tC(v:V):TE:=fun _ H Q=>Q v H
theorem j4A{i:Nat}{x:Str}{pos:Pos}(hN:X.N[i]?=some x)(hv:Vis X.env.scope x)(hd:(x==("__debug__" : Str))=false:=by decide)(hcd:(x==("__classdict__" : Str))=false:=by decide):PE X (.Name x pos) (tVar i):=by
 intro pins s σ H Q I h;obtain⟨v,e,h⟩:=h;obtain⟨m,hn,hl⟩:=I.loc;obtain⟨u,r,l⟩:=hl i x v hN e hv;have fin:EP X pins σ Q u s:=⟨v,H,I,r,h⟩
 rcases l with⟨hk,hm⟩ | ⟨hk,c,hc,hcell⟩
 ·exact wpAny_Name (wpAny_loadName_local I.ok.kind hk hn hm fin) hd
 ·rcases hk with hk | hk
  ·exact wpAny_Name (wpAny_loadName_cell I.ok.kind hk hc hcell fin) hd
  ·exact wpAny_Name (wpAny_loadName_free I.ok.kind hk hc hcell fin hcd) hd
theorem jd{i j pos}:PE X (.Constant (.int i) j pos) (tC (.int i)):=fun _ _ _ H _ I h=>wpAny_Constant_int ⟨.int i,H,I.tok _,⟨_,rfl⟩,h⟩
theorem xG{b j pos}:PE X (.Constant (.bool b) j pos) (tC (.bl b)):=fun _ _ _ H _ I h=>Constant_bool ⟨.bl b,H,I,rfl,h⟩
theorem jH{j pos}:PE X (.Constant .none j pos) (tC .non):=fun _ _ _ H _ I h=>Constant_none ⟨.non,H,I,rfl,h⟩
theorem jr{x j pos}:PE X (.Constant (.str x) j pos) (tC (.str x)):=fun _ _ _ H _ I h=>Calls.Constant_str ⟨.str x,H,I.tok _,⟨_,rfl⟩,h⟩
def Gl(X:Cx)(x:Str):Prop:=X.env.kindOf x=some .globalImplicit
theorem yg{E:Value->Shared->Prop}{pins:List (Addr×Obj)}{s:Shared}{σ:St}{H:Hp}{x:Str}{u:Value}{pos:Pos}{Q:Value->Shared->Prop}(I:Inv X pins σ H s)(hg:Gl X x)(hm:X.mg x=some u)(h:Q u s)
  (hd:(x==("__debug__" : Str))=false:=by decide):wpAny (model X.prog X.w) X.A (eval (.Name x pos) X.env) Q E s:=
 Calls.Name_function_global I.ok.kind hg (Calls.loadGlobal_global (by rw[I.ok.glob];exact I.mod.glob.keeps I.bk) hm h) hd
theorem QF{E:Value->Shared->Prop}{pins:List (Addr×Obj)}{s:Shared}{σ:St}{H:Hp}{x:Str}{u:Value}{pos:Pos}{Q:Value->Shared->Prop}(I:Inv X pins σ H s)(hg:Gl X x)(hm:X.mg x=none)(hv:bootBuiltins x=some u)(h:Q u s)
  (hn:x≠"__name__":=by decide) (hd:(x==("__debug__" : Str))=false:=by decide):wpAny (model X.prog X.w) X.A (eval (.Name x pos) X.env) Q E s:=by
 obtain⟨mb,h1,h2⟩:=I.mod.blt;exact Calls.Name_function_global I.ok.kind hg (Calls.loadGlobal_builtin (by rw[I.ok.glob];exact I.mod.glob.keeps I.bk) hm (by rw[I.ok.blt];exact h1.keeps I.bk) ((h2 x hn).trans hv) h) hd
theorem Jn{x:Str}{v:V}{u:Value}{pos:Pos}(hg:Gl X x)(hm:X.mg x=some u)(r:RelV v u)(hd:(x==("__debug__" : Str))=false:=by decide):PE X (.Name x pos) (tC v):=
 fun _ _ _ H _ I h=>yg I hg hm ⟨v,H,I,r,h⟩ hd
theorem Yn{x:Str}{v:V}{u:Value}{pos:Pos}(hg:Gl X x)(hm:X.mg x=none)(hv:bootBuiltins x=some u)(r:RelV v u)(hn:x≠"__name__":=by decide)(hd:(x==("__debug__" : Str))=false:=by decide):PE X (.Name x pos) (tC v):=
 fun _ _ _ H _ I h=>QF I hg hm hv ⟨v,H,I,r,h⟩ hn hd
variable{a b:Expr}{ta tb:TE}{pos:Pos}
def PC(X:Cx)(op:CmpOp)(a b:Expr)(t:TE):Prop:=
 ∀(pins:List (Addr×Obj)) (s:Shared) (σ:St) (H:Hp) (Q:VK),Inv X pins σ H s->t σ H Q->
  wpAny (model X.prog X.w) X.A (eval a X.env) (fun v s₁=>wpAny (model X.prog X.w) X.A (eval b X.env) (fun u s₂=>wpAny (model X.prog X.w) X.A (compareOp op v u) (EP X pins σ Q) X.xe s₂) X.xe s₁) X.xe s
def tB(t:TE):TT:=fun σ H Q=>t σ H fun x H1=>∃c,x = .bl c/\Q c H1
theorem j4x{op:CmpOp}{t:TE}(h:PC X op a b t)(h1:behindInMarks op b=false:=by first | exact nobehind _ (by decide) (by decide) | rfl):PE X (.Compare a [op] [b] pos) t:=fun pins s σ H Q I hw=>wpAny_Compare1 (h pins s σ H Q I hw) h1
theorem j2s{op:CmpOp}{t:TE}(h:PC X op a b t)(h1:behindInMarks op b=false:=by first | exact nobehind _ (by decide) (by decide) | rfl):PT X (.Compare a [op] [b] pos) (tB t):=by
 intro pins s σ H Q I hw;refine wpAny_isTrue_Compare1 (thn (h pins s σ H _ I hw) fun v s1 h1=>thn h1 fun u s2 h2=>thn h2 fun c s3 ⟨x,H1,I1,r1,q1⟩=>?_) h1;obtain⟨d,rfl,q⟩:=q1;cases r1;exact wpAny_truthy_bool ⟨H1,I1,q⟩
theorem QJ{e:Expr}{t:TE}(h:PE X e t)(he:∀whole,isTrue e X.env whole=(do let v <-whole;standAt e.pos;holding [v] (truthy v)):=by intro _;rfl):PT X e (tB t):=by
 intro pins s σ H Q I hw;refine isTrue_plain (thn (h pins s σ H _ I hw) fun v s1 ⟨x,H1,I1,r1,q1⟩=>?_) (he _);obtain⟨d,rfl,q⟩:=q1;cases r1;exact wpAny_truthy_bool ⟨H1,I1,q⟩
variable{tA tB':TT}{rest:List Expr}
def tAnd(t u:TT):TT:=fun σ H Q=>t σ H fun c H1=>if c=true then u σ H1 Q else Q false H1
def tOr(t u:TT):TT:=fun σ H Q=>t σ H fun c H1=>if c=true then Q true H1 else u σ H1 Q
def tNot(t:TT):TT:=fun σ H Q=>t σ H fun c H1=>Q (!c) H1
theorem qT(ha:PT X a tA):PW X (.BoolOp .And [a] pos) tA:=by
 intro wh pins s σ H Q I h;refine isTrue_and (thn (ha pins s σ H Q I h) fun c s1 e=>?_);cases c with
 | true=>exact isTrue_and_nil e
 | false=>exact e
theorem qV(ha:PT X a tA):PW X (.BoolOp .Or [a] pos) tA:=by
 intro wh pins s σ H Q I h;refine isTrue_or (thn (ha pins s σ H Q I h) fun c s1 e=>?_);cases c with
 | false=>exact isTrue_or_nil e
 | true=>exact e
theorem qk(ha:PT X a tA)(hb:PW X (.BoolOp .And (b::rest) pos) tB'):PW X (.BoolOp .And (a::b::rest) pos) (tAnd tA tB'):=by
 intro wh pins s σ H Q I h;refine isTrue_and (thn (ha pins s σ H _ I h) fun c s1 ⟨H1,I1,q1⟩=>?_);cases c with
 | true=>exact hb wh pins s1 σ H1 Q I1 q1
 | false=>exact⟨H1,I1,q1⟩
theorem JP(ha:PT X a tA)(hb:PW X (.BoolOp .Or (b::rest) pos) tB'):PW X (.BoolOp .Or (a::b::rest) pos) (tOr tA tB'):=by
 intro wh pins s σ H Q I h;refine isTrue_or (thn (ha pins s σ H _ I h) fun c s1 ⟨H1,I1,q1⟩=>?_);cases c with
 | true=>exact⟨H1,I1,q1⟩
 | false=>exact hb wh pins s1 σ H1 Q I1 q1
theorem Q7(ha:PT X a tA):PT X (.UnaryOp .Not a pos) (tNot tA):=by
 intro pins s σ H Q I h;exact isTrue_not (ha pins s σ H (fun c H1=>Q (!c) H1) I h)
def tAndV(ta tb:TE):TE:=fun σ H Q=>ta σ H fun x H1=>∃c,x = .bl c/\if c=true then tb σ H1 Q else Q (.bl false) H1
def tNotV(ta:TE):TE:=fun σ H Q=>ta σ H fun x H1=>∃c,x = .bl c/\Q (.bl (!c)) H1
theorem XX{op}{t:TE}(h:PE X a t):PE X (.BoolOp op [a] pos) t:=fun pins s σ H Q I hw=>BoolOp_one (h pins s σ H Q I hw)
theorem Kg(ha:PE X a ta)(hb:PE X (.BoolOp .And (b::rest) pos) tb):PE X (.BoolOp .And (a::b::rest) pos) (tAndV ta tb):=by
 intro pins s σ H Q I h;refine BoolOp_and (thn (ha pins s σ H _ I h) fun v s1 ⟨x,H1,I1,r1,q1⟩=>?_);obtain⟨c,rfl,q1⟩:=q1;cases r1;refine wpAny_truthy_bool ?_;cases c with
 | true=>exact hb pins s1 σ H1 Q I1 q1
 | false=>exact⟨.bl false,H1,I1,rfl,q1⟩
theorem j4z(ha:PE X a ta):PE X (.UnaryOp .Not a pos) (tNotV ta):=by
 intro pins s σ H Q I h;refine UnaryOp_ (thn (ha pins s σ H _ I h) fun v s1 ⟨x,H1,I1,r1,q1⟩=>?_);obtain⟨c,rfl,q1⟩:=q1;cases r1;exact not_of (wpAny_truthy_bool ⟨.bl (!c),H1,I1,rfl,q1⟩)
def tIf(t:TT)(ta tb:TE):TE:=fun σ H Q=>t σ H fun c H1=>if c=true then ta σ H1 Q else tb σ H1 Q
theorem Z1{c:Expr}(hc:PT X c tA)(ha:PE X a ta)(hb:PE X b tb):PE X (.IfExp c a b pos) (tIf tA ta tb):=by
 intro pins s σ H Q I h;refine wpAny_IfExp (thn (hc pins s σ H _ I h) fun d s1 ⟨H1,I1,q1⟩=>?_);cases d with
 | true=>exact ha pins s1 σ H1 Q I1 q1
 | false=>exact hb pins s1 σ H1 Q I1 q1
end
def SqL(K:Frg)(H:Hp)(a:Addr)(xs:List V):Prop:=
 Rd H a (.lst xs)\/
  ∃(o:Obj) (its:Array Value) (n:Nat),K.lookup a=some o/\o.cls = .type "list"/\o.dict=none/\o.data = .seq its n/\its.size<=sizeLine/\Vals xs its.toList
def SqT(K:Frg)(H:Hp)(a:Addr)(xs:List V):Prop:=
 Rd H a (.tup xs)\/
  ∃(o:Obj) (its:Array Value) (n:Nat),K.lookup a=some o/\o.cls = .type "tuple"/\o.data = .seq its n/\its.size<=sizeLine/\Vals xs its.toList
noncomputable def absV:Value->Option V
 | .none=>some .non
 | .bool b=>some (.bl b)
 | .int i _=>some (.int i)
 | .str x _=>some (.str x)
 | .bytes b _=>some (.byt b)
 | .float b _=>some (.flt b)
 | .ref a=>some (.ref a)
 | .type n=>some (.ty n)
 | _=>none
theorem RelV.abs{x:V}{u:Value}(r:RelV x u):absV u=some x:=by
 cases x with
 | non=>cases r;rfl
 | bl _=>cases r;rfl
 | int _=>obtain⟨t,rfl⟩:=r;rfl
 | str _=>obtain⟨t,rfl⟩:=r;rfl
 | byt _=>obtain⟨t,rfl⟩:=r;rfl
 | flt _=>obtain⟨t,rfl⟩:=r;rfl
 | ref _=>cases r;rfl
 | ty _=>cases r;rfl
theorem RelV.inj{x y:V}{u:Value}(r:RelV x u)(q:RelV y u):x=y:=Option.some.inj (r.abs.symm.trans q.abs)
theorem Vals.inj:∀{xs ys:List V} {us:List Value},Vals xs us->Vals ys us->xs=ys
 | _,_,_,.nil,.nil=>rfl
 | _,_,_,.cons r t,.cons r' t'=>by rw[r.inj r',Vals.inj t t']
section
variable{X:Cx}{pins:List (Addr×Obj)}{σ:St}{H:Hp}{s:Shared}{a:Addr}{xs ys:List V}
theorem SqL.of{K:Frg}(h:H a=some (.lst xs)):SqL K H a xs:=.inl (.inl h)
theorem SqT.of{K:Frg}(h:H a=some (.tup xs)):SqT K H a xs:=.inl (.inl h)
theorem Inv.list(I:Inv X pins σ H s)(h:SqL X.K H a xs):∃its:List Value,Vals xs its/\PlainL s.heap a its.toArray/\xs.length<=sizeLine:=by
 rcases h with h | ⟨o,its,n,hk,hc,hd,hs,hz,r⟩
 ·obtain⟨z,its,n,r,e⟩:=h.ok I.hok;exact⟨its,r,⟨_,n,e,rfl,rfl,rfl⟩,z⟩
 ·refine⟨its.toList,r,⟨o,n,I.kIn a o hk,hc,hd,by simpa using hs⟩,?_⟩;have e:=r.length;simp only[Array.length_toList]at e;omega
theorem Inv.tuple(I:Inv X pins σ H s)(h:SqT X.K H a xs):∃its:List Value,Vals xs its/\IsTup s.heap a its.toArray/\xs.length<=sizeLine:=by
 rcases h with h | ⟨o,its,n,hk,hc,hs,hz,r⟩
 ·obtain⟨z,its,r,p⟩:=h.ok I.hok;exact⟨its,r,p,z⟩
 ·refine⟨its.toList,r,⟨o,I.kIn a o hk,hc,n,by simpa using hs⟩,?_⟩;have e:=r.length;simp only[Array.length_toList]at e;omega
theorem Inv.list_inj(I:Inv X pins σ H s)(h:SqL X.K H a xs)(h':SqL X.K H a ys):xs=ys:=by
 obtain⟨its,r,⟨o,n,e,_,_,d⟩,_⟩:=I.list h;obtain⟨its',r',⟨o',n',e',_,_,d'⟩,_⟩:=I.list h';rw[e]at e';cases e';rw[d]at d';injection d' with d1 _;have:its=its':=by simpa using congrArg Array.toList d1
 subst this;exact r.inj r'
theorem Inv.tuple_inj(I:Inv X pins σ H s)(h:SqT X.K H a xs)(h':SqT X.K H a ys):xs=ys:=by
 obtain⟨its,r,⟨o,e,_,n,d⟩,_⟩:=I.tuple h;obtain⟨its',r',⟨o',e',_,n',d'⟩,_⟩:=I.tuple h';rw[e]at e';cases e';rw[d]at d';injection d' with d1 _;have:its=its':=by simpa using congrArg Array.toList d1
 subst this;exact r.inj r'
end
noncomputable abbrev Cx.wish(X:Cx)(E:Value->Shared->Prop):Cx:={X with xe:=E}
noncomputable abbrev Cx.nox(X:Cx):Cx:=X.wish fun _ _=>False
theorem Cx.Ok.wish{X:Cx}(ok:X.Ok)(E:Value->Shared->Prop):(X.wish E).Ok:=
 ⟨ok.mod,ok.kind,ok.glob,ok.blt,ok.above,ok.inj,ok.has,ok.cab,ok.hd,ok.frames,ok.stk,ok.exf,ok.bs,ok.bsz,ok.noex,ok.exfs,ok.funs,ok.frf⟩
theorem Cx.Ok.unwish{X:Cx}{E:Value->Shared->Prop}(ok:(X.wish E).Ok):X.Ok:=
 ⟨ok.mod,ok.kind,ok.glob,ok.blt,ok.above,ok.inj,ok.has,ok.cab,ok.hd,ok.frames,ok.stk,ok.exf,ok.bs,ok.bsz,ok.noex,ok.exfs,ok.funs,ok.frf⟩
section
variable{X:Cx}{pins:List (Addr×Obj)}{σ:St}{H:Hp}{s:Shared}{E:Value->Shared->Prop}
theorem Inv.wish(I:Inv X pins σ H s)(E:Value->Shared->Prop):Inv (X.wish E) pins σ H s:=⟨I.ok.wish E,I.os,I.bare,I.base,I.loc,I.cell,I.free,I.freeC,I.pin,I.hok,I.len⟩
theorem Inv.unwish(I:Inv (X.wish E) pins σ H s):Inv X pins σ H s:=⟨I.ok.unwish,I.os,I.bare,I.base,I.loc,I.cell,I.free,I.freeC,I.pin,I.hok,I.len⟩
theorem SP.unwish{D:Ends}{f:Flow}{s':Shared}(h:SP (X.wish E) pins D f s'):SP X pins D f s':=by
 cases f with
 | next=>obtain⟨σ',H',I,q⟩:=h;exact⟨σ',H',I.unwish,q⟩
 | brk=>obtain⟨σ',H',I,q⟩:=h;exact⟨σ',H',I.unwish,q⟩
 | cont=>obtain⟨σ',H',I,q⟩:=h;exact⟨σ',H',I.unwish,q⟩
 | ret u=>obtain⟨v,σ',H',I,r,q⟩:=h;exact⟨v,σ',H',I.unwish,r,q⟩
theorem PSs.nox{st:List Stmt}{t:TS}(h:PSs X.nox st t):PSs X st t:=fun pins s σ H D I hw=>
 wpAny_mono (h pins s σ H D (I.wish _) hw) (fun _ _ q=>q.unwish) fun _ _ z=>False.elim z
end
section
variable{X:Cx}{st:Stmt}{rest:List Stmt}{t u:TS}{e:Expr}{te:TE}{pos:Pos}
def tNext:TS:=fun D σ H=>D.nx σ H
def tSeq(t u:TS):TS:=fun D σ H=>t {D with nx:=u D} σ H
theorem jy:PSs X [] tNext:=fun _ _ σ H _ I h=>wpAny_execs_nil ⟨σ,H,I,h⟩
theorem jf(h1:PS X st t)(h2:PSs X rest u):PSs X (st::rest) (tSeq t u):=by
 intro pins s σ H D I h;refine wpAny_execs_cons (thn (h1 pins s σ H {D with nx:=u D} I h) fun f s1 q=>?_);cases f with
 | next=>
  obtain⟨σ',H',I',q⟩:=q;exact h2 pins s1 σ' H' D I' q
 | ret v=>exact q
 | brk=>exact q
 | cont=>exact q
theorem jg(h1:PS X st t):PSs X [st] t:=by
 intro pins s σ H D I h;refine wpAny_execs_cons (thn (h1 pins s σ H D I h) fun f s1 q=>?_);cases f with
 | next=>exact wpAny_execs_nil q
 | ret v=>exact q
 | brk=>exact q
 | cont=>exact q
def tBreak:TS:=fun D σ H=>D.bk σ H
theorem j2r:PS X (.Break pos) tBreak:=fun _ _ σ H _ I h=>wpAny_Break ⟨σ,H,I,h⟩
theorem Inv.quiet{pins:List (Addr×Obj)}{σ:St}{H:Hp}{s:Shared}(I:Inv X pins σ H s):interactive X.env=false:=by simp[interactive,I.ok.kind]
def tDrop(te:TE):TS:=fun D σ H=>te σ H fun _ H1=>D.nx σ H1
theorem jN(he:PE X e te)(hs:swapsWith e none pos.line X.env=pure false:=by rfl):PS X (.Expr e pos) (tDrop te):=by
 intro pins s σ H D I h;exact wpAny_Expr_any (thn (he pins s σ H _ I h) fun v s1 ⟨x,H1,I1,r1,q1⟩=>⟨σ,H1,I1,q1⟩) I.quiet hs
def tRet(te:TE):TS:=fun D σ H=>te σ H D.rt
theorem jz(he:PE X e te):PS X (.Return (some e) pos) (tRet te):=by
 intro pins s σ H D I h;exact wpAny_Return_some (thn (he pins s σ H _ I h) fun v s1 ⟨x,H1,I1,r1,q1⟩=>⟨x,σ,H1,I1,r1,q1⟩)
def tRetN:TS:=fun D _ H=>D.rt .non H
theorem j3z:PS X (.Return none pos) tRetN:=fun _ _ σ H _ I h=>wpAny_Return_none ⟨.non,σ,H,I,rfl,h⟩
def tIfS(c:TT)(t u:TS):TS:=fun D σ H=>c σ H fun b H1=>if b=true then t D σ H1 else u D σ H1
theorem jT{c:Expr}{a b:List Stmt}{tc:TT}(hc:PT X c tc)(ha:PSs X a t)(hb:PSs X b u):PS X (.If c a b pos) (tIfS tc t u):=by
 intro pins s σ H D I h;refine wpAny_If (thn (hc pins s σ H _ I h) fun d s1 ⟨H1,I1,q1⟩=>?_);cases d with
 | true=>exact ha pins s1 σ H1 D I1 q1
 | false=>exact hb pins s1 σ H1 D I1 q1
def tNever:TS:=fun _ _ _=>False
theorem Zd:PS X st tNever:=fun _ _ _ _ _ _ h=>h.elim
end
noncomputable abbrev TG:=V->St->Hp->(St->Hp->Prop)->Prop
noncomputable abbrev TGs:=List V->St->Hp->(St->Hp->Prop)->Prop
def PG(X:Cx)(target:Expr)(t:TG):Prop:=
 ∀(pins:List (Addr×Obj)) (s:Shared) (σ:St) (H:Hp) (v:V) (u:Value) (Q:St->Hp->Prop),Inv X pins σ H s->RelV v u->t v σ H Q->
  wpAny (model X.prog X.w) X.A (assign target X.env u) (fun _ s'=>∃σ' H',Inv X pins σ' H' s'/\Q σ' H') X.xe s
def PGs(X:Cx)(ts:List Expr)(t:TGs):Prop:=
 ∀(pins:List (Addr×Obj)) (s:Shared) (σ:St) (H:Hp) (vs:List V) (us:List Value) (Q:St->Hp->Prop),Inv X pins σ H s->Vals vs us->t vs σ H Q->
  wpAny (model X.prog X.w) X.A (assignInOrder ((assignEach ts X.env).map (·.2)) us) (fun _ s'=>∃σ' H',Inv X pins σ' H' s'/\Q σ' H') X.xe s
noncomputable abbrev TSet:=V->V->V->Hp->(Hp->Prop)->Prop
def PSet(X:Cx)(t:TSet):Prop:=
 ∀(pins:List (Addr×Obj)) (s:Shared) (σ:St) (H:Hp) (o i v:V) (ov iv u:Value) (Q:Hp->Prop),Inv X pins σ H s->RelV o ov->RelV i iv->RelV v u->t o i v H Q->
  wpAny (model X.prog X.w) X.A (setItem ov iv u) (fun _ s'=>∃H',Inv X pins σ H' s'/\Q H') X.xe s
section
variable{X:Cx}{pos:Pos}
def gName(i:Nat):TG:=fun v σ H Q=>Q (σ.set i (some v)) H
theorem jF{i:Nat}{x:Str}(hN:X.N.Nodup)(hi:X.N[i]?=some x)(hx:Loc X.env.scope x)(hf:X.fn x=true\/X.env.scope.names.lookup x=some .local:=by first | exact .inl rfl | exact .inr rfl | assumption):PG X (.Name x pos) (gName i):=by
 intro pins s σ H v u Q I r h;exact wpAny_assign_Name (Ko I hN hi hx r (fun s' I'=>⟨_,H,I',h⟩) hf)
def gNil:TGs:=fun vs σ H Q=>vs=[]/\Q σ H
def gCons(t:TG)(u:TGs):TGs:=fun vs σ H Q=>∃v r,vs=v::r/\t v σ H fun σ' H'=>u r σ' H' Q
theorem Zu:PGs X [] gNil:=by
 intro pins s σ H vs us Q I r h;obtain⟨e,h⟩:=h;subst e;cases r;exact assignInOrder_nil ⟨σ,H,I,h⟩
theorem JG{e:Expr}{es:List Expr}{t:TG}{u:TGs}(h1:PG X e t)(h2:PGs X es u)
  (hs:(assignEach (e::es) X.env).map (·.2)=assign e X.env::(assignEach es X.env).map (·.2):=by rfl):PGs X (e::es) (gCons t u):=by
 intro pins s σ H vs us Q I r h;obtain⟨v,vr,e1,h⟩:=h;subst e1;cases r with
 | cons r rr=>
  rw[hs];refine assignInOrder_cons (thn (h1 pins s σ H _ _ _ I r h) fun _ s1 ⟨σ1,H1,I1,q1⟩=>?_);exact h2 pins s1 σ1 H1 _ _ Q I1 rr q1
def gTup(K:Frg)(n:Nat)(t:TGs):TG:=fun v σ H Q=>∃a xs,v = .ref a/\SqT K H a xs/\xs.length=n/\t xs σ H Q
theorem yC{es:List Expr}{k:Nat}{t:TGs}{n:Nat}(hc:X.calm=true)(h:PGs X es t)
  (hn:(assignEach es X.env).length=n:=by rfl) (hst:(assignEach es X.env).findIdx? (·.1)=none:=by rfl):PG X (.Tuple es k pos) (gTup X.K n t):=by
 intro pins s σ H v u Q I r hw;obtain⟨a,xs,e1,hq,hl,hw⟩:=hw;subst e1;cases r;obtain⟨its,rv,ht,hz⟩:=I.tuple hq;refine assign_Tuple_tuple (I.ok.hd hc) ht (by simp[hn,<-hl,rv.length]) hst fun h' hx=>?_
 have I1:Inv X pins σ H {s with heap:=h'}:=I.kept (t':=s.toks) fun b o e=>hx b o (Nat.ne_of_lt (Heap.lt_size e)) e
 exact h pins _ σ H xs _ Q I1 (by simpa using rv) hw
def gSub(to ti:TE)(t:TSet):TG:=fun v σ H Q=>to σ H fun o H1=>ti σ H1 fun i H2=>t o i v H2 fun H3=>Q σ H3
theorem YU{o i:Expr}{to ti:TE}{t:TSet}(ho:PE X o to)(hi:PE X i ti)(hs:PSet X t)
  (ha:∀v,assign (.Subscript o i pos) X.env v=(do
   let ov <-holding [v] (eval o X.env)
   let iv <-holding [v,ov] (eval i X.env)
   standAt pos
   holding [v,ov,iv] (setItem ov iv v)
   release [v,ov,iv] []):=by intro _;rfl):PG X (.Subscript o i pos) (gSub to ti t):=by
 intro pins s σ H v u Q I r h;rw[ha];refine wpAny_bind (wpAny_holding (thn (ho pins s σ H _ I h) fun ov s1 ⟨x,H1,I1,r1,q1⟩=>?_));refine wpAny_bind (wpAny_holding (thn (hi pins s1 σ H1 _ I1 q1) fun iv s2 ⟨y,H2,I2,r2,q2⟩=>?_));refine wpAny_bind (wpAny_standAt (wpAny_bind (wpAny_holding (thn (hs pins s2 σ H2 x y v ov iv u _ I2 r1 r2 r q2) fun _ s3 ⟨H3,I3,q3⟩=>?_))));exact wpAny_release ⟨σ,H3,I3,q3⟩
def tAsg(te:TE)(g:TG):TS:=fun D σ H=>te σ H fun x H1=>g x σ H1 D.nx
theorem yD{tg e:Expr}{te:TE}{g:TG}(he:PE X e te)(hg:PG X tg g)(hs:swapsWithSole [tg] e pos.line X.env=pure false:=by rfl)(hw:swappedStores [tg] e X.env=pure none:=by rfl)
  (h1:(assignEach [tg] X.env).map (·.2)=[assign tg X.env]:=by rfl):PS X (.Assign [tg] e pos) (tAsg te g):=by
 intro pins s σ H D I h;refine wpAny_Assign_stores (thn (he pins s σ H _ I h) fun v s1 ⟨x,H1,I1,r1,q1⟩=>?_) hs hw;rw[h1];exact thn (hg pins s1 σ H1 x v _ I1 r1 q1) fun _ s2 q=>q
theorem jt{i:Nat}{x:Str}{e:Expr}{te:TE}{pos':Pos}(hN:X.N.Nodup)(hi:X.N[i]?=some x)(hx:Loc X.env.scope x)(he:PE X e te)(hs:swapsWith e (some (.Name x pos')) pos.line X.env=pure false:=by rfl)(hf:X.fn x=true\/X.env.scope.names.lookup x=some .local:=by first | exact .inl rfl | exact .inr rfl | assumption) :
  PS X (.Assign [.Name x pos'] e pos) (tAsg te (gName i)):=by
 intro pins s σ H D I h;refine wpAny_Assign_Name (thn (he pins s σ H _ I h) fun v s1 ⟨y,H1,I1,r1,q1⟩=>?_) hs;exact Ko I1 hN hi hx r1 (fun s2 I2=>⟨_,H1,I2,q1⟩) hf
end
section
variable{X:Cx}{pos:Pos}
end
structure It where
 go:Nat->Hp->Prop
 yld:Nat->Hp->V->Hp->Prop
 stop:Nat->Hp->Prop
def FpOk(X:Cx)(pins:List (Addr×Obj))(H:Hp)(b:Addr):Prop:=
 H b=none/\b≠X.env.locals/\b∉X.fs/\(b∈X.ex\/X.s₀.heap.objs.size<=b)/\(∀x c,X.env.cells.lookup x=some c->c≠b)/\∀p∈X.pn++pins,p.1≠b
theorem Inv.fpOk{X:Cx}{pins:List (Addr×Obj)}{σ:St}{H H':Hp}{s:Shared}{b:Addr}(I:Inv X pins σ H s)(hb:s.heap.objs.size<=b)(hn:H' b=none):FpOk X pins H' b:=by
 refine⟨hn,Nat.ne_of_gt (Nat.lt_of_lt_of_le I.lt hb),I.nofs hb,.inr (Nat.le_trans I.sz hb),fun x c e z=>?_,fun p hp z=>?_⟩
 ·obtain⟨v,q⟩:=I.cell x c e;exact absurd (Nat.lt_of_lt_of_le q.lt (by rw[z];exact hb)) (Nat.lt_irrefl _)
 ·exact absurd (Nat.lt_of_lt_of_le (Heap.lt_size (I.pin p hp).1) (by rw[z];exact hb)) (Nat.lt_irrefl _)
structure Turn(P:Program)(w:World)(K:Frg)(tg:Expr)(J:It)(fp:List Addr)(it:Addr)(tn:Nat->Heap->Prop):Prop where
 mem:it∈fp
 obj:∀i h,tn i h->∀b∈fp,∃o,h.get? b=some o/\∀v,o.data≠.cell v
 keep:∀i h h',tn i h->(∀b∈fp,∀o,h.get? b=some o->h'.get? b=some o)->tn i h'
 item:∀(X:Cx),X.prog=P->X.w=w->X.K=K->X.calm=true->∀(i:Nat) (pins:List (Addr×Obj)) (s:Shared) (σ:St) (H:Hp) (E:Value->Shared->Prop),Inv X pins σ H s->(∀b∈fp,FpOk X pins H b)->tn i s.heap->J.go i H->
  wpAny (model P w) X.A (pyNext (.ref it)) (fun r s1=>∃u,r=some u/\
   wpAny (model P w) X.A (letOwnedTupleGo tg (.ref it) u) (fun _ s2=>∃x H',Inv X pins σ H' s2/\RelV x u/\J.yld i H x H'/\tn (i+1) s2.heap/\∀b∈fp,H' b=none) E s1) E s
 done:∀(X:Cx),X.prog=P->X.w=w->X.K=K->X.calm=true->∀(i:Nat) (pins:List (Addr×Obj)) (s:Shared) (σ:St) (H:Hp) (E:Value->Shared->Prop),Inv X pins σ H s->(∀b∈fp,FpOk X pins H b)->tn i s.heap->J.stop i H->
  wpAny (model P w) X.A (pyNext (.ref it)) (fun r s1=>r=none/\Inv X pins σ H s1) E s
 self:∀(A:Around) (i:Nat) (s:Shared) (Q:Value->Shared->Prop) (E:Value->Shared->Prop),tn i s.heap->Q (.ref it) s->wpAny (model P w) A (pyIter (.ref it)) Q E s
noncomputable abbrev TI:=St->Hp->(It->Hp->Prop)->Prop
def PIE(X:Cx)(pins:List (Addr×Obj))(σ:St)(tg:Expr)(R:It->Hp->Prop)(itv:Value)(s2:Shared):Prop:=
 ∃(it:Addr) (fp:List Addr) (tn:Nat->Heap->Prop) (J:It) (H':Hp),itv = .ref it/\Inv X pins σ H' s2/\Turn X.prog X.w X.K tg J fp it tn/\tn 0 s2.heap/\(∀b∈fp,FpOk X pins H' b)/\R J H'
def PI(X:Cx)(tg iter:Expr)(wi:TI):Prop:=
 ∀(pins:List (Addr×Obj)) (s:Shared) (σ:St) (H:Hp) (R:It->Hp->Prop),Inv X pins σ H s->wi σ H R->
  wpAny (model X.prog X.w) X.A (eval iter X.env) (fun v s1=>wpAny (model X.prog X.w) X.A (pyIter v) (PIE X pins σ tg R) X.xe s1) X.xe s
theorem j0r{M:Model}{A:Around}{E:Value->Shared->Prop}{s:Shared}{tg:Expr}{it:Addr}{u:Value}{o:Obj}{n:String}{vs:Array Value}{Q:Unit->Shared->Prop}(ho:s.heap.get? it=some o)(hc:o.cls = .type n)(hd:o.data = .fields vs)
    (hn:["enumerate","zip","dict_itemiterator","dict_reverseitemiterator","odict_iterator","itertools.zip_longest","itertools.pairwise"].contains n=false) (hQ:Q () s):wpAny M A (letOwnedTupleGo tg (.ref it) u) Q E s:=by
  unfold letOwnedTupleGo;cases tg<;>first
    | exact wpAny_pure hQ
    | (cases u<;>first
        | exact wpAny_pure hQ
        | (refine wpAny_bind (wpAny_load ho ?_)
           rw[hc,hd];show wpAny M A (if(["enumerate","zip","dict_itemiterator","dict_reverseitemiterator","odict_iterator","itertools.zip_longest","itertools.pairwise"].contains n&&vs[0]?==some (rawInt _))=true then _ else _) Q E s;rw[if_neg (by intro h;rw[hn,Bool.false_and]at h;cases h)];exact wpAny_pure hQ))
def Itl(K:Frg)(a:Addr):It:=
 ⟨fun i H=>∃xs x,SqL K H a xs/\xs[i]?=some x,fun i H x H'=>H'=H/\∀xs,SqL K H a xs->xs[i]?=some x,fun i H=>∃xs,SqL K H a xs/\xs.length<=i⟩
def Itt(K:Frg)(a:Addr):It:=
 ⟨fun i H=>∃xs x,SqT K H a xs/\xs[i]?=some x,fun i H x H'=>H'=H/\∀xs,SqT K H a xs->xs[i]?=some x,fun i H=>∃xs,SqT K H a xs/\xs.length<=i⟩
def Itr(lo:Int)(n:Nat):It:=⟨fun i _=>i<n,fun i H x H'=>H'=H/\x = .int (lo+i),fun i _=>n<=i⟩
theorem j1C{P:Program}{w:World}{K:Frg}{tg:Expr}(a it:Addr):Turn P w K tg (Itl K a) [it] it (fun i h=>h.IsListIter it a i) where
 mem:=by simp
 obj:=fun i h st b hb=>by
  have e:b=it:=by simpa using hb
  subst e;obtain⟨o,e,c,d⟩:=st;exact⟨o,e,fun v z=>by rw[d]at z;cases z⟩
 keep:=fun i h h' st k=>st.at fun o e=>k it (by simp) o e
 item:=by
  intro X hP hw hK hc i pins s σ H E I hf st hg;subst hP hw hK;obtain⟨xs,x,hq,hx⟩:=hg;obtain⟨its,rv,p,hz⟩:=I.list hq;obtain⟨u,hu,ru⟩:=rv.get hx;obtain⟨f0,f1,f2,f3,f4,f5⟩:=hf it (by simp);refine wpAny_pyNext_list_item st p.isList (x:=u) (by simpa using hu) fun h' st' sb=>?_
  have I1:Inv X pins σ H {s with heap:=h'}:=I.turned (t':=s.toks) (fun b o hb e=>(sb.2 b hb).trans e) f0 f1 f3 f4 f5;obtain⟨o,e,c,d⟩:=id st';exact⟨u,rfl,j0r (s:={s with heap:=h'}) e c d (by decide) ⟨x,H,I1,ru,⟨rfl,fun ys hy=>by rw[I.list_inj hy hq];exact hx⟩,st',fun b hb=>(hf b hb).1⟩⟩
 done:=by
  intro X hP hw hK hc i pins s σ H E I hf st hg;subst hP hw hK;obtain⟨xs,hq,hx⟩:=hg;obtain⟨its,rv,p,hz⟩:=I.list hq;obtain⟨f0,f1,f2,f3,f4,f5⟩:=hf it (by simp);have hl:=rv.length;exact wpAny_pyNext_list_end (I.ok.hd hc) st p.isList (by simp;omega) fun h' eb=>⟨rfl,I.turned (t':=s.toks) (fun b o hb e=>eb b o hb e) f0 f1 f3 f4 f5⟩
 self:=fun _ _ _ _ _ st h=>wpAny_pyIter_listiter st h
theorem j01{P:Program}{w:World}{K:Frg}{tg:Expr}(a it:Addr):Turn P w K tg (Itt K a) [it] it (fun i h=>h.IsTupleIter it a i) where
 mem:=by simp
 obj:=fun i h st b hb=>by
  have e:b=it:=by simpa using hb
  subst e;obtain⟨o,e,c,d⟩:=st;exact⟨o,e,fun v z=>by rw[d]at z;cases z⟩
 keep:=fun i h h' st k=>st.at fun o e=>k it (by simp) o e
 item:=by
  intro X hP hw hK hc i pins s σ H E I hf st hg;subst hP hw hK;obtain⟨xs,x,hq,hx⟩:=hg;obtain⟨its,rv,p,hz⟩:=I.tuple hq;obtain⟨u,hu,ru⟩:=rv.get hx;obtain⟨f0,f1,f2,f3,f4,f5⟩:=hf it (by simp);refine wpAny_pyNext_tuple_item st (show s.heap.IsTuple a its.toArray from p) (x:=u) (by simpa using hu) fun h' st' sb=>?_
  have I1:Inv X pins σ H {s with heap:=h'}:=I.turned (t':=s.toks) (fun b o hb e=>(sb.2 b hb).trans e) f0 f1 f3 f4 f5;obtain⟨o,e,c,d⟩:=id st';exact⟨u,rfl,j0r (s:={s with heap:=h'}) e c d (by decide) ⟨x,H,I1,ru,⟨rfl,fun ys hy=>by rw[I.tuple_inj hy hq];exact hx⟩,st',fun b hb=>(hf b hb).1⟩⟩
 done:=by
  intro X hP hw hK hc i pins s σ H E I hf st hg;subst hP hw hK;obtain⟨xs,hq,hx⟩:=hg;obtain⟨its,rv,p,hz⟩:=I.tuple hq;obtain⟨f0,f1,f2,f3,f4,f5⟩:=hf it (by simp);have hl:=rv.length;exact wpAny_pyNext_tuple_end (I.ok.hd hc) st (show s.heap.IsTuple a its.toArray from p) (by simp;omega) fun h' eb=>⟨rfl,I.turned (t':=s.toks) (fun b o hb e=>eb b o hb e) f0 f1 f3 f4 f5⟩
 self:=fun _ _ _ _ _ st h=>wpAny_pyIter_tupleiter st h
theorem j00{P:Program}{w:World}{K:Frg}{tg:Expr}(it:Addr)(lo:Int)(n:Nat):Turn P w K tg (Itr lo n) [it] it (fun i h=>IsRangeIter h it (lo+(i:Nat)*1) ((n:Int)-(i:Nat)) 1) where
 mem:=by simp
 obj:=fun i h st b hb=>by
  have e:b=it:=by simpa using hb
  subst e;exact⟨_,st,fun v z=>by
   have z':Data.fields _=Data.cell v:=z;cases z'⟩
 keep:=fun i h h' st k=>k it (by simp) _ st
 item:=by
  intro X hP hw hK hc i pins s σ H E I hf st hg;subst hP hw hK;obtain⟨f0,f1,f2,f3,f4,f5⟩:=hf it (by simp);have W:=Walks.range (prog:=X.prog) (w:=X.w) (I.ok.hd hc) it lo 1 n;refine W.item i s _ _ hg st fun v h' tk hv st' kk=>?_
  obtain⟨t,rfl⟩:=hv;have I1:Inv X pins σ H {s with heap:=h',toks:=tk}:=I.turned (fun b o hb e=>kk b o (by simpa using hb) e) f0 f1 f3 f4 f5;refine⟨_,rfl,j0r (s:={s with heap:=h',toks:=tk}) (n:="range_iterator") st' rfl rfl (by decide) ⟨.int (lo+i),H,I1,⟨t,?_⟩,⟨rfl,rfl⟩,st',fun b hb=>(hf b hb).1⟩⟩;rw[Int.mul_one]
 done:=by
  intro X hP hw hK hc i pins s σ H E I hf st hg;subst hP hw hK;obtain⟨f0,f1,f2,f3,f4,f5⟩:=hf it (by simp);exact wpAny_pyNext_range_end (I.ok.hd hc) st (by have:n<=i:=hg;omega) fun h' eb=>⟨rfl,I.turned (t':=s.toks) (fun b o hb e=>eb b o hb e) f0 f1 f3 f4 f5⟩
 self:=fun _ _ _ _ _ st h=>wpAny_pyIter_rangeiter st h
section
variable{X:Cx}{tg:Expr}
def iList(K:Frg)(tl:TE):TI:=fun σ H R=>tl σ H fun x H1=>∃a,x = .ref a/\(∃xs,SqL K H1 a xs)/\R (Itl K a) H1
def iTup(K:Frg)(tl:TE):TI:=fun σ H R=>tl σ H fun x H1=>∃a,x = .ref a/\(∃xs,SqT K H1 a xs)/\R (Itt K a) H1
theorem J3{l:Expr}{tl:TE}(hl:PE X l tl):PI X tg l (iList X.K tl):=by
 intro pins s σ H R I h;refine thn (hl pins s σ H _ I h) fun v s1 ⟨x,H1,I1,r1,q1⟩=>?_
 obtain⟨a,e,⟨xs,hq⟩,q⟩:=q1;subst e;cases r1;obtain⟨its,rv,p,hz⟩:=I1.list hq;refine wpAny_pyIter_list p.isList ?_;refine⟨s1.heap.objs.size,[s1.heap.objs.size],_,_,H1,rfl,I1.kept (t':=s1.toks) fun b o e=>Heap.get?_push_of_some _ e,j1C a _,⟨_,Heap.get?_push_size _ rfl,rfl,rfl⟩,fun b hb=>?_,q⟩;have e:b=s1.heap.objs.size:=by simpa using hb
 subst e;exact I1.fpOk (Nat.le_refl _) (I1.hok.fresh (Nat.le_refl _))
theorem j4B{l:Expr}{tl:TE}(hl:PE X l tl):PI X tg l (iTup X.K tl):=by
 intro pins s σ H R I h;refine thn (hl pins s σ H _ I h) fun v s1 ⟨x,H1,I1,r1,q1⟩=>?_
 obtain⟨a,e,⟨xs,hq⟩,q⟩:=q1;subst e;cases r1;obtain⟨its,rv,p,hz⟩:=I1.tuple hq;refine wpAny_pyIter_tuple (show s1.heap.IsTuple a its.toArray from p) ?_;refine⟨s1.heap.objs.size,[s1.heap.objs.size],_,_,H1,rfl,I1.kept (t':=s1.toks) fun b o e=>Heap.get?_push_of_some _ e,j01 a _,⟨_,Heap.get?_push_size _ rfl,rfl,rfl⟩,fun b hb=>?_,q⟩;have e:b=s1.heap.objs.size:=by simpa using hb
 subst e;exact I1.fpOk (Nat.le_refl _) (I1.hok.fresh (Nat.le_refl _))
theorem xM{pins:List (Addr×Obj)}{σ:St}{H:Hp}{s:Shared}{R:It->Hp->Prop}{E:Value->Shared->Prop}{lo hi:Int}{t u v:Tok}{tk:Nat}(I:Inv X pins σ H s)(h1 : -(2^62)<=lo)(h2:lo<2^62)(h3 : -(2^62)<=hi)(h4:hi<2^62)
  (q:R (Itr lo (hi-lo).toNat) H):wpAny (model X.prog X.w) X.A (pyIter (.ref s.heap.objs.size)) (PIE X pins σ tg R) E {s with heap:=s.heap.push {cls:=.type "range",data:=.fields #[.int lo t,.int hi u,.int 1 v]},toks:=tk}:=by
 refine wpAny_pyIter_range (IsRange.new ..) (small_one h1 h2 h3 h4) ?_;have I1:Inv X pins σ H {s with heap:=s.heap.push {cls:=.type "range",data:=.fields #[.int lo t,.int hi u,.int 1 v]},toks:=tk}:=I.kept fun b o e=>Heap.get?_push_of_some _ e
 refine⟨(s.heap.push {cls:=.type "range",data:=.fields #[.int lo t,.int hi u,.int 1 v]}).objs.size,[(s.heap.push {cls:=.type "range",data:=.fields #[.int lo t,.int hi u,.int 1 v]}).objs.size],_,_,H,rfl,
  I1.kept (t':=tk) fun b o e=>Heap.get?_push_of_some _ e,j00 _ lo (hi-lo).toNat,?_,fun b hb=>?_,q⟩
 ·have e1:lo+((0:Nat):Int)*1=lo:=by simp
  have e2:(((hi-lo).toNat:Nat):Int)-((0:Nat):Int)=Builtin.Range.rangeSize lo hi 1:=by rw[rangeSize_one];split<;>omega
  show IsRangeIter _ _ (lo+((0:Nat):Int)*1) ((((hi-lo).toNat:Nat):Int)-((0:Nat):Int)) 1;rw[e1,e2];exact Heap.get?_push_size _ rfl
 ·have e:b=(s.heap.push {cls:=.type "range",data:=.fields #[.int lo t,.int hi u,.int 1 v]}).objs.size:=by simpa using hb
  subst e;exact I1.fpOk (Nat.le_refl _) (I1.hok.fresh (Nat.le_refl _))
def iRng1(ta:TA):TI:=fun σ H R=>ta σ H fun vs H1=>∃j:Int,vs=[.int j]/\-(2^62)<=j/\j<2^62/\R (Itr 0 j.toNat) H1
def iRng2(ta:TA):TI:=fun σ H R=>ta σ H fun vs H1=>∃i j:Int,vs=[.int i,.int j]/\(-(2^62)<=i/\i<2^62/\-(2^62)<=j/\j<2^62)/\R (Itr i (j-i).toNat) H1
theorem qG{a:Expr}{ta:TA}{p pos:Pos}(hg:Gl X "range")(hm:X.mg "range"= none)(ha:PA X [a] ta)(hs:starEach [a] X.env=[(false,eval a X.env)]:=by rfl):PI X tg (.Call (.Name "range" p) [a] [] pos) (iRng1 ta):=by
 intro pins s σ H R I h;refine Call_ (QF I hg hm boot_range (PyProof.Rows.callWith_type1 (thn (ha pos pins s σ H _ I h) fun us s1 ⟨vs,H1,I1,r1,q1⟩=>?_) hs rfl));obtain⟨j,e,q1,q2,q⟩:=q1;subst e;cases r1 with
 | cons r rr=>
  cases rr;obtain⟨t,rfl⟩:=r;exact call_range_1 (xM I1 (by omega) (by omega) q1 q2 (by simpa using q))
theorem j1q{a b:Expr}{ta:TA}{p pos:Pos}(hg:Gl X "range")(hm:X.mg "range"= none)(ha:PA X [a,b] ta)(hs:starEach [a,b] X.env=[(false,eval a X.env),(false,eval b X.env)]:=by rfl)(hs2:starEach [b] X.env=[(false,eval b X.env)]:=by rfl) :
  PI X tg (.Call (.Name "range" p) [a,b] [] pos) (iRng2 ta):=by
 intro pins s σ H R I h;refine Call_ (QF I hg hm boot_range (PyProof.Rows.callWith_type1 (thn (ha pos pins s σ H _ I h) fun us s1 ⟨vs,H1,I1,r1,q1⟩=>?_) (by rw[hs,hs2]) (by rw[hs2];rfl)));obtain⟨i,j,e,⟨q1,q2,q3,q4⟩,q⟩:=q1;subst e;cases r1 with
 | cons r rr=>
  cases rr with
  | cons r' rr=>
   cases rr;obtain⟨t,rfl⟩:=r;obtain⟨t',rfl⟩:=r';exact call_range_2 (xM I1 q1 q2 q3 q4 q)
def tFor(wi:TI)(g:TG)(tb:TS):TS:=fun D σ H=>wi σ H fun J H1=>∃W:Nat->Nat->St->Hp->Prop,(∃m,W 0 m σ H1)/\∀i m σ H,W i m σ H->
 (J.stop i H/\D.nx σ H)\/(J.go i H/\∃N:St->Hp->Prop,(∀σ' H',N σ' H'->∃m',m'<m/\W (i+1) m' σ' H')/\∀x H',J.yld i H x H'->g x σ H' fun σ2 H2=>tb {D with nx:=N,ct:=N,bk:=D.nx} σ2 H2)
noncomputable def pinsAt(fp:List Addr)(h:Heap):List (Addr×Obj):=fp.filterMap fun b=>(h.get? b).map fun o=>(b,o)
theorem QI{fp:List Addr}{h:Heap}{b:Addr}{o:Obj}(hb:b∈fp)(e:h.get? b=some o):(b,o)∈pinsAt fp h:=List.mem_filterMap.mpr ⟨b,hb,by rw[e];rfl⟩
theorem j1m{fp:List Addr}{h:Heap}{p:Addr×Obj}(hp:p∈pinsAt fp h):p.1∈fp/\h.get? p.1=some p.2:=by
 obtain⟨b,hb,e⟩:=List.mem_filterMap.mp hp;cases q:h.get? b with
 | none=>rw[q]at e;cases e
 | some o=>
  rw[q]at e;have e':(b,o)=p:=Option.some.inj e;subst e';exact⟨hb,q⟩
theorem Inv.pinned{pins:List (Addr×Obj)}{σ:St}{H:Hp}{s:Shared}{fp:List Addr}(I:Inv X pins σ H s)(hf:∀b∈fp,FpOk X pins H b)(ho:∀b∈fp,∃o,s.heap.get? b=some o/\∀v,o.data≠.cell v):Inv X (pins++pinsAt fp s.heap) σ H s:=
 I.pins_of fun p hp=>(mem_append.mp hp).elim (fun z=>I.pin p (mem_append_right _ z)) fun z=>by
  obtain⟨hb,e⟩:=j1m z;obtain⟨f0,f1,f2,_⟩:=hf p.1 hb;obtain⟨o,e',d⟩:=ho p.1 hb;rw[e]at e';cases e';exact⟨e,f0,f1,f2,d⟩
theorem Inv.unpinned{pins pl:List (Addr×Obj)}{σ:St}{H:Hp}{s:Shared}(I:Inv X (pins++pl) σ H s):Inv X pins σ H s:=I.pins_of fun p hp=>I.pin p (mem_append_right _ (mem_append_left _ hp))
theorem JV{iter:Expr}{body:List Stmt}{wi:TI}{g:TG}{tb:TS}{pos:Pos}(hp:PassesOwn (model X.prog X.w) X.A X.env X.xe)(hc:X.calm=true)(hi:PI X tg iter wi)(hg:PG X tg g)(hb:PSs X body tb)
  (hs:∀x,foldedSetIterable iter X.env x=pure x:=by intro _;rfl):PS X (.For tg iter body [] pos) (tFor wi g tb):=by
 intro pins s σ H D I h;refine wpAny_For (thn (hi pins s σ H _ I h) fun v s1 h1=>thn h1 fun itv s2 h2=>?_) hs;obtain⟨it,fp,tn,J,H2,e,I2,T,st2,f2,W,⟨m0,w0⟩,turn⟩:=h2;subst e;have stat:∀{H':Hp},(∀b∈fp,H' b=none)->∀b∈fp,FpOk X pins H' b:=fun hn b hb=>⟨hn b hb,(f2 b hb).2⟩
 refine codeAny_forLoop_any (fun n s'=>∃i σ' H',Inv X pins σ' H' s'/\tn i s'.heap/\(∀b∈fp,H' b=none)/\W i n σ' H') ?_ m0 ⟨0,σ,H2,I2,st2,fun b hb=>(f2 b hb).1,w0⟩;rintro n s3 ⟨i,σ3,H3,I3,st3,fr3,w3⟩;rcases turn i n σ3 H3 w3 with⟨stop,qn⟩ | ⟨go,N,hN,step⟩
 ·refine wpAny_passesOwn hp (thn (T.done X rfl rfl rfl hc i pins s3 σ3 H3 X.xe I3 (stat fr3) st3 stop) fun r s4 ⟨hr,I4⟩=>?_);subst hr;exact wpAny_execs_nil ⟨σ3,H3,I4,qn⟩
 ·refine wpAny_passesOwn hp (thn (T.item X rfl rfl rfl hc i pins s3 σ3 H3 X.xe I3 (stat fr3) st3 go) fun r s4 ⟨u,hr,h4⟩=>?_);subst hr;refine wpAny_passesOwn hp (thn h4 fun _ s5 ⟨x,H5,I5,r5,y5,st5,fr5⟩=>?_);have I5':=I5.pinned (stat fr5) (T.obj _ _ st5);refine wpAny_passesOwn hp (thn (hg _ s5 σ3 H5 x u _ I5' r5 (step x H5 y5)) fun _ s6 ⟨σ6,H6,I6,q6⟩=>?_);refine wpAny_passesOwn hp (thn (hb _ s6 σ6 H6 _ I6 q6) fun f s7 q7=>?_);have again:∀{σ7:St} {H7:Hp},Inv X (pins++pinsAt fp s5.heap) σ7 H7 s7->N σ7 H7->∃m,m<n/\∃i σ' H',Inv X pins σ' H' s7/\tn i s7.heap/\(∀b∈fp,H' b=none)/\W i m σ' H':=fun {σ7 H7} I7 n7=>by
   obtain⟨m',hm,w7⟩:=hN σ7 H7 n7;refine⟨m',hm,i+1,σ7,H7,I7.unpinned,T.keep _ _ _ st5 fun b hb o e=>(I7.pin (b,o) (mem_append_right _ (mem_append_right _ (QI hb e)))).1,fun b hb=>?_,w7⟩;obtain⟨o,e,d⟩:=T.obj _ _ st5 b hb;exact(I7.pin (b,o) (mem_append_right _ (mem_append_right _ (QI hb e)))).2.1
  cases f with
  | next=>obtain⟨σ7,H7,I7,n7⟩:=q7;exact again I7 n7
  | cont=>obtain⟨σ7,H7,I7,n7⟩:=q7;exact again I7 n7
  | brk=>obtain⟨σ7,H7,I7,q7⟩:=q7;exact⟨σ7,H7,I7.unpinned,q7⟩
  | ret v=>obtain⟨x7,σ7,H7,I7,r7,q7⟩:=q7;exact⟨x7,σ7,H7,I7.unpinned,r7,q7⟩
end
theorem Yd{K:Frg}{a:Addr}{xs:List V}{g:TG}{tb:TS}{D:Ends}{σ:St}{H:Hp}(Pv:Nat->St->Hp->Prop)(h0:Pv 0 σ H)(hl:∀i σ H,i<=xs.length->Pv i σ H->SqL K H a xs)
  (hs:∀i x σ H,xs[i]?=some x->Pv i σ H->g x σ H fun σ2 H2=>tb {D with nx:=Pv (i+1),ct:=Pv (i+1),bk:=D.nx} σ2 H2) (hd:∀σ H,Pv xs.length σ H->D.nx σ H) :
  ∃W:Nat->Nat->St->Hp->Prop,(∃m,W 0 m σ H)/\∀i m σ H,W i m σ H->
   ((Itl K a).stop i H/\D.nx σ H)\/((Itl K a).go i H/\∃N:St->Hp->Prop,(∀σ' H',N σ' H'->∃m',m'<m/\W (i+1) m' σ' H')/\∀x H',(Itl K a).yld i H x H'->g x σ H' fun σ2 H2=>tb {D with nx:=N,ct:=N,bk:=D.nx} σ2 H2):=by
 refine⟨fun i m σ H=>m=xs.length-i/\i<=xs.length/\Pv i σ H,⟨xs.length,by simp,Nat.zero_le _,h0⟩,?_⟩;rintro i m σ H ⟨rfl,hi,p⟩;have q:=hl i σ H hi p;by_cases hlt:i<xs.length
 ·refine .inr ⟨⟨xs,xs[i],q,by simp[hlt]⟩,Pv (i+1),fun σ' H' p'=>⟨xs.length-(i+1),by omega,rfl,hlt,p'⟩,fun x H' y=>?_⟩;obtain⟨e,y⟩:=y;subst e;exact hs i x σ _ (y xs q) p
 ·have e:i=xs.length:=by omega
  subst e;exact .inl ⟨⟨xs,q,Nat.le_refl _⟩,hd σ H p⟩
theorem j36{K:Frg}{a:Addr}{xs:List V}{g:TG}{tb:TS}{D:Ends}{σ:St}{H:Hp}(Pv:Nat->St->Hp->Prop)(h0:Pv 0 σ H)(hl:∀i σ H,i<=xs.length->Pv i σ H->SqT K H a xs)
  (hs:∀i x σ H,xs[i]?=some x->Pv i σ H->g x σ H fun σ2 H2=>tb {D with nx:=Pv (i+1),ct:=Pv (i+1),bk:=D.nx} σ2 H2) (hd:∀σ H,Pv xs.length σ H->D.nx σ H) :
  ∃W:Nat->Nat->St->Hp->Prop,(∃m,W 0 m σ H)/\∀i m σ H,W i m σ H->
   ((Itt K a).stop i H/\D.nx σ H)\/((Itt K a).go i H/\∃N:St->Hp->Prop,(∀σ' H',N σ' H'->∃m',m'<m/\W (i+1) m' σ' H')/\∀x H',(Itt K a).yld i H x H'->g x σ H' fun σ2 H2=>tb {D with nx:=N,ct:=N,bk:=D.nx} σ2 H2):=by
 refine⟨fun i m σ H=>m=xs.length-i/\i<=xs.length/\Pv i σ H,⟨xs.length,by simp,Nat.zero_le _,h0⟩,?_⟩;rintro i m σ H ⟨rfl,hi,p⟩;have q:=hl i σ H hi p;by_cases hlt:i<xs.length
 ·refine .inr ⟨⟨xs,xs[i],q,by simp[hlt]⟩,Pv (i+1),fun σ' H' p'=>⟨xs.length-(i+1),by omega,rfl,hlt,p'⟩,fun x H' y=>?_⟩;obtain⟨e,y⟩:=y;subst e;exact hs i x σ _ (y xs q) p
 ·have e:i=xs.length:=by omega
  subst e;exact .inl ⟨⟨xs,q,Nat.le_refl _⟩,hd σ H p⟩
theorem qi{lo:Int}{n:Nat}{g:TG}{tb:TS}{D:Ends}{σ:St}{H:Hp}(Pv:Nat->St->Hp->Prop)(h0:Pv 0 σ H)
  (hs:∀i σ H,i<n->Pv i σ H->g (.int (lo+i)) σ H fun σ2 H2=>tb {D with nx:=Pv (i+1),ct:=Pv (i+1),bk:=D.nx} σ2 H2) (hd:∀σ H,Pv n σ H->D.nx σ H) :
  ∃W:Nat->Nat->St->Hp->Prop,(∃m,W 0 m σ H)/\∀i m σ H,W i m σ H->
   ((Itr lo n).stop i H/\D.nx σ H)\/((Itr lo n).go i H/\∃N:St->Hp->Prop,(∀σ' H',N σ' H'->∃m',m'<m/\W (i+1) m' σ' H')/\∀x H',(Itr lo n).yld i H x H'->g x σ H' fun σ2 H2=>tb {D with nx:=N,ct:=N,bk:=D.nx} σ2 H2):=by
 refine⟨fun i m σ H=>m=n-i/\i<=n/\Pv i σ H,⟨n,by simp,Nat.zero_le _,h0⟩,?_⟩;rintro i m σ H ⟨rfl,hi,p⟩;by_cases hlt:i<n
 ·refine .inr ⟨hlt,Pv (i+1),fun σ' H' p'=>⟨n-(i+1),by omega,rfl,hlt,p'⟩,fun x H' y=>?_⟩;obtain⟨e,y⟩:=y;subst e y;exact hs i σ _ hlt p
 ·have e:i=n:=by omega
  subst e;exact .inl ⟨Nat.le_refl _,hd σ H p⟩
noncomputable abbrev R2:=V->V->Hp->VK->Prop
def OpR(X:Cx)(f:Value->Value->Sem Value)(r:R2):Prop:=
 ∀(pins:List (Addr×Obj)) (s:Shared) (σ:St) (H:Hp) (x y:V) (v u:Value) (Q:VK),Inv X pins σ H s->RelV x v->RelV y u->r x y H Q->
  wpAny (model X.prog X.w) X.A (f v u) (EP X pins σ Q) X.xe s
def CallR(X:Cx)(f:Value)(r:List V->Hp->VK->Prop):Prop:=
 ∀(pins:List (Addr×Obj)) (s:Shared) (σ:St) (H:Hp) (xs:List V) (us:List Value) (Q:VK),Inv X pins σ H s->Vals xs us->r xs H Q->
  wpAny (model X.prog X.w) X.A (call f us) (EP X pins σ Q) X.xe s
def tOp(r:R2)(ta tb:TE):TE:=fun σ H Q=>ta σ H fun x H1=>tb σ H1 fun y H2=>r x y H2 Q
def rI(C:Int->Int->Prop)(g:Int->Int->V):R2:=fun x y H Q=>∃i j,x = .int i/\y = .int j/\C i j/\Q (g i j) H
def rI0(g:Int->Int->V):R2:=fun x y H Q=>∃i j,x = .int i/\y = .int j/\Q (g i j) H
section
variable{X:Cx}{a b c:Expr}{ta tb tc:TE}{pos:Pos}
theorem binT(ha:PE X a ta)(hb:PE X b tb){pins:List (Addr×Obj)}{s:Shared}{σ:St}{H:Hp}{R:V->V->Hp->Prop}(I:Inv X pins σ H s)
  (h:ta σ H fun x H1=>tb σ H1 fun y H2=>R x y H2) {Q:Value->Shared->Prop} {f:Value->Value->Sem Value}
  (hf:∀v u s2 x y H2,Inv X pins σ H2 s2->RelV x v->RelV y u->R x y H2->wpAny (model X.prog X.w) X.A (f v u) Q X.xe s2) :
  wpAny (model X.prog X.w) X.A (eval a X.env) (fun v s₁=>wpAny (model X.prog X.w) X.A (eval b X.env) (fun u s₂=>wpAny (model X.prog X.w) X.A (f v u) Q X.xe s₂) X.xe s₁) X.xe s:=by
 refine thn (ha pins s σ H _ I h) fun v s1 ⟨x,H1,I1,r1,q1⟩=>?_
 refine thn (hb pins s1 σ H1 _ I1 q1) fun u s2 ⟨y,H2,I2,r2,q2⟩=>?_
 exact hf v u s2 x y H2 I2 r1 r2 q2
theorem jm{op:Operator}{r:R2}(ho:OpR X (binaryOp op) r)(ha:PE X a ta)(hb:PE X b tb):PE X (.BinOp a op b pos) (tOp r ta tb):=by
 intro pins s σ H Q I h;exact wpAny_BinOp (binT ha hb I h fun v u s2 x y H2 I2 rx ry q=>ho pins s2 σ H2 x y v u Q I2 rx ry q)
theorem opI{f:Value->Value->Sem Value}{C:Int->Int->Prop}{g:Int->Int->Int}
  (rule:∀(i j:Int) (t u:Tok) (s:Shared) (Q:Value->Shared->Prop) (E:Value->Shared->Prop),C i j->Q (.int (g i j) s.toks) {s with toks:=s.toks+1}->wpAny (model X.prog X.w) X.A (f (.int i t) (.int j u)) Q E s) :
  OpR X f (rI C fun i j=>.int (g i j)):=by
 intro pins s σ H x y v u Q I rx ry h;obtain⟨i,j,rfl,rfl,hc,q⟩:=h;obtain⟨t,rfl⟩:=rx;obtain⟨t',rfl⟩:=ry;exact rule i j t t' s _ _ hc ⟨.int (g i j),H,I.tok _,⟨_,rfl⟩,q⟩
theorem opI0{f:Value->Value->Sem Value}{g:Int->Int->Int}
  (rule:∀(i j:Int) (t u:Tok) (s:Shared) (Q:Value->Shared->Prop) (E:Value->Shared->Prop),Q (.int (g i j) s.toks) {s with toks:=s.toks+1}->wpAny (model X.prog X.w) X.A (f (.int i t) (.int j u)) Q E s) :
  OpR X f (rI0 fun i j=>.int (g i j)):=by
 intro pins s σ H x y v u Q I rx ry h;obtain⟨i,j,rfl,rfl,q⟩:=h;obtain⟨t,rfl⟩:=rx;obtain⟨t',rfl⟩:=ry;exact rule i j t t' s _ _ ⟨.int (g i j),H,I.tok _,⟨_,rfl⟩,q⟩
theorem opB0{f:Value->Value->Sem Value}{g:Int->Int->Bool}
  (rule:∀(i j:Int) (t u:Tok) (s:Shared) (Q:Value->Shared->Prop) (E:Value->Shared->Prop),Q (.bool (g i j)) s->wpAny (model X.prog X.w) X.A (f (.int i t) (.int j u)) Q E s) :
  OpR X f (rI0 fun i j=>.bl (g i j)):=by
 intro pins s σ H x y v u Q I rx ry h;obtain⟨i,j,rfl,rfl,q⟩:=h;obtain⟨t,rfl⟩:=rx;obtain⟨t',rfl⟩:=ry;exact rule i j t t' s _ _ ⟨.bl (g i j),H,I,rfl,q⟩
def CPow(i j:Int):Prop:=0<=j/\j<=1000000/\i.natAbs<2^64
theorem jX:OpR X (binaryOp .Add) (rI0 fun i j=>.int (i+j)):=opI0 fun _ _ _ _ _ _ _ q=>add_int q
theorem Zt:OpR X (binaryOp .Sub) (rI0 fun i j=>.int (i-j)):=opI0 fun _ _ _ _ _ _ _ q=>sub_int q
theorem jG:OpR X (binaryOp .Mod) (rI (fun _ j=>0<j) fun i j=>.int (i%j)):=opI fun i j _ _ _ _ _ hc q=>by
 have h1:(0:Int)<j:=hc;exact mod_int' (by omega) (by rw[Int.fmod_eq_emod_of_nonneg i (by omega)];exact q)
theorem Q6:OpR X (binaryOp .Pow) (rI CPow fun i j=>.int (i^j.toNat)):=opI fun _ _ _ _ _ _ _ hc q=>pow_int_small hc.1 hc.2.1 hc.2.2 q
end
noncomputable def scal:V->V->Bool
 | .non,.non=>true | .non,.int _=>true | .int _,.non=>true | .non,.bl _=>true | .bl _,.non=>true | .non,.str _=>true | .str _,.non=>true
 | .int _,.int _=>true | .bl _,.bl _=>true | .str _,.str _=>true | .byt _,.byt _=>true
 | .int _,.str _=>true | .str _,.int _=>true | .bl _,.str _=>true | .str _,.bl _=>true
 | _,_=>false
def rEq:R2:=fun x y H Q=>scal x y=true/\Q (.bl (decide (x=y))) H
def rNe:R2:=fun x y H Q=>scal x y=true/\Q (.bl (!decide (x=y))) H
theorem j0d{i j:Int}:decide (V.int i=V.int j)=(i==j):=by
 rw[Bool.eq_iff_iff];simp
theorem j1V{i j:Bool}:decide (V.bl i=V.bl j)=(i==j):=by
 rw[Bool.eq_iff_iff];simp
theorem j0e{i j:Str}:decide (V.str i=V.str j)=(i==j):=by
 rw[Bool.eq_iff_iff];simp
theorem j0c{i j:Array UInt8}:decide (V.byt i=V.byt j)=(i.toList==j.toList):=by
 rw[Bool.eq_iff_iff];cases i;cases j;simp
section
variable{X:Cx}{a b c:Expr}{ta tb tc:TE}{pos:Pos}
theorem jW{pins:List (Addr×Obj)}{σ:St}{H:Hp}{s:Shared}{Q:VK}{k k':Bool}(I:Inv X pins σ H s)(q:Q (.bl k) H)(e:k=k'):EP X pins σ Q (.bool k') s:=by
 subst e;exact⟨.bl k,H,I,rfl,q⟩
theorem jU:OpR X (compareOp .Eq) rEq:=by
 intro pins s σ H x y v u Q I rx ry h;obtain⟨hs,q⟩:=h;cases x with
 | non=>
  cases rx;cases y with
  | non=>cases ry;exact PySem.EqNone.eq_none_none (jW I q (by simp))
  | bl j=>cases ry;exact PySem.EqNone.eq_none_bool (jW I q (by simp))
  | int j=>obtain⟨t',rfl⟩:=ry;exact PySem.EqNone.eq_none_int (jW I q (by simp))
  | str j=>obtain⟨t',rfl⟩:=ry;exact PySem.EqNone.eq_none_str (jW I q (by simp))
  | _=>exact absurd (show false=true from hs) Bool.false_ne_true
 | bl i=>
  cases rx;cases y with
  | non=>cases ry;exact PySem.EqNone.eq_bool_none (jW I q (by simp))
  | bl j=>cases ry;exact eq_bool (jW I q j1V)
  | str j=>obtain⟨t',rfl⟩:=ry;exact PySem.EqMixed.eq_bool_str (jW I q (by simp))
  | _=>exact absurd (show false=true from hs) Bool.false_ne_true
 | int i=>
  obtain⟨t,rfl⟩:=rx;cases y with
  | non=>cases ry;exact PySem.EqNone.eq_int_none (jW I q (by simp))
  | int j=>obtain⟨t',rfl⟩:=ry;exact eq_int (jW I q j0d)
  | str j=>obtain⟨t',rfl⟩:=ry;exact PySem.EqMixed.eq_int_str (jW I q (by simp))
  | _=>exact absurd (show false=true from hs) Bool.false_ne_true
 | str i=>
  obtain⟨t,rfl⟩:=rx;cases y with
  | non=>cases ry;exact PySem.EqNone.eq_str_none (jW I q (by simp))
  | bl j=>cases ry;exact PySem.EqMixed.eq_str_bool (jW I q (by simp))
  | int j=>obtain⟨t',rfl⟩:=ry;exact PySem.EqMixed.eq_str_int (jW I q (by simp))
  | str j=>obtain⟨t',rfl⟩:=ry;exact eq_str (jW I q j0e)
  | _=>exact absurd (show false=true from hs) Bool.false_ne_true
 | byt i=>
  obtain⟨t,rfl⟩:=rx;cases y with
  | byt j=>obtain⟨t',rfl⟩:=ry;exact PySem.W.eq_bytes (jW I q j0c)
  | _=>exact absurd (show false=true from hs) Bool.false_ne_true
 | _=>cases y<;>exact absurd (show false=true from hs) Bool.false_ne_true
theorem kd:OpR X (compareOp .NotEq) rNe:=by
 intro pins s σ H x y v u Q I rx ry h;obtain⟨hs,q⟩:=h;cases x with
 | non=>
  cases rx;cases y with
  | non=>cases ry;exact PySem.EqNone.ne_none_none (jW I q (by simp))
  | bl j=>cases ry;exact PySem.EqNone.ne_none_bool (jW I q (by simp))
  | int j=>obtain⟨t',rfl⟩:=ry;exact PySem.EqNone.ne_none_int (jW I q (by simp))
  | str j=>obtain⟨t',rfl⟩:=ry;exact PySem.EqNone.ne_none_str (jW I q (by simp))
  | _=>exact absurd (show false=true from hs) Bool.false_ne_true
 | bl i=>
  cases rx;cases y with
  | non=>cases ry;exact PySem.EqNone.ne_bool_none (jW I q (by simp))
  | bl j=>cases ry;exact ne_bool (jW I q (congrArg not j1V))
  | str j=>obtain⟨t',rfl⟩:=ry;exact PySem.EqMixed.ne_bool_str (jW I q (by simp))
  | _=>exact absurd (show false=true from hs) Bool.false_ne_true
 | int i=>
  obtain⟨t,rfl⟩:=rx;cases y with
  | non=>cases ry;exact PySem.EqNone.ne_int_none (jW I q (by simp))
  | int j=>obtain⟨t',rfl⟩:=ry;exact ne_int (jW I q (congrArg not j0d))
  | str j=>obtain⟨t',rfl⟩:=ry;exact PySem.EqMixed.ne_int_str (jW I q (by simp))
  | _=>exact absurd (show false=true from hs) Bool.false_ne_true
 | str i=>
  obtain⟨t,rfl⟩:=rx;cases y with
  | non=>cases ry;exact PySem.EqNone.ne_str_none (jW I q (by simp))
  | bl j=>cases ry;exact PySem.EqMixed.ne_str_bool (jW I q (by simp))
  | int j=>obtain⟨t',rfl⟩:=ry;exact PySem.EqMixed.ne_str_int (jW I q (by simp))
  | str j=>obtain⟨t',rfl⟩:=ry;exact ne_str (jW I q (congrArg not j0e))
  | _=>exact absurd (show false=true from hs) Bool.false_ne_true
 | byt i=>
  obtain⟨t,rfl⟩:=rx;cases y with
  | byt j=>obtain⟨t',rfl⟩:=ry;exact PySem.W.ne_bytes (jW I q (congrArg not j0c))
  | _=>exact absurd (show false=true from hs) Bool.false_ne_true
 | _=>cases y<;>exact absurd (show false=true from hs) Bool.false_ne_true
theorem Ym:OpR X (compareOp .Lt) (rI0 fun i j=>.bl (decide (i<j))):=opB0 fun _ _ _ _ _ _ _ q=>lt_int q
theorem Q8:OpR X (compareOp .LtE) (rI0 fun i j=>.bl (decide (i<=j))):=opB0 fun _ _ _ _ _ _ _ q=>le_int q
theorem Z0:OpR X (compareOp .Gt) (rI0 fun i j=>.bl (decide (j<i))):=opB0 fun _ _ _ _ _ _ _ q=>gt_int q
theorem j52:OpR X (compareOp .GtE) (rI0 fun i j=>.bl (decide (j<=i))):=opB0 fun _ _ _ _ _ _ _ q=>ge_int q
theorem j1n:OpR X (compareOp .In) (fun x y H Q=>∃i j,x = .str i/\y = .str j/\Q (.bl (!(Builtin.Str.occurrences j i 0 j.length 1).isEmpty)) H):=by
 intro pins s σ H x y v u Q I rx ry h;obtain⟨i,j,rfl,rfl,q⟩:=h;obtain⟨t,rfl⟩:=rx;obtain⟨t',rfl⟩:=ry;exact in_str (jW I q rfl)
theorem Q5:OpR X (compareOp .Is) (fun x y H Q=>y = .non/\Q (.bl (decide (x = .non))) H):=by
 intro pins s σ H x y v u Q I rx ry h;obtain⟨rfl,q⟩:=h;cases ry;refine is_none_gen (jW I q ?_);cases x<;>first
  | (cases rx;rfl)
  | (obtain⟨t,rfl⟩:=rx;rfl)
theorem yj:OpR X (compareOp .IsNot) (fun x y H Q=>y = .non/\Q (.bl (!decide (x = .non))) H):=by
 intro pins s σ H x y v u Q I rx ry h;obtain⟨rfl,q⟩:=h;cases ry;refine isnot_none_gen (jW I q ?_);cases x<;>first
  | (cases rx;rfl)
  | (obtain⟨t,rfl⟩:=rx;rfl)
theorem Wt:OpR X (compareOp .NotIn) (fun x y H Q=>∃i j,x = .str i/\y = .str j/\Q (.bl (!(!(Builtin.Str.occurrences j i 0 j.length 1).isEmpty))) H):=by
 intro pins s σ H x y v u Q I rx ry h;obtain⟨i,j,rfl,rfl,q⟩:=h;obtain⟨t,rfl⟩:=rx;obtain⟨t',rfl⟩:=ry;exact notIn_str (jW I q rfl)
theorem nomark(b:Expr){op:CmpOp}(h:op≠.In:=by decide)(h2:op≠.NotIn:=by decide):behindInMarks op b=false:=by
 have e1:(op==CmpOp.In)=false:=by cases op<;>first | rfl | exact absurd rfl h
 have e2:(op==CmpOp.NotIn)=false:=by cases op<;>first | rfl | exact absurd rfl h2
 cases b<;>simp[behindInMarks,e1,e2]
theorem Yo{op:CmpOp}{r:R2}(ho:OpR X (compareOp op) r)(ha:PE X a ta)(hb:PE X b tb)(hm:behindInMarks op b=false):PE X (.Compare a [op] [b] pos) (tOp r ta tb):=by
 intro pins s σ H Q I h;exact wpAny_Compare1 (binT ha hb I h fun v u s2 x y H2 I2 rx ry q=>ho pins s2 σ H2 x y v u Q I2 rx ry q) hm
def tTest(t:TE):TT:=fun σ H Q=>t σ H fun x H'=>∃k,x = .bl k/\Q k H'
theorem jh{op:CmpOp}{r:R2}(ho:OpR X (compareOp op) r)(ha:PE X a ta)(hb:PE X b tb)(hm:behindInMarks op b=false):PT X (.Compare a [op] [b] pos) (tTest (tOp r ta tb)):=by
 intro pins s σ H Q I h;refine wpAny_isTrue_Compare1 (thn (ha pins s σ H _ I h) fun v s1 ⟨x,H1,I1,r1,q1⟩=>thn (hb pins s1 σ H1 _ I1 q1) fun u s2 ⟨y,H2,I2,r2,q2⟩=>
  thn (ho pins s2 σ H2 x y v u _ I2 r1 r2 q2) fun c s3 ⟨z,H3,I3,r3,k,e,q3⟩=>?_) hm
 subst e;cases r3;exact wpAny_truthy_bool ⟨H3,I3,q3⟩
def tChain(r r':R2)(ta tb tc:TE):TE:=fun σ H Q=>ta σ H fun x H1=>tb σ H1 fun y H2=>r x y H2 fun z H3=>∃k,z = .bl k/\
 (if k=true then tc σ H3 fun w' H4=>r' y w' H4 Q else Q (.bl false) H3)
theorem xH{op op':CmpOp}{r r':R2}(ho:OpR X (compareOp op) r)(ho':OpR X (compareOp op') r')(ha:PE X a ta)(hb:PE X b tb)(hc:PE X c tc)
  (hm:lastMarks [op,op'] [b,c]=false:=by with_unfolding_all rfl):PE X (.Compare a [op,op'] [b,c] pos) (tChain r r' ta tb tc):=by
 intro pins s σ H Q I h;refine Compare_chain (thn (ha pins s σ H _ I h) fun v s1 ⟨x,H1,I1,r1,q1⟩=>chain_link (thn (hb pins s1 σ H1 _ I1 q1) fun u s2 ⟨y,H2,I2,r2,q2⟩=>
  thn (ho pins s2 σ H2 x y v u _ I2 r1 r2 q2) fun d s3 ⟨z,H3,I3,r3,k,e,q3⟩=>?_)) hm
 subst e;cases r3;refine wpAny_truthy_bool ?_;cases k with
 | false=>exact ite_ff ⟨.bl false,H3,I3,rfl,q3⟩
 | true=>exact ite_tt (chain_last (thn (hc pins s3 σ H3 _ I3 q3) fun w' s4 ⟨z',H4,I4,r4,q4⟩=>ho' pins s4 σ H4 y z' u w' Q I4 r2 r4 q4))
theorem Ze{op op':CmpOp}{r r':R2}(ho:OpR X (compareOp op) r)(ho':OpR X (compareOp op') r')(ha:PE X a ta)(hb:PE X b tb)(hc:PE X c tc)
  (hm:lastMarks [op,op'] [b,c]=false:=by with_unfolding_all rfl):PT X (.Compare a [op,op'] [b,c] pos) (tTest (tChain r r' ta tb tc)):=by
 intro pins s σ H Q I h;refine isTrue_chain (thn (ha pins s σ H _ I h) fun v s1 ⟨x,H1,I1,r1,q1⟩=>test_link (thn (hb pins s1 σ H1 _ I1 q1) fun u s2 ⟨y,H2,I2,r2,q2⟩=>
  thn (ho pins s2 σ H2 x y v u _ I2 r1 r2 q2) fun d s3 ⟨z,H3,I3,r3,k,e,q3⟩=>?_)) hm
 subst e;cases r3;refine wpAny_truthy_bool ?_;cases k with
 | false=>
  obtain⟨k',e',q'⟩:=q3;cases e';exact ite_ff ⟨H3,I3,q'⟩
 | true=>
  refine ite_tt (test_last (thn (hc pins s3 σ H3 _ I3 q3) fun w' s4 ⟨z',H4,I4,r4,q4⟩=>thn (ho' pins s4 σ H4 y z' u w' _ I4 r2 r4 q4) fun d' s5 ⟨z2,H5,I5,r5,k2,e2,q5⟩=>?_));subst e2;cases r5;exact wpAny_truthy_bool ⟨H5,I5,q5⟩
theorem line63:(sizeLine:Nat)<2^63:=by rw[sizeLine_eq];decide
theorem jK:OpR X (binaryOp .Add) (fun x y H Q=>∃i j,x = .str i/\y = .str j/\i.length+j.length<=sizeLine/\Q (.str (i++j)) H):=by
 intro pins s σ H x y v u Q I rx ry h;obtain⟨i,j,rfl,rfl,hz,q⟩:=h;obtain⟨t,rfl⟩:=rx;obtain⟨t',rfl⟩:=ry;exact add_str (fun t' tk=>⟨.str (i++j),H,I.tok _,⟨_,rfl⟩,q⟩) hz
theorem vals1{x:V}{us:List Value}(r:Vals [x] us):∃u,us=[u]/\RelV x u:=by
 cases r with
 | cons r1 r2=>cases r2;exact⟨_,rfl,r1⟩
theorem vals2{x y:V}{us:List Value}(r:Vals [x,y] us):∃u w',us=[u,w']/\RelV x u/\RelV y w':=by
 cases r with
 | cons r1 r2=>
  cases r2 with
  | cons r3 r4=>cases r4;exact⟨_,_,rfl,r1,r3⟩
theorem j0R(hc:X.calm=true):CallR X (.builtin "max") (fun xs H Q=>∃i j,xs=[.int i,.int j]/\Q (.int (if j>i then j else i)) H):=by
 intro pins s σ H xs us Q I r h;obtain⟨i,j,rfl,q⟩:=h;obtain⟨u,w',rfl,⟨t,rfl⟩,⟨t',rfl⟩⟩:=vals2 r;refine max_two_ints (I.ok.hd hc) fun h' tk k=>⟨_,H,I.kept k,?_,q⟩
 by_cases hj:j>i
 ·rw[if_pos hj,if_pos hj];exact⟨_,rfl⟩
 ·rw[if_neg hj,if_neg hj];exact⟨_,rfl⟩
theorem K0(hc:X.calm=true):CallR X (.builtin "min") (fun xs H Q=>∃i j,xs=[.int i,.int j]/\Q (.int (if j<i then j else i)) H):=by
 intro pins s σ H xs us Q I r h;obtain⟨i,j,rfl,q⟩:=h;obtain⟨u,w',rfl,⟨t,rfl⟩,⟨t',rfl⟩⟩:=vals2 r;refine min_two_ints (I.ok.hd hc) fun h' tk k=>⟨_,H,I.kept k,?_,q⟩
 by_cases hj:j<i
 ·rw[if_pos hj,if_pos hj];exact⟨_,rfl⟩
 ·rw[if_neg hj,if_neg hj];exact⟨_,rfl⟩
theorem j0Q:CallR X (.type "int") (fun xs H Q=>(∃i,xs=[.int i]/\Q (.int i) H)\/∃k,xs=[.bl k]/\Q (.int (if k then 1 else 0)) H):=by
 intro pins s σ H xs us Q I r h;rcases h with⟨i,rfl,q⟩ | ⟨k,rfl,q⟩
 ·obtain⟨u,rfl,t,rfl⟩:=vals1 r;exact call_int_int ⟨.int i,H,I,⟨_,rfl⟩,q⟩
 ·obtain⟨u,rfl,r1⟩:=vals1 r;cases r1;exact call_int_bool ⟨.int (if k then 1 else 0),H,I.tok _,⟨_,rfl⟩,q⟩
def LenV(K:Frg)(x:V)(H:Hp)(n:Nat):Prop:=
 match x with
 | .str y=>y.length<=sizeLine/\n=y.length
 | .byt y=>y.size<=sizeLine/\n=y.size
 | .ref p=>(∃xs,SqL K H p xs/\n=xs.length)\/∃xs,SqT K H p xs/\n=xs.length
 | _=>False
theorem jA:CallR X (.builtin "len") (fun xs H Q=>∃x n,xs=[x]/\LenV X.K x H n/\Q (.int n) H):=by
 intro pins s σ H xs us Q I r h;obtain⟨x,n,rfl,e,q⟩:=h;obtain⟨u,rfl,rx⟩:=vals1 r;have hl:=line63;have hs:sizeLine=16777216:=sizeLine_eq;cases x with
 | str y=>
  obtain⟨t,rfl⟩:=rx;obtain⟨hy,e'⟩:y.length<=sizeLine/\n=y.length:=e;subst e';exact len_str (by omega) ⟨.int _,H,I.tok _,⟨_,rfl⟩,q⟩
 | byt y=>
  obtain⟨t,rfl⟩:=rx;obtain⟨hy,e'⟩:y.size<=sizeLine/\n=y.size:=e;subst e';exact PySem.W.len_bytes (by omega) ⟨.int _,H,I.tok _,⟨_,rfl⟩,q⟩
 | ref p=>
  cases rx;have e':(∃xs,SqL X.K H p xs/\n=xs.length)\/∃xs,SqT X.K H p xs/\n=xs.length:=e;rcases e' with⟨xs,hx,e'⟩ | ⟨xs,hx,e'⟩
  ·subst e';obtain⟨its,r',pl,hz⟩:=I.list hx;have hlen:=r'.length;exact Calls.call_len_list pl.isList (by simp only[size_toArray];omega) ⟨.int xs.length,H,I.tok _,⟨_,by simp only[size_toArray];rw[hlen]⟩,q⟩
  ·subst e';obtain⟨its,r',pl,hz⟩:=I.tuple hx;have hlen:=r'.length;exact len_tuple pl (by simp only[size_toArray];omega) ⟨.int xs.length,H,I.tok _,⟨_,by simp only[size_toArray];rw[hlen]⟩,q⟩
 | _=>exact(show False from e).elim
end
structure ObjM(h:Heap)(x dx C:Addr)(mA:Str->Option Value):Prop where
 obj:h.get? x=some (PySem.W.instObj C dx)
 ns:h.Ns1 dx mA
 ne:dx≠x
theorem j19{h:Heap}{dx:Addr}{mA:Str->Option Value}(n:h.Ns1 dx mA):∃od,h.get? dx=some od/\∀name,PySem.W.lookIn name od=some (mA name):=by
 obtain⟨o,es,ep,ho,hd,hk,_,hm⟩:=n;refine⟨o,ho,fun name=>?_⟩;have e:=hm name;unfold nsFind findBy at e;rw[<-Array.find?_toList]at e;unfold PySem.W.lookIn;rw[hd];dsimp only;split
 ·rename_i y q;rw[q]at e;exact congrArg some e
 ·rename_i q;rw[q]at e;have a:es.toList.any (·.refKey)=false:=by
   rw[List.any_eq_false];intro y hy;obtain⟨z,t,hkey⟩:=hk y (Array.mem_toList_iff.mp hy);simp[DictEntry.refKey,hkey]
  have a':¬es.toList.any (·.refKey)=true:=by rw[a];exact Bool.false_ne_true
  rw[if_neg a'];exact congrArg some e
theorem ObjM.look{h:Heap}{x dx C:Addr}{mA:Str->Option Value}(I:ObjM h x dx C mA):∃od,PySem.W.InstAt h x (PySem.W.instObj C dx) C (some od)/\∀name,PySem.W.lookIn name od=some (mA name):=
 let ⟨od,ho,hl⟩:=j19 I.ns
 ⟨od,⟨I.obj,rfl,rfl,ho⟩,hl⟩
section
variable{prog:Program}{w:World}{A:Around}{E:Value->Shared->Prop}{s:Shared}{K:Frg}{x dx C f:Addr}{mA:Str->Option Value}{name:Str}{v:Value}
end
noncomputable def putF(f:Str)(v:V):List (Str×V)->List (Str×V)
 | []=>[(f,v)]
 | (g,x)::r=>if g=f then(g,v)::r else(g,x)::putF f v r
theorem kb(f g:Str)(v:V):∀fs:List (Str×V),(putF f v fs).lookup g=if g=f then some v else fs.lookup g
 | []=>by
  show List.lookup g [(f,v)]=_;by_cases h:g=f
  ·have hb:(g==f)=true:=beq_iff_eq.mpr h;simp only[List.lookup,hb,if_pos h]
  ·have hb:(g==f)=false:=beq_eq_false_iff_ne.mpr h;simp only[List.lookup,hb,if_neg h]
 | (k,x)::r=>by
  have ih:=kb f g v r;rw[show putF f v ((k,x)::r)=(if k=f then(k,v)::r else(k,x)::putF f v r)from rfl];by_cases hk:k=f
  ·rw[if_pos hk];by_cases h:g=k
   ·have hb:(g==k)=true:=beq_iff_eq.mpr h;simp only[List.lookup,hb,if_pos (h.trans hk)]
   ·have hb:(g==k)=false:=beq_eq_false_iff_ne.mpr h;simp only[List.lookup,hb,if_neg (fun e:g=f=>h (e.trans hk.symm))]
  ·rw[if_neg hk];by_cases h:g=k
   ·have hb:(g==k)=true:=beq_iff_eq.mpr h;simp only[List.lookup,hb,if_neg (fun e:g=f=>hk (h.symm.trans e))]
   ·have hb:(g==k)=false:=beq_eq_false_iff_ne.mpr h;simp only[List.lookup,hb];exact ih
theorem RelO.some_of{v:V}{o:Option Value}(r:RelO (some v) o):∃u,o=some u/\RelV v u:=by
 cases o with
 | none=>exact(show False from r).elim
 | some u=>exact⟨u,rfl,r⟩
section
variable{P:Program}{w:World}{H H':Hp}{h h':Heap}{a C dx:Addr}{fs fs':List (Str×V)}
theorem j39(hok:HOk P w H h)(e:H a=some (.ins C dx fs)):∃mA,ObjM h a dx C mA/\(∀f,RelO (fs.lookup f) (mA f))/\PySem.Within mA (fs.map (·.1))/\fs.length<=1000/\H dx=some (.own a):=by
 obtain⟨d,z,ne,ob,mA,n,r,q⟩:=(show ObjOk P w H h a (.ins C dx fs)from hok a _ e)
 exact⟨mA,⟨ob,n,ne⟩,r,q,z,d⟩
end
structure Cls(K:Frg)(C:Addr):Prop where
 pg:PySem.W.plainGet K C Str.empty=true
 hd:PySem.W.hasDictIn K C=true
 po:PySem.W.plainOver K C=true
 sa:PySem.W.findIn K (.ref C) "__setattr__"= some (some (.builtin "object.__setattr__"))
theorem Cls.get{K:Frg}{C:Addr}(c:Cls K C)(f:Str):PySem.W.plainGet K C f=true:=c.pg
structure Meth(K:Frg)(C:Addr)(m:Str)(f:Addr):Prop where
 at_:PySem.W.findIn K (.ref C) m=some (some (.ref f))
 fn:PySem.W.isFn K (.ref f)=true
 kp:PySem.W.keepIn K (.ref f)=true
section
variable{X:Cx}{pins:List (Addr×Obj)}{σ:St}{H:Hp}{s:Shared}{a C dx:Addr}{fs:List (Str×V)}{f:Str}{v:V}{A:Around}{E:Value->Shared->Prop}
theorem j2V{prog:Program}{w:World}{env:Env}{e:Expr}{f:Str}{pos:Pos}{s:Shared}{Q:Value->Shared->Prop}(hb:attributeBase e f env (eval e env)=eval e env)
  (h:wpAny (model prog w) A (eval e env) (fun o s₁=>wpAny (model prog w) A (getAttr o f true) Q E s₁) E s):wpAny (model prog w) A (eval (.Attribute e f pos) env) Q E s:=
 Attribute_any_ h (by rw[arm_eval_Attribute,hb])
end
section
variable{X:Cx}{o e value:Expr}{f:Str}{pos pos' tpos:Pos}{ta tv:TE}
end
section
variable{X:Cx}{pins:List (Addr×Obj)}{σ:St}{H:Hp}{s:Shared}{A:Around}{E:Value->Shared->Prop}{Q:Value->Shared->Prop}{c:Value}{b:Bool}
inductive TyOf(K:Frg)(H:Hp):V->Value->Prop where
 | non:TyOf K H .non (.type "NoneType")
 | bl (x:Bool):TyOf K H (.bl x) (.type "bool")
 | int (i:Int):TyOf K H (.int i) (.type "int")
 | str (x:Str):TyOf K H (.str x) (.type "str")
 | flt (x:UInt64):TyOf K H (.flt x) (.type "float")
 | lst {a:Addr} {xs:List V} (e:H a=some (.lst xs)):TyOf K H (.ref a) (.type "list")
 | frz {a:Addr} {o:Obj} {xs:List V} (e:H a=some (.frz o (.lst xs))):TyOf K H (.ref a) (.type "list")
 | tup {a:Addr} {xs:List V} (e:H a=some (.tup xs)):TyOf K H (.ref a) (.type "tuple")
 | dK {a:Addr} {kvs:List (Key×V)} (e:H a=some (.dK kvs)):TyOf K H (.ref a) (.type "dict")
 | dT {a:Addr} {kvs:List (List Key×V)} (e:H a=some (.dT kvs)):TyOf K H (.ref a) (.type "dict")
 | ins {a C dx:Addr} {fs:List (Str×V)} (e:H a=some (.ins C dx fs)) (cl:Cls K C) (ha:PySem.W.findIn K (.ref C) "__class__"= some (some (.builtin "object.__class__")))
   (hn:PySem.W.specialIn K (.builtin "object.__class__") "__get__"= some (some (.builtin "getset_descriptor.__get__"))) (htk:PySem.W.takesIn K (.builtin "object.__class__")=some true)
   (hm:PySem.W.mroIn K C (.type "object")=some true):TyOf K H (.ref a) (.ref C)
theorem j15{x:V}{u t:Value}(I:Inv X pins σ H s)(rx:RelV x u)(ty:TyOf X.K H x t)(e:PySem.W.kitOne X.K t c=some b)(h:∀tk,Q (.bool b) {s with toks:=tk}) :
  wpAny (model X.prog X.w) A (call (.builtin "isinstance") [u,c]) Q E s:=by
 cases ty with
 | non=>cases(show u=Value.none from rx);exact PySem.W.kia_one PySem.W.kitx_none I.kIn True.intro e (fun z=>nomatch z) h
 | bl y=>cases(show u=Value.bool y from rx);exact PySem.W.kia_one PySem.W.kitx_bool I.kIn True.intro e (fun z=>nomatch z) h
 | int i=>obtain⟨t,q⟩:=(show∃t,u=Value.int i t from rx);cases q;exact PySem.W.kia_one PySem.W.kitx_int I.kIn True.intro e (fun z=>nomatch z) h
 | str y=>obtain⟨t,q⟩:=(show∃t,u=Value.str y t from rx);cases q;exact PySem.W.kia_one PySem.W.kitx_str I.kIn True.intro e (fun z=>nomatch z) h
 | flt y=>obtain⟨t,q⟩:=(show∃t,u=Value.float y t from rx);cases q;exact PySem.W.kia_one PySem.W.kitx_float I.kIn True.intro e (fun z=>nomatch z) h
 | @lst a xs ea=>
  cases(show u=Value.ref a from rx);obtain⟨_,_,n,_,h1⟩:=(show ObjOk X.prog X.w H s.heap a (.lst xs)from I.hok a _ ea)
  exact PySem.W.kia_one PySem.W.kitx_list I.kIn ⟨_,h1,rfl⟩ e (fun z=>nomatch z) h
 | @frz a ob xs ea=>
  cases(show u=Value.ref a from rx);obtain⟨_,_,_,n,_,h1⟩:=(show ObjOk X.prog X.w H s.heap a (.frz ob (.lst xs))from I.hok a _ ea)
  exact PySem.W.kia_one PySem.W.kitx_list I.kIn ⟨_,h1,rfl⟩ e (fun z=>nomatch z) h
 | @tup a xs ea=>
  cases(show u=Value.ref a from rx);obtain⟨_,_,_,p⟩:=(show ObjOk X.prog X.w H s.heap a (.tup xs)from I.hok a _ ea)
  obtain⟨o,h1,h2,_⟩:=p;exact PySem.W.kia_one PySem.W.kitx_tuple I.kIn ⟨o,h1,h2⟩ e (fun z=>nomatch z) h
 | @dK a kvs ea=>
  cases(show u=Value.ref a from rx);obtain⟨_,_,vs,_,p⟩:=(show ObjOk X.prog X.w H s.heap a (.dK kvs)from I.hok a _ ea)
  obtain⟨o,es,ep,h1,h2,_⟩:=p;exact PySem.W.kia_one PySem.W.kitx_dict I.kIn ⟨o,h1,h2.1⟩ e (fun z=>nomatch z) h
 | @dT a kvs ea=>
  cases(show u=Value.ref a from rx);obtain⟨_,_,xs,_,o,es,ep,h1,h2,_⟩:=(show ObjOk X.prog X.w H s.heap a (.dT kvs)from I.hok a _ ea)
  exact PySem.W.kia_one PySem.W.kitx_dict I.kIn ⟨o,h1,h2.1⟩ e (fun z=>nomatch z) h
 | @ins a C dx fs ea cl ha hn htk hm=>
  cases(show u=Value.ref a from rx);obtain⟨mA,O,_⟩:=j39 I.hok ea;obtain⟨od,J,_⟩:=O.look;exact PySem.W.kia_one (PySem.W.kitx_own (cl.get _) cl.hd ha hn htk hm) I.kIn J e (fun z=>nomatch z) h
end
structure Room(k:Nat)(A:Around):Prop where
 hd:A.handled=none
 dp:A.depth+3*k+5<recursionLimit
 un:A.units+16*k+200<cLine
theorem Room.mono{j k:Nat}{A:Around}(r:Room k A)(h:j<=k):Room j A:=⟨r.hd,by have:=r.dp;omega,by have:=r.un;omega⟩
theorem Room.deeper{k:Nat}{A:Around}(r:Room (k+1) A)(env:Env):Room k (A.deeper env):=
 ⟨r.hd,by have:=r.dp;show A.depth+1+3*k+5<_;omega,by have:=r.un;show A.units+3+16*k+200<_;omega⟩
theorem Xz{A:Around}{C:Addr}{us:List Value}{kw:List (Str×Value)}:(A.under (.builtin "type.__call__" ⟨.ref C::us,kw⟩)).depth=A.depth+1:=by
 first | rfl | simp[Around.under,Code.weight,Code.isCreation,Code.isGuard,Code.isCaller,Code.frames,Code.isFrame,guardIds]
theorem XA{A:Around}{C:Addr}{us:List Value}{kw:List (Str×Value)}:(A.under (.builtin "type.__call__" ⟨.ref C::us,kw⟩)).units=A.units+1:=by
 first | rfl | simp[Around.under,Code.cUnits,Code.frames,Code.isFrame]
theorem Room.make{k:Nat}{A:Around}(r:Room (k+1) A)(C:Addr)(us:List Value)(kw:List (Str×Value)):Room k (A.under (.builtin "type.__call__" ⟨.ref C::us,kw⟩)):=
 ⟨r.hd,by have:=r.dp;rw[Xz];omega,by have:=r.un;rw[XA];omega⟩
theorem Room.depth{k:Nat}{A:Around}(r:Room k A):A.depth<recursionLimit:=by have:=r.dp;omega
theorem Room.units{k:Nat}{A:Around}(r:Room k A):A.units+64<cLine:=by have:=r.un;omega
def tNil:TA:=fun _ H Q=>Q [] H
def tCons(ta:TE)(tr:TA):TA:=fun σ H Q=>ta σ H fun x H1=>tr σ H1 fun xs H2=>Q (x::xs) H2
section
variable{X:Cx}{e:Expr}{es:List Expr}{te:TE}{t:TA}{pos:Pos}
theorem je:PA X [] tNil:=fun _ _ _ _ H Q I h=>Calls.spliced_nil ⟨[],H,I,.nil,h⟩
theorem jc(ha:PE X e te)(hr:PA X es t)(hs:starEach (e::es) X.env=(false,eval e X.env)::starEach es X.env:=by rfl):PA X (e::es) (tCons te t):=by
 intro pos pins s σ H Q I h;rw[hs];show wpAny _ _ (spliced ((false,eval e X.env)::backTo pos (starEach es X.env))) _ _ s;refine Calls.spliced_cons (thn (ha pins s σ H _ I h) fun u s1 ⟨x,H1,I1,r1,q1⟩=>?_);exact thn (hr pos pins s1 σ H1 _ I1 q1) fun us s2 ⟨xs,H2,I2,r2,q2⟩=>⟨x::xs,H2,I2,.cons r1 r2,q2⟩
def tTup(t:TA):TE:=fun σ H Q=>t σ H fun xs H1=>xs.length<=sizeLine/\∀p,H1 p=none->Q (.ref p) (upd H1 p (.tup xs))
def tLst(t:TA):TE:=fun σ H Q=>t σ H fun xs H1=>xs.length<=sizeLine/\∀p,H1 p=none->Q (.ref p) (upd H1 p (.lst xs))
theorem Je{x1}(h:PA X es t):PE X (.Tuple es x1 pos) (tTup t):=by
 intro pins s σ H Q I hq;refine wpAny_Tuple_spliced (thn (h pos pins s σ H _ I hq) fun us s1 ⟨xs,H1,I1,r,z,q⟩=>⟨by rw[<-r.length];exact z,?_⟩);have hf:H1 s1.heap.objs.size=none:=I1.hok.fresh (Nat.le_refl _);refine⟨.ref s1.heap.objs.size,upd H1 s1.heap.objs.size (.tup xs),I1.laid (t':=s1.toks) (fun b u e=>Heap.get?_push_of_some _ e) (Nat.le_refl _) ?_,rfl,q _ hf⟩;exact⟨z,us,r,⟨_,Heap.get?_push_size _ rfl,rfl,_,rfl⟩⟩
theorem jZ(h:PA X es t):PE X (.List es pos) (tLst t):=by
 intro pins s σ H Q I hq;refine wpAny_List_spliced (thn (h pos pins s σ H _ I hq) fun us s1 ⟨xs,H1,I1,r,z,q⟩=>⟨by rw[<-r.length];exact z,?_⟩);have hf:H1 s1.heap.objs.size=none:=I1.hok.fresh (Nat.le_refl _);refine⟨.ref s1.heap.objs.size,upd H1 s1.heap.objs.size (.lst xs),I1.laid (t':=s1.toks) (fun b u e=>Heap.get?_push_of_some _ e) (Nat.le_refl _) ?_,rfl,q _ hf⟩;exact⟨z,us,0,r,Heap.get?_push_size _ rfl⟩
end
noncomputable abbrev Sp:=List V->Hp->VK->XK->Prop
noncomputable abbrev CXT:=List Env->Hp->Shared->XK->Value->Shared->Prop
structure Env0(P:Program)(w:World)(K:Frg)(mg:Str->Option Value)(base:Heap)(A:Around)(outer:List Env)(s:Shared)(H:Hp):Prop where
 frames:A.frames=some outer
 mod:Mod K mg base
 bs:∀b o,base.get? b=some o->s.heap.get? b=some o/\H b=none
 bsz:base.objs.size<=s.heap.objs.size
 funs:s.heap.FunFrames base outer
 frf:∀b∈frs outer,H b=none
 hok:HOk P w H s.heap
 bare:AllBare s.gens
def CE(outer:List Env)(P:Program)(w:World)(H:Hp)(s:Shared)(Q:VK)(u:Value)(s':Shared):Prop:=
 ∃v H',s'.os=s.os/\AllBare s'.gens/\Un (frs outer) [] H H' s.heap s'.heap/\HOk P w H' s'.heap/\RelV v u/\Q v H'
def CR(CX:CXT)(outer:List Env)(P:Program)(w:World)(H:Hp)(s:Shared)(Q:VK)(E:XK)(r:Result)(s':Shared):Prop:=
 match r with
 | .ok (.ret u)=>CE outer P w H s Q u s'
 | .ok _=>False
 | .error e=>CX outer H s E e s'
structure FnOk(P:Program)(w:World)(K:Frg)(mg:Str->Option Value)(base:Heap)(CX:CXT)(k:Nat)(f:Addr)(fd:FuncData)(ps:List Str)(sp:Sp):Prop where
 len:∀vs H Q E,sp vs H Q E->vs.length=ps.length
 run:∀(A:Around) (outer:List Env) (s:Shared) (H:Hp) (args:Args) (us:List Value) (vs:List V) (Q:VK) (E:XK),Room k A->Env0 P w K mg base A outer s H->BindsTo s fd args (ps.zip us)->Vals vs us->sp vs H Q E->
  codeAny (model P w) A (.call (.ref f) args) (CR CX outer P w H s Q E) s
theorem FnOk.mono{P:Program}{w:World}{K:Frg}{mg:Str->Option Value}{base:Heap}{CX:CXT}{j k:Nat}{f:Addr}{fd:FuncData}{ps:List Str}{sp:Sp}(F:FnOk P w K mg base CX j f fd ps sp)(h:j<=k) :
  FnOk P w K mg base CX k f fd ps sp:=⟨F.len,fun A outer s H args us vs Q E hr=>F.run A outer s H args us vs Q E (hr.mono h)⟩
theorem Env0.make{P:Program}{w:World}{K:Frg}{mg:Str->Option Value}{base:Heap}{A:Around}{outer:List Env}{s:Shared}{H:Hp}(e:Env0 P w K mg base A outer s H)(C:Addr)(us:List Value)(kw:List (Str×Value)) :
  Env0 P w K mg base (A.under (.builtin "type.__call__" ⟨.ref C::us,kw⟩)) outer s H:=⟨by first | exact e.frames | (simpa [Around.under,Code.envs,Code.isFrame,pushEnvs]using e.frames),e.mod,e.bs,e.bsz,e.funs,e.frf,e.hok,e.bare⟩
section
variable{X:Cx}{pins:List (Addr×Obj)}{σ:St}{H:Hp}{s s':Shared}
theorem Inv.env0(I:Inv X pins σ H s):Env0 X.prog X.w X.K X.mg X.base X.A X.stack s H:=
 ⟨I.ok.frames,I.ok.mod,I.bs,Nat.le_trans I.ok.bsz I.sz,I.stack,I.stkFree,I.hok,I.bare⟩
theorem Inv.after{Q:VK}{u:Value}(I:Inv X pins σ H s)(h:CE X.stack X.prog X.w H s Q u s'):EP X pins σ Q u s':=by
 obtain⟨v,H',os,bare,un,hok,r,q⟩:=h;obtain⟨hh,g,d,t,os'⟩:=s';obtain rfl:os'=s.os:=os;exact⟨v,H',I.call (h':=hh) (g':=g) (d':=d) (t':=t) (ch:=[]) un hok bare (fun b z=>absurd z (by simp)),r,q⟩
end
def tCall(sp:Sp)(dvs:List V)(E:XK)(t:TA):TE:=fun σ H Q=>t σ H fun vs H1=>sp (vs++dvs) H1 Q E
def Binds(K:Frg)(fd:FuncData)(ps:List Str)(ds:List Value):Prop:=
 ∀(s:Shared) (us:List Value),K.In s.heap->(us++ds).length=ps.length->BindsTo s fd ⟨us,[]⟩ (ps.zip (us++ds))
theorem Binds.all{K:Frg}{fd:FuncData}{ps:List Str}(h:∀us:List Value,us.length=ps.length->bindArgs fd ⟨us,[]⟩=pure (ps.zip us)):Binds K fd ps []:=fun s us _ hl=>by
 rw[append_nil]at hl|-;exact .of_eq (h us hl)
def Passes(CX:CXT)(X:Cx)(E:XK):Prop:=∀(pins:List (Addr×Obj)) (σ:St) (H:Hp) (s:Shared) (e:Value) (s':Shared),Inv X pins σ H s->CX X.stack H s E e s'->X.xe e s'
section
variable{X:Cx}{CX:CXT}{k:Nat}{f C:Addr}{fd:FuncData}{ps:List Str}{sp:Sp}{dvs:List V}{ds:List Value}{E:XK}{x m:Str}{p pos apos:Pos}{e o:Expr}{es:List Expr}{ta:TE}{t:TA}
theorem j4M{pins:List (Addr×Obj)}{σ:St}{H:Hp}{s:Shared}{Q:VK}{us:List Value}{vs:List V}(F:FnOk X.prog X.w X.K X.mg X.base CX k f fd ps sp)(hr:Room k X.A)(hb:Binds X.K fd ps ds)(hd:Vals dvs ds)(hx:Passes CX X E)
  (I:Inv X pins σ H s) (r:Vals vs us) (h:sp (vs++dvs) H Q E):wpAny (model X.prog X.w) X.A (call (.ref f) us) (EP X pins σ Q) X.xe s:=by
 have r2:Vals (vs++dvs) (us++ds):=r.append hd;have hl:(us++ds).length=ps.length:=by rw[<-r2.length];exact F.len _ _ _ _ h
 refine wpAny_call (codeAny_mono (F.run X.A X.stack s H ⟨us,[]⟩ (us++ds) (vs++dvs) Q E hr I.env0 (hb s us I.kIn hl) r2 h) fun r s' hq=>?_);cases r with
 | error e=>exact hx pins σ H s e s' I hq
 | ok fl=>
  cases fl with
  | ret u=>exact I.after hq
  | next=>exact False.elim hq
  | brk=>exact False.elim hq
  | cont=>exact False.elim hq
theorem ju(F:FnOk X.prog X.w X.K X.mg X.base CX k f fd ps sp)(hr:Room k X.A)(hg:Gl X x)(hm:X.mg x=some (.ref f))(hk:PySem.W.keepIn X.K (.ref f)=true)(hb:Binds X.K fd ps ds)(hd:Vals dvs ds)(hx:Passes CX X E)
  (ha:PA X (e::es) t) (hdb:(x==("__debug__" : Str))=false:=by decide) (he:starEach (e::es) X.env=(false,eval e X.env)::starEach es X.env:=by rfl) (hpl:(backTo pos (starEach es X.env)).any (·.1)=false:=by rfl) :
  PE X (.Call (.Name x p) (e::es) [] pos) (tCall sp dvs E t):=by
 intro pins s σ H Q I h;refine wpAny_Call_Name_kw (yg I hg hm ?_ hdb);refine PySem.W.callWith_K (h₀:=X.base) I.ok.mod.kin hk (thn (ha pos pins s σ H _ I h) fun us s1 ⟨vs,H1,I1,r,q⟩=>⟨I1.kIn,?_⟩) he hpl;exact j4M F hr hb hd hx I1 r q
end
section
variable{X:Cx}{CX:CXT}{k:Nat}{f C:Addr}{fd:FuncData}{ps ks:List Str}{sp:Sp}{E:XK}{x m:Str}{p pos apos kpos:Pos}{e o:Expr}{es:List Expr}{kws:List Keyword}{te ta:TE}{t tk:TA}{nm:Option Str}
variable{g:List Value->List Value->List Value}{gV:List V->List V->List V}
end
structure FnScope(N P:List Str)(sc:Scope):Prop where
 kind:sc.kind = .function
 co:sc.isCoroutine=false
 gen:sc.isGenerator=false
 nd:N.Nodup
 pre:N.take P.length=P
 par:∀x∈P,sc.names.lookup x=some .local\/sc.names.lookup x=some .cell
 nofree:∀y∈sc.names,y.2≠.free
theorem KS{kindOf:Str->Option NameKind}{x:Str}:∀{binds:List (Str×Value)} {m:Str->Option Value},(∀v,(x,v)∉binds)->bindL kindOf binds m x=m x
 | [],_,_=>rfl
 | (n,v)::r,m,h=>by
  unfold bindL;rw[KS fun w hw=>h w (mem_cons_of_mem _ hw)];split
  ·have:x≠n:=by rintro rfl;exact h v mem_cons_self
   simp[this]
  ·rfl
theorem KQ{kindOf:Str->Option NameKind}{x:Str}:∀{binds:List (Str×Value)} {m:Str->Option Value},(∀v,(x,v)∉binds)->bindC kindOf binds m x=m x
 | [],_,_=>rfl
 | (n,v)::r,m,h=>by
  unfold bindC;rw[KQ fun w hw=>h w (mem_cons_of_mem _ hw)];split
  ·rfl
  ·have:x≠n:=by rintro rfl;exact h v mem_cons_self
   simp[this]
theorem KR{kindOf:Str->Option NameKind}{x:Str}{v:Value}:∀{P:List Str} {vs:List Value} {i:Nat} {m:Str->Option Value},P.Nodup->P[i]?=some x->vs[i]?=some v->kindOf x=some .local->
  bindL kindOf (P.zip vs) m x=some v
 | [],_,_,_,_,h,_,_=>by simp at h
 | _::_,[],_,_,_,_,h,_=>by simp at h
 | p::P,w::vs,0,m,nd,h1,h2,hk=>by
  simp at h1 h2;subst h1;subst h2;show bindL kindOf ((p,w)::P.zip vs) m p=_;unfold bindL;rw[KS fun v hv=>(nodup_cons.mp nd).1 (of_mem_zip hv).1,if_pos hk];simp
 | p::P,w::vs,i+1,m,nd,h1,h2,hk=>by
  show bindL kindOf ((p,w)::P.zip vs) m x=_;unfold bindL;exact KR (i:=i) (nodup_cons.mp nd).2 (by simpa using h1) (by simpa using h2) hk
theorem KP{kindOf:Str->Option NameKind}{x:Str}{v:Value}:∀{P:List Str} {vs:List Value} {i:Nat} {m:Str->Option Value},P.Nodup->P[i]?=some x->vs[i]?=some v->kindOf x≠some .local->
  bindC kindOf (P.zip vs) m x=some v
 | [],_,_,_,_,h,_,_=>by simp at h
 | _::_,[],_,_,_,_,h,_=>by simp at h
 | p::P,w::vs,0,m,nd,h1,h2,hk=>by
  simp at h1 h2;subst h1;subst h2;show bindC kindOf ((p,w)::P.zip vs) m p=_;unfold bindC;rw[KQ fun v hv=>(nodup_cons.mp nd).1 (of_mem_zip hv).1,if_neg hk];simp
 | p::P,w::vs,i+1,m,nd,h1,h2,hk=>by
  show bindC kindOf ((p,w)::P.zip vs) m x=_;unfold bindC;exact KP (i:=i) (nodup_cons.mp nd).2 (by simpa using h1) (by simpa using h2) hk
noncomputable def start(N:List Str)(vs:List V):St:=vs.map some++List.replicate (N.length-vs.length) none
noncomputable def cxOf(CX:CXT)(P:Program)(w:World)(K:Frg)(mg:Str->Option Value)(base:Heap)(N:List Str)(qual:Str)(scope:Scope)(f:Addr)(cd:Value)(A:Around)(outer:List Env)(s:Shared)(H:Hp)(E:XK):Cx where
 prog:=P
 w:=w
 K:=K
 mg:=mg
 base:=base
 A:=A.deeper (envOfC qual scope s.heap.objs.size f cd)
 N:=N
 s₀:=s
 H₀:=H
 env:=envOfC qual scope s.heap.objs.size f cd
 outer:=outer
 stack:=envOfC qual scope s.heap.objs.size f cd::outer
 ex:=[]
 calm:=true
 fn:=fun _=>true
 pn:=[]
 xe:=fun e s'=>wpAny (model P w) (A.deeper (envOfC qual scope s.heap.objs.size f cd)) (leaving (envOfC qual scope s.heap.objs.size f cd) e) (fun _ s''=>CX outer H s E e s'') (fun e' s''=>CX outer H s E e' s'') s'
theorem WV{sc:Scope}{n:Nat}{x:Str}(h:sc.names.lookup x=some .cell):∃c,(cellsFrom n sc.names []).lookup x=some c:=by
 have q:=PySem.W.cellsFrom_some sc.names n [] (.inl h);exact Option.isSome_iff_exists.mp q
theorem wa{CX:CXT}{P:Program}{w:World}{K:Frg}{mg:Str->Option Value}{base:Heap}{N ps:List Str}{qual:Str}{scope:Scope}{f:Addr}{cd:Value}{A:Around}{outer:List Env}{s s1:Shared}{H:Hp}{E:XK}{us:List Value}{vs:List V}
  (S:FnScope N ps scope) (hd:A.handled=none) (e0:Env0 P w K mg base A outer s H) (hl:vs.length=ps.length) (r:Vals vs us)
  (x:InCallC s s.heap.objs.size (bindL (envOfC qual scope s.heap.objs.size f cd).kindOf (ps.zip us) fun _=>none) (cellsFrom (s.heap.objs.size+1) scope.names []) (bindC (envOfC qual scope s.heap.objs.size f cd).kindOf (ps.zip us) fun _=>none) s1) :
  Inv (cxOf CX P w K mg base N qual scope f cd A outer s H E) [] (start N vs) H s1:=by
 have hpl:ps.length<=N.length:=by have:=congrArg List.length S.pre;rw[length_take]at this;omega
 obtain⟨h1,tk,rfl,hk⟩:=x.done;have noA:∀b:Addr,b∉(cxOf CX P w K mg base N qual scope f cd A outer s H E).ex:=fun b z=>absurd (show b∈([]:List Addr)from z) (by simp)
 refine⟨⟨e0.mod,S.kind,rfl,rfl,Nat.le_refl _,fun y z c h1 h2=>?_,fun y hy=>?_,fun y c _ h=>?_,fun _=>hd,Around.frames_deeper e0.frames,.inr ⟨rfl,rfl⟩,fun b z=>absurd z (noA b),e0.bs,e0.bsz,fun b _ _=>noA b,fun b z=>absurd z (noA b),e0.funs,e0.frf⟩,
  rfl,e0.bare,Un.kept hk,⟨_,x.toInCall.ns,fun i y v h1 h2 h3=>?_⟩,fun y c h=>⟨_,x.cell y c h⟩,e0.hok.fresh (Nat.le_refl _),fun y c h=>?_,fun p hp=>absurd (show p∈([]:List (Addr×Obj))from hp) (by simp),e0.hok.kept hk,?_⟩
 ·exact name_of_addr x.apart (PySem.mem_of_lookup h1) (PySem.mem_of_lookup h2)
 ·have hy:scope.names.lookup y=some .cell\/scope.names.lookup y=some .free:=hy;rcases hy with hy | hy
  ·exact WV hy
  ·exact absurd rfl (S.nofree _ (PySem.mem_of_lookup hy))
 ·exact Nat.le_of_lt (x.above y c (PySem.mem_of_lookup h))
 ·have hi:i<vs.length:=by
   unfold start at h2;by_cases hi:i<vs.length
   ·exact hi
   ·rw[List.getElem?_append_right (by simpa using hi)]at h2;rw[List.getElem?_replicate]at h2;split at h2<;>cases h2
  have ha:vs[i]?=some v:=by
   unfold start at h2;rw[List.getElem?_append_left (by simpa using hi),List.getElem?_map]at h2;cases e:vs[i]? with
   | none=>rw[e]at h2;cases h2
   | some a=>rw[e]at h2;cases h2;rfl
  obtain⟨u,hu,rv⟩:=r.get ha;have hp:ps[i]?=some y:=by
   rw[<-S.pre,List.getElem?_take_of_lt (by omega)];exact h1
  have ndP:ps.Nodup:=by rw[<-S.pre];exact S.nd.sublist (List.take_sublist _ _)
  refine⟨u,rv,?_⟩;rcases S.par y (mem_of_getElem? hp)with k | k
  ·exact .inl ⟨k,KR ndP hp hu k⟩
  ·obtain⟨c,e⟩:=WV (n:=s.heap.objs.size+1) k;refine .inr ⟨.inl k,c,e,?_⟩;have q:=x.cell y c e;rw[KP ndP hp hu (by show scope.names.lookup y≠_;rw[k];decide)]at q;exact q
 ·exact e0.hok.fresh (Nat.le_of_lt (x.above y c (PySem.mem_of_lookup h)))
 ·unfold start;show _=N.length;rw[List.length_append,length_map,List.length_replicate];omega
theorem j42{CX:CXT}{P:Program}{w:World}{K:Frg}{mg:Str->Option Value}{base:Heap}{k:Nat}{f:Addr}{name qual:Str}{params:Arguments}{body:List Stmt}{scope:Scope}{dV kV doc pm cdv ct oc:Value}{an od:Option Addr}
  {osl:Array (Option Value)} {N ps:List Str} {sp:Sp} (lk:K.lookup f=some ⟨oc,od,.func (PySem.W.fnOf name qual params body scope dV kV doc pm an cdv ct),osl⟩) (hcd:PySem.W.codeIn K cdv qual=true) (S:FnScope N ps scope)
  (len:∀vs H Q E,sp vs H Q E->vs.length=ps.length)
  (hbody:∀(A:Around) (outer:List Env) (s:Shared) (H:Hp) (vs:List V) (Q:VK) (E:XK),Room k (A.deeper (envOfC qual scope s.heap.objs.size f cdv))->sp vs H Q E->
   ∃t,PSs (cxOf CX P w K mg base N qual scope f cdv A outer s H E) body t/\t {nx:=fun _ H'=>Q .non H',rt:=Q} (start N vs) H) :
  FnOk P w K mg base CX (k+1) f (PySem.W.fnOf name qual params body scope dV kV doc pm an cdv ct) ps sp:=by
 refine⟨len,fun A outer s H args us vs Q E hr e0 hb r hsp=>?_⟩;have hl:=len _ _ _ _ hsp;have KX:K.In s.heap:=e0.mod.kin.keeps fun b o e=>(e0.bs b o e).1
 have lim:s.heap.NoLimit:=e0.mod.nolimit.keeps fun b o e=>(e0.bs b o e).1
 have hkind:∀y∈ps.zip us,scope.names.lookup y.1=some .local\/(scope.names.lookup y.1=some .cell/\((cellsFrom (s.heap.objs.size+1) scope.names []).lookup y.1).isSome=true):=fun⟨n,v⟩ hy=>by
  rcases S.par n (of_mem_zip hy).1 with q | q
  ·exact .inl q
  ·exact .inr ⟨q,PySem.W.cellsFrom_some _ _ _ (.inl q)⟩
 refine codeAny_call_function hr.depth (KX _ _ lk) rfl S.co S.gen rfl (PySem.W.codeRec_of KX hcd) (hb _ _ _ _ ?_);refine wpAny_newFunctionEnv_cells S.kind hkind fun env he s1 x=>?_
 subst he;refine⟨lim.keeps x.toInCall.keep,codeAny_func ?_⟩;obtain⟨t,ht,hq⟩:=hbody A outer s H vs Q E (hr.deeper _) hsp;have I:Inv (cxOf CX P w K mg base N qual scope f cdv A outer s H E) [] (start N vs) H s1:=wa S hr.hd e0 hl r x;refine wpAny_mono (ht [] s1 (start N vs) H _ I hq) (fun fl s' hs=>?_) fun e s' hs=>hs
 have fin:∀{σ':St} {H':Hp} {v:V} {u:Value},Inv (cxOf CX P w K mg base N qual scope f cdv A outer s H E) [] σ' H' s'->RelV v u->Q v H'->CE outer P w H s Q u s':=
  fun {σ' H' v u} J rv q=>⟨v,H',J.os,J.bare,J.base,J.hok,rv,q⟩
 cases fl with
 | ret u=>
  obtain⟨v,σ',H',J,rv,q⟩:=hs;exact fin J rv q
 | next=>
  obtain⟨σ',H',J,q⟩:=hs;exact fin (v:=V.non) (u:=Value.none) J rfl q
 | brk=>
  obtain⟨_,_,_,q⟩:=hs;exact False.elim q
 | cont=>
  obtain⟨_,_,_,q⟩:=hs;exact False.elim q
section
variable{X:Cx}{x:Str}{p pos:Pos}{e:Expr}{es:List Expr}{t:TA}{id T:String}{r:List V->Hp->VK->Prop}
def tCB(r:List V->Hp->VK->Prop)(t:TA):TE:=fun σ H Q=>t σ H fun vs H1=>r vs H1 Q
theorem jx(hc:CallR X (.builtin id) r)(hg:Gl X x)(hm:X.mg x=none)(hv:bootBuiltins x=some (.builtin id))(ha:PA X (e::es) t)(hn:x≠"__name__":=by decide)(hdb:(x==("__debug__" : Str))=false:=by decide)
  (he:starEach (e::es) X.env=(false,eval e X.env)::starEach es X.env:=by rfl) (hpl:(backTo pos (starEach es X.env)).any (·.1)=false:=by rfl):PE X (.Call (.Name x p) (e::es) [] pos) (tCB r t):=by
 intro pins s σ H Q I h;refine wpAny_Call_Name_kw (QF I hg hm hv ?_ hn hdb);exact PyProof.Rows.callWith_builtin1 (thn (ha pos pins s σ H _ I h) fun us s1 ⟨vs,H1,I1,r1,q1⟩=>hc pins s1 σ H1 vs us Q I1 r1 q1) he hpl
theorem JC(hc:CallR X (.type T) r)(hg:Gl X x)(hm:X.mg x=none)(hv:bootBuiltins x=some (.type T))(ha:PA X (e::es) t)(hn:x≠"__name__":=by decide)(hdb:(x==("__debug__" : Str))=false:=by decide)
  (he:starEach (e::es) X.env=(false,eval e X.env)::starEach es X.env:=by rfl) (hpl:(backTo pos (starEach es X.env)).any (·.1)=false:=by rfl):PE X (.Call (.Name x p) (e::es) [] pos) (tCB r t):=by
 intro pins s σ H Q I h;refine wpAny_Call_Name_kw (QF I hg hm hv ?_ hn hdb);exact PyProof.Rows.callWith_type1 (thn (ha pos pins s σ H _ I h) fun us s1 ⟨vs,H1,I1,r1,q1⟩=>hc pins s1 σ H1 vs us Q I1 r1 q1) he hpl
end
end L2
namespace HT
open PySem PyProof.Rows
section
open PySem.SeqAt
open PySem.AutoSeq1 (wpAny_loadPart')
open PySem.MeetsSeq PySem.MeetsSeq2 PySem.MeetsSeq3
end
section
variable{prog:Program}{w:World}{A:Around}{E:Value->Shared->Prop}{s:Shared}
theorem j2X{t b:Addr}{vs ws:List Value}{Q:Value->Shared->Prop}(ht:IsTup s.heap t vs.toArray)(hb:IsTup s.heap b ws.toArray)(hv:vs≠[])
  (h1:ws=[]->Q (.ref t) s) (h2:ws≠[]->Q (.ref s.heap.objs.size) {s with heap:=s.heap.push {cls:=.type "tuple",data:=.seq (vs++ws).toArray}})
  (hsz:vs.length+ws.length<=sizeLine):wpAny (model prog w) A (binaryOp .Add (.ref t) (.ref b)) Q E s:=by
 obtain⟨⟨cls,dd,data,sl⟩,ho,hc,n,hd⟩:=id ht;obtain⟨⟨cls2,dd2,data2,sl2⟩,ho2,hc2,n2,hd2⟩:=id hb;simp only at hc hd hc2 hd2;subst hc hd hc2 hd2;have e:vs.toArray++ws.toArray=(vs++ws).toArray:=by simp
 by_cases hw:ws=[]
 ·exact concat_meets ⟨_,ho,rfl⟩ ⟨_,ho2,rfl⟩ noFill_tuple_add seq_tuple_add PySem.F.slot_tuple_add PySem.F.entry_tuple_add (PySem.F.args_tuple_add_2 _ _)
   (tuple_addW1 t b vs.toArray ws.toArray n n2 dd dd2 sl sl2 (by simpa using hv) (by simp[hw])) ⟨ho,ho2,h1 hw⟩
 ·refine concat_meets ⟨_,ho,rfl⟩ ⟨_,ho2,rfl⟩ noFill_tuple_add seq_tuple_add PySem.F.slot_tuple_add PySem.F.entry_tuple_add (PySem.F.args_tuple_add_2 _ _)
   (tuple_addW2 t b vs.toArray ws.toArray n n2 dd dd2 sl sl2 (by simpa using hv) (by simpa using hw) (by rw[size_toArray,size_toArray];exact hsz)) ⟨ho,ho2,?_⟩
  rw[e];exact h2 hw
noncomputable def sIx(n d:Nat):Option Int->Nat
 | none=>d
 | some v=>if v<0 then(v+(n:Int)).toNat else min v.toNat n
theorem zJ(n d k:Nat):sIx n d (some (k:Int))=min k n:=by
 show(if(k:Int)<0 then((k:Int)+(n:Int)).toNat else min (k:Int).toNat n)=min k n;rw[if_neg (by omega),Int.toNat_natCast]
theorem j4N(n d:Nat)(hd:d<=n)(o:Option Int):sIx n d o<=n:=by
 cases o with
 | none=>exact hd
 | some v=>
  show(if v<0 then(v+(n:Int)).toNat else min v.toNat n)<=n;by_cases hv:v<0
  ·rw[if_pos hv];omega
  ·rw[if_neg hv];exact Nat.min_le_right _ _
theorem j0a(v:Int)(n d:Nat):(if v<0 then max (v+(n:Int)) 0 else min v (n:Int))=((sIx n d (some v):Nat):Int):=by
 show(if v<0 then max (v+(n:Int)) 0 else min v (n:Int))=(((if v<0 then(v+(n:Int)).toNat else min v.toNat n):Nat):Int)
 by_cases hv:v<0
 ·simp only[if_pos hv];omega
 ·simp only[if_neg hv];omega
theorem Xb(lo hi:Option Int)(n:Nat):Builtin.Slice.sliceAdjust lo hi 1 (n:Int)=(((sIx n 0 lo:Nat):Int),((sIx n n hi:Nat):Int)):=by
 have h1:¬((1:Int)<0):=by omega
 unfold Builtin.Slice.sliceAdjust;simp only[h1,if_false];refine Prod.ext ?_ ?_
 ·cases lo with
  | none=>rfl
  | some v=>exact j0a v n 0
 ·cases hi with
  | none=>rfl
  | some v=>exact j0a v n n
theorem X1(i j:Nat):Builtin.Slice.slicePlaces (i:Int) (j:Int) 1=j-i:=by
 unfold Builtin.Slice.slicePlaces;have h1:(1:Int)>0:=by omega
 simp only[h1,if_true,Int.ediv_one];split<;>omega
theorem slicePart_{v:Value}{o:Option Int}{Q:Option Int->Shared->Prop}(p:IsPart v o)(h:Q o s):wpAny (model prog w) A (Builtin.Slice.slicePartIndex v) Q E s:=by
 cases p with
 | none=>exact slicePart_none h
 | int i t=>exact slicePart_int h
theorem Y1{sl:Addr}{vl vu:Value}{lo hi:Option Int}{n:Nat}{Q:Int×Int×Nat->Shared->Prop}(hs:s.heap.IsSliceOf sl vl vu .none)(pl:IsPart vl lo)(pu:IsPart vu hi)
  (h:Q (((sIx n 0 lo:Nat):Int),1,sIx n n hi-sIx n 0 lo) s):wpAny (model prog w) A (Builtin.Slice.sliceApplied (.ref sl) (pure (n:Int))) Q E s:=by
 obtain⟨os,hos,hcs,hds⟩:=id hs;unfold Builtin.Slice.sliceApplied Builtin.Slice.sliceFields;refine wpAny_bind (wpAny_bind (wpAny_field hos hds (x:=vl) rfl (wpAny_bind (wpAny_field hos hds (x:=vu) rfl (wpAny_bind (wpAny_field hos hds (x:=.none) rfl (wpAny_pure ?_)))))));refine wpAny_bind (slicePart_none ?_);show wpAny _ _ (if((1:Int)==0)=true then _ else _) _ _ s;rw[if_neg (by decide)];refine wpAny_bind (slicePart_ pl (wpAny_bind (slicePart_ pu (wpAny_bind (wpAny_pure ?_)))));show wpAny _ _ (match Builtin.Slice.sliceAdjust lo hi 1 (n:Int)with | (lo,hi)=>pure (lo,(1:Int),Builtin.Slice.slicePlaces lo hi 1)) _ _ s;rw[Xb lo hi n];show wpAny _ _ (pure (((sIx n 0 lo:Nat):Int),(1:Int),Builtin.Slice.slicePlaces ((sIx n 0 lo:Nat):Int) ((sIx n n hi:Nat):Int) 1)) _ _ s;rw[X1];exact wpAny_pure h
theorem j2p(xs:Array Value)(i k:Nat):((List.range k).filterMap fun(m:Nat)=>xs[((i:Int)+(m:Int)*1).toNat]?).toArray=((xs.toList.drop i).take k).toArray:=by
 have e:(fun(m:Nat)=>xs[((i:Int)+(m:Int)*1).toNat]?)=fun m=>xs[i+m]?:=by
  funext m;have:((i:Int)+(m:Int)*1).toNat=i+m:=by omega
  rw[this]
 rw[e];have:=pick_run xs i k;rw[List.filterMap_map]at this;have e2:((fun x=>xs[x]?)∘fun x=>i+x)=fun m=>xs[i+m]?:=rfl
 rw[e2]at this;rw[this]
theorem Ye{t sl:Addr}{items:Array Value}{vl vu:Value}{lo hi:Option Int}{Q:Value->Shared->Prop}(ht:IsTup s.heap t items)(hs:s.heap.IsSliceOf sl vl vu .none)(pl:IsPart vl lo)(pu:IsPart vu hi)
  (hw:¬(sIx items.size 0 lo=0/\sIx items.size items.size hi=items.size))
  (h:Q (.ref s.heap.objs.size) {s with heap:=s.heap.push {cls:=.type "tuple",data:=.seq ((items.toList.drop (sIx items.size 0 lo)).take (sIx items.size items.size hi-sIx items.size 0 lo)).toArray}})
  (hsz:items.size<=sizeLine):wpAny (model prog w) A (getItem (.ref t) (.ref sl)) Q E s:=by
 have htake:sizeOk (.seq ((items.toList.drop (sIx items.size 0 lo)).take (sIx items.size items.size hi-sIx items.size 0 lo)).toArray):=by
  show((items.toList.drop (sIx items.size 0 lo)).take (sIx items.size items.size hi-sIx items.size 0 lo)).toArray.size<=sizeLine;rw[size_toArray,length_take,length_drop,Array.length_toList];omega
 have hj:sIx items.size items.size hi<=items.size:=j4N _ _ (Nat.le_refl _) hi;obtain⟨os,hos,hcs,hds⟩:=id hs;have hTs:s.TypeIs (.ref sl) "slice":=⟨os,hos,hcs⟩
 unfold getItem
 try with_reducible refine wpAny_holding ?_
 first | refine wpAny_bind (wpAny_pure ?_) | skip
 refine wpAny_bind (wpAny_sequenceKey ht.typeIs (by decide) ?_);refine wpAny_bind (wpAny_callSpecial?_slot (name:=Str.ofString "__getitem__") ht.typeIs PyProof.Rows.slot_tuple_getitem
  (wpAny_call_entry PyProof.Rows.slot_tuple_getitem ht.typeIs entry_tuple_getitem ?_ (args_tuple_getitem _ _)))
 show wpAny _ _ (Builtin.Tuple.tupleItemsOf (.ref t) >>= _) _ _ s;refine wpAny_bind (tupleItemsOf_ ht ?_);refine wpAny_bind (wpAny_typeOf hTs ?_);rw[if_pos (by decide)];refine wpAny_bind (Y1 hs pl pu ?_);have hno:¬((((sIx items.size 0 lo:Nat):Int)==0&&(1:Int)==1&&(sIx items.size items.size hi-sIx items.size 0 lo)==items.size)=true):=by
  intro q;rw[Bool.and_eq_true,Bool.and_eq_true]at q;have q1:((sIx items.size 0 lo:Nat):Int)=0:=eq_of_beq q.1.1;have q2:sIx items.size items.size hi-sIx items.size 0 lo=items.size:=eq_of_beq q.2;exact hw ⟨by omega,by omega⟩
 show wpAny _ _ (if(((sIx items.size 0 lo:Nat):Int)==0&&(1:Int)==1&&(sIx items.size items.size hi-sIx items.size 0 lo)==items.size)=true then _ else _) _ _ s;rw[if_neg hno,j2p]
 first
  | exact wpAny_bind (m:=Builtin.Tuple.tupleExact _) (wpAny_newObj_type (wpAny_pure ⟨_,rfl,wpAny_pure h⟩) htake)
  | exact wpAny_bind (m:=Builtin.Tuple.tupleExact _) (wpAny_newObj_type (wpAny_bind (wpAny_pure (wpAny_pure ⟨_,rfl,wpAny_pure h⟩))) htake)
  | exact wpAny_bind (wpAny_bind (m:=Builtin.Tuple.tupleExact _) (wpAny_newObj_type (wpAny_pure (wpAny_pure ⟨_,rfl,wpAny_pure h⟩)) htake))
  | exact wpAny_bind (wpAny_bind (m:=Builtin.Tuple.tupleExact _) (wpAny_newObj_type (wpAny_pure ⟨_,rfl,wpAny_pure h⟩) htake))
end
end HT
namespace L2
open PySem PySem.Spec PyProof.Rows
noncomputable abbrev TO:=St->Hp->(Option Int->Hp->Prop)->Prop
def PO(X:Cx)(e:Option Expr)(t:TO):Prop:=
 ∀(pins:List (Addr×Obj)) (s:Shared) (σ:St) (H:Hp) (Q:Option Int->Hp->Prop),Inv X pins σ H s->t σ H Q->
  wpAny (model X.prog X.w) X.A (evalPart e X.env) (fun u s'=>∃o H',Inv X pins σ H' s'/\IsPart u o/\Q o H') X.xe s
def tNoPart:TO:=fun _ H Q=>Q none H
def tPart(t:TE):TO:=fun σ H Q=>t σ H fun x H1=>∃i,x = .int i/\Q (some i) H1
theorem intsAre_of{ns:List Int}:∀{us:List Value},Vals (ns.map V.int) us->IntsAre us ns:=by
 induction ns with
 | nil=>intro us r;rw[map_nil]at r;cases r;exact .nil
 | cons n ns ih=>
  intro us r;rw[map_cons]at r;cases r with
  | cons r1 r2=>
   obtain⟨t,e⟩:=r1;subst e;exact .cons n t (ih r2)
section
variable{X:Cx}{e:Expr}{te:TE}{lo hi:Option Expr}{tl th:TO}{pos p2:Pos}
theorem j6:PO X none tNoPart:=by
 intro pins s σ H Q I h;rw[evalPart_none];exact wpAny_pure ⟨none,H,I,.none,h⟩
theorem jM(h:PE X e te):PO X (some e) (tPart te):=by
 intro pins s σ H Q I hw;rw[evalPart_some];refine thn (h pins s σ H _ I hw) fun u s1 ⟨x,H1,I1,r1,q1⟩=>?_
 obtain⟨i,rfl,q⟩:=q1;obtain⟨t,rfl⟩:=r1;exact⟨some i,H1,I1,.int i t,q⟩
def SlR(X:Cx)(r:V->Option Int->Option Int->Hp->VK->Prop):Prop:=
 ∀(pins:List (Addr×Obj)) (s:Shared) (σ:St) (H:Hp) (x:V) (v vl vu:Value) (lo hi:Option Int) (sl:Addr) (Q:VK),Inv X pins σ H s->RelV x v->s.heap.IsSliceOf sl vl vu .none->IsPart vl lo->IsPart vu hi->r x lo hi H Q->
  ∃T id,typeLookup (.type T) "__getitem__"= pure (some (.builtin id))/\s.TypeIs v T/\wpAny (model X.prog X.w) X.A (getItem v (.ref sl)) (EP X pins σ Q) X.xe s
def tSl(r:V->Option Int->Option Int->Hp->VK->Prop)(te:TE)(tl th:TO):TE:=fun σ H Q=>te σ H fun x H1=>tl σ H1 fun l H2=>th σ H2 fun u H3=>r x l u H3 Q
theorem jO{r:V->Option Int->Option Int->Hp->VK->Prop}(hr:SlR X r)(he:PE X e te)(hl:PO X lo tl)(hu:PO X hi th):PE X (.Subscript e (.Slice lo hi none p2) pos) (tSl r te tl th):=by
 intro pins s σ H Q I h;refine Subscript_ (thn (he pins s σ H _ I h) fun v s1 ⟨x,H1,I1,r1,q1⟩=>?_);refine wpAny_Slice (thn (hl pins s1 σ H1 _ I1 q1) fun vl s2 ⟨l,H2,I2,pl,q2⟩=>thn (hu pins s2 σ H2 _ I2 q2) fun vu s3 ⟨u,H3,I3,pu,q3⟩=>?_);rw[evalPart_none];refine wpAny_pure ?_;have I4:Inv X pins σ H3 {s3 with heap:=s3.heap.push {cls:=.type "slice",data:=.fields #[vl,vu,.none]}}:=I3.kept (t':=s3.toks) fun b ob q=>Heap.get?_push_of_some _ q
 obtain⟨T,id,hT,ht,hg⟩:=hr pins {s3 with heap:=s3.heap.push {cls:=.type "slice",data:=.fields #[vl,vu,.none]}} σ H3 x v vl vu l u s3.heap.objs.size Q I4 r1 (Heap.IsSliceOf.new ..) pl pu q3;show wpAny (model X.prog X.w) X.A (subscriptTail e (.Slice lo hi none p2) v (.ref s3.heap.objs.size)) (EP X pins σ Q) X.xe {s3 with heap:=s3.heap.push {cls:=.type "slice",data:=.fields #[vl,vu,.none]}};exact tail_any (ops:=[.ref s3.heap.objs.size,v]) ht hT hg (by with_unfolding_all rfl)
noncomputable def cutV(xs:List V)(lo hi:Option Int):List V:=(xs.drop (HT.sIx xs.length 0 lo)).take (HT.sIx xs.length xs.length hi-HT.sIx xs.length 0 lo)
theorem ka(xs:List V)(lo hi:Option Int):(cutV xs lo hi).length<=xs.length:=by
 unfold cutV;rw[length_take,length_drop];omega
noncomputable def rSlT(K:Frg):V->Option Int->Option Int->Hp->VK->Prop:=fun x lo hi H Q=>∃a xs,x = .ref a/\SqT K H a xs/\
 ¬(HT.sIx xs.length 0 lo=0/\HT.sIx xs.length xs.length hi=xs.length)/\∀p,H p=none->Q (.ref p) (upd H p (.tup (cutV xs lo hi)))
theorem j4O:SlR X (rSlT X.K):=by
 intro pins s σ H x v vl vu lo hi sl Q I rx hs pl pu h;obtain⟨a,xs,rfl,hx,hw,q⟩:=h;cases rx;obtain⟨its,r,ht,hz⟩:=I.tuple hx;have hlen:its.toArray.size=xs.length:=by rw[size_toArray];exact r.length.symm
 refine⟨"tuple",_,PyProof.Rows.slot_tuple_getitem.lookup,ht.typeIs,?_⟩;refine HT.Ye ht hs pl pu (by rw[hlen];exact hw) ?_ (by rw[hlen];exact hz);rw[hlen];refine⟨.ref s.heap.objs.size,_,I.laid (t':=s.toks) (o:=.tup (cutV xs lo hi)) (fun b ob q=>Heap.get?_push_of_some _ q) (Nat.le_refl _) ?_,rfl,q _ (I.hok.fresh (Nat.le_refl _))⟩;exact⟨Nat.le_trans (ka xs lo hi) hz,_,(r.drop (HT.sIx xs.length 0 lo)).take (HT.sIx xs.length xs.length hi-HT.sIx xs.length 0 lo),IsTup.new _ _⟩
def rCatT(K:Frg):R2:=fun x y H Q=>∃a b xs ys,x = .ref a/\y = .ref b/\SqT K H a xs/\SqT K H b ys/\xs≠[]/\xs.length+ys.length<=sizeLine/\
 (ys=[]->Q (.ref a) H)/\(ys≠[]->∀p,H p=none->Q (.ref p) (upd H p (.tup (xs++ys))))
theorem Vals.nil_iff{xs:List V}{us:List Value}(r:Vals xs us):us=[]↔xs=[]:=by
 cases r with
 | nil=>simp
 | cons _ _=>simp
theorem j3t:OpR X (binaryOp .Add) (rCatT X.K):=by
 intro pins s σ H x y v u Q I rx ry h;obtain⟨a,b,xs,ys,rfl,rfl,ha,hb,hx,hz,q1,q2⟩:=h;cases rx;cases ry;obtain⟨its,r1,p1,_⟩:=I.tuple ha;obtain⟨its2,r2,p2,_⟩:=I.tuple hb;refine HT.j2X p1 p2 (fun z=>hx (r1.nil_iff.mp z)) (fun z=>⟨.ref a,H,I,rfl,q1 (r2.nil_iff.mp z)⟩) (fun z=>?_) (by rw[<-r1.length,<-r2.length];exact hz);refine⟨.ref s.heap.objs.size,_,I.laid (t':=s.toks) (o:=.tup (xs++ys)) (fun b ob q=>Heap.get?_push_of_some _ q) (Nat.le_refl _) ?_,rfl,q2 (fun w=>z (r2.nil_iff.mpr w)) _ (I.hok.fresh (Nat.le_refl _))⟩;exact⟨by rw[List.length_append];exact hz,_,r1.append r2,IsTup.new _ _⟩
end
noncomputable def ixN(n:Nat)(i:Int):Option Nat:=if 0<=i then(if i<n then some i.toNat else none)else if -(n:Int)<=i then some (i+n).toNat else none
noncomputable def atI{α:Type}(xs:List α)(i:Int):Option α:=(ixN xs.length i).bind fun j=>xs[j]?
theorem j0u{n:Nat}{i:Int}{j:Nat}(h:ixN n i=some j):seqIndex? i n=some j/\j<n/\-(n:Int)<=i/\i<n:=by
 unfold ixN at h;by_cases h0:0<=i
 ·rw[if_pos h0]at h;by_cases h1:i<n
  ·rw[if_pos h1]at h;have e:i.toNat=j:=Option.some.inj h;exact⟨by rw[seqIndex_of h0 h1,e],by omega,by omega,h1⟩
  ·rw[if_neg h1]at h;cases h
 ·rw[if_neg h0]at h;by_cases h1 : -(n:Int)<=i
  ·rw[if_pos h1]at h;have e:(i+n).toNat=j:=Option.some.inj h;exact⟨by rw[seqIndex_neg (by omega) h1,e],by omega,h1,by omega⟩
  ·rw[if_neg h1]at h;cases h
theorem wI{α:Type}{xs:List α}{i:Int}{v:α}(h:atI xs i=some v):∃j,seqIndex? i xs.length=some j/\xs[j]?=some v/\j<xs.length/\-(xs.length:Int)<=i/\i<xs.length:=by
 unfold atI at h;cases e:ixN xs.length i with
 | none=>rw[e]at h;cases h
 | some j=>
  rw[e]at h;obtain⟨h1,h2,h3,h4⟩:=j0u e;exact⟨j,h1,h,h2,h3,h4⟩
theorem jB{α:Type}{xs:List α}{j:Nat}{v:α}(h:xs[j]?=some v):atI xs (j:Int)=some v:=by
 have hj:j<xs.length:=(List.getElem?_eq_some_iff.mp h).1;have e:ixN xs.length (j:Int)=some j:=by
  unfold ixN;rw[if_pos (by omega),if_pos (by omega)];simp
 unfold atI;rw[e];exact h
def PlainIx(b:Expr):Prop:=∀o i,subscripted b false o i=operate [o,i] (getItem o i)
def IxR(X:Cx)(r:R2):Prop:=
 ∀(value slice:Expr) (pins:List (Addr×Obj)) (s:Shared) (σ:St) (H:Hp) (x y:V) (v u:Value) (Q:VK),Inv X pins σ H s->RelV x v->RelV y u->r x y H Q->
  subscripted slice false v u=operate [v,u] (getItem v u)->wpAny (model X.prog X.w) X.A (subscriptTail value slice v u) (EP X pins σ Q) X.xe s
def MtR(X:Cx)(id:String)(r:V->List V->Hp->VK->Prop):Prop:=
 ∀(pins:List (Addr×Obj)) (s:Shared) (σ:St) (H:Hp) (x:V) (xs:List V) (v:Value) (us:List Value) (Q:VK),Inv X pins σ H s->RelV x v->Vals xs us->r x xs H Q->
  wpAny (model X.prog X.w) X.A (call (.builtin id) (v::us)) (EP X pins σ Q) X.xe s
section
variable{X:Cx}{a b:Expr}{ta tb:TE}{pos:Pos}
theorem jv{r:R2}(hr:IxR X r)(ha:PE X a ta)(hb:PE X b tb)(hs:PlainIx b:=by exact fun _ _=>rfl):PE X (.Subscript a b pos) (tOp r ta tb):=by
 intro pins s σ H Q I h;exact Subscript_ (binT ha hb I h fun v u s2 x y H2 I2 rx ry q=>hr a b pins s2 σ H2 x y v u Q I2 rx ry q (hs _ _))
def rIxL(K:Frg):R2:=fun x y H Q=>∃p xs i v,x = .ref p/\y = .int i/\SqL K H p xs/\atI xs i=some v/\Q v H
def rIxT(K:Frg):R2:=fun x y H Q=>∃p xs i v,x = .ref p/\y = .int i/\SqT K H p xs/\atI xs i=some v/\Q v H
def rIxS:R2:=fun x y H Q=>∃z i c,x = .str z/\y = .int i/\z.length<=sizeLine/\atI z.cps.toList i=some c/\Q (.str ⟨#[c]⟩) H
theorem jj:IxR X (rIxL X.K):=by
 intro value slice pins s σ H x y v u Q I rx ry h hs;obtain⟨p,xs,i,z,rfl,rfl,hq,he,q⟩:=h;cases rx;obtain⟨t,rfl⟩:=ry;obtain⟨its,r,pl,hz⟩:=I.list hq;obtain⟨j,h1,h2,h3,h4,h5⟩:=wI he;obtain⟨w,ew,rw'⟩:=r.get h2;have hl:=r.length;have hn:=line63;have fin:EP X pins σ Q w s:=⟨z,H,I,rw',q⟩
 by_cases h0:0<=i
 ·have hj:i.toNat=j:=by
   rw[seqIndex_of h0 h5]at h1;exact Option.some.inj h1
  exact item_listR pl.isList h0 (by omega) (by rw[hj];simpa using ew) fin hs
 ·have hj:(i+(its.toArray.size:Int)).toNat=j:=by
   rw[seqIndex_neg (by omega) h4]at h1;rw[size_toArray,<-hl];exact Option.some.inj h1
  exact subscriptTail_builtinR (x:=w) pl.isList.typeIs slot_list_getitem.lookup
   (wpAny_getItem_list_neg (Q:=fun r s'=>r=w/\EP X pins σ Q r s') pl.isList (by omega) (by rw[size_toArray]<;>omega) (by omega) (by rw[hj];simpa using ew) ⟨rfl,fin⟩) hs
theorem Zq:IxR X (rIxT X.K):=by
 intro value slice pins s σ H x y v u Q I rx ry h hs;obtain⟨p,xs,i,z,rfl,rfl,hq,he,q⟩:=h;cases rx;obtain⟨t,rfl⟩:=ry;obtain⟨its,r,pl,hz⟩:=I.tuple hq;obtain⟨j,h1,h2,h3,h4,h5⟩:=wI he;obtain⟨w,ew,rw'⟩:=r.get h2;have hl:=r.length;have hn:=line63;have fin:EP X pins σ Q w s:=⟨z,H,I,rw',q⟩
 exact subscriptTail_builtinR (x:=w) pl.typeIs slot_tuple_getitem.lookup
  (getItem_tuple (j:=j) (Q:=fun r s'=>r=w/\EP X pins σ Q r s') pl (by omega) (by omega) (by rw[size_toArray,<-hl];exact h1) (by simpa using ew) ⟨rfl,fin⟩) hs
theorem ZX:IxR X rIxS:=by
 intro value slice pins s σ H x y v u Q I rx ry h hs;obtain⟨z,i,c,rfl,rfl,hz,he,q⟩:=h;obtain⟨t,rfl⟩:=rx;obtain⟨t',rfl⟩:=ry;obtain⟨j,h1,h2,h3,h4,h5⟩:=wI he;have hl:z.cps.toList.length=z.length:=by simp[Str.length]
 rw[hl]at h1 h4 h5;have hn:=line63;exact tail_any (typeIs_str s z t) slot_str_getitem.lookup (getItem_str (c:=c) (by
  have e1:decide (i < -(2^63:Int))=false:=decide_eq_false (by omega);have e2:decide (i>=2^63)=false:=decide_eq_false (by omega);rw[e1,e2,Bool.or_false]) (by rw[h1];simpa using h2) ⟨.str ⟨#[c]⟩,H,I.tok _,⟨_,rfl⟩,q⟩) hs
theorem XB(its:List Value)(n j:Nat)(u:Value):Obj.mapSeq (·.setIfInBounds j u) {cls:=.type "list",data:=.seq its.toArray n}={cls:=.type "list",data:=.seq (its.set j u).toArray n}:=by
 simp[Obj.mapSeq]
theorem Inv.lst{pins:List (Addr×Obj)}{σ:St}{H:Hp}{s:Shared}{p:Addr}{xs:List V}(I:Inv X pins σ H s)(h:H p=some (.lst xs)) :
  ∃(its:List Value) (n:Nat),Vals xs its/\s.heap.get? p=some {cls:=.type "list",data:=.seq its.toArray n}/\xs.length<=sizeLine:=by
 obtain⟨z,its,n,r,e⟩:=I.hok p _ h;exact⟨its,n,r,e,z⟩
theorem Inv.lstUpd{pins:List (Addr×Obj)}{σ:St}{H:Hp}{s:Shared}{p:Addr}{xs ys:List V}{its its':List Value}{n n':Nat}{f:Obj->Obj}(I:Inv X pins σ H s)(h:H p=some (.lst xs))
  (ho:s.heap.get? p=some {cls:=.type "list",data:=.seq its.toArray n}) (hf:f {cls:=.type "list",data:=.seq its.toArray n}={cls:=.type "list",data:=.seq its'.toArray n'}) (r:Vals ys its') (hz:ys.length<=sizeLine) (t:Nat) :
  Inv X pins σ (upd H p (.lst ys)) {s with heap:=s.heap.update p f,toks:=t}:=by
 have e:(s.heap.update p f).get? p=some {cls:=.type "list",data:=.seq its'.toArray n'}:=by
  rw[Heap.get?_update_self f ho (by rw[hf]<;>rfl),hf]
 refine I.write (x:=p) (e:=p) (by rw[h];trivial) (.inl rfl) (fun b u hb q=>(Heap.get?_update_other _ _ (Ne.symm hb)).trans q) ⟨_,e⟩ ?_;exact⟨hz,its',n',r,e⟩
noncomputable def rSetL:V->V->V->Hp->(Hp->Prop)->Prop:=fun o i v H Q=>∃p xs k j,o = .ref p/\i = .int k/\H p=some (.lst xs)/\ixN xs.length k=some j/\Q (upd H p (.lst (xs.set j v)))
theorem set_list:PSet X rSetL:=by
 intro pins s σ H o i v ov iv u Q I ro ri rv h;obtain⟨p,xs,k,j,rfl,rfl,hp,hj,q⟩:=h;cases ro;obtain⟨t,rfl⟩:=ri;obtain⟨its,n,r,ho,hz⟩:=I.lst hp;obtain⟨h1,h2,h3,h4⟩:=j0u hj;have hl:=r.length;have hn:=line63;have I':Inv X pins σ (upd H p (.lst (xs.set j v))) {s with heap:=s.heap.update p (Obj.mapSeq (·.setIfInBounds j u))}:=
  I.lstUpd hp ho (XB its n j u) (r.set rv j) (by rw[length_set];exact hz) s.toks
 by_cases h0:0<=k
 ·have hk:k.toNat=j:=by
   rw[seqIndex_of h0 h4]at h1;exact Option.some.inj h1
  exact PySem.W.ki_setAt ho h0 (by omega) (by rw[size_toArray,<-hl];exact h4) (by rw[hk];exact⟨_,I',q⟩)
 ·have hk:(k+(its.toArray.size:Int)).toNat=j:=by
   rw[seqIndex_neg (by omega) h3]at h1;rw[size_toArray,<-hl];exact Option.some.inj h1
  exact PySem.W.ki_setBack ho (by omega) (by rw[size_toArray,<-hl];exact h3) (by omega) (by rw[hk];exact⟨_,I',q⟩)
theorem WF(lo hi:Option Int)(n:Nat):(sliceBounds lo hi none n).1=((HT.sIx n 0 lo:Nat):Int)/\(sliceBounds lo hi none n).2.1=((HT.sIx n n hi:Nat):Int)/\(sliceBounds lo hi none n).2.2=1:=by
 refine⟨?_,?_,rfl⟩
 ·cases lo with
  | none=>simp[sliceBounds,HT.sIx]
  | some i=>
   simp only[sliceBounds,HT.sIx,Option.getD_none,show(1:Int)>0 by decide,if_true];by_cases h:i<0
   ·simp only[h,if_true]<;>omega
   ·simp only[h,if_false]<;>omega
 ·cases hi with
  | none=>simp[sliceBounds,HT.sIx]
  | some i=>
   simp only[sliceBounds,HT.sIx,Option.getD_none,show(1:Int)>0 by decide,if_true];by_cases h:i<0
   ·simp only[h,if_true]<;>omega
   ·simp only[h,if_false]<;>omega
theorem KL(its:List Value)(lo hi:Option Int):slicePick its.toArray lo hi none=((its.drop (HT.sIx its.length 0 lo)).take (HT.sIx its.length its.length hi-HT.sIx its.length 0 lo)).toArray:=by
 obtain⟨h1,h2,h3⟩:=WF lo hi its.toArray.size;unfold slicePick;rw[h1,h2,h3];simp only[sliceRange_one,pick_run,size_toArray]<;>rfl
noncomputable def rSlL(K:Frg):V->Option Int->Option Int->Hp->VK->Prop:=fun x lo hi H Q=>∃a xs,x = .ref a/\SqL K H a xs/\∀p,H p=none->Q (.ref p) (upd H p (.lst (cutV xs lo hi)))
theorem Jg:SlR X (rSlL X.K):=by
 intro pins s σ H x v vl vu lo hi sl Q I rx hs pl pu h;obtain⟨a,xs,rfl,hx,q⟩:=h;cases rx;obtain⟨its,r,ht,hz⟩:=I.list hx;have hlen:=r.length;refine⟨"list",_,slot_list_getitem.lookup,ht.isList.typeIs,?_⟩;refine wpAny_getItem_list_slice ht.isList hs pl pu .none (by simp) ?_ (by rw[size_toArray]<;>omega);rw[KL,<-hlen];refine⟨.ref s.heap.objs.size,_,I.laid (t':=s.toks) (o:=.lst (cutV xs lo hi)) (fun b ob q=>Heap.get?_push_of_some _ q) (Nat.le_refl _) ?_,rfl,q _ (I.hok.fresh (Nat.le_refl _))⟩;exact⟨Nat.le_trans (ka xs lo hi) hz,_,0,(r.drop (HT.sIx xs.length 0 lo)).take (HT.sIx xs.length xs.length hi-HT.sIx xs.length 0 lo),Heap.get?_push_size _ rfl⟩
noncomputable def flatV:V->Bool
 | .non=>true
 | .bl _=>true
 | .int _=>true
 | .str _=>true
 | _=>false
noncomputable def eqV:V->V->Bool
 | .non,.non=>true
 | .bl a,.bl b=>a==b
 | .bl a,.int b=>(if a then 1 else 0)==b
 | .int a,.bl b=>a==(if b then 1 else 0)
 | .int a,.int b=>a==b
 | .str a,.str b=>a==b
 | _,_=>false
theorem j4f{A:Around}{s:Shared}{y x:V}{u v:Value}(ry:RelV y u)(rx:RelV x v)(fy:flatV y=true)(fx:flatV x=true):SeqAt.EqAt A s u v (eqV y x):=by
 cases y with
 | non=>
  cases ry;cases x with
  | non=>cases rx;exact SeqAt.EqAt.same _
  | bl b=>cases rx;exact SeqAt.EqAt.none_bool b
  | int b=>obtain⟨t,rfl⟩:=rx;exact SeqAt.EqAt.none_int b t
  | str b=>obtain⟨t,rfl⟩:=rx;exact SeqAt.EqAt.none_str b t
  | _=>exact absurd (show false=true from fx) Bool.false_ne_true
 | bl a=>
  cases ry;cases x with
  | non=>cases rx;exact SeqAt.EqAt.bool_none a
  | bl b=>cases rx;exact SeqAt.EqAt.bool_bool a b
  | int b=>obtain⟨t,rfl⟩:=rx;exact SeqAt.EqAt.bool_int a b t
  | str b=>obtain⟨t,rfl⟩:=rx;exact SeqAt.EqAt.bool_str a b t
  | _=>exact absurd (show false=true from fx) Bool.false_ne_true
 | int a=>
  obtain⟨t',rfl⟩:=ry;cases x with
  | non=>cases rx;exact SeqAt.EqAt.int_none a t'
  | bl b=>cases rx;exact SeqAt.EqAt.int_bool a t' b
  | int b=>obtain⟨t,rfl⟩:=rx;exact SeqAt.EqAt.int_int a t' b t
  | str b=>obtain⟨t,rfl⟩:=rx;exact SeqAt.EqAt.int_str a t' b t
  | _=>exact absurd (show false=true from fx) Bool.false_ne_true
 | str a=>
  obtain⟨t',rfl⟩:=ry;cases x with
  | non=>cases rx;exact SeqAt.EqAt.str_none a t'
  | bl b=>cases rx;exact SeqAt.EqAt.str_bool a t' b
  | int b=>obtain⟨t,rfl⟩:=rx;exact SeqAt.EqAt.str_int a t' b t
  | str b=>obtain⟨t,rfl⟩:=rx;exact SeqAt.EqAt.str_str a t' b t
  | _=>exact absurd (show false=true from fx) Bool.false_ne_true
 | _=>exact absurd (show false=true from fy) Bool.false_ne_true
noncomputable def eqU(x:V)(u:Value):Bool:=match u with
 | .none=>eqV .non x
 | .bool b=>eqV (.bl b) x
 | .int i _=>eqV (.int i) x
 | .str z _=>eqV (.str z) x
 | _=>false
theorem j20{x y:V}{u:Value}(r:RelV y u)(f:flatV y=true):eqU x u=eqV y x:=by
 cases y with
 | non=>cases r;rfl
 | bl b=>cases r;rfl
 | int i=>obtain⟨t,rfl⟩:=r;rfl
 | str z=>obtain⟨t,rfl⟩:=r;rfl
 | _=>exact absurd (show false=true from f) Bool.false_ne_true
theorem yQ{x:V}:∀{xs:List V} {us:List Value},Vals xs us->xs.all flatV=true->us.any (eqU x)=xs.any fun y=>eqV y x
 | _,_,.nil,_=>rfl
 | y::xs,u::us,.cons r t,f=>by
  rw[all_cons,Bool.and_eq_true]at f;rw[any_cons,any_cons,j20 r f.1,yQ t f.2]
theorem ZZ{A:Around}{s:Shared}{x:V}{v:Value}(rx:RelV x v)(fx:flatV x=true):∀{xs:List V} {us:List Value},Vals xs us->xs.all flatV=true->∀u∈us,SeqAt.EqAt A s u v (eqU x u)
 | _,_,.nil,_=>fun u hu=>by cases hu
 | y::xs,u::us,.cons r t,f=>fun u' hu=>by
  rw[all_cons,Bool.and_eq_true]at f;rcases mem_cons.mp hu with rfl | hu
  ·rw[j20 r f.1];exact j4f r rx f.1 fx
  ·exact ZZ rx fx t f.2 u' hu
noncomputable def inV(x:V)(xs:List V):Bool:=xs.any fun y=>eqV y x
def rIn(K:Frg)(neg:Bool):R2:=fun x y H Q=>∃p xs,y = .ref p/\(SqL K H p xs\/SqT K H p xs)/\flatV x=true/\xs.all flatV=true/\Q (.bl (if neg then !inV x xs else inV x xs)) H
theorem qZ:OpR X (compareOp .In) (rIn X.K false):=by
 intro pins s σ H x y v u Q I rx ry h;obtain⟨p,xs,rfl,hq,fx,fs,q⟩:=h;cases ry;rcases hq with hq | hq
 ·obtain⟨its,r,pl,hz⟩:=I.list hq;refine SeqAt.in_listAt (eqU x) pl.isList (fun w hw=>ZZ rx fx r fs w (by simpa using hw)) ⟨.bl _,H,I,rfl,?_⟩;rw[show its.toArray.any (eqU x)=its.any (eqU x) by simp,yQ r fs];exact q
 ·obtain⟨its,r,pl,hz⟩:=I.tuple hq;refine SeqAt.in_tupleAt (eqU x) pl (fun w hw=>ZZ rx fx r fs w (by simpa using hw)) ⟨.bl _,H,I,rfl,?_⟩;rw[show its.toArray.any (eqU x)=its.any (eqU x) by simp,yQ r fs];exact q
theorem Wr:OpR X (compareOp .NotIn) (rIn X.K true):=by
 intro pins s σ H x y v u Q I rx ry h;obtain⟨p,xs,rfl,hq,fx,fs,q⟩:=h;cases ry;rcases hq with hq | hq
 ·obtain⟨its,r,pl,hz⟩:=I.list hq;refine SeqAt.notIn_listAt (eqU x) pl.isList (fun w hw=>ZZ rx fx r fs w (by simpa using hw)) ⟨.bl _,H,I,rfl,?_⟩;rw[show its.toArray.any (eqU x)=its.any (eqU x) by simp,yQ r fs];exact q
 ·obtain⟨its,r,pl,hz⟩:=I.tuple hq;refine SeqAt.notIn_tupleAt (eqU x) pl (fun w hw=>ZZ rx fx r fs w (by simpa using hw)) ⟨.bl _,H,I,rfl,?_⟩;rw[show its.toArray.any (eqU x)=its.any (eqU x) by simp,yQ r fs];exact q
theorem yZ:CallR X (.type "list") (fun xs H Q=>∃p ys,xs=[.ref p]/\(SqL X.K H p ys\/SqT X.K H p ys)/\∀l,H l=none->Q (.ref l) (upd H l (.lst ys))):=by
 intro pins s σ H xs us Q I r h;obtain⟨p,ys,rfl,hq,q⟩:=h;obtain⟨u,rfl,rx⟩:=vals1 r;cases rx;have fin:∀(its:List Value),Vals ys its->ys.length<=sizeLine->∀(h':Heap) (c':Nat),(∀b o',s.heap.get? b=some o'->h'.get? b=some o')->
   h'.get? s.heap.objs.size=some {cls:=.type "list",dict:=none,data:=.seq its.toArray c',slots:=#[]}->EP X pins σ Q (.ref s.heap.objs.size) {s with heap:=h'}:=fun its r' hz h' c' kp e=>
  ⟨.ref s.heap.objs.size,_,I.laid (t':=s.toks) kp (Nat.le_refl _) (show ObjOk X.prog X.w _ h' _ (.lst ys)from⟨hz,its,c',r',e⟩),rfl,q _ (I.hok.fresh (Nat.le_refl _))⟩
 rcases hq with hq | hq
 ·obtain⟨its,r',pl,hz⟩:=I.list hq;have hlen:=r'.length;obtain⟨o,ho,hc,n,hd⟩:=pl.isList;exact call_list_seq p (.inl rfl) ho hc hd (fun h' c' kp e=>fin its r' hz h' c' kp e) (by simp only[size_toArray]<;>omega)
 ·obtain⟨its,r',pl,hz⟩:=I.tuple hq;have hlen:=r'.length;obtain⟨o,ho,hc,n,hd⟩:=pl;exact call_list_seq p (.inr rfl) ho hc hd (fun h' c' kp e=>fin its r' hz h' c' kp e) (by simp only[size_toArray]<;>omega)
theorem QO:CallR X (.type "tuple") (fun xs H Q=>∃p ys,xs=[.ref p]/\((SqL X.K H p ys/\∀l,H l=none->Q (.ref l) (upd H l (.tup ys)))\/(SqT X.K H p ys/\Q (.ref p) H))):=by
 intro pins s σ H xs us Q I r h;obtain⟨p,ys,rfl,h⟩:=h;obtain⟨u,rfl,rx⟩:=vals1 r;cases rx;rcases h with⟨hq,q⟩ | ⟨hq,q⟩
 ·obtain⟨its,r',pl,hz⟩:=I.list hq;have hlen:=r'.length;refine call_tuple_list pl.isList (fun h' kp=>?_) (by simp only[size_toArray]<;>omega);have I1:Inv X pins σ H {s with heap:=h'}:=I.kept (t':=s.toks) kp;have I2:Inv X pins σ (upd H h'.objs.size (.tup ys)) {s with heap:=h'.push {cls:=.type "tuple",data:=.seq its.toArray}}:=
   I1.laid (t':=s.toks) (fun b o e=>Heap.get?_push_of_some _ e) (Nat.le_refl _) (show ObjOk X.prog X.w _ _ _ (.tup ys)from⟨hz,its,r',IsTup.new _ _⟩)
  exact⟨.ref h'.objs.size,_,I2,rfl,q _ (I1.hok.fresh (Nat.le_refl _))⟩
 ·obtain⟨its,r',pl,hz⟩:=I.tuple hq;exact call_tuple_same pl ⟨.ref p,H,I,rfl,q⟩
def tyV(K:Frg)(T:String)(x:V)(H:Hp):Prop:=match x with
 | .str _=>T = "str"
 | .int _=>T = "int"
 | .ref p=>(T = "list"/\∃xs,SqL K H p xs)\/(T = "tuple"/\∃o,K.lookup p=some o/\o.cls = .type "tuple"/\o.dict=none)\/
   (T = "dict"/\((∃kvs,H p=some (.dK kvs))\/∃kvs,H p=some (.dT kvs)))\/(T = "set"/\∃S n,H p=some (.set S n))
 | _=>False
theorem j4Q{pins:List (Addr×Obj)}{σ:St}{H:Hp}{s:Shared}{T:String}{x:V}{v:Value}(I:Inv X pins σ H s)(r:RelV x v)(ty:tyV X.K T x H) :
  s.TypeIs v T/\∀a,v = .ref a->∃ob,s.heap.get? a=some ob/\ob.dict=none:=by
 cases x with
 | str z=>
  obtain⟨t,rfl⟩:=r;cases(show T = "str" from ty);exact⟨typeIs_str s z t,fun _ e=>nomatch e⟩
 | int i=>
  obtain⟨t,rfl⟩:=r;cases(show T = "int" from ty);exact⟨typeIs_int s i t,fun _ e=>nomatch e⟩
 | ref p=>
  cases r;rcases ty with⟨rfl,xs,hq⟩ | ⟨rfl,o,hk,hc,hd⟩ | ⟨rfl,hk⟩ | ⟨rfl,S,n,hk⟩
  ·obtain⟨its,_,pl,_⟩:=I.list hq;refine⟨pl.isList.typeIs,fun a e=>?_⟩;cases e;obtain⟨o,n,e,c,hd,_⟩:=pl;exact⟨o,e,hd⟩
  ·refine⟨⟨o,I.kIn p o hk,hc⟩,fun a e=>?_⟩;cases e;exact⟨o,I.kIn _ o hk,hd⟩
  ·have z:∃o,s.heap.get? p=some o/\o.ExactDict:=by
    rcases hk with⟨kvs,hk⟩ | ⟨kvs,hk⟩
    ·obtain⟨_,_,_,_,o,_,_,e,ex,_⟩:=I.hok p _ hk;exact⟨o,e,ex⟩
    ·obtain⟨_,_,_,_,o,_,_,e,ex,_⟩:=I.hok p _ hk;exact⟨o,e,ex⟩
   obtain⟨o,e,ex⟩:=z;refine⟨⟨o,e,ex.1⟩,fun a e2=>?_⟩;cases e2;exact⟨o,e,ex.2.1⟩
  ·obtain⟨o,_,_,_,e,ex,_⟩:=I.hok p _ hk;refine⟨⟨o,e,ex.1⟩,fun a e2=>?_⟩;cases e2;exact⟨o,e,ex.2.1⟩
 | _=>exact False.elim ty
def tBM(K:Frg)(T:String)(r:V->List V->Hp->VK->Prop)(to:TE)(t:TA):TE:=fun σ H Q=>to σ H fun x H1=>tyV K T x H1/\t σ H1 fun xs H2=>r x xs H2 Q
variable{o e:Expr}{es:List Expr}{to:TE}{t:TA}{name:Str}{apos cpos:Pos}{T id:String}{r:V->List V->Hp->VK->Prop}
theorem j8(pa:PlainAttrs T)(slot:Slot T name id)(hty:typeOf (.builtin id)=pure (.type "method_descriptor"))(hm:MtR X id r)(ho:PE X o to)(ha:PA X (e::es) t)
  (hbase:attributeBase o name X.env (eval o X.env)=eval o X.env:=by rfl)
  (hfew:((backTo cpos (starEach (e::es) X.env)).all (fun x=>!x.1)&&(backToKw cpos (keywordEach [] X.env)).all (fun x=>x.1.isSome)
   && decide ((e::es).length+([]:List Keyword).length+(if([]:List Keyword).isEmpty then 0 else 1)<30))=true:=by rfl)
  (hline:(apos.endLine==cpos.line)=true:=by rfl) (hs:starEach (e::es) X.env=(false,eval e X.env)::starEach es X.env:=by rfl) (hplain:(backTo cpos (starEach es X.env)).any (·.1)=false:=by rfl) :
  PE X (.Call (.Attribute o name apos) (e::es) [] cpos) (tBM X.K T r to t):=by
 intro pins s σ H Q I h;refine wpAny_Call_method_late hbase hfew hline rfl (thn (ho pins s σ H _ I h) fun v s1 ⟨x,H1,I1,r1,ty,q1⟩=>?_);obtain⟨h1,h2⟩:=j4Q I1 r1 ty;refine⟨T,id,pa,slot,hty,h1,h2,?_⟩;have hA:=ha cpos pins s1 σ H1 _ I1 q1;rw[hs]at hA|-;refine Calls.callWith_builtin (by show(false||(backTo cpos (starEach es X.env)).any (·.1))=false;rw[hplain]<;>rfl) (Calls.evalArgs_plain ?_);exact thn hA fun us s2 ⟨vs,H2,I2,r2,q2⟩=>hm pins s2 σ H2 x vs v us Q I2 r1 r2 q2
end
def MtM(X:Cx)(id:String)(r:V->List V->Hp->VK->Prop):Prop:=
 ∀(pins:List (Addr×Obj)) (s:Shared) (σ:St) (H:Hp) (x:V) (xs:List V) (v:Value) (us:List Value) (Q:VK),Inv X pins σ H s->RelV x v->Vals xs us->r x xs H Q->
  wpAny (model X.prog X.w) X.A (call (.builtin id) (v::us)) (EP X pins σ Q) X.xe s
theorem Vals.one:∀{x:V} {us:List Value},Vals [x] us->∃u,us=[u]/\RelV x u
 | _,_,.cons r .nil=>⟨_,rfl,r⟩
section
variable{X:Cx}{pins:List (Addr×Obj)}{σ:St}{H:Hp}{s:Shared}{l b:Addr}{xs ys zs:List V}
theorem Inv.lset{its its':List Value}{n:Nat}{f:Array Value->Array Value}{t':Nat}(I:Inv X pins σ H s)(hH:H l=some (.lst xs))
  (e:s.heap.get? l=some {cls:=.type "list",data:=.seq its.toArray n}) (hf:f its.toArray=its'.toArray) (hv:Vals ys its') (hz:ys.length<=sizeLine) :
  Inv X pins σ (upd H l (.lst ys)) {s with heap:=s.heap.update l (Obj.mapSeq f),toks:=t'}:=by
 have q:=PySem.IsL.update e f;rw[hf]at q;refine I.write (x:=l) (e:=l) (by rw[hH];exact trivial) (.inl rfl) (fun b' u hb hu=>(Heap.get?_update_other s.heap (Obj.mapSeq f) (Ne.symm hb)).trans hu) ⟨_,q⟩ ?_;exact⟨hz,its',_,hv,q⟩
theorem Inv.lnew{its:List Value}{t':Nat}(I:Inv X pins σ H s)(hv:Vals ys its)(hz:ys.length<=sizeLine) :
  Inv X pins σ (upd H s.heap.objs.size (.lst ys)) {s with heap:=s.heap.push {cls:=.type "list",data:=.seq its.toArray},toks:=t'}:=
 I.laid (fun _ _ q=>Heap.get?_push_of_some _ q) (Nat.le_refl _) ⟨hz,its,0,hv,Heap.get?_push_size _ rfl⟩
theorem Inv.fresh(I:Inv X pins σ H s):H s.heap.objs.size=none:=I.hok.fresh (Nat.le_refl _)
theorem Inv.lstM(I:Inv X pins σ H s)(hH:H l=some (.lst xs)):xs.length<=sizeLine/\∃(its:List Value) (n:Nat),Vals xs its/\xs.length=its.length/\s.heap.get? l=some {cls:=.type "list",data:=.seq its.toArray n}:=by
 obtain⟨z,its,n,r,e⟩:=I.hok l _ hH;exact⟨z,its,n,r,r.length,e⟩
end
section
variable{X:Cx}
noncomputable def rAppend:V->List V->Hp->VK->Prop:=fun x vs H Q=>∃l xs y,x = .ref l/\vs=[y]/\H l=some (.lst xs)/\xs.length<sizeLine/\Q .non (upd H l (.lst (xs++[y])))
theorem jQ:MtM X "list.append" rAppend:=by
 intro pins s σ H x vs v us Q I rx rv h;obtain⟨l,xs,y,rfl,rfl,hH,hz,q⟩:=h;cases rx;obtain⟨u,rfl,ru⟩:=rv.one;obtain⟨z,its,n,r,hl,e⟩:=I.lstM hH;refine call_meets F.slot_list_append ⟨_,e,rfl⟩ F.entry_list_append (F.args_list_append_2 _ _) (PySem.list_append l its.toArray n u (by rw[size_toArray];omega)) ⟨e,?_⟩;refine⟨.non,_,I.lset (its':=its++[u]) hH e (by simp) (r.append (.cons ru .nil)) ?_,rfl,q⟩;rw[List.length_append,List.length_singleton];omega
def rCat:R2:=fun x y H Q=>∃l b xs zs,x = .ref l/\y = .ref b/\H l=some (.lst xs)/\H b=some (.lst zs)/\xs.length+zs.length<=sizeLine/\∀p,H p=none->Q (.ref p) (upd H p (.lst (xs++zs)))
theorem zv:OpR X (binaryOp .Add) rCat:=by
 intro pins s σ H x y v u Q I rx ry h;obtain⟨l,b,xs,zs,rfl,rfl,hH,hB,hz,q⟩:=h;cases rx;cases ry;obtain⟨z,its,n,r,hl,e⟩:=I.lstM hH;obtain⟨z2,its2,n2,r2,hl2,e2⟩:=I.lstM hB;refine PySem.P.add_list e e2 ?_ (by rw[size_toArray,size_toArray];omega);have ea:its.toArray++its2.toArray=(its++its2).toArray:=by simp
 rw[ea];exact⟨.ref _,_,I.lnew (t':=s.toks) (r.append r2) (by rw[List.length_append];omega),rfl,q _ I.fresh⟩
end
section
variable{prog:Program}{w:World}{A:Around}{E:Value->Shared->Prop}{s:Shared}
end
section
variable{X:Cx}
end
end L2
namespace Att
open PySem PySem.W PySem.Calls PyProof.Rows
theorem kg{P:Params}{h:Heap}:∀(ns:List Int) (vs:List Value),WellAll P h vs (ns.map WData.int)->IntsAre vs ns:=by
 intro ns
 induction ns with
 | nil=>
  intro vs w;rw[map_nil]at w;cases w;exact .nil
 | cons n ns ih=>
  intro vs w;rw[map_cons]at w;cases w with
  | cons a b=>
   cases a;exact .cons _ _ (ih _ b)
theorem j1w{l:OpenLaw}{n:Nat}(hn:l.most=some n){P:Params}{h:Heap}{args:List WData}{vals:List Value}
  (hpre:l.row.toRowW.claim.pre args=true) (hwl:WellAll P h vals args) :
  ∃a vs ns,vals=[Value.ref a]/\args=[WData.list (ns.map WData.int)]/\h.get? a=some {cls:=.type "list",data:=.seq vs.toArray}/\IntsAre vs ns/\ns.length<=n:=by
 have hsh:WShape.hasAll [] args [.list .int]=true:=(pre_splitW hpre).1;have hc:l.pre.holds [] {args:=args}=true:=(pre_splitW hpre).2;obtain⟨d,r,rfl,h1,h2⟩:=hasAllW_cons hsh;obtain rfl:=hasAllW_nil h2;obtain⟨xs,rfl,h3⟩:=hasW_list h1;obtain⟨ns,rfl⟩:=items_int h3;have hlen:ns.length<=n:=by
  unfold OpenLaw.pre at hc;have h4:(WTm.not (.lt (.lit (.int (n:Int))) (.len (.arg 0)))).holds [] {args:=[.list (ns.map .int)]}=true:=by
   have h4:=(holds_andW hc).1;rw[hn]at h4;exact h4
  have h5:=condW_of h4 (w_not (w_lt w_lit (w_len_list (w_arg rfl))));rw[length_map]at h5;refine Nat.le_of_not_lt fun q=>?_
  have q':(n:Int)<((ns.length:Nat):Int):=by omega
  first
   | (rw[decide_eq_true q']at h5;exact absurd h5 (by decide))
   | (simp at h5;omega)
 cases hwl with
 | cons w1 w2=>
  cases w2;cases w1 with
  | list ho hall=>exact⟨_,_,ns,rfl,rfl,ho,kg ns _ hall,hlen⟩
theorem j1s(l:OpenLaw)(args:List WData):l.row.toRowW.claim.post args (.bool true) args=true:=
 postW_of (r:=l.row.toRowW) (X:=(true==true))
  (show WShape.has [] (.bool true) .bool=true by first | rfl | decide | simp[WShape.has,WShape.arms,WShape.armsAll])
  (show(WTm.eq .res (.lit (.bool true))).value [] {args:=args,res:=some (.bool true),after:=args}=some (.bool (true==true))from w_eq_bool (w_res rfl) w_lit) rfl
section
variable{prog:Program}{w:World}{A:Around}{E:Value->Shared->Prop}{s:Shared}{K:Frag}
end
end Att
namespace L2
open PySem PySem.Spec PyProof.Rows
theorem wA:∀{vs:List Value} {ns:List Int},IntsAre vs ns->Vals (ns.map V.int) vs
 | _,_,.nil=>.nil
 | _,_,.cons n t h=>.cons ⟨t,rfl⟩ (wA h)
def Only(H:Hp):Prop:=∀b,H b=none\/∃o xs,H b=some (.frz o (.lst xs))
theorem j2e{P:Program}{w:World}{K:Frg}{mg mb:Str->Option Value}{CX:CXT}{k:Nat}{fa a:Addr}{fd:FuncData}{x:Str}{sp:Sp}{s₁:Shared}{vs:List Value}{ns:List Int}
  (KX:K.In s₁.heap) (hns:s₁.heap.Ns mainGlobals mg) (hb:s₁.heap.Ns builtinsNs mb) (hbb:∀x:Str,x≠"__name__"->mb x=bootBuiltins x) (hlim:s₁.heap.NoLimit) (hg:s₁.gens = #[])
  (ha:s₁.heap.get? a=some {cls:=.type "list",data:=.seq vs.toArray}) (hi:IntsAre vs ns) (hl:ns.length<=sizeLine) (hr:Room k callerA)
  (F:∀base:Heap,K.In base->base.Ns mainGlobals mg->FnOk P w K mg base CX k fa fd [x] sp) (hbind:∀(s:Shared) (u:Value),BindsTo s fd ⟨[u],[]⟩ [(x,u)])
  (hsp:∀H:Hp,Only H->SqL K H a (ns.map V.int)->sp [.ref a] H (fun v _=>v = .bl true) fun _ _ _=>False)
  (hCX:∀H e s',CX [] H s₁ (fun _ _ _=>False) e s'->False) :
  codeAny (model P w) callerA (.call (.ref fa) ⟨[.ref a],[]⟩) (fun r s'=>r = .ok (.ret (.bool true))/\OldK s₁.heap s'.heap/\s'.os=s₁.os/\AllBare s'.gens) s₁:=by
 have rv:=wA hi;have lenV:=hi.length;have core:∀H:Hp,Only H->SqL K H a (ns.map V.int)->HOk P w H s₁.heap->(∀b,H b≠none->b=a)->(H a≠none->K.lookup a=none)->
   codeAny (model P w) callerA (.call (.ref fa) ⟨[.ref a],[]⟩) (fun r s'=>r = .ok (.ret (.bool true))/\OldK s₁.heap s'.heap/\s'.os=s₁.os/\AllBare s'.gens) s₁:=by
  intro H hO hS hok hA hK;have base_of:∀{b:Addr} {o:Obj},s₁.heap.get? b=some o->H b=none->(hidT s₁.heap H).get? b=some o:=fun e n=>j2b e n
  have noA:∀{b:Addr} {o:Obj} {es:Array DictEntry} {ep:Nat},s₁.heap.get? b=some o->o.data = .dict es ep->H b=none:=fun {b o es ep} e d=>by
   cases q:H b with
   | none=>rfl
   | some u=>
    have e':b=a:=hA b (by rw[q];simp);subst e';rw[ha]at e;cases e;have d':Data.seq vs.toArray _=Data.dict es ep:=d;cases d'
  have nsK:∀{b:Addr} {m:Str->Option Value},s₁.heap.Ns b m->(hidT s₁.heap H).Ns b m:=fun {b m} ⟨o,es,ep,e,d,r⟩=>⟨o,es,ep,base_of e (noA e d),d,r⟩
  have hKb:K.In (hidT s₁.heap H):=fun b o e=>base_of (KX b o e) (by
   cases q:H b with
   | none=>rfl
   | some u=>
    have e':b=a:=hA b (by rw[q];simp);subst e';rw[hK (by rw[q];simp)]at e;cases e)
  have hM:Mod K mg (hidT s₁.heap H):=⟨hKb,nsK hns,⟨mb,nsK hb,hbb⟩,let ⟨mc,h1,h2⟩:=hlim;⟨mc,nsK h1,h2⟩⟩
  have e0:Env0 P w K mg (hidT s₁.heap H) callerA [] s₁ H:=⟨rfl,hM,fun b o e=>j3r e,Nat.le_of_eq (j13 _ _),trivial,fun b hb=>absurd (show b∈([]:List Addr)from hb) (by simp),hok,.of_eq hg⟩
  refine codeAny_mono ((F _ hKb (nsK hns)).run callerA [] s₁ H ⟨[.ref a],[]⟩ [.ref a] [.ref a] _ _ hr e0 (hbind s₁ (.ref a)) (.cons rfl .nil) (hsp H hO hS)) fun r s' h=>?_
  cases r with
  | error e=>exact(hCX H e s' h).elim
  | ok fl=>
   cases fl with
   | next=>exact False.elim h
   | brk=>exact False.elim h
   | cont=>exact False.elim h
   | ret u=>
    obtain⟨v,H',os,bare,un,hok',r',q⟩:=h;have q':v = .bl true:=q;subst q';obtain rfl:u=Value.bool true:=r';refine⟨rfl,OldK.of_keep fun b o e=>?_,os,bare⟩;cases q:H b with
    | none=>exact un.keep b o e q (by intro z;exact absurd (show b∈([]:List Addr)from z) (by simp)) (by simp)
    | some u=>
     rcases hO b with z | ⟨ob,xs,z⟩
     ·rw[q]at z;cases z
     ·have z2:=un.frzs b ob _ z;obtain⟨e1,_⟩:=hok b _ z;obtain⟨e2,_⟩:=hok' b _ z2;rw[e]at e1;cases e1;exact e2
 cases hk:K.lookup a with
 | some o=>
  have e:=KX a o hk;rw[ha]at e;cases e;refine core (fun _=>none) (fun _=>.inl rfl) (.inr ⟨_,vs.toArray,_,hk,rfl,rfl,rfl,by rw[size_toArray,lenV];exact hl,by simpa using rv⟩) (fun b u z=>by have z':(none:Option HO)=some u:=z;cases z') (fun b z=>absurd rfl z) fun z=>absurd rfl z
 | none=>
  refine core (fun b=>if b=a then some (.frz {cls:=.type "list",data:=.seq vs.toArray} (.lst (ns.map V.int)))else none) (fun b=>?_) (.inl (.inr ⟨{cls:=.type "list",data:=.seq vs.toArray},if_pos rfl⟩)) (fun b u z=>?_) (fun b z=>?_) fun _=>hk
  ·by_cases hb:b=a
   ·exact .inr ⟨_,_,if_pos hb⟩
   ·exact .inl (if_neg hb)
  ·by_cases hb:b=a
   ·have z':=(if_pos hb).symm.trans z;cases z';subst hb;exact⟨ha,by rw[length_map];exact hl,vs,_,rv,ha⟩
   ·have z':=(if_neg hb).symm.trans z;cases z'
  ·by_cases hb:b=a
   ·exact hb
   ·exact absurd (if_neg hb) z
noncomputable abbrev KOf{K:Frg}{h:Heap}(_:K.In h):Frg:=K
noncomputable def inClass(s:Stmt)(j:Nat):Stmt:=match s with
 | .ClassDef _ _ _ body _ _ _ _ _ _ _=>body.getD j (.Pass ⟨0,0,0,0⟩)
 | _=>.Pass ⟨0,0,0,0⟩
noncomputable def defArgs(s:Stmt):Arguments:=match s with
 | .FunctionDef _ a _ _ _ _ _ _ _ _=>a
 | _=>{posonlyargs:=[],args:=[],vararg:=none,kwonlyargs:=[],kw_defaults:=[],kwarg:=none,defaults:=[]}
noncomputable def defBody(s:Stmt):List Stmt:=match s with
 | .FunctionDef _ _ b _ _ _ _ _ _ _=>b
 | _=>[]
noncomputable def defScope(s:Stmt):Scope:=match s with
 | .FunctionDef _ _ _ _ _ _ sc _ _ _=>sc
 | _=>{kind:=.function,names:=[],isGenerator:=false,isCoroutine:=false}
noncomputable abbrev CX0:CXT:=fun _ _ _ _ _ _=>False
noncomputable abbrev E0:XK:=fun _ _ _=>False
theorem pass0{X:Cx}:Passes CX0 X E0:=fun _ _ _ _ _ _ _ h=>h.elim
structure Fun(K:Frg)(x qual:Str)(st:Stmt)(f:Addr)(fd:FuncData):Prop where
 ex:∃(oc:Value) (od:Option Addr) (kV doc pm:Value) (an:Option Addr) (cdv ct:Value) (osl:Array (Option Value)),
  fd=PySem.W.fnOf x qual (defArgs st) (defBody st) (defScope st) .none kV doc pm an cdv ct/\K.lookup f=some ⟨oc,od,.func fd,osl⟩/\PySem.W.codeIn K cdv qual=true
 kp:PySem.W.keepIn K (.ref f)=true
section
variable{P:Program}{w:World}{K:Frg}{mg:Str->Option Value}{base:Heap}
theorem Fun.ok{x qual:Str}{st:Stmt}{f:Addr}{fd:FuncData}{N ps:List Str}{k:Nat}{sp:Sp}(F:Fun K x qual st f fd)(S:FnScope N ps (defScope st))(len:∀vs H Q E,sp vs H Q E->vs.length=ps.length)
  (hbody:∀(cdv:Value) (A:Around) (outer:List Env) (s:Shared) (H:Hp) (vs:List V) (Q:VK) (E:XK),Room k (A.deeper (envOfC qual (defScope st) s.heap.objs.size f cdv))->sp vs H Q E->
   ∃t,PSs (cxOf CX0 P w K mg base N qual (defScope st) f cdv A outer s H E).nox (defBody st) t/\t {nx:=fun _ H'=>Q .non H',rt:=Q} (start N vs) H):FnOk P w K mg base CX0 (k+1) f fd ps sp:=by
 obtain⟨oc,od,kV,doc,pm,an,cdv,ct,osl,rfl,lk,hcd⟩:=F.ex;refine j42 lk hcd S len fun A outer s H vs Q E hr hsp=>?_
 obtain⟨t,h,q⟩:=hbody cdv A outer s H vs Q E hr hsp;exact⟨t,h.nox,q⟩
theorem Fun.binds{x qual:Str}{st:Stmt}{f:Addr}{fd:FuncData}{ps:List Str}(F:Fun K x qual st f fd)
  (h:∀(kV doc pm:Value) (an:Option Addr) (cdv ct:Value) (us:List Value),us.length=ps.length->bindArgs (PySem.W.fnOf x qual (defArgs st) (defBody st) (defScope st) .none kV doc pm an cdv ct) ⟨us,[]⟩=pure (ps.zip us)):Binds K fd ps []:=by
 obtain⟨oc,od,kV,doc,pm,an,cdv,ct,osl,rfl,lk,hcd⟩:=F.ex;exact .all (h kV doc pm an cdv ct)
theorem jY{x qual:Str}{st:Stmt}{f:Addr}{oc:Value}{od an:Option Addr}{osl:Array (Option Value)}{kV doc pm cdv ct:Value}(l:K.lookup f=some ⟨oc,od,.func (PySem.W.fnOf x qual (defArgs st) (defBody st) (defScope st) .none kV doc pm an cdv ct),osl⟩)
  (c:PySem.W.codeIn K cdv qual=true) (k:PySem.W.keepIn K (.ref f)=true):Fun K x qual st f (PySem.W.fnOf x qual (defArgs st) (defBody st) (defScope st) .none kV doc pm an cdv ct):=⟨⟨oc,od,kV,doc,pm,an,cdv,ct,osl,rfl,l,c⟩,k⟩
end
theorem JT{A:Around}{k:Nat}(hr:Room k A):A.units+1<cLine:=Nat.lt_of_le_of_lt (Nat.add_le_add_left (by decide:1<=64) _) hr.units
section
variable{X:Cx}
theorem pv(i:Nat){x:Str}{pos:Pos}(hN:X.N[i]?=some x:=by rfl)(hv:Vis X.env.scope x:=by first | exact Or.inl rfl | exact Or.inr (Or.inl rfl) | exact Or.inr (Or.inr rfl))(hd:(x==("__debug__" : Str))=false:=by decide)
  (hcd:(x==("__classdict__" : Str))=false:=by decide):PE X (.Name x pos) (tVar i):=j4A hN hv hd hcd
end
theorem iteF{A B:Prop}(h:B):if false=true then A else B:=by
 rw[if_neg Bool.false_ne_true];exact h
theorem iteT{A B:Prop}(h:A):if true=true then A else B:=by
 rw[if_pos rfl];exact h
def Same(H H':Hp):Prop:=∀b o,H b=some o->H' b=some o
theorem Same.refl(H:Hp):Same H H:=fun _ _ h=>h
theorem Same.trans{H H1 H2:Hp}(a:Same H H1)(b:Same H1 H2):Same H H2:=fun c o h=>b c o (a c o h)
theorem Same.seq{K:Frg}{H H':Hp}{a:Addr}{xs:List V}(e:Same H H')(h:SqL K H a xs):SqL K H' a xs:=by
 rcases h with(h | ⟨o,h⟩) | h
 ·exact .inl (.inl (e _ _ h))
 ·exact .inl (.inr ⟨o,e _ _ h⟩)
 ·exact .inr h
section
variable{κ:Type}[DecidableEq κ]
noncomputable def valV(kvs:List (κ×V))(k:κ):Option V:=(kvs.find? fun kv=>decide (kv.1=k)).map (·.2)
noncomputable def putK(kvs:List (κ×V))(k:κ)(v:V):List (κ×V):=
 if(kvs.any fun kv=>decide (kv.1=k))=true then kvs.map (fun kv=>if kv.1=k then(kv.1,v)else kv)else kvs++[(k,v)]
theorem Yt{p:κ×V}{r:List (κ×V)}{k:κ}(e:p.1=k):valV (p::r) k=some p.2:=by simp[valV,List.find?_cons,e]
theorem Z8{p:κ×V}{r:List (κ×V)}{k:κ}(e:¬p.1=k):valV (p::r) k=valV r k:=by simp[valV,List.find?_cons,e]
theorem Kr(k:κ):∀kvs:List (κ×V),(kvs.any fun kv=>decide (kv.1=k))=(valV kvs k).isSome
 | []=>rfl
 | p::r=>by
  rw[any_cons];by_cases e:p.1=k
  ·simp only[Yt e,decide_eq_true e,Bool.true_or,Option.isSome_some]
  ·rw[Z8 e,decide_eq_false e,Bool.false_or];exact Kr k r
theorem ZY(kvs:List (κ×V))(k:κ)(v:V):(putK kvs k v).length<=kvs.length+1:=by
 unfold putK;split
 ·rw[length_map];omega
 ·rw[List.length_append,length_cons,length_nil];omega
theorem RelO.isSome_eq{o:Option V}{u:Option Value}(r:RelO o u):o.isSome=u.isSome:=by
 cases o with
 | none=>cases u with
  | none=>rfl
  | some _=>exact(show False from r).elim
 | some _=>cases u with
  | none=>exact(show False from r).elim
  | some _=>rfl
theorem KV.val{kvs:List (κ×V)}{vs:List (κ×Value)}(r:KV kvs vs)(k:κ):RelO (valV kvs k) (valueAt vs k):=by
 unfold KV at r
 induction r with
 | nil=>exact True.intro
 | @cons p q ps qs h t ih=>
  obtain⟨h1,h2⟩:=h;by_cases e:p.1=k
  ·have e':q.1=k:=h1.symm.trans e;have b:valueAt (q::qs) k=some q.2:=by simp[valueAt,List.find?_cons,e']
   rw[Yt e,b];exact h2
  ·have e':¬q.1=k:=fun z=>e (h1.trans z)
   have b:valueAt (q::qs) k=valueAt qs k:=by simp[valueAt,List.find?_cons,e']
   rw[Z8 e,b];exact ih
theorem KV.any{kvs:List (κ×V)}{vs:List (κ×Value)}(r:KV kvs vs)(k:κ):(kvs.any fun kv=>decide (kv.1=k))=vs.any fun kv=>decide (kv.1=k):=by
 unfold KV at r
 induction r with
 | nil=>rfl
 | cons h t ih=>rw[any_cons,any_cons,ih,h.1]
theorem KV.repl{kvs:List (κ×V)}{vs:List (κ×Value)}(r:KV kvs vs)(k:κ){y:V}{u:Value}(ry:RelV y u) :
  KV (kvs.map fun kv=>if kv.1=k then(kv.1,y)else kv) (vs.map fun kv=>if kv.1=k then(kv.1,u)else kv):=by
 unfold KV at r|-
 induction r with
 | nil=>exact .nil
 | @cons p q ps qs h t ih=>
  rw[map_cons,map_cons];refine .cons ?_ ih;obtain⟨h1,h2⟩:=h;by_cases e:p.1=k
  ·rw[if_pos e,if_pos (h1.symm.trans e)];exact⟨h1,ry⟩
  ·rw[if_neg e,if_neg (fun z=>e (h1.trans z))];exact⟨h1,h2⟩
theorem KV.put{kvs:List (κ×V)}{vs:List (κ×Value)}(r:KV kvs vs)(k:κ){y:V}{u:Value}(ry:RelV y u):KV (putK kvs k y) (stored vs k u):=by
 unfold putK stored;rw[r.any k];by_cases e:(vs.any fun kv=>decide (kv.1=k))=true
 ·rw[if_pos e,if_pos e];exact r.repl k ry
 ·rw[if_neg e,if_neg e];exact Paired.snoc r ⟨rfl,ry⟩
theorem KV.length{kvs:List (κ×V)}{vs:List (κ×Value)}(r:KV kvs vs):kvs.length=vs.length:=Paired.length r
end
theorem xb{P:Program}{w:World}{k:Key}{u:Value}(r:RelV (kV k) u):(mixKind P w).is k u=true:=by
 cases k with
 | inl i=>obtain⟨t,e⟩:=(show∃t,u=Value.int i t from r);subst e;exact xx P w i t
 | inr x=>obtain⟨t,e⟩:=(show∃t,u=Value.str x t from r);subst e;exact xy P w x t
theorem wb{P:Program}{w:World}:∀{ks:List Key} {us:List Value},Vals (ks.map kV) us->ItemsAre (mixKind P w) ks us
 | [],_,r=>by rw[map_nil]at r;cases r;exact .nil
 | k::ks,_,r=>by
  rw[map_cons]at r;cases r with
  | cons h t=>exact .cons (xb h) (wb t)
noncomputable abbrev KT(H:Hp):List (List Key×V)->List (List Key×Addr×Value)->Prop:=Paired fun p q=>p.1=q.1/\H q.2.1=some (.tup (p.1.map kV))/\RelV p.2 q.2.2
theorem KT.val{H:Hp}{kvs:List (List Key×V)}{xs:List (List Key×Addr×Value)}(r:KT H kvs xs)(k:List Key):RelO (valV kvs k) ((atKey xs k).map (·.2)):=by
 induction r with
 | nil=>exact True.intro
 | @cons p q ps qs h t ih=>
  obtain⟨h1,_,h2⟩:=h;by_cases e:p.1=k
  ·have e':q.1=k:=h1.symm.trans e;have b:atKey (q::qs) k=some q.2:=by simp[atKey,List.find?_cons,e']
   rw[Yt e,b];exact h2
  ·have e':¬q.1=k:=fun z=>e (h1.trans z)
   have b:atKey (q::qs) k=atKey qs k:=by simp[atKey,List.find?_cons,e']
   rw[Z8 e,b];exact ih
theorem KT.repl{H:Hp}{kvs:List (List Key×V)}{xs:List (List Key×Addr×Value)}(r:KT H kvs xs)(k:List Key){y:V}{u:Value}(ry:RelV y u) :
  KT H (kvs.map fun kv=>if kv.1=k then(kv.1,y)else kv) (xs.map (putAt k u)):=by
 induction r with
 | nil=>exact .nil
 | @cons p q ps qs h t ih=>
  rw[map_cons,map_cons];refine .cons ?_ ih;obtain⟨h1,h2,h3⟩:=h;unfold putAt;by_cases e:p.1=k
  ·rw[if_pos e,if_pos (h1.symm.trans e)];exact⟨h1,h2,ry⟩
  ·rw[if_neg e,if_neg (fun z=>e (h1.trans z))];exact⟨h1,h2,h3⟩
theorem KT.put{H:Hp}{kvs:List (List Key×V)}{xs:List (List Key×Addr×Value)}(r:KT H kvs xs)(k:List Key){b:Addr}{y:V}{u:Value}(hb:H b=some (.tup (k.map kV)))(ry:RelV y u) :
  KT H (putK kvs k y) (storedH xs k b u):=by
 have e:(kvs.any fun kv=>decide (kv.1=k))=(atKey xs k).isSome:=by
  rw[Kr,(r.val k).isSome_eq,Option.isSome_map]
 unfold putK storedH;rw[e];by_cases q:(atKey xs k).isSome=true
 ·rw[if_pos q,if_pos q];exact r.repl k ry
 ·rw[if_neg q,if_neg q];exact Paired.snoc r ⟨rfl,hb,ry⟩
theorem KT.keeps{H H':Hp}{kvs:List (List Key×V)}{xs:List (List Key×Addr×Value)}(r:KT H kvs xs)(ht:∀b ys,H b=some (.tup ys)->H' b=some (.tup ys)):KT H' kvs xs:=
 Paired.mapP r fun _ _ z=>⟨z.1,ht _ _ z.2.1,z.2.2⟩
section
variable{P:Program}{w:World}{H:Hp}{h:Heap}{a:Addr}
theorem j43{u:HO}(ok:HOk P w H h)(e:Rd H a u):ObjOk P w H h a u:=e.ok ok
theorem j0f{kvs:List (Key×V)}(ok:HOk P w H h)(e:Rd H a (.dK kvs)):kvs.length<=sizeLine/\(a==sysModules)=false/\∃vs,KV kvs vs/\h.DictOf (mixKind P w) a vs:=
 show ObjOk P w H h a (.dK kvs)from j43 ok e
theorem j3Z{kvs:List (Key×V)}(ok:HOk P w H h)(e:H a=some (.dK kvs)):kvs.length<=sizeLine/\(a==sysModules)=false/\∃vs,KV kvs vs/\h.DictOf (mixKind P w) a vs:=j0f ok (.inl e)
theorem Wa{ks:List Key}(ok:HOk P w H h)(e:H a=some (.tup (ks.map kV))):(tupleKind (mixKind P w)).is h ks a:=by
 obtain⟨_,its,r,o,h1,h2,n,h3⟩:=(show ObjOk P w H h a (.tup (ks.map kV))from ok a _ e)
 exact⟨o,its.toArray,n,h1,h2,h3,by simpa using wb r⟩
theorem j0g{kvs:List (List Key×V)}(ok:HOk P w H h)(e:Rd H a (.dT kvs)):kvs.length<=sizeLine/\(a==sysModules)=false/\
  ∃xs,KT H kvs xs/\h.DictOfH (tupleKind (mixKind P w)) a xs:=by
 obtain⟨z,y,xs,r,o,es,ep,h1,h2,h3,h4,h5⟩:=(show ObjOk P w H h a (.dT kvs)from j43 ok e)
 refine⟨z,y,xs,r,o,es,ep,h1,h2,h3,h4,fun x hx=>?_,h5⟩;have all:∀{l:List (List Key×V)} {m:List (List Key×Addr×Value)},KT H l m->∀x∈m,(tupleKind (mixKind P w)).is h x.1 x.2.1:=by
  intro l m q
  induction q with
  | nil=>intro x hx;exact nomatch hx
  | @cons p q ps qs hq t ih=>
   intro x hx;rcases mem_cons.mp hx with e | hx
   ·subst e;exact Wa ok (by rw[<-hq.1];exact hq.2.1)
   ·exact ih x hx
 exact all r x hx
theorem j4W{kvs:List (List Key×V)}(ok:HOk P w H h)(e:H a=some (.dT kvs)):kvs.length<=sizeLine/\(a==sysModules)=false/\
  ∃xs,KT H kvs xs/\h.DictOfH (tupleKind (mixKind P w)) a xs:=j0g ok (.inl e)
end
def DGet(H:Hp)(a:Addr)(y:V)(r:Option V):Prop:=
 (∃kvs k,Rd H a (.dK kvs)/\y=kV k/\r=valV kvs k)\/∃kvs k b,Rd H a (.dT kvs)/\y = .ref b/\H b=some (.tup (k.map kV))/\r=valV kvs k
def DPut(H:Hp)(a:Addr)(y v:V)(H':Hp):Prop:=
 (∃kvs k,H a=some (.dK kvs)/\y=kV k/\kvs.length<sizeLine/\H'=upd H a (.dK (putK kvs k v)))\/
 ∃kvs k b,H a=some (.dT kvs)/\y = .ref b/\H b=some (.tup (k.map kV))/\kvs.length<sizeLine/\H'=upd H a (.dT (putK kvs k v))
theorem DGet.k{H:Hp}{a:Addr}{kvs:List (Key×V)}{k:Key}(e:H a=some (.dK kvs)):DGet H a (kV k) (valV kvs k):=.inl ⟨kvs,k,.inl e,rfl,rfl⟩
theorem DPut.k{H:Hp}{a:Addr}{kvs:List (Key×V)}{k:Key}{v:V}(e:H a=some (.dK kvs))(hl:kvs.length<sizeLine):DPut H a (kV k) v (upd H a (.dK (putK kvs k v))):=.inl ⟨kvs,k,e,rfl,hl,rfl⟩
section
variable{X:Cx}{pins:List (Addr×Obj)}{σ:St}{H:Hp}{s:Shared}{a:Addr}{y v:V}{u r:Value}{o:Option V}{A:Around}{E:Value->Shared->Prop}
theorem Inv.big(I:Inv X pins σ H s):sysModules<s.heap.objs.size:=by
 have h:mainGlobals<s.heap.objs.size:=(I.mod.glob.keeps I.bk).lt;exact Nat.lt_trans (by decide) h
theorem j0W{Q:Value->Shared->Prop}(hu:A.units+1<cLine)(I:Inv X pins σ H s)(g:DGet H a y (some v))(ry:RelV y u)(h:∀w' s',Inv X pins σ H s'->RelV v w'->Q w' s') :
  wpAny (model X.prog X.w) A (getItem (.ref a) u) Q E s:=by
 rcases g with⟨kvs,k,e,ey,l⟩ | ⟨kvs,k,b,e,ey,eb,l⟩
 ·subst ey;obtain⟨z,hd,vs,rel,dd⟩:=j0f I.hok e;obtain⟨w',hw,rw'⟩:=RelO.some_of (v:=v) (o:=valueAt vs k) (by rw[l];exact rel.val k);exact wpAny_getItem_of (xb ry) dd.mapOf hw (h w' _ (I.tok _) rw')
 ·subst ey;cases(show u=Value.ref b from ry);obtain⟨z,hd,xs,rel,dd⟩:=j0g I.hok e;obtain⟨w',hw,rw'⟩:=RelO.some_of (v:=v) (o:=(atKey xs k).map (·.2)) (by rw[l];exact rel.val k);obtain⟨p,hp,hp2⟩:=Option.map_eq_some_iff.mp hw;refine wpAny_getItem_heap (tupleKind_room_in1 hu) (Wa I.hok eb) dd hp ?_;rw[hp2];exact h w' _ (I.tok _) rw'
theorem j5d{Q:Value->Shared->Prop}(hu:A.units+1<cLine)(I:Inv X pins σ H s)(g:DGet H a y o)(ry:RelV y u)(h:∀s',Inv X pins σ H s'->Q (.bool o.isSome) s') :
  wpAny (model X.prog X.w) A (compareOp .In u (.ref a)) Q E s:=by
 rcases g with⟨kvs,k,e,ey,l⟩ | ⟨kvs,k,b,e,ey,eb,l⟩
 ·subst ey;obtain⟨z,hd,vs,rel,dd⟩:=j0f I.hok e;refine wpAny_in_of (xb ry) hd dd.mapOf ?_;rw[<-(rel.val k).isSome_eq,<-l];exact h _ (I.tok _)
 ·subst ey;cases(show u=Value.ref b from ry);obtain⟨z,hd,xs,rel,dd⟩:=j0g I.hok e;refine wpAny_in_heap (tupleKind_room_in1 hu) (Wa I.hok eb) hd dd ?_;have q:=(rel.val k).isSome_eq;rw[Option.isSome_map]at q;rw[<-q,<-l];exact h _ (I.tok _)
theorem wS{h':Heap}{t':Nat}{ob:HO}(I:Inv X pins σ H s)(mu:Mut (H a))(hs:Heap.SameBut a s.heap h')(he:∃q,h'.get? a=some q)(new:ObjOk X.prog X.w (upd H a ob) h' a ob) :
  Inv X pins σ (upd H a ob) {s with heap:=h',toks:=t'}:=
 I.write (x:=a) (e:=a) mu (.inl rfl) (fun b q hb z=>(hs.2 b hb).trans z) he new
theorem j1X{P:Program}{w:World}{H':Hp}{h':Heap}{kvs:List (Key×V)}{vs:List (Key×Value)}(z:kvs.length<=sizeLine)(hd:(a==sysModules)=false)(rel:KV kvs vs)(dd:h'.DictOf (mixKind P w) a vs) :
  ObjOk P w H' h' a (.dK kvs):=⟨z,hd,vs,rel,dd⟩
theorem j0X{H':Hp}{Q:Unit->Shared->Prop}(hu:A.units+1<cLine)(I:Inv X pins σ H s)(g:DPut H a y v H')(ry:RelV y u)(rv:RelV v r)(h:∀s',Inv X pins σ H' s'->Q () s') :
  wpAny (model X.prog X.w) A (setItem (.ref a) u r) Q E s:=by
 rcases g with⟨kvs,k,e,ey,l,eH⟩ | ⟨kvs,k,b,e,ey,eb,l,eH⟩
 ·subst ey eH;obtain⟨z,hd,vs,rel,dd⟩:=j3Z I.hok e;have hz:vs.length<=sizeLine:=by rw[<-rel.length];exact z
  have hl:(putK kvs k v).length<=sizeLine:=by have:=ZY kvs k v;omega
  refine wpAny_setItem_pairs (hsz:=hz) (xb ry) dd fun h' dd' hs=>h _ ?_
  have he:∃q,h'.get? a=some q:=let ⟨q,_,_,hq,_⟩:=dd';⟨q,hq⟩;exact wS I (by rw[e];exact True.intro) hs he (j1X hl hd (rel.put k rv) dd')
 ·subst ey eH;cases(show u=Value.ref b from ry);obtain⟨z,hd,xs,rel,dd⟩:=j4W I.hok e;have hz:xs.length<=sizeLine:=by rw[<-Paired.length rel];exact z
  have hl:(putK kvs k v).length<=sizeLine:=by have:=ZY kvs k v;omega
  refine wpAny_setItem_heap (hsz:=hz) (tupleKind_room_in1 hu) (Wa I.hok eb) dd fun h' dd' hs=>h _ ?_
  obtain⟨q,es,ep,hq,h2,h3,h4,_,h5⟩:=dd';refine wS I (by rw[e];exact True.intro) hs ⟨q,hq⟩ ⟨hl,hd,_,(rel.put k eb rv).keeps fun c ys ec=>?_,q,es,ep,hq,h2,h3,h4,h5⟩;rw[jq (qQ ec e (fun z=>nomatch z))];exact ec
end
section
variable{X:Cx}{pins:List (Addr×Obj)}{σ:St}{H:Hp}{s:Shared}{a:Addr}{kvs:List (Key×V)}{k:Key}{u:Value}{A:Around}{E:Value->Shared->Prop}
end
def NoSl(i:Expr):Prop:=∀ov iv,subscripted i false ov iv=operate [ov,iv] (getItem ov iv)
theorem j3P{prog:Program}{w:World}{A:Around}{E:Value->Shared->Prop}{s:Shared}{env:Env}{value slice:Expr}{pos:Pos}{T id:String}{Q:Value->Shared->Prop}
  (hl:typeLookup (.type T) "__getitem__"= pure (some (.builtin id))) (hs:NoSl slice)
  (h:wpAny (model prog w) A (eval value env) (fun o s₁=>wpAny (model prog w) A (eval slice env) (fun i s₂=>s₂.TypeIs o T/\wpAny (model prog w) A (getItem o i) Q E s₂) E s₁) E s) :
  wpAny (model prog w) A (eval (.Subscript value slice pos) env) Q E s:=by
 refine Subscript_ (wpAny_mono h (fun o s₁ h₁=>wpAny_mono h₁ (fun i s₂ h₂=>?_) fun _ _ x=>x) fun _ _ x=>x);obtain⟨hT,h₂⟩:=h₂;unfold subscriptTail;refine wpAny_bind ?_;rw[getitemInPython_of_ne hT.not_modules];refine wpAny_bind (wpAny_specialOf hT hl ?_);have fin:wpAny (model prog w) A (subscripted slice false o i) (fun r s₃=>wpAny (model prog w) A (letTemporaryGo value o r >>= fun _=>pure r) Q E s₃) E s₂:=by
  rw[hs o i];exact wpAny_operating (wpAny_mono h₂ (fun r s₃ h₃=>wpAny_bind (wpAny_letTemporaryGo (wpAny_pure h₃))) fun _ _ x=>x)
 first
  | exact wpAny_pure (wpAny_bind fin)
  | exact wpAny_bind (wpAny_pure (wpAny_bind fin))
  | exact wpAny_bind fin
theorem WY{X:Cx}{pins:List (Addr×Obj)}{σ:St}{H:Hp}{s:Shared}{a:Addr}{y:V}{o:Option V}(I:Inv X pins σ H s)(g:DGet H a y o):s.TypeIs (.ref a) "dict":=by
 rcases g with⟨kvs,k,e,_,_⟩ | ⟨kvs,k,b,e,_,_,_⟩
 ·obtain⟨_,_,vs,_,dd⟩:=j0f I.hok e;exact dd.typeIs
 ·obtain⟨_,_,xs,_,dd⟩:=j0g I.hok e;exact dd.typeIs
def tDGet(td ty:TE):TE:=fun σ H Q=>td σ H fun x H1=>ty σ H1 fun y H2=>∃a v,x = .ref a/\DGet H2 a y (some v)/\Q v H2
def tDIn(ty td:TE):TE:=fun σ H Q=>ty σ H fun y H1=>td σ H1 fun x H2=>∃a o,x = .ref a/\DGet H2 a y o/\Q (.bl o.isSome) H2
def sDPut(td ty tv:TE):TS:=fun D σ H=>tv σ H fun v H1=>td σ H1 fun x H2=>ty σ H2 fun y H3=>∃a H4,x = .ref a/\DPut H3 a y v H4/\D.nx σ H4
section
variable{X:Cx}{o i e value:Expr}{pos pos' tpos:Pos}{td ty tv:TE}
theorem Jh(hu:X.A.units+1<cLine)(ho:PE X o td)(hi:PE X i ty)(hs:NoSl i:=by exact fun _ _=>rfl):PE X (.Subscript o i pos) (tDGet td ty):=by
 intro pins s σ H Q I h;refine j3P PySem.F.slot_dict_getitem.lookup hs (thn (ho pins s σ H _ I h) fun u s1 ⟨x,H1,I1,rx,q1⟩=>thn (hi pins s1 σ H1 _ I1 q1) fun iv s2 ⟨y,H2,I2,ry,a,v,ex,g,q2⟩=>?_);subst ex;obtain rfl:u=Value.ref a:=rx;exact⟨WY I2 g,j0W hu I2 g ry fun w' s3 I3 rw'=>⟨v,H2,I3,rw',q2⟩⟩
theorem XU(hu:X.A.units+1<cLine)(hi:PE X i ty)(ho:PE X o td):PC X .In i o (tDIn ty td):=by
 intro pins s σ H Q I h;refine thn (hi pins s σ H _ I h) fun iv s1 ⟨y,H1,I1,ry,q1⟩=>thn (ho pins s1 σ H1 _ I1 q1) fun u s2 ⟨x,H2,I2,rx,a,ov,ex,g,q2⟩=>?_
 subst ex;obtain rfl:u=Value.ref a:=rx;exact j5d hu I2 g ry fun s3 I3=>⟨.bl ov.isSome,H2,I3,rfl,q2⟩
theorem Wz(hu:X.A.units+1<cLine)(ho:PE X o td)(hi:PE X i ty)(hv:PE X value tv)(hs:swapsWith value (some (.Subscript o i pos')) pos.line X.env=pure false) :
  PS X (.Assign [.Subscript o i pos'] value pos) (sDPut td ty tv):=by
 intro pins s σ H D I h;refine wpAny_Assign_Subscript (thn (hv pins s σ H _ I h) fun r s1 ⟨v,H1,I1,rv,q1⟩=>thn (ho pins s1 σ H1 _ I1 q1) fun u s2 ⟨x,H2,I2,rx,q2⟩=>thn (hi pins s2 σ H2 _ I2 q2) fun iv s3 ⟨y,H3,I3,ry,a,H4,ex,g,q3⟩=>?_) hs;subst ex;obtain rfl:u=Value.ref a:=rx;exact j0X hu I3 g ry rv fun s4 I4=>⟨σ,H4,I4,q3⟩
end
theorem WZ{P:Program}{w:World}{H:Hp}(h:Heap)(hb:sysModules<h.objs.size):ObjOk P w H (h.push {cls:=.type "dict",data:=.dict #[]}) h.objs.size (.dK []):=
 ⟨Nat.zero_le _,beq_eq_false_iff_ne.mpr (Ne.symm (Nat.ne_of_lt hb)),[],.nil,Heap.DictOf.new h⟩
def tDNewK:TE:=fun _ H Q=>∀p,H p=none->Q (.ref p) (upd H p (.dK []))
section
variable{X:Cx}{pos:Pos}
theorem Kh:PE X (.Dict [] [] pos) tDNewK:=fun pins s σ H Q I h=>
 wpAny_Dict_empty ⟨.ref s.heap.objs.size,_,I.laid (a:=s.heap.objs.size) (o:=.dK []) (t':=s.toks) (fun _ _ q=>Heap.get?_push_of_some _ q) (Nat.le_refl _) (WZ s.heap I.big),rfl,h _ (I.hok.fresh (Nat.le_refl _))⟩
end
noncomputable def tPairs:List (TE×TE)->St->Hp->(List (V×V)->Hp->Prop)->Prop
 | [],_,H,Q=>Q [] H
 | (tk,tv)::r,σ,H,Q=>tk σ H fun x H1=>tv σ H1 fun y H2=>tPairs r σ H2 fun ps H3=>Q ((x,y)::ps) H3
noncomputable abbrev VV:List (V×V)->List (Value×Value)->Prop:=Paired fun p q=>RelV p.1 q.1/\RelV p.2 q.2
def PPs(X:Cx)(pos:Pos)(keys:List (Option Expr))(values:List Expr)(trs:List (TE×TE)):Prop:=
 ∀(pins:List (Addr×Obj)) (s:Shared) (σ:St) (H:Hp) (Q:List (V×V)->Hp->Prop),Inv X pins σ H s->tPairs trs σ H Q->
  wpAny (model X.prog X.w) X.A (evalPairs (pairTrees keys values X.env pos)) (fun vs s'=>∃ps H',Inv X pins σ H' s'/\VV ps vs/\Q ps H') X.xe s
theorem j3y{X:Cx}{pos:Pos}:PPs X pos [] [] []:=fun pins s σ H Q I h=>pairTrees_nil_walk ⟨[],H,I,.nil,h⟩
theorem Z2{X:Cx}{pos:Pos}{k v:Expr}{ks:List (Option Expr)}{vs:List Expr}{tk tv:TE}{trs:List (TE×TE)}(hk:PE X k tk)(hv:PE X v tv)(hr:PPs X pos ks vs trs) :
  PPs X pos (some k::ks) (v::vs) ((tk,tv)::trs):=fun pins s σ H Q I h=>
 pairTrees_cons_walk (thn (hk pins s σ H _ I h) fun u s1 ⟨x,H1,I1,rx,q1⟩=>thn (hv pins s1 σ H1 _ I1 q1) fun w2 s2 ⟨y,H2,I2,ry,q2⟩=>
  thn (hr pins s2 σ H2 _ I2 q2) fun ws s3 ⟨ps,H3,I3,rel,q3⟩=>⟨(x,y)::ps,H3,I3,.cons ⟨rx,ry⟩ rel,q3⟩)
noncomputable def mergeK(kvs more:List (Key×V)):List (Key×V):=more.foldl (fun acc kv=>putK acc kv.1 kv.2) kvs
theorem KV.merge:∀{more:List (Key×V)} {rs:List (Key×Value)} {kvs:List (Key×V)} {vs:List (Key×Value)},KV more rs->KV kvs vs->KV (mergeK kvs more) (merged vs rs):=by
 intro more rs kvs vs r;unfold KV at r
 induction r generalizing kvs vs with
 | nil=>intro q;exact q
 | @cons p q ps qs h t ih=>
  intro r0;have e:KV (putK kvs p.1 p.2) (stored vs q.1 q.2):=by
   have:=r0.put p.1 h.2;rw[<-h.1];exact this
  exact ih e
theorem yu:∀(more kvs:List (Key×V)),(mergeK kvs more).length<=kvs.length+more.length
 | [],kvs=>by show kvs.length<=kvs.length+0;omega
 | p::r,kvs=>by
  have h1:=yu r (putK kvs p.1 p.2);have h2:=ZY kvs p.1 p.2;show(mergeK (putK kvs p.1 p.2) r).length<=_;rw[length_cons];omega
theorem kF{P:Program}{w:World}:∀{kvs:List (Key×V)} {ws:List (Value×Value)},VV (kvs.map fun kv=>(kV kv.1,kv.2)) ws->∃rs,Carries (mixKind P w) ws rs/\KV kvs rs
 | [],_,r=>by rw[map_nil]at r;cases r;exact⟨[],True.intro,.nil⟩
 | p::kvs,_,r=>by
  rw[map_cons]at r;cases r with
  | @cons a b as bs h t=>
   obtain⟨rs,c,q⟩:=kF (P:=P) (w:=w) t;obtain⟨b1,b2⟩:=b;exact⟨(p.1,b2)::rs,⟨xb h.1,rfl,c⟩,.cons ⟨rfl,h.2⟩ q⟩
def tDisp(trs:List (TE×TE)):TE:=fun σ H Q=>∀p,H p=none->tPairs trs σ (upd H p (.dK [])) fun ps H2=>H2 p=some (.dK [])/\∃kvs:List (Key×V),ps=kvs.map (fun kv=>(kV kv.1,kv.2))/\kvs.length<=15/\Q (.ref p) (upd H2 p (.dK (mergeK [] kvs)))
theorem j3u{X:Cx}{pos:Pos}{keys:List (Option Expr)}{values:List Expr}{trs:List (TE×TE)}(h:PPs X pos keys values trs)(hall:keys.all (·.isSome)=true)(hl:keys.length=values.length)(h0:keys≠[])
  (h15:keys.length<=15):PE X (.Dict keys values pos) (tDisp trs):=by
 intro pins s σ H Q I q;have hn:=I.hok.fresh (Nat.le_refl s.heap.objs.size);have I1:=I.laid (a:=s.heap.objs.size) (o:=.dK []) (h':=s.heap.push {cls:=.type "dict",data:=.dict #[]}) (t':=s.toks) (fun _ _ q=>Heap.get?_push_of_some _ q) (Nat.le_refl _) (WZ s.heap I.big);refine wpAny_Dict_walk (knd:=mixKind X.prog X.w) hall hl h0 h15 (thn (h pins _ σ _ _ I1 (q _ hn)) fun ws s2 ⟨ps,H2,I2,rel,e,kvs,ep,lk,q2⟩=>?_);subst ep;obtain⟨rs,c,rk⟩:=kF (P:=X.prog) (w:=X.w) rel;obtain⟨z,hd,vs0,r0,dd⟩:=j3Z I2.hok e;cases r0;refine⟨rs,c,dd,fun h' dd' hs=>⟨.ref s.heap.objs.size,_,?_,rfl,q2⟩⟩;have hz:(mergeK [] kvs).length<=sizeLine:=by
  have h1:=yu kvs [];rw[length_nil]at h1;rw[sizeLine_eq];omega
 have he:∃q,h'.get? s.heap.objs.size=some q:=let ⟨q,_,_,hq,_⟩:=dd';⟨q,hq⟩;exact wS I2 (by rw[e];exact True.intro) hs he (j1X hz hd (rk.merge .nil) dd')
section
variable{X:Cx}{pins:List (Addr×Obj)}{σ:St}{H:Hp}{s:Shared}{a:Addr}{y d:V}{u r:Value}{o:Option V}{A:Around}{E:Value->Shared->Prop}
end
section
variable{X:Cx}{o e f:Expr}{apos cpos:Pos}{td ty tx:TE}
end
section
variable{X:Cx}{pins:List (Addr×Obj)}{σ:St}{H:Hp}{s:Shared}{a:Addr}{kvs:List (Key×V)}{A:Around}{E:Value->Shared->Prop}
end
section
variable{X:Cx}{pins:List (Addr×Obj)}{σ:St}{H:Hp}{s:Shared}{a:Addr}{y:V}{u:Value}{A:Around}{E:Value->Shared->Prop}
end
section
variable{X:Cx}
end
section
variable{κ:Type}[DecidableEq κ]
end
theorem compLoopT{prog:Program}{w:World}{A:Around}{R:Result->Shared->Prop}{s:Shared}{elt target iter:Expr}{ifs:List Expr}{scope:Scope}{pos:Pos}{it acc:Value}{env:Env}(I:Nat->Shared->Prop)
  (turn:∀n s,I n s->wpAny (model prog w) A (pyNext it) (fun r s₁=>match r with
   | none=>R (.ok .next) s₁
   | some v=>wpAny (model prog w) A (letOwnedTupleGo target it v) (fun _ s₂=>wpAny (model prog w) A (assign target env v) (fun _ s₃=>
     wpAny (model prog w) A (forIn ifs true fun c r=>if r=true then do let ok <-isTrue c env (eval c env);pure (ForInStep.yield ok)else pure (ForInStep.yield r)) (fun ok s₄=>
      if ok=true then wpAny (model prog w) A (eval elt env) (fun x s₅=>
       wpAny (model prog w) A (call (.builtin "list.append") [acc,x]) (fun _ s₆=>∃m,m<n/\I m s₆) (fun _ _=>False) s₅) (fun _ _=>False) s₄
      else∃m,m<n/\I m s₄) (fun _ _=>False) s₃) (fun _ _=>False) s₂) (fun _ _=>False) s₁) (fun _ _=>False) s)
  (n:Nat) (h:I n s) :
  codeAny (model prog w) A (.compLoop (.ListComp elt [⟨target,iter,ifs,0⟩] scope pos) 0 it acc env) R s:=by
 refine codeAny_loop rfl I (fun n s hI=>?_) n h;show wpAny _ A ((compTurn (.ListComp elt [⟨target,iter,ifs,0⟩] scope pos) 0 it acc env).onRaise (fun x=>do noteFrame x env;theTreesLotGoes x)) _ _ s;refine wpAny_noted ?_;rw[compTurn_list];refine wpAny_bind (wpAny_standAt (wpAny_bind (wpAny_mono (turn n s hI) (fun r s₁ h₁=>?_) fun _ _ h'=>h'.elim)));cases r with
 | none=>exact wpAny_pure h₁
 | some v=>
  refine wpAny_bind (wpAny_mono h₁ (fun _ s₂ h₂=>?_) fun _ _ h'=>h'.elim);refine wpAny_bind (wpAny_mono h₂ (fun _ s₃ h₃=>wpAny_bind (wpAny_mono h₃ (fun ok s₄ h₄=>?_) fun _ _ h'=>h'.elim)) fun _ _ h'=>h'.elim);cases ok with
  | false=>exact wpAny_pure ⟨rfl,h₄⟩
  | true=>
   exact wpAny_bind (wpAny_bind (wpAny_mono h₄ (fun x s₅ h₅=>wpAny_bind (wpAny_mono h₅ (fun _ s₆ h₆=>wpAny_pure (wpAny_pure ⟨rfl,h₆⟩)) fun _ _ h'=>h'.elim)) fun _ _ h'=>h'.elim))
def PF(X:Cx)(ifs:List Expr)(t:TT):Prop:=
 ∀(pins:List (Addr×Obj)) (s:Shared) (σ:St) (H:Hp) (Q:Bool->Hp->Prop),Inv X pins σ H s->t σ H Q->
  wpAny (model X.prog X.w) X.A (forIn ifs true fun c r=>if r=true then do let ok <-isTrue c X.env (eval c X.env);pure (ForInStep.yield ok)else pure (ForInStep.yield r)) (TP X pins σ Q) X.xe s
def tYes:TT:=fun _ H Q=>Q true H
theorem zR{X:Cx}:PF X [] tYes:=fun _ _ _ H _ I h=>wpAny_tests_nil ⟨H,I,h⟩
theorem XY{X:Cx}{c:Expr}{t:TT}(hc:PT X c t):PF X [c] t:=fun pins s σ H Q I h=>wpAny_tests_one (hc pins s σ H Q I h)
noncomputable def closL(env:Env):List (Str×NameKind)->List (Str×Addr)->List (Str×Addr)
 | [],acc=>acc
 | (n,k)::r,acc=>closL env r (if k == .free then(n,(env.cells.lookup n).getD 0)::acc else acc)
theorem y8{scope:Scope}{env:Env}(h:∀y∈scope.names,y.2 = .free->∃c,env.cells.lookup y.1=some c):closureFor scope env=pure (closL env scope.names []):=by
 have go:∀(names:List (Str×NameKind)) (acc:List (Str×Addr)),(∀y∈names,y.2 = .free->∃c,env.cells.lookup y.1=some c)->
   (forIn (m:=Sem) names acc fun x r=>(match x with | (name,kind)=>if(kind == .free)=true then do let a <-cellOf env name;pure (ForInStep.yield ((name,a)::r))else pure (ForInStep.yield r)))=pure (closL env names acc):=by
  intro names
  induction names with
  | nil=>intro acc _;rfl
  | cons y r ih=>
   obtain⟨n,k⟩:=y;intro acc hh;rw[forIn_cons];cases hk:(k==NameKind.free)with
   | true=>
    have hk':k = .free:=by simpa using hk
    obtain⟨c,hc⟩:=hh (n,k) mem_cons_self hk';have ec:cellOf env n=pure c:=by unfold cellOf;rw[hc]
    simp only[hk,if_true,ec,pure_bind,closL,hc,Option.getD_some];exact ih _ fun y hy=>hh y (mem_cons_of_mem _ hy)
   | false=>
    simp only[hk,Bool.false_eq_true,if_false,pure_bind,closL];exact ih _ fun y hy=>hh y (mem_cons_of_mem _ hy)
 have g:=go scope.names [] h;unfold closureFor;simp only[g,pure_bind]
theorem K5{env:Env}:∀(names:List (Str×NameKind)) (acc:List (Str×Addr)),(∀y∈names,y.2 = .free->∃c,env.cells.lookup y.1=some c)->(∀x c,acc.lookup x=some c->env.cells.lookup x=some c)->
  ∀x c,(closL env names acc).lookup x=some c->env.cells.lookup x=some c
 | [],_,_,ha,x,c,h=>ha x c h
 | (n,k)::r,acc,hh,ha,x,c,h=>by
  refine K5 r _ (fun y hy=>hh y (mem_cons_of_mem _ hy)) (fun x c e=>?_) x c h;cases hk:(k==NameKind.free)with
  | false=>rw[hk]at e;exact ha x c e
  | true=>
   rw[hk]at e;have hk':k = .free:=by simpa using hk
   obtain⟨c',hc⟩:=hh (n,k) mem_cons_self hk';simp only[if_true,hc,Option.getD_some]at e;rw[lookup_cons]at e;cases hx:(x==n)with
   | true=>
    rw[hx]at e;have:x=n:=by simpa using hx
    rw[this,hc];exact e
   | false=>rw[hx]at e;exact ha x c e
theorem K4{env:Env}:∀(names:List (Str×NameKind)) (acc:List (Str×Addr)) (x:Str),(∃c,acc.lookup x=some c)->∃c,(closL env names acc).lookup x=some c
 | [],_,_,h=>h
 | (n,k)::r,acc,x,h=>by
  refine K4 r _ x ?_;cases hk:(k==NameKind.free)with
  | false=>exact h
  | true=>
   simp only[if_true];rw[lookup_cons];cases hx:(x==n)with
   | true=>exact⟨_,rfl⟩
   | false=>exact h
theorem YE{env:Env}:∀(names:List (Str×NameKind)) (acc:List (Str×Addr)) (x:Str),(x,NameKind.free)∈names->∃c,(closL env names acc).lookup x=some c
 | [],_,_,h=>by simp at h
 | (n,k)::r,acc,x,h=>by
  rcases mem_cons.mp h with e | h
  ·cases e;refine K4 r _ _ ?_;simp
  ·exact YE r _ x h
theorem zt{env:Env}:∀{names:List (Str×NameKind)} {x:Str} {k:NameKind},(names.map fun(n,k)=>if(k==NameKind.free&&env.scope.kind == .function&&env.kindOf n==some .cell)then(n,NameKind.cell)else(n,k)).lookup x=some k->
  ∃k',(x,k')∈names/\names.lookup x=some k'/\(k'=k\/(k' = .free/\k = .cell))
 | [],_,_,h=>by simp at h
 | (n,k₀)::r,x,k,h=>by
  have ih:=@zt env r x k;rw[map_cons]at h;dsimp only at h;cases hx:x==n with
  | true=>
   have e:x=n:=by simpa using hx
   subst e;refine⟨k₀,mem_cons_self,by simp,?_⟩;by_cases hc:(k₀==NameKind.free&&env.scope.kind == .function&&env.kindOf x==some .cell)=true
   ·rw[if_pos hc]at h;simp only[lookup_cons,beq_self_eq_true]at h;simp only[Bool.and_eq_true,beq_iff_eq]at hc;exact .inr ⟨hc.1.1,(Option.some.inj h).symm⟩
   ·rw[if_neg hc]at h;simp only[lookup_cons,beq_self_eq_true]at h;exact .inl (Option.some.inj h)
  | false=>
   have h':(r.map fun(n,k)=>if(k==NameKind.free&&env.scope.kind == .function&&env.kindOf n==some .cell)then(n,NameKind.cell)else(n,k)).lookup x=some k:=by
    by_cases hc:(k₀==NameKind.free&&env.scope.kind == .function&&env.kindOf n==some .cell)=true
    ·rw[if_pos hc]at h;simpa only[lookup_cons,hx]using h
    ·rw[if_neg hc]at h;simpa only[lookup_cons,hx]using h
   obtain⟨k',h1,h2,h3⟩:=ih h';exact⟨k',mem_cons_of_mem _ h1,by simpa only[lookup_cons,hx]using h2,h3⟩
theorem YD:∀(names:List (Str×NameKind)) (n:Nat) (acc:List (Str×Addr)) (x:Str) (c:Addr),(cellsFrom n names acc).lookup x=some c->n<=c\/acc.lookup x=some c
 | [],_,_,_,_,h=>.inr h
 | (y,k)::r,n,acc,x,c,h=>by
  unfold cellsFrom at h;split at h
  ·rcases YD r (n+1) _ x c h with q | q
   ·exact .inl (by omega)
   ·rw[lookup_cons]at q;cases hx:x==y with
    | true=>rw[hx]at q;cases q;exact .inl (Nat.le_refl _)
    | false=>rw[hx]at q;exact .inr q
  ·exact YD r n acc x c h
theorem Xi:∀(names:List (Str×NameKind)) (n:Nat) (acc:List (Str×Addr)),(∀x c,acc.lookup x=some c->c<n)->(∀x y c,acc.lookup x=some c->acc.lookup y=some c->x=y)->
  ∀x y c,(cellsFrom n names acc).lookup x=some c->(cellsFrom n names acc).lookup y=some c->x=y
 | [],_,_,_,hi,x,y,c,h1,h2=>hi x y c h1 h2
 | (z,k)::r,n,acc,hb,hi,x,y,c,h1,h2=>by
  unfold cellsFrom at h1 h2;split at h1
  ·rename_i hk;rw[if_pos hk]at h2;refine Xi r (n+1) _ (fun x c e=>?_) (fun x y c e1 e2=>?_) x y c h1 h2
   ·rw[lookup_cons]at e;cases hx:x==z with
    | true=>rw[hx]at e;cases e;exact Nat.lt_succ_self _
    | false=>rw[hx]at e;exact Nat.lt_succ_of_lt (hb x c e)
   ·rw[lookup_cons]at e1 e2;cases hx:x==z with
    | true=>
     rw[hx]at e1;cases e1;cases hy:y==z with
     | true=>rw[beq_iff_eq.mp hx,beq_iff_eq.mp hy]
     | false=>rw[hy]at e2;exact absurd (hb y n e2) (Nat.lt_irrefl _)
    | false=>
     rw[hx]at e1;cases hy:y==z with
     | true=>rw[hy]at e2;cases e2;exact absurd (hb x n e1) (Nat.lt_irrefl _)
     | false=>rw[hy]at e2;exact hi x y c e1 e2
  ·rename_i hk;rw[if_neg hk]at h2;exact Xi r n acc hb hi x y c h1 h2
theorem wR:∀(names:List (Str×NameKind)) (n:Nat) (acc:List (Str×Addr)) (x:Str),(∃c,acc.lookup x=some c)->∃c,(cellsFrom n names acc).lookup x=some c
 | [],_,_,_,h=>h
 | (y,k)::r,n,acc,x,h=>by
  unfold cellsFrom;split
  ·refine wR r (n+1) _ x ?_;rw[lookup_cons];cases hx:x==y with
   | true=>exact⟨_,rfl⟩
   | false=>exact h
  ·exact wR r n acc x h
theorem Xh:∀(names:List (Str×NameKind)) (n:Nat) (acc:List (Str×Addr)) (x:Str),(x,NameKind.cell)∈names->∃c,(cellsFrom n names acc).lookup x=some c
 | [],_,_,_,h=>by simp at h
 | (y,k)::r,n,acc,x,h=>by
  unfold cellsFrom;rcases mem_cons.mp h with e | h
  ·cases e;simp only[beq_self_eq_true,if_true];exact wR r _ _ _ (by simp)
  ·split
   ·exact Xh r _ _ x h
   ·exact Xh r _ _ x h
theorem Xk:∀(names:List (Str×NameKind)) (n:Nat) (acc:List (Str×Addr)) (x:Str),(x,NameKind.cell)∉names->(cellsFrom n names acc).lookup x=acc.lookup x
 | [],_,_,_,_=>rfl
 | (y,k)::r,n,acc,x,h=>by
  have hr:(x,NameKind.cell)∉r:=fun q=>h (mem_cons_of_mem _ q)
  unfold cellsFrom;split
  ·rename_i hk;rw[Xk r _ _ x hr,lookup_cons];cases hx:x==y with
   | true=>rw[beq_iff_eq.mp hx,beq_iff_eq.mp hk]at h;exact absurd mem_cons_self h
   | false=>rfl
  ·exact Xk r n acc x hr
theorem Xj:∀(names:List (Str×NameKind)) (n₀ n:Nat) (acc:List (Str×Addr)) (x:Str) (c:Addr),n₀<=n->((x,NameKind.cell)∈names\/∀c,acc.lookup x=some c->n₀<=c)->(cellsFrom n names acc).lookup x=some c->n₀<=c
 | [],_,_,_,_,c,_,h,e=>h.elim (fun z=>by simp at z) fun z=>z c e
 | (y,k)::r,n₀,n,acc,x,c,hn,h,e=>by
  unfold cellsFrom at e;split at e
  ·refine Xj r n₀ (n+1) _ x c (by omega) ?_ e;rcases h with h | h
   ·rcases mem_cons.mp h with q | q
    ·cases q;exact .inr fun c q=>by rw[lookup_cons,beq_self_eq_true]at q;cases q;exact hn
    ·exact .inl q
   ·refine .inr fun c q=>?_
    rw[lookup_cons]at q;cases hx:x==y with
    | true=>rw[hx]at q;cases q;exact hn
    | false=>rw[hx]at q;exact h c q
  ·rename_i hk;refine Xj r n₀ n acc x c hn ?_ e;rcases h with h | h
   ·rcases mem_cons.mp h with q | q
    ·cases q;exact absurd rfl hk
    ·exact .inl q
   ·exact .inr h
theorem kG:∀(names:List (Str×NameKind)) (h:Heap) (acc:List (Str×Addr)) (x:Str) (c:Addr),(cellsFrom h.objs.size names acc).lookup x=some c->acc.lookup x=some c\/(pushCells h names).IsCell c none
 | [],_,_,_,_,e=>.inl e
 | (y,k)::r,h,acc,x,c,e=>by
  unfold cellsFrom at e;unfold pushCells;split
  ·rename_i hk;rw[if_pos hk]at e;rw[<-Heap.size_push h {cls:=.type "cell",data:=.cell none}]at e;rcases kG r _ _ x c e with q | q
   ·rw[lookup_cons]at q;cases hx:x==y with
    | true=>
     rw[hx]at q;cases q;exact .inr ⟨_,pushCells_keeps _ _ _ _ (Heap.get?_push_size _ rfl),rfl⟩
    | false=>rw[hx]at q;exact .inl q
   ·exact .inr q
  ·rename_i hk;rw[if_neg hk]at e;exact kG r h acc x c e
theorem envC{M:Model}{A:Around}{E:Value->Shared->Prop}{s:Shared}{scope:Scope}{globals:Addr}{cl:List (Str×Addr)}{qual:Str}{env:Env}{Q:Env->Shared->Prop}
  (h:Q (newEnv scope s.heap.objs.size globals (cellsFrom (s.heap.objs.size+1) scope.names cl) qual none .none (some env) builtinsNs) {s with heap:=pushCells (s.heap.push {cls:=.type "dict",data:=.dict #[]}) scope.names}) :
  wpAny M A (newFunctionEnv scope globals cl [] qual none .none (some env)) Q E s:=by
 simp only[newFunctionEnv,Option.isSome_some,if_true];refine wpAny_bind (wpAny_alloc ?_);refine wpAny_bind (wpAny_layCells _ (fun name kind cells=>by cases hkc:kind==NameKind.cell<;>simp[hkc]) _ _ _ _ ?_);rw[show({s with heap:=s.heap.push {cls:=.type "dict",data:=.dict #[]}}:Shared).heap.objs.size=s.heap.objs.size+1 from Heap.size_push ..];rw[forIn_nil];exact wpAny_bind (wpAny_pure (wpAny_pure h))
noncomputable def blk(X:Cx)(scope:Scope)(ow:List Str)(ci:List Nat)(C:Addr)(s₀:Shared)(H₀:Hp)(ex:List Addr)(pn:List (Addr×Obj)):Cx:=
 {X with N:=ow++ci.map fun j=>X.N.getD j "",s₀:=s₀,H₀:=H₀,env:=compEnvC scope (cellsFrom (C+1) scope.names (closL X.env scope.names [])) C X.env,outer:=X.stack,stack:=X.stack,ex:=ex,fn:=fun x=>scope.names.lookup x==some .cell,pn:=pn,xe:=fun _ _=>False}
structure CompScope(X:Cx)(scope:Scope)(ow:List Str)(ci:List Nat):Prop where
 kind:scope.kind = .function
 cell:∀y∈scope.names,y.2 = .cell->scope.names.lookup y.1=some .cell
 names:∀y∈scope.names,y.2 = .local->scope.names.lookup y.1=some .local
 free:∀y∈scope.names,y.2 = .free->X.env.kindOf y.1=some .cell\/X.env.kindOf y.1=some .free
 ix:∀j∈ci,j<X.N.length/\scope.names.lookup (X.N.getD j "")=some .free
noncomputable def compOk(fsc:Scope)(N:List Str)(scope:Scope)(ci:List Nat):Bool:=
 scope.kind == .function&&scope.names.all (fun y=>y.2 != .cell||scope.names.lookup y.1==some .cell)&&scope.names.all (fun y=>y.2 != .local||scope.names.lookup y.1==some .local) &&
 scope.names.all (fun y=>y.2 != .free||fsc.names.lookup y.1==some .cell||fsc.names.lookup y.1==some .free)&&ci.all (fun j=>decide (j<N.length)&&scope.names.lookup (N.getD j "")==some .free)
theorem CompScope.of{X:Cx}{scope:Scope}{ow:List Str}{ci:List Nat}(fsc:Scope)(N:List Str)(e1:X.env.scope=fsc)(e2:X.N=N)(h:compOk fsc N scope ci=true):CompScope X scope ow ci:=by
 subst e1 e2;unfold compOk at h;simp only[Bool.and_eq_true,all_eq_true,Bool.or_eq_true,bne_iff_ne,ne_eq,beq_iff_eq,decide_eq_true_eq]at h;obtain⟨⟨⟨⟨h1,h2⟩,h3⟩,h4⟩,h5⟩:=h;refine⟨h1,fun y hy e=>(h2 y hy).resolve_left fun z=>z e,fun y hy e=>?_,fun y hy e=>?_,fun j hj=>h5 j hj⟩
 ·rcases h3 y hy with z | z
  ·exact absurd e z
  ·exact z
 ·rcases h4 y hy with(z | z) | z
  ·exact absurd e z
  ·exact .inl z
  ·exact .inr z
theorem Qk{X:Cx}{scope:Scope}{ow:List Str}{ci:List Nat}{C:Addr}{s₀:Shared}{H₀:Hp}{ex:List Addr}{pn:List (Addr×Obj)}(N:List Str)(e:X.N=N)(h:(ow++ci.map fun j=>N.getD j "").Nodup):(blk X scope ow ci C s₀ H₀ ex pn).N.Nodup:=by
 subst e;exact h
noncomputable def capAt(σ:St)(j:Nat):Option V:=match σ[j]? with | some o=>o | none=>none
noncomputable def capS(n:Nat)(ci:List Nat)(σ:St):St:=List.replicate n none++ci.map (capAt σ)
def tComp(wi:TI)(n:Nat)(ci:List Nat)(g:TG)(tf:TT)(te:TE):TE:=fun σ H Q=>wi σ H fun J H1=>∃W:Nat->Nat->List V->Hp->Prop,(∃m,W 0 m [] H1)/\∀i m ys H,W i m ys H->
 (J.stop i H/\ys.length<=sizeLine/\∀p,H p=none->Q (.ref p) (upd H p (.lst ys)))\/
 (J.go i H/\∃N:List V->Hp->Prop,(∀ys' H',N ys' H'->∃m',m'<m/\W (i+1) m' ys' H')/\∀x H',J.yld i H x H'->g x (capS n ci σ) H' fun σ2 H2=>tf σ2 H2 fun b H3=>
  if b=true then te σ2 H3 fun v H4=>ys.length<sizeLine/\N (ys++[v]) H4 else N ys H3)
section
variable{X:Cx}{pins:List (Addr×Obj)}{σ:St}{H:Hp}{s:Shared}{elt iter tg:Expr}{ifs:List Expr}{scope:Scope}{pos:Pos}{ow:List Str}{ci:List Nat}{g:TG}{tf:TT}{te:TE}
theorem CompScope.cells(S:CompScope X scope ow ci)(ok:X.Ok):∀y∈scope.names,y.2 = .free->∃c,X.env.cells.lookup y.1=some c:=fun y hy e=>ok.has y.1 (S.free y hy e)
theorem CompScope.sub(S:CompScope X scope ow ci)(ok:X.Ok):∀x c,(closL X.env scope.names []).lookup x=some c->X.env.cells.lookup x=some c:=
 K5 scope.names [] (S.cells ok) fun _ _ e=>by simp at e
theorem CompScope.cel(S:CompScope X scope ow ci)(ok:X.Ok){C:Addr}{x:Str}{c:Addr}(h:(cellsFrom (C+1) scope.names (closL X.env scope.names [])).lookup x=some c):C+1<=c\/X.env.cells.lookup x=some c:=
 (YD _ _ _ _ _ h).imp id (S.sub ok x c)
theorem j48(S:CompScope X scope ow ci)(I:Inv X pins σ H s){C:Addr}{ex:List Addr}{pn:List (Addr×Obj)}(hC:s.heap.objs.size<=C)
  (hex:∀b∈ex,b<s.heap.objs.size/\FpOk X pins H b):(blk X scope ow ci C s H ex pn).Ok where
 mod:=I.ok.mod
 kind:=S.kind
 glob:=I.ok.glob
 blt:=I.ok.blt
 above:=hC
 inj:=Xi scope.names (C+1) _ (fun x c e=>by
   obtain⟨v,q⟩:=I.cell x c (S.sub I.ok x c e);exact Nat.lt_succ_of_le (Nat.le_of_lt (Nat.lt_of_lt_of_le q.lt hC))) fun x y c h1 h2=>I.ok.inj x y c (S.sub I.ok x c h1) (S.sub I.ok y c h2)
 has:=fun x h=>by
  have h':∃k,(relabel scope X.env).names.lookup x=some k/\(k = .cell\/k = .free):=by
   rcases h with h | h
   ·exact⟨_,h,.inl rfl⟩
   ·exact⟨_,h,.inr rfl⟩
  obtain⟨k,hl,hk⟩:=h';obtain⟨k',hm,_,e⟩:=zt (env:=X.env) hl;have hf:k' = .cell\/k' = .free:=by
   rcases e with e | ⟨e,_⟩
   ·subst e;exact hk
   ·exact .inr e
  rcases hf with hf | hf
  ·subst hf;exact Xh scope.names _ _ x hm
  ·subst hf;exact wR scope.names _ _ x (YE scope.names [] x hm)
 cab:=fun x c h e=>Nat.le_trans (Nat.le_trans hC (Nat.le_succ _)) (Xj scope.names (C+1) (C+1) _ x c (Nat.le_refl _) (.inl (PySem.mem_of_lookup (beq_iff_eq.mp h))) e)
 hd:=I.ok.hd
 frames:=I.ok.frames
 stk:=.inl rfl
 exf:=fun b hb=>⟨Nat.ne_of_lt (Nat.lt_of_lt_of_le (hex b hb).1 hC),fun x c e=>(S.cel I.ok e).elim (fun q z=>Nat.lt_irrefl _ (Nat.lt_of_lt_of_le (z▸(hex b hb).1) (Nat.le_trans hC (Nat.le_trans (Nat.le_succ _) q)))) fun q=>(hex b hb).2.2.2.2.2.1 x c q⟩
 bs:=I.bs
 bsz:=Nat.le_trans I.ok.bsz I.sz
 noex:=fun b o e hb=>by
  obtain⟨_,_,_,h3,_⟩:=(hex b hb).2;rcases h3 with z | z
  ·exact I.ok.noex b o e z
  ·exact absurd (Nat.lt_of_lt_of_le (Heap.lt_size e) (Nat.le_trans I.ok.bsz z)) (Nat.lt_irrefl _)
 exfs:=fun b hb z=>by
  obtain⟨_,h1,h2,_⟩:=(hex b hb).2;rcases mem_cons.mp (I.stkSub b z)with e | e
  ·exact h1 e
  ·exact h2 e
 funs:=I.stack
 frf:=I.stkFree
theorem j0N(S:CompScope X scope ow ci)(I:Inv X pins σ H s){C:Addr}{ex:List Addr}{h₁:Heap}{t₁:Nat}{m₀:Str->Option Value}(hC:s.heap.objs.size<=C)
  (hex:∀b∈ex,b<s.heap.objs.size/\FpOk X pins H b) (hn:h₁.Ns C m₀) (k:∀b o,s.heap.get? b=some o->h₁.get? b=some o)
  (hnew:∀x c,(cellsFrom (C+1) scope.names (closL X.env scope.names [])).lookup x=some c->(closL X.env scope.names []).lookup x=some c\/h₁.IsCell c none) :
  Inv (blk X scope ow ci C s H ex (X.pn++pins)) [] (capS ow.length ci σ) H {s with heap:=h₁,toks:=t₁}:=by
 have ok:=j48 (pn:=X.pn++pins) S I hC hex;refine⟨ok,rfl,I.bare,Un.kept k,⟨m₀,hn,fun i x v e1 e2 e3=>?_⟩,fun x c e=>?_,I.hok.fresh hC,fun x c e=>(S.cel I.ok e).elim (fun q=>I.hok.fresh (Nat.le_trans hC (Nat.le_trans (Nat.le_succ _) q))) (I.freeC x c),fun p hp=>?_,I.hok.kept k,?_⟩
 ·have e1':(ow++ci.map fun j=>X.N.getD j "")[i]?=some x:=e1;unfold capS at e2;by_cases hi:i<ow.length
  ·rw[List.getElem?_append_left (by simpa using hi),List.getElem?_replicate,if_pos hi]at e2;cases e2
  ·rw[List.getElem?_append_right (by simpa using hi),List.getElem?_map,List.length_replicate]at e2;rw[List.getElem?_append_right (by omega),List.getElem?_map]at e1';cases hj:ci[i-ow.length]? with
   | none=>rw[hj]at e2;cases e2
   | some j=>
    rw[hj]at e1' e2;obtain⟨hl,hf⟩:=S.ix j (mem_of_getElem? hj);have ex':X.N.getD j ""= x:=Option.some.inj e1';have eN:X.N[j]?=some x:=by
     rw[<-ex',getD_eq_getElem?_getD,List.getElem?_eq_getElem hl];rfl
    have ev:σ[j]?=some (some v):=by
     have e2':capAt σ j=some v:=Option.some.inj e2;unfold capAt at e2';cases q:σ[j]? with
     | none=>rw[q]at e2';cases e2'
     | some o=>rw[q]at e2';rw[show o=some v from e2']
    rw[ex']at hf;have hmem:(x,NameKind.free)∈scope.names:=PySem.mem_of_lookup hf;have hk:=S.free _ hmem rfl;obtain⟨m,_,hl'⟩:=I.loc;have vis:Vis X.env.scope x:=by
     rcases hk with q | q
     ·exact .inr (.inl q)
     ·exact .inr (.inr q)
    obtain⟨u,r,lk⟩:=hl' j x v eN ev vis;refine⟨u,r,.inr ⟨?_,?_⟩⟩
    ·rcases e3 with q | q | q
     ·obtain⟨k',_,h2,h3⟩:=zt (env:=X.env) q;rw[hf]at h2;cases h2;rcases h3 with h3 | ⟨_,h3⟩<;>cases h3
     ·exact .inl q
     ·exact .inr q
    ·rcases lk with⟨q,_⟩ | ⟨_,c,hc,hcell⟩
     ·have q':X.env.kindOf x=some .local:=q;rcases hk with z | z<;>(rw[z]at q';cases q')
     ·obtain⟨c',hc'⟩:=YE (env:=X.env) scope.names [] x hmem;have e:=S.sub I.ok x c' hc';rw[hc]at e;cases e;refine⟨c,?_,hcell.keeps k⟩;show(cellsFrom (C+1) scope.names (closL X.env scope.names [])).lookup x=some c;rw[Xk scope.names _ _ x fun z=>?_]
      ·exact hc'
      ·have:=S.cell _ z rfl;rw[hf]at this;cases this
 ·rcases hnew x c e with q | q
  ·obtain⟨v,q⟩:=I.cell x c (S.sub I.ok x c q);exact⟨v,q.keeps k⟩
  ·exact⟨_,q⟩
 ·have hp':p∈X.pn++pins:=by
   rcases mem_append.mp hp with z | z
   ·exact z
   ·cases z
  obtain⟨e,n,ne,nf,d⟩:=I.pin p hp';refine⟨k _ _ e,n,Nat.ne_of_lt (Nat.lt_of_lt_of_le (Heap.lt_size e) hC),fun z=>?_,d⟩;rcases mem_cons.mp (I.stkSub p.1 z)with q | q
  ·exact ne q
  ·exact nf q
 ·show(capS ow.length ci σ).length=(ow++ci.map fun j=>X.N.getD j "").length;simp[capS]
theorem Inv.forget{σ':St}(I:Inv X pins σ' H s)(n:Nat)(ci:List Nat)(σ:St)(hl:(capS n ci σ).length=X.N.length)(h:∀i v,n<=i->(capS n ci σ)[i]?=some (some v)->σ'[i]?=some (some v)):Inv X pins (capS n ci σ) H s:=
 I.weak (by rw[hl,I.len]) fun i v e=>by
  by_cases hi:n<=i
  ·exact h i v hi e
  ·unfold capS at e;rw[List.getElem?_append_left (by simpa using hi),List.getElem?_replicate,if_pos (by omega)]at e;cases e
def GKeeps(n:Nat)(g:TG):Prop:=∀x σ H (Q:St->Hp->Prop),g x σ H Q->g x σ H fun σ2 H2=>(∀(i:Nat) v,n<=i->σ[i]?=some (some v)->σ2[i]?=some (some v))/\Q σ2 H2
theorem qS{n i:Nat}(h:i<n):GKeeps n (gName i):=fun x σ H Q q=>⟨fun j v hj e=>by rw[List.getElem?_set_ne (by omega)];exact e,q⟩
theorem j38{K:Frg}{n i j:Nat}(hi:i<n)(hj:j<n):GKeeps n (gTup K 2 (gCons (gName i) (gCons (gName j) gNil))):=fun x σ H Q q=>by
 obtain⟨a,xs,e1,e2,e3,v,r,e4,v',r',e5,e6,q⟩:=q;refine⟨a,xs,e1,e2,e3,v,r,e4,v',r',e5,e6,fun k u hk e=>?_,q⟩;rw[List.getElem?_set_ne (by omega),List.getElem?_set_ne (by omega)];exact e
theorem kI{E:Value->Shared->Prop}{J:It}{fp:List Addr}{it:Addr}{tn:Nat->Heap->Prop}{RR:Value->Addr->Result->Shared->Prop}(hc:X.calm=true)(S:CompScope X scope ow ci)(hk:GKeeps ow.length g)
  (hb:∀C s₀ H₀ ex pn,PG (blk X scope ow ci C s₀ H₀ ex pn) tg g/\PF (blk X scope ow ci C s₀ H₀ ex pn) ifs tf/\PE (blk X scope ow ci C s₀ H₀ ex pn) elt te)
  (I:Inv X pins σ H s) (T:Turn X.prog X.w X.K tg J fp it tn) (st:tn 0 s.heap) (hf:∀b∈fp,FpOk X pins H b) (Z:List V->Hp->Prop)
  (W:Nat->Nat->List V->Hp->Prop) (w0:∃m,W 0 m [] H)
  (turn:∀i m ys H,W i m ys H->(J.stop i H/\ys.length<=sizeLine/\Z ys H)\/
   (J.go i H/\∃N:List V->Hp->Prop,(∀ys' H',N ys' H'->∃m',m'<m/\W (i+1) m' ys' H')/\∀x H',J.yld i H x H'->g x (capS ow.length ci σ) H' fun σ2 H2=>tf σ2 H2 fun b H3=>
    if b=true then te σ2 H3 fun v H4=>ys.length<sizeLine/\N (ys++[v]) H4 else N ys H3))
  (fin:∀D C s' H' m ys,Inv X pins σ (upd H' D (.lst ys)) s'->H' D=none->Z ys H'->s'.heap.Ns C m->s.heap.objs.size<=C->C≠D->H' C=none->RR (.ref D) C (.ok .next) s') :
  wpAny (model X.prog X.w) X.A (newList []) (fun acc s₃=>wpAny (model X.prog X.w) X.A (newFunctionEnv scope X.env.globals (closL X.env scope.names []) [] X.env.qual none .none (some X.env)) (fun cenv s₄=>
   codeAny (model X.prog X.w) X.A (.compStart (.ListComp elt [⟨tg,iter,ifs,0⟩] scope pos) 0 (.ref it) acc {cenv with scope:=relabel scope X.env}) (RR acc cenv.locals) s₄) E s₃) E s:=by
 refine wpAny_newObj_type (envC ?_);dsimp only;generalize hs3:({s with heap:=s.heap.push {cls:=.type "list",dict:=none,data:=.seq ([]:List Value).toArray}}:Shared)=s3;have e3:s3.heap=s.heap.push {cls:=.type "list",dict:=none,data:=.seq ([]:List Value).toArray}:=by rw[<-hs3]
 rw[<-e3];generalize hh1:pushCells (s3.heap.push {cls:=.type "dict",data:=.dict #[]}) scope.names=h₁;have k3:∀b o,s.heap.get? b=some o->s3.heap.get? b=some o:=fun b o e=>by rw[e3];exact Heap.get?_push_of_some _ e
 have hsz:s3.heap.objs.size=s.heap.objs.size+1:=by rw[e3,Heap.size_push]
 have I3:Inv X pins σ H s3:=by rw[<-hs3];exact I.kept (t':=s.toks) fun b o e=>Heap.get?_push_of_some _ e
 have hD3:s3.heap.get? s.heap.objs.size=some {cls:=.type "list",dict:=none,data:=.seq ([]:List Value).toArray}:=by rw[e3];exact Heap.get?_push_size _ rfl
 generalize hDD:s.heap.objs.size=D at *;generalize hCC:s3.heap.objs.size=C at *;have hDC:D<C:=by omega
 have hHD:H D=none:=I.hok.fresh (Nat.le_of_eq hDD);have fpD:FpOk X pins H D:=I.fpOk (Nat.le_of_eq hDD) hHD;have ltD:∀(b:Addr) o,s.heap.get? b=some o->b<D:=fun b o e=>by rw[<-hDD];exact Heap.lt_size e
 have ltC:∀(b:Addr) o,s3.heap.get? b=some o->b<C:=fun b o e=>by rw[<-hCC];exact Heap.lt_size e
 have hflt:∀b∈fp,b<D:=fun b hb=>by
  obtain⟨o,e,_⟩:=T.obj 0 _ st b hb;exact ltD b o e
 have hex:∀b∈D::fp,b<s3.heap.objs.size/\FpOk X pins H b:=fun b hb=>by
  rw[hCC];rcases mem_cons.mp hb with rfl | hb
  ·exact⟨hDC,fpD⟩
  ·exact⟨Nat.lt_trans (hflt b hb) hDC,hf b hb⟩
 have kk:∀b o,s3.heap.get? b=some o->h₁.get? b=some o:=fun b o e=>by rw[<-hh1];exact pushCells_keeps _ _ b o (Heap.get?_push_of_some _ e)
 have hns₁:h₁.Ns C fun _=>none:=by rw[<-hh1,<-hCC];exact(Heap.Ns.new s3.heap (.type "dict")).keeps (pushCells_keeps _ _)
 have hnew:∀x c,(cellsFrom (C+1) scope.names (closL X.env scope.names [])).lookup x=some c->(closL X.env scope.names []).lookup x=some c\/h₁.IsCell c none:=fun x c e=>by
  rw[<-hh1];refine kG scope.names _ _ x c ?_;rw[Heap.size_push,hCC];exact e
 obtain⟨hg,hfl,he⟩:=hb C s3 H (D::fp) (X.pn++pins);generalize hY:blk X scope ow ci C s3 H (D::fp) (X.pn++pins)=Y at hg hfl he;have Yprog:Y.prog=X.prog:=by rw[<-hY];rfl
 have Yw:Y.w=X.w:=by rw[<-hY];rfl
 have YK:Y.K=X.K:=by rw[<-hY];rfl
 have YA:Y.A=X.A:=by rw[<-hY];rfl
 have Yc:Y.calm=true:=by rw[<-hY];exact hc
 have Yenv:Y.env=compEnvC scope (cellsFrom (C+1) scope.names (closL X.env scope.names [])) C X.env:=by rw[<-hY];rfl
 have Yxe:Y.xe=fun _ _=>False:=by rw[<-hY];rfl
 have Yfs:Y.fs=frs X.stack:=by rw[<-hY];rfl
 have Yex:Y.ex=D::fp:=by rw[<-hY];rfl
 have Ypn:Y.pn=X.pn++pins:=by rw[<-hY];rfl
 have Ys:Y.s₀=s3:=by rw[<-hY];rfl
 have YH:Y.H₀=H:=by rw[<-hY];rfl
 have YN:(capS ow.length ci σ).length=Y.N.length:=by rw[<-hY];show(capS ow.length ci σ).length=(ow++ci.map fun j=>X.N.getD j "").length;simp[capS]
 have own:∀b∈D::fp,b≠Y.env.locals/\b∉Y.fs/\b∈Y.ex/\(∀x c,Y.env.cells.lookup x=some c->c≠b)/\∀p∈Y.pn,p.1≠b:=fun b hb=>by
  obtain⟨h0,h1,h2,h3,h4,h5⟩:=(hex b hb).2;refine⟨by rw[Yenv];exact Nat.ne_of_lt (hCC▸(hex b hb).1),fun z=>?_,by rw[Yex];exact hb,fun x c e=>?_,by rw[Ypn];exact h5⟩
  ·rw[Yfs]at z;rcases mem_cons.mp (I.stkSub b z)with q | q
   ·exact h1 q
   ·exact h2 q
  ·rw[Yenv]at e;rcases S.cel I.ok e with q | q
   ·exact fun z=>Nat.lt_irrefl _ (Nat.lt_of_lt_of_le (hCC▸(hex b hb).1) (Nat.le_trans (Nat.le_succ _) (z▸q)))
   ·exact h4 x c q
 have nDf:D∉fp:=fun z=>Nat.lt_irrefl _ (hflt D z)
 have loop:∀s4:Shared,Inv Y [] (capS ow.length ci σ) H s4->tn 0 s4.heap->s4.heap.PlainList D #[]->
   codeAny (model X.prog X.w) X.A (.compLoop (.ListComp elt [⟨tg,iter,ifs,0⟩] scope pos) 0 (.ref it) (.ref D) (compEnvC scope (cellsFrom (C+1) scope.names (closL X.env scope.names [])) C X.env)) (RR (.ref D) C) s4:=by
  intro s4 J4 st4 pl4;obtain⟨m0,w0⟩:=w0;refine compLoopT (fun n s'=>∃i ys its H',Inv Y [] (capS ow.length ci σ) H' s'/\tn i s'.heap/\(∀b∈fp,H' b=none)/\H' D=none/\s'.heap.PlainList D its/\Vals ys its.toList/\W i n ys H') ?_ m0
   ⟨0,[],#[],H,J4,st4,fun b hb=>(hf b hb).1,hHD,pl4,.nil,w0⟩
  rintro n s5 ⟨i,ys,its,H5,J5,st5,fr5,hD5,⟨pn5,pl5⟩,va5,w5⟩;have vl:ys.length=its.size:=by have:=va5.length;simpa using this
  have pinD:∀{H':Hp} {s':Shared} {σ':St},Inv Y [] σ' H' s'->H' D=none->∀{o:Obj},s'.heap.get? D=some o->(∀v,o.data≠.cell v)->Inv Y [(D,o)] σ' H' s':=fun {H' s' σ'} K hD o e d=>
   K.pins_of fun p hp=>by
    have ep:p=(D,o):=by simpa using hp
    subst ep;obtain⟨a1,a2,_⟩:=own D mem_cons_self;exact⟨e,hD,a1,a2,d⟩
  have P5:=pinD J5 hD5 pl5 (fun v z=>by cases z);have fpk:∀{H':Hp},(∀b∈fp,H' b=none)->∀{o:Obj},∀b∈fp,FpOk Y [(D,o)] H' b:=fun {H'} hn {o} b hb=>by
   obtain⟨a1,a2,a3,a4,a5⟩:=own b (mem_cons_of_mem _ hb);refine⟨hn b hb,a1,a2,.inl a3,a4,fun p hp=>?_⟩;rcases mem_append.mp hp with q | q
   ·exact a5 p q
   ·have ep:p=(D,o):=by simpa using q
    subst ep;exact fun z=>nDf (by have z':D=b:=z;rw[z'];exact hb)
  rcases turn i n ys H5 w5 with⟨stop,hsz5,z5⟩ | ⟨go,NN,hNN,step⟩
  ·have d:=T.done Y Yprog Yw YK Yc i [(D,_)] s5 _ H5 (fun _ _=>False) P5 (fpk fr5) st5 stop;rw[YA]at d;refine thn d fun r s6 ⟨hr,J6⟩=>?_
   subst hr;have D6:=(J6.pin (D,_) (mem_append_right _ mem_cons_self)).1;obtain⟨mC,hnC,_⟩:=J6.loc;rw[Yenv]at hnC;have hnC':s6.heap.Ns C mC:=hnC;have hC6:H5 C=none:=by have:=J6.free;rw[Yenv]at this;exact this
   refine fin D C s6 H5 mC ys ?_ hD5 z5 hnC' (Nat.le_of_lt hDC) (Nat.ne_of_gt hDC) hC6;have B:=J6.base;rw[Yfs,Yex,YH,Ys]at B;have low:∀b o,s.heap.get? b=some o->b≠D/\b≠C:=fun b o e=>⟨Nat.ne_of_lt (ltD b o e),Nat.ne_of_lt (Nat.lt_trans (ltD b o e) hDC)⟩
   have nex:∀b o,s.heap.get? b=some o->b∉fp->b∉D::fp:=fun b o e hb z=>by
    rcases mem_cons.mp z with q | q
    ·exact(low b o e).1 q
    ·exact hb q
   have uN:Un (frs X.stack) fp H (upd H5 D (.lst ys)) s.heap s6.heap:=by
    refine⟨fun b o e n hb hx=>B.keep b o (k3 b o e) n hb (nex b o e hx),fun b o e n hb hx=>B.slot b o (k3 b o e) n hb (nex b o e hx),fun b o e n hx=>?_,fun b o e hx=>B.there b o (k3 b o e) (nex b o e hx),fun b xs q=>?_,fun b o u q=>?_,fun b ps q=>?_⟩
    ·rw[jq (low b o e).1];exact B.free b o (k3 b o e) n (nex b o e hx)
    ·rw[jq (ji (B.tups b xs q) hD5)];exact B.tups b xs q
    ·rw[jq (ji (B.frzs b o u q) hD5)];exact B.frzs b o u q
    ·obtain⟨mo,q'⟩:=B.tbls b ps q;exact⟨mo,by rw[jq (ji q' hD5)];exact q'⟩
   have hok6:HOk X.prog X.w H5 s6.heap:=by rw[<-Yprog,<-Yw];exact J6.hok
   have hokN:HOk X.prog X.w (upd H5 D (.lst ys)) s6.heap:=fun b u e=>by
    by_cases hbD:b=D
    ·subst hbD;rw[jn]at e;cases e;exact⟨hsz5,its.toList,_,va5,by simpa using D6⟩
    ·rw[jq hbD]at e;exact(hok6 b u e).stay (fun c v _ q=>q) (fun c q=>by rw[jq (ji q hD5)];exact q) fun c xs q=>by rw[jq (ji q hD5)];exact q
   refine I.call' (by rw[J6.os,Ys,<-hs3]) uN hokN J6.bare fun b hb=>?_
   obtain⟨h0,h1,h2,h3,h4,h5⟩:=hf b hb;exact⟨h3,h1,h4,h5⟩
  ·have d:=T.item Y Yprog Yw YK Yc i [(D,_)] s5 _ H5 (fun _ _=>False) P5 (fpk fr5) st5 go;rw[YA]at d;refine thn d fun r s6 ⟨u,hr,h6⟩=>?_
   subst hr;refine thn h6 fun _ s7 ⟨x,H7,J7,r7,y7,st7,fr7⟩=>?_
   have J7':=J7.pinned (fpk fr7) (T.obj _ _ st7);have h8:=hg _ s7 _ H7 x u _ J7' r7 (hk _ _ _ _ (step x H7 y7));rw[Yprog,Yw,YA,Yenv,Yxe]at h8;refine thn h8 fun _ s8 ⟨σ8,H8,J8,ks8,q8⟩=>?_
   have h9:=hfl _ s8 σ8 H8 _ J8 q8;rw[Yprog,Yw,YA,Yenv,Yxe]at h9;refine thn h9 fun b s9 ⟨H9,J9,q9⟩=>?_
   have back:∀{H':Hp} {s':Shared},Inv Y ([(D,({cls:=.type "list",data:=.seq its pn5}:Obj))]++pinsAt fp s7.heap) σ8 H' s'->Inv Y [] (capS ow.length ci σ) H' s'/\tn (i+1) s'.heap/\(∀b∈fp,H' b=none)/\H' D=none/\s'.heap.get? D=some {cls:=.type "list",data:=.seq its pn5}:=fun {H' s'} K=>by
    have pD:=K.pin (D,_) (mem_append_right _ (mem_append_left _ mem_cons_self));refine⟨(K.pins_of (pins':=[]) (by simp)).forget _ _ _ YN (fun j v hj e=>ks8 j v hj e),T.keep _ _ _ st7 fun b hb o e=>(K.pin (b,o) (mem_append_right _ (mem_append_right _ (QI hb e)))).1,fun b hb=>?_,pD.2.1,pD.1⟩;obtain⟨o,e,_⟩:=T.obj _ _ st7 b hb;exact(K.pin (b,o) (mem_append_right _ (mem_append_right _ (QI hb e)))).2.1
   cases b with
   | false=>
    rw[if_neg Bool.false_ne_true]at q9|-;obtain⟨m',hm,w9⟩:=hNN _ _ q9;obtain⟨K9,st9,fr9,hD9,e9⟩:=back J9;exact⟨m',hm,i+1,ys,its,H9,K9,st9,fr9,hD9,⟨_,e9⟩,va5,w9⟩
   | true=>
    rw[if_pos rfl]at q9|-;have h10:=he _ s9 σ8 H9 _ J9 q9;rw[Yprog,Yw,YA,Yenv,Yxe]at h10;refine thn h10 fun z s10 ⟨v,H10,J10,r10,hlt,n10⟩=>?_
    obtain⟨m',hm,w10⟩:=hNN _ _ n10;obtain⟨K10,st10,fr10,hD10,e10⟩:=back J10;refine wpAny_list_append_plain (hsz:=by rw[<-vl];exact Nat.le_of_lt hlt) ⟨_,e10⟩ fun h11 pl11 hs11=>?_
    obtain⟨a1,a2,a3,a4,a5⟩:=own D mem_cons_self;have K11:Inv Y [] (capS ow.length ci σ) H10 {s10 with heap:=h11}:=K10.turned (t':=s10.toks) (fun b o hb e=>(hs11.2 b hb).trans e) hD10 a1 (.inl a3) a4 (fun p hp=>a5 p (by simpa using hp));refine⟨m',hm,i+1,ys++[v],its.push z,H10,K11,T.keep _ _ _ st10 fun b hb o e=>(hs11.2 b (fun q=>nDf (q▸hb))).trans e,fr10,hD10,pl11,?_,w10⟩;rw[Array.toList_push];exact va5.append (.cons r10 .nil)
 have J4:Inv Y [] (capS ow.length ci σ) H {s3 with heap:=h₁}:=by
  rw[<-hY];exact j0N (t₁:=s3.toks) S I3 (Nat.le_of_eq hCC) hex hns₁ kk hnew
 have st4:tn 0 h₁:=T.keep _ _ _ st fun b _ o e=>kk b o (k3 b o e)
 have pl4:h₁.PlainList D #[]:=⟨_,kk _ _ hD3⟩
 have L:=loop _ J4 st4 pl4;subst hs3;exact codeAny_compStart_list L (T.self _ 0 _ _ _ st4 L)
variable{wi:TI}
theorem za(hc:X.calm=true)(S:CompScope X scope ow ci)(hk:GKeeps ow.length g)(hi:PI X tg iter wi)
  (hb:∀C s₀ H₀ ex pn,PG (blk X scope ow ci C s₀ H₀ ex pn) tg g/\PF (blk X scope ow ci C s₀ H₀ ex pn) ifs tf/\PE (blk X scope ow ci C s₀ H₀ ex pn) elt te)
  (hs:∀x,foldedSetIterable iter X.env x=pure x:=by intro _;rfl):PE X (.ListComp elt [⟨tg,iter,ifs,0⟩] scope pos) (tComp wi ow.length ci g tf te):=by
 intro pins s σ H Q I h;rw[eval_ListComp];refine wpAny_comprehension_free (use:=none) rfl hs (y8 (S.cells I.ok)) S.kind S.names (thn (hi pins s σ H _ I h) fun v s1 h1=>thn h1 fun itv s2 h2=>?_);obtain⟨it,fp,tn,J,H2,e,I2,T,st2,f2,W,w0,turn⟩:=h2;subst e;refine kI (RR:=fun acc C=>compPost (model X.prog X.w) X.A X.xe none (EP X pins σ Q) acc C) hc S hk hb I2 T st2 f2 (fun ys H=>∀p,H p=none->Q (.ref p) (upd H p (.lst ys))) W w0 turn fun D C s' H' m ys K hD z hn hC hCD hC0=>?_
 refine⟨m,hn,fun h' hs'=>⟨.ref D,upd H' D (.lst ys),?_,rfl,z D hD⟩⟩;obtain⟨f0,f1,f2',f3,f4,f5⟩:=I2.fpOk (H':=upd H' D (.lst ys)) hC (by rw[jq hCD];exact hC0);exact K.turned (t':=s'.toks) (fun b o hb e=>(hs'.2 b hb).trans e) f0 f1 f3 f4 f5
theorem kr{i:Nat}{x:Str}{px spos:Pos}(hc:X.calm=true)(S:CompScope X scope ow ci)(hk:GKeeps ow.length g)(hN:X.N.Nodup)(hx1:X.N[i]?=some x)(hx:Loc X.env.scope x)(hi:PI X tg iter wi)
  (hb:∀C s₀ H₀ ex pn,PG (blk X scope ow ci C s₀ H₀ ex pn) tg g/\PF (blk X scope ow ci C s₀ H₀ ex pn) ifs tf/\PE (blk X scope ow ci C s₀ H₀ ex pn) elt te)
  (hsw:swapsWith (.ListComp elt [⟨tg,iter,ifs,0⟩] scope pos) (some (.Name x px)) spos.line X.env=pure true:=by rfl)
  (hf:X.fn x=true\/X.env.scope.names.lookup x=some .local:=by first | exact .inl rfl | exact .inr rfl | assumption)
  (hs:∀x,foldedSetIterable iter X.env x=pure x:=by intro _;rfl):PS X (.Assign [.Name x px] (.ListComp elt [⟨tg,iter,ifs,0⟩] scope pos) spos) (tAsg (tComp wi ow.length ci g tf te) (gName i)):=by
 intro pins s σ H D I h;rw[exec_Assign_Name_used _ _ _ _ hsw];refine wpAny_bind (wpAny_standAt (wpAny_bind ?_));show wpAny _ X.A (do let _ <-comprehension (.ListComp elt [⟨tg,iter,ifs,0⟩] scope pos) scope X.env _ (newList []) false (eval iter X.env) (some (assign (.Name x px) X.env))) _ _ s;refine wpAny_bind (wpAny_mono (wpAny_comprehension_free (use:=some (assign (.Name x px) X.env)) (Q:=fun _ s'=>SP X pins D .next s') rfl hs (y8 (S.cells I.ok)) S.kind S.names
  (thn (hi pins s σ H _ I h) fun v s1 h1=>thn h1 fun itv s2 h2=>?_)) (fun _ s' hq=>wpAny_pure (wpAny_pure hq)) fun _ _ e=>e)
 obtain⟨it,fp,tn,J,H2,e,I2,T,st2,f2,W,w0,turn⟩:=h2;subst e;refine kI (RR:=fun acc C=>compPost (model X.prog X.w) X.A X.xe (some (assign (.Name x px) X.env)) (fun _ s'=>SP X pins D .next s') acc C) hc S hk hb I2 T st2 f2
  (fun ys H=>∀p,H p=none->gName i (.ref p) σ (upd H p (.lst ys)) D.nx) W w0 turn fun P C s' H' m ys K hD z hn hC hCD hC0=>?_
 obtain⟨f0,f1,f2',f3,f4,f5⟩:=I2.fpOk (H':=upd H' P (.lst ys)) hC (by rw[jq hCD];exact hC0);show wpAny _ X.A (assign (.Name x px) X.env (.ref P)) _ _ s';refine wpAny_assign_Name (wq K hN hx1 hx (v:=.ref P) rfl (fun s3 K3 ⟨a,hs3,ha⟩=>⟨m,hn.sameBut hs3 ?_,fun h' hs'=>?_⟩) hf)
 ·rcases ha with q | q
  ·rw[q];exact f1
  ·exact fun z=>f4 x a q z.symm
 ·exact⟨_,_,K3.turned (t':=s3.toks) (fun b o hb e=>(hs'.2 b hb).trans e) f0 f1 f3 f4 f5,z P hD⟩
theorem JR{K:Frg}{a:Addr}{xs:List V}{k:Nat}{ci:List Nat}{g:TG}{tf:TT}{te:TE}{σ:St}{H:Hp}{Z:Addr->List V->Hp->Prop}(Pv:Nat->List V->Hp->Prop)(h0:Pv 0 [] H)(hl:∀i ys H,i<=xs.length->Pv i ys H->SqL K H a xs)
  (hs:∀i x ys H,xs[i]?=some x->Pv i ys H->g x (capS k ci σ) H fun σ2 H2=>tf σ2 H2 fun b H3=>if b=true then te σ2 H3 fun v H4=>ys.length<sizeLine/\Pv (i+1) (ys++[v]) H4 else Pv (i+1) ys H3)
  (hd:∀ys H,Pv xs.length ys H->ys.length<=sizeLine/\∀p,H p=none->Z p ys H) :
  ∃W:Nat->Nat->List V->Hp->Prop,(∃m,W 0 m [] H)/\∀i m ys H,W i m ys H->
   ((Itl K a).stop i H/\ys.length<=sizeLine/\∀p,H p=none->Z p ys H)\/
   ((Itl K a).go i H/\∃N:List V->Hp->Prop,(∀ys' H',N ys' H'->∃m',m'<m/\W (i+1) m' ys' H')/\∀x H',(Itl K a).yld i H x H'->g x (capS k ci σ) H' fun σ2 H2=>tf σ2 H2 fun b H3=>
    if b=true then te σ2 H3 fun v H4=>ys.length<sizeLine/\N (ys++[v]) H4 else N ys H3):=by
 refine⟨fun i m ys H=>m=xs.length-i/\i<=xs.length/\Pv i ys H,⟨xs.length,by simp,Nat.zero_le _,h0⟩,?_⟩;rintro i m ys H ⟨rfl,hi,p⟩;have q:=hl i ys H hi p;by_cases hlt:i<xs.length
 ·refine .inr ⟨⟨xs,xs[i],q,by simp[hlt]⟩,Pv (i+1),fun ys' H' p'=>⟨xs.length-(i+1),by omega,rfl,hlt,p'⟩,fun x H' y=>?_⟩;obtain⟨e,y⟩:=y;subst e;exact hs i x ys _ (y xs q) p
 ·have e:i=xs.length:=by omega
  subst e;exact .inl ⟨⟨xs,q,Nat.le_refl _⟩,hd ys H p⟩
end
theorem j0B:(10:Nat)^250<2^831:=by decide +kernel
theorem WU{x:Int}(h1 : -10^250<=x)(h2:x<=10^250):Builtin.Int.intBits x<=1048576:=by
 refine Nat.le_trans (PySem.intBits_le_iff.mpr ?_:Builtin.Int.intBits x<=831) (by decide);have:x.natAbs<=10^250:=by omega
 exact Nat.lt_of_le_of_lt this j0B
theorem mulOk{x y:Int}(h1 : -10^250<=x)(h2:x<=10^250)(h3 : -10^250<=y)(h4:y<=10^250):IntMulOk x y:=.of_bits (WU h1 h2) (WU h3 h4)
section
variable{X:Cx}
theorem Qs:OpR X (binaryOp .Mult) (rI IntMulOk fun i j=>.int (i*j)):=opI fun _ _ _ _ _ _ _ hc q=>mul_int q hc
def CDivB(_ j:Int):Prop:=0<j/\j<=10^250
theorem cdivB{i j:Int}(h1:0<j)(h2:j<=10^250):CDivB i j:=⟨h1,h2⟩
theorem JF:OpR X (binaryOp .FloorDiv) (rI CDivB fun i j=>.int (i/j)):=opI fun i j _ _ _ _ _ hc q=>by
 have h1:(0:Int)<j:=hc.1;have h2:j<=10^250:=hc.2;refine floordiv_int (by omega) ?_ (.inl (PyProof.noPylong_of_log2 ?_))
 ·rw[Int.fdiv_eq_ediv_of_nonneg _ (by omega)];exact q
 ·have e:j.natAbs<=10^250:=by omega
  have g:j.natAbs.log2<831:=(Nat.log2_lt (by omega)).mpr (Nat.lt_of_le_of_lt e j0B);omega
theorem yY:CallR X (.builtin "isinstance") (fun xs H Q=>∃x T t b,xs=[x,.ty T]/\TyOf X.K H x t/\PySem.W.kitOne X.K t (.type T)=some b/\Q (.bl b) H):=by
 intro pins s σ H xs us Q I r h;obtain⟨x,T,t,b,rfl,ty,e,q⟩:=h;obtain⟨u,w',rfl,rx,rT⟩:=vals2 r;cases(show w'=Value.type T from rT);exact j15 I rx ty e fun tk=>⟨.bl b,H,I.tok _,rfl,q⟩
theorem j1y{prog:Program}{w:World}{A:Around}{E:Value->Shared->Prop}{s:Shared}{l:Addr}{xs:Array (Int×Tok)}{Q:Value->Shared->Prop}(hh:A.handled=none)(hl:s.heap.IsList l (intItems xs))
  (h:∀h' tk t',(∀b o,s.heap.get? b=some o->h'.get? b=some o)->Q (.int (preSum (numAt xs) xs.size) t') {s with heap:=h',toks:=tk}) :
  wpAny (model prog w) A (call (.builtin "sum") [.ref l]) Q E s:=by
 obtain⟨o,ho,hc,n,hd⟩:=id hl;have hne:l≠s.heap.objs.size:=Nat.ne_of_lt (Heap.lt_size ho);have hsz:(intItems xs).size=xs.size:=by simp[intItems]
 have W:=(Walks.list (prog:=prog) (w:=w) (A:=A.in1) hh s.heap.objs.size l hne (intItems xs)).toS;rw[hsz]at W;refine call_sum_walkAnyS (wpAny_pyIter_list hl ?_);refine⟨s.heap.objs.size,_,_,_,_,_,_,numAt xs,rfl,W,⟨⟨_,Heap.get?_push_size _ rfl,rfl,rfl⟩,hl.at fun o e=>Heap.get?_push_of_some _ e⟩,fun b hb=>?_,fun i v hP=>intItems_at hP,fun s' t' hm=>?_⟩
 ·rcases mem_cons.mp hb with rfl | hb
  ·exact Heap.lt_size (Heap.get?_push_size _ rfl)
  ·obtain rfl:=mem_singleton.mp hb;exact Heap.lt_size (Heap.get?_push_of_some _ ho)
 ·obtain⟨h',g',d',tk',os'⟩:=s';have e1:g'=s.gens:=hm.gens;have e2:d'=s.drawn:=hm.drawn;have e3:os'=s.os:=hm.os;subst e1 e2 e3;exact h h' tk' t' fun b o e=>hm.heap b o (fun hb=>absurd (Heap.lt_size e) ((mem_singleton.mp hb)▸Nat.lt_irrefl _)) (Heap.get?_push_of_some _ e)
theorem K1(hc:X.calm=true):CallR X (.builtin "sum") (fun xs H Q=>∃(p:Addr) (ns:List Int),xs=[.ref p]/\SqL X.K H p (ns.map V.int)/\Q (.int ns.sum) H):=by
 intro pins s σ H xs us Q I r h;obtain⟨p,ns,rfl,hx,q⟩:=h;obtain⟨u,rfl,rx⟩:=vals1 r;cases rx;obtain⟨its,r',pl,hz⟩:=I.list hx;have hi:IntsAre its ns:=intsAre_of r';obtain⟨ys,hy⟩:=hi.allInts.items;have hn:numsOf its.toArray.toList=ns:=by rw[show its.toArray.toList=its from rfl,hi.numsOf]
 have hl:=pl.isList;rw[hy]at hl hn;rw[nums_intItems]at hn;refine j1y (I.ok.hd hc) hl fun h' tk t' hk=>?_
 rw[preSum_eq,take_of_length_le (by simp),hn];exact⟨.int ns.sum,H,I.kept hk,⟨_,rfl⟩,q⟩
end
end L2
namespace Att
open PySem PySem.W PySem.Calls PyProof.Rows
theorem Y9:∀(ns:List Int) (x:Int),x∈ns->Builtin.Int.intBits x<=WData.weightAll (ns.map WData.int)
 | [],_,h=>by cases h
 | n::r,x,h=>by
  show _<=WData.weight (.int n)+1+WData.weightAll (r.map WData.int);rcases mem_cons.mp h with e | h
  ·subst e;have e:Builtin.Int.intBits x=WData.weight (.int x):=by
    unfold Builtin.Int.intBits WData.weight;rfl
   omega
  ·have:=Y9 r x h;omega
theorem wJ{l:OpenLaw}{n:Nat}{q:Program}{loose:List Str}{XP:(Str->Option Value)->Heap->Prop}{YP:World->Heap->Prop}{d:DefRec}
  (hn:l.most=some n) (hdf:d.params.defaults=[])
  (call:∀(w:World) (s₀ s₁:Shared) (mg mb:Str->Option Value) (fa:Addr) (o:Obj) (pm cd doc:Value) (a:Addr) (vs:List Value) (ns:List Int),
   Ground q loose [] XP w s₀ mg mb s₁.heap->YP w s₁.heap->
   s₁.heap.get? fa=some o->o.data = .func (docDef d.name d.params d.body d.scope pm cd doc)->s₁.heap.CodeRec cd d.name->mg d.name=some (.ref fa)->
   s₁.heap.get? a=some {cls:=.type "list",data:=.seq vs.toArray}->IntsAre vs ns->ns.length<=n->(∀x∈ns,Builtin.Int.intBits x<=1048576)->s₁.gens = #[]->
   codeAny (model l.prog w) callerA (.call (.ref fa) ⟨[.ref a],[]⟩) (fun r s'=>r = .ok (.ret (.bool true))/\OldK s₁.heap s'.heap/\s'.os=s₁.os/\AllBare s'.gens) s₁) :
  WalkO q loose XP YP l.row.toRowW d [] (fun f vs=>PySem.call f vs):=by
 intro w s₀ s₁ mg mb G Y fa o pm cd doc dV kV ho hd hcd hD hmg hg args vals as hpre hlay hrd hwl hlo;obtain rfl:dV = .none:=Dflts.none hD hdf;obtain rfl:kV = .none:=Dflts.noKw hD;obtain⟨a,vs,ns,rfl,rfl,hobj,hints,hlen⟩:=j1w hn hpre hwl;have hbits:∀x∈ns,Builtin.Int.intBits x<=1048576:=by
  have hw:(WData.list (ns.map WData.int)).weight<=2^20:=(layableW_iff.mp (layW_cons hlay).1).2.2;intro x hx;exact Nat.le_trans (Y9 ns x hx) hw
 refine enter_call (codeAny_mono (call w s₀ s₁ mg mb fa o pm cd doc a vs ns G Y ho (fd_plain hd) hcd hmg hobj hints hlen hbits hg) fun r s' hq=>?_);obtain⟨rfl,h2,h3,h4⟩:=hq;exact⟨.inl ⟨.bool true,.bool true,[],rfl,fun _=>rfl,.bool true,j1s l _,fun _=>⟨List.Pairwise.nil,fun _ hm=>(nomatch hm)⟩⟩,h2,h3,h4⟩
end Att
namespace L2
open PySem PySem.Spec PyProof.Rows
theorem j2M{l:PySem.W.OpenLaw}{n k:Nat}{q:Program}{loose:List Str}{XP:(Str->Option Value)->Heap->Prop}{YP:World->Heap->Prop}{d:DefRec}{K:Params->Frg}{CX:CXT}{sp:Frg->Sp}{x:Str}
  (hn:l.most=some n) (hn2:n<=sizeLine) (hdf:d.params.defaults=[]) (hr:Room k callerA)
  (hY:∀(w:World) (h:Heap),YP w h->(K w.params).In h)
  (F:∀(w:World) (mg:Str->Option Value) (fa:Addr) (h:Heap),(K w.params).In h->h.Ns mainGlobals mg->mg d.name=some (.ref fa)->
   ∃fd:FuncData,(∀(s:Shared) (u:Value),BindsTo s fd ⟨[u],[]⟩ [(x,u)])/\
    ∀base:Heap,(K w.params).In base->base.Ns mainGlobals mg->FnOk l.prog w (K w.params) mg base CX k fa fd [x] (sp (K w.params)))
  (hsp:∀(K:Frg) (H:Hp) (a:Addr) (ns:List Int),ns.length<=n->(∀x∈ns,Builtin.Int.intBits x<=1048576)->Only H->SqL K H a (ns.map V.int)->sp K [.ref a] H (fun v _=>v = .bl true) fun _ _ _=>False)
  (hCX:∀(H:Hp) (s:Shared) (e:Value) (s':Shared),CX [] H s (fun _ _ _=>False) e s'->False) :
  PySem.W.WalkO q loose XP YP l.row.toRowW d [] (fun f vs=>PySem.call f vs):=by
 refine Att.wJ hn hdf fun w s₀ s₁ mg mb fa o pm cd doc a vs ns G Y ho hd hcd hmg hobj hints hlen hbits hg=>?_
 have KX:=hY w _ Y;obtain⟨fd,hb,hF⟩:=F w mg fa _ KX G.T.g hmg;exact j2e KX G.T.g G.T.b G.T.builtins G.T.nolimit hg hobj hints (Nat.le_trans hlen hn2) hr hF hb (fun H hO hS=>hsp _ H a ns hlen hbits hO hS) fun H e s'=>hCX H s₁ e s'
structure FunD(K:Frg)(x qual:Str)(st:Stmt)(T:Addr)(f:Addr)(fd:FuncData):Prop where
 ex:∃(oc:Value) (od:Option Addr) (kV doc pm:Value) (an:Option Addr) (cdv ct:Value) (osl:Array (Option Value)),
  fd=PySem.W.fnOf x qual (defArgs st) (defBody st) (defScope st) (.ref T) kV doc pm an cdv ct/\K.lookup f=some ⟨oc,od,.func fd,osl⟩/\PySem.W.codeIn K cdv qual=true
 kp:PySem.W.keepIn K (.ref f)=true
section
variable{P:Program}{w:World}{K:Frg}{mg:Str->Option Value}{base:Heap}
theorem FunD.ok{x qual:Str}{st:Stmt}{T f:Addr}{fd:FuncData}{N ps:List Str}{k:Nat}{sp:Sp}(F:FunD K x qual st T f fd)(S:FnScope N ps (defScope st))(len:∀vs H Q E,sp vs H Q E->vs.length=ps.length)
  (hbody:∀(cdv:Value) (A:Around) (outer:List Env) (s:Shared) (H:Hp) (vs:List V) (Q:VK) (E:XK),Room k (A.deeper (envOfC qual (defScope st) s.heap.objs.size f cdv))->sp vs H Q E->
   ∃t,PSs (cxOf CX0 P w K mg base N qual (defScope st) f cdv A outer s H E).nox (defBody st) t/\t {nx:=fun _ H'=>Q .non H',rt:=Q} (start N vs) H):FnOk P w K mg base CX0 (k+1) f fd ps sp:=by
 obtain⟨oc,od,kV,doc,pm,an,cdv,ct,osl,rfl,lk,hcd⟩:=F.ex;refine j42 lk hcd S len fun A outer s H vs Q E hr hsp=>?_
 obtain⟨t,h,q⟩:=hbody cdv A outer s H vs Q E hr hsp;exact⟨t,h.nox,q⟩
theorem FunD.binds{x qual:Str}{st:Stmt}{T f:Addr}{fd:FuncData}{ps:List Str}{ds:List Value}{o:Obj}{items:Array Value}{n:Nat}(m:Nat)(F:FunD K x qual st T f fd)(ht:K.lookup T=some o)(hs:o.data = .seq items n)(hm:m+ds.length=ps.length)
  (h:∀(kV doc pm:Value) (an:Option Addr) (cdv ct:Value) (us:List Value),us.length=m->∃k,bindArgs (PySem.W.fnOf x qual (defArgs st) (defBody st) (defScope st) (.ref T) kV doc pm an cdv ct) ⟨us,[]⟩=seqItems? (.ref T) >>= k/\k (some items)=pure (ps.zip (us++ds))):Binds K fd ps ds:=by
 obtain⟨oc,od,kV,doc,pm,an,cdv,ct,osl,rfl,lk,hcd⟩:=F.ex;intro s us KX hl;obtain⟨k,h1,h2⟩:=h kV doc pm an cdv ct us (by rw[List.length_append]at hl;omega);exact BindsTo.of_defaults rfl (KX _ _ ht) hs h1 h2
theorem j37{x qual:Str}{st:Stmt}{T f:Addr}{oc:Value}{od an:Option Addr}{osl:Array (Option Value)}{kV doc pm cdv ct:Value}(l:K.lookup f=some ⟨oc,od,.func (PySem.W.fnOf x qual (defArgs st) (defBody st) (defScope st) (.ref T) kV doc pm an cdv ct),osl⟩)
  (c:PySem.W.codeIn K cdv qual=true) (k:PySem.W.keepIn K (.ref f)=true):FunD K x qual st T f (PySem.W.fnOf x qual (defArgs st) (defBody st) (defScope st) (.ref T) kV doc pm an cdv ct):=⟨⟨oc,od,kV,doc,pm,an,cdv,ct,osl,rfl,l,c⟩,k⟩
end
theorem SP.nx{X:Cx}{pins:List (Addr×Obj)}{D:Ends}{R:St->Hp->Prop}(hR:∀σ' H',R σ' H'->D.nx σ' H'){f:Flow}{s:Shared}(h:SP X pins {D with nx:=R} f s):SP X pins D f s:=by
 cases f with
 | next=>obtain⟨σ',H',I,q⟩:=h;exact⟨σ',H',I,hR _ _ q⟩
 | brk=>exact h
 | cont=>exact h
 | ret u=>exact h
def tIfJ(c:TT)(t u:TS):TS:=fun D σ H=>∃R:St->Hp->Prop,(∀σ' H',R σ' H'->D.nx σ' H')/\tIfS c t u {D with nx:=R} σ H
theorem Jp{X:Cx}{pos:Pos}{t u:TS}{c:Expr}{a b:List Stmt}{tc:TT}(hc:PT X c tc)(ha:PSs X a t)(hb:PSs X b u):PS X (.If c a b pos) (tIfJ tc t u):=by
 intro pins s σ H D I h;obtain⟨R,hR,h⟩:=h;exact thn (jT hc ha hb pins s σ H _ I h) fun f s' q=>q.nx hR
open PySem
theorem jP:bootBuiltins "len"= some (.builtin "len"):=by decide +kernel
theorem j1M:bootBuiltins "max"= some (.builtin "max"):=by decide +kernel
theorem j1N:bootBuiltins "min"= some (.builtin "min"):=by decide +kernel
theorem j1O:bootBuiltins "sum"= some (.builtin "sum"):=by decide +kernel
theorem Jt:bootBuiltins "isinstance"= some (.builtin "isinstance"):=by decide +kernel
theorem Xe:bootBuiltins "all"= some (.builtin "all"):=by decide +kernel
theorem KU:bootBuiltins "sorted"= some (.builtin "sorted"):=by decide +kernel
theorem wL:bootBuiltins "int"= some (.type "int"):=by decide +kernel
theorem Xf:bootBuiltins "str"= some (.type "str"):=by decide +kernel
theorem j2W:bootBuiltins "bool"= some (.type "bool"):=by decide +kernel
theorem wM:bootBuiltins "list"= some (.type "list"):=by decide +kernel
theorem Za:bootBuiltins "tuple"= some (.type "tuple"):=by decide +kernel
theorem j49:bootBuiltins "set"= some (.type "set"):=by decide +kernel
theorem yS:bootBuiltins "enumerate"= some (.type "enumerate"):=by decide +kernel
theorem j1P:bootBuiltins "zip"= some (.type "zip"):=by decide +kernel
theorem xf(K:Frg)(t:Value)(h:(t==t)=true):PySem.W.kitOne K t t=some true:=by unfold PySem.W.kitOne;rw[if_pos h]
theorem YM(K:Frg){a b:String}{v:Bool}(h0:(Value.type a==Value.type b)=false)(h1:PySem.W.kitMeta b=true)(h2:PySem.W.subIn [] (.type a) (.type b)=some v):PySem.W.kitOne K (.type a) (.type b)=some v:=by
 unfold PySem.W.kitOne;rw[if_neg (by rw[h0];exact Bool.false_ne_true)];show(if PySem.W.kitMeta b=true then _ else _)=_;rw[if_pos h1];exact h2
theorem j14{K:Frg}:PySem.W.kitOne K (.type "int") (.type "int")=some true:=xf K _ (by decide +kernel)
theorem Xs{K:Frg}:PySem.W.kitOne K (.type "int") (.type "bool")=some false:=YM K (by decide +kernel) (by decide +kernel) (by decide +kernel)
theorem W8{K:Frg}:PySem.W.kitOne K (.type "int") (.type "tuple")=some false:=YM K (by decide +kernel) (by decide +kernel) (by decide +kernel)
theorem W9{K:Frg}:PySem.W.kitOne K (.type "str") (.type "tuple")=some false:=YM K (by decide +kernel) (by decide +kernel) (by decide +kernel)
theorem yt{K:Frg}:PySem.W.kitOne K (.type "tuple") (.type "tuple")=some true:=xf K _ (by decide +kernel)
def Its(z:Str):It:=⟨fun i _=>i<z.cps.size,fun i H x H'=>H'=H/\∃c,z.cps[i]?=some c/\x = .str ⟨#[c]⟩,fun i _=>i=z.cps.size⟩
theorem xX{P:Program}{w:World}{K:Frg}{tg:Expr}{it:Addr}{x:Str}{t:Tok}{cn:String}(ht:∀a v,letOwnedTupleGo tg a v=pure ())
  (W:∀A:Around,A.handled=none->Walks P w A it [it] [it] x.cps.size (SignAt x) (fun i h=>h.IsStrIter it cn x t i))
  (sf:∀(A:Around) (i:Nat) (s:Shared) (Q:Value->Shared->Prop) (E:Value->Shared->Prop),s.heap.IsStrIter it cn x t i->Q (.ref it) s->wpAny (model P w) A (pyIter (.ref it)) Q E s) :
  Turn P w K tg (Its x) [it] it (fun i h=>h.IsStrIter it cn x t i) where
 mem:=by simp
 obj:=fun i h st b hb=>by
  have e:b=it:=by simpa using hb
  subst e;obtain⟨o,e,c,d⟩:=st;exact⟨o,e,fun v z=>by rw[d]at z;cases z⟩
 keep:=fun i h h' st k=>let ⟨o,ho,r⟩:=st;⟨o,k it (by simp) o ho,r⟩
 item:=by
  intro X hP hw hK hc i pins s σ H E I hf st hg;subst hP hw hK;obtain⟨f0,f1,f2,f3,f4,f5⟩:=hf it (by simp);refine(W X.A (I.ok.hd hc)).item i s _ _ hg st fun v h' tk hv st' kk=>?_
  obtain⟨c,u,e1,rfl⟩:=hv;have I1:Inv X pins σ H {s with heap:=h',toks:=tk}:=I.turned (fun b o hb e=>kk b o (by simpa using hb) e) f0 f1 f3 f4 f5;refine⟨_,rfl,?_⟩;rw[ht];exact wpAny_pure ⟨.str ⟨#[c]⟩,H,I1,⟨_,rfl⟩,⟨rfl,c,e1,rfl⟩,st',fun b hb=>(hf b hb).1⟩
 done:=by
  intro X hP hw hK hc i pins s σ H E I hf st hg;subst hP hw hK;obtain⟨f0,f1,f2,f3,f4,f5⟩:=hf it (by simp);have e:i=x.cps.size:=hg;subst e;exact(W X.A (I.ok.hd hc)).done s _ _ st fun h' tk kk=>⟨rfl,I.turned (fun b o hb e=>kk b o (by simpa using hb) e) f0 f1 f3 f4 f5⟩
 self:=fun A i s Q E st h=>sf A i s Q E st h
section
variable{X:Cx}{tg:Expr}
def iStr(tl:TE):TI:=fun σ H R=>tl σ H fun x H1=>∃z,x = .str z/\R (Its z) H1
theorem X0{l:Expr}{tl:TE}(hl:PE X l tl)(ht:∀a v,letOwnedTupleGo tg a v=pure ():=by intro _ _;rfl):PI X tg l (iStr tl):=by
 intro pins s σ H R I h;refine thn (hl pins s σ H _ I h) fun v s1 ⟨x,H1,I1,r1,q1⟩=>?_
 obtain⟨z,e,q⟩:=q1;subst e;obtain⟨t,rfl⟩:=r1;have fr:∀b∈[s1.heap.objs.size],FpOk X pins H1 b:=fun b hb=>by
  have e:b=s1.heap.objs.size:=by simpa using hb
  subst e;exact I1.fpOk (Nat.le_refl _) (I1.hok.fresh (Nat.le_refl _))
 cases ha:z.cps.all (· < 128)
 ·refine wpAny_pyIter_wide ha ?_;exact⟨s1.heap.objs.size,[s1.heap.objs.size],_,_,H1,rfl,I1.kept (t':=s1.toks) fun b o e=>Heap.get?_push_of_some _ e,
   xX ht (fun A hA=>Walks.strWide hA _ z t) (fun A i s Q E st h=>wpAny_pyIter_striter_wide st h),⟨_,Heap.get?_push_size _ rfl,rfl,rfl⟩,fr,q⟩
 ·refine wpAny_pyIter_ascii ha ?_;exact⟨s1.heap.objs.size,[s1.heap.objs.size],_,_,H1,rfl,I1.kept (t':=s1.toks) fun b o e=>Heap.get?_push_of_some _ e,
   xX ht (fun A hA=>Walks.strAscii hA _ z t) (fun A i s Q E st h=>wpAny_pyIter_striter_ascii st h),⟨_,Heap.get?_push_size _ rfl,rfl,rfl⟩,fr,q⟩
theorem j0n{z:Str}{g:TG}{tb:TS}{D:Ends}{σ:St}{H:Hp}(Pv:Nat->St->Hp->Prop)(h0:Pv 0 σ H)
  (hs:∀i c σ H,z.cps[i]?=some c->Pv i σ H->g (.str ⟨#[c]⟩) σ H fun σ2 H2=>tb {D with nx:=Pv (i+1),ct:=Pv (i+1),bk:=D.nx} σ2 H2) (hd:∀σ H,Pv z.cps.size σ H->D.nx σ H) :
  ∃W:Nat->Nat->St->Hp->Prop,(∃m,W 0 m σ H)/\∀i m σ H,W i m σ H->
   ((Its z).stop i H/\D.nx σ H)\/((Its z).go i H/\∃N:St->Hp->Prop,(∀σ' H',N σ' H'->∃m',m'<m/\W (i+1) m' σ' H')/\∀x H',(Its z).yld i H x H'->g x σ H' fun σ2 H2=>tb {D with nx:=N,ct:=N,bk:=D.nx} σ2 H2):=by
 refine⟨fun i m σ H=>m=z.cps.size-i/\i<=z.cps.size/\Pv i σ H,⟨z.cps.size,by simp,Nat.zero_le _,h0⟩,?_⟩;rintro i m σ H ⟨rfl,hi,p⟩;by_cases hlt:i<z.cps.size
 ·refine .inr ⟨hlt,Pv (i+1),fun σ' H' p'=>⟨z.cps.size-(i+1),by omega,rfl,hlt,p'⟩,fun x H' y=>?_⟩;obtain⟨e,c,e1,e2⟩:=y;subst e e2;exact hs i c σ _ e1 p
 ·have e:i=z.cps.size:=by omega
  subst e;exact .inl ⟨rfl,hd σ H p⟩
theorem j1S{z:Str}{k:Nat}{ci:List Nat}{g:TG}{tf:TT}{te:TE}{σ:St}{H:Hp}{Z:Addr->List V->Hp->Prop}(Pv:Nat->List V->Hp->Prop)(h0:Pv 0 [] H)
  (hs:∀i c ys H,z.cps[i]?=some c->Pv i ys H->g (.str ⟨#[c]⟩) (capS k ci σ) H fun σ2 H2=>tf σ2 H2 fun b H3=>if b=true then te σ2 H3 fun v H4=>ys.length<sizeLine/\Pv (i+1) (ys++[v]) H4 else Pv (i+1) ys H3)
  (hd:∀ys H,Pv z.cps.size ys H->ys.length<=sizeLine/\∀p,H p=none->Z p ys H) :
  ∃W:Nat->Nat->List V->Hp->Prop,(∃m,W 0 m [] H)/\∀i m ys H,W i m ys H->
   ((Its z).stop i H/\ys.length<=sizeLine/\∀p,H p=none->Z p ys H)\/
   ((Its z).go i H/\∃N:List V->Hp->Prop,(∀ys' H',N ys' H'->∃m',m'<m/\W (i+1) m' ys' H')/\∀x H',(Its z).yld i H x H'->g x (capS k ci σ) H' fun σ2 H2=>tf σ2 H2 fun b H3=>
    if b=true then te σ2 H3 fun v H4=>ys.length<sizeLine/\N (ys++[v]) H4 else N ys H3):=by
 refine⟨fun i m ys H=>m=z.cps.size-i/\i<=z.cps.size/\Pv i ys H,⟨z.cps.size,by simp,Nat.zero_le _,h0⟩,?_⟩;rintro i m ys H ⟨rfl,hi,p⟩;by_cases hlt:i<z.cps.size
 ·refine .inr ⟨hlt,Pv (i+1),fun ys' H' p'=>⟨z.cps.size-(i+1),by omega,rfl,hlt,p'⟩,fun x H' y=>?_⟩;obtain⟨e,c,e1,e2⟩:=y;subst e e2;exact hs i c ys _ e1 p
 ·have e:i=z.cps.size:=by omega
  subst e;exact .inl ⟨rfl,hd ys H p⟩
theorem WE:SlR X (fun x lo hi H Q=>∃z,x = .str z/\z.length<=sizeLine/\Q (.str (Txt.slice z lo hi)) H):=by
 intro pins s σ H x v vl vu lo hi sl Q I rx hs pl pu h;obtain⟨z,rfl,hz,q⟩:=h;obtain⟨t,rfl⟩:=rx;refine⟨"str",_,F.slot_str_getitem.lookup,typeIs_str _ _ _,?_⟩;have fin:∀(lo hi:Option Int),Q (.str (Txt.slice z lo hi)) H->∀t' k,EP X pins σ Q (.str (Txt.slice z lo hi) t') {s with toks:=k}:=fun lo hi q t' k=>⟨.str _,H,I.tok _,⟨_,rfl⟩,q⟩
 cases pl with
 | none=>
  cases pu with
  | none=>exact wpAny_getItem_str_slice (l:=none) (u:=none) (st:=none) hs rfl (post_val_or_str ⟨Nat.le_trans (Txt.slice_le z _ _) hz,fin _ _ q⟩)
  | int j uj=>exact wpAny_getItem_str_slice (l:=none) (u:=some (j,uj)) (st:=none) hs rfl (post_val_or_str ⟨Nat.le_trans (Txt.slice_le z _ _) hz,fin _ _ q⟩)
 | int i ui=>
  cases pu with
  | none=>exact wpAny_getItem_str_slice (l:=some (i,ui)) (u:=none) (st:=none) hs rfl (post_val_or_str ⟨Nat.le_trans (Txt.slice_le z _ _) hz,fin _ _ q⟩)
  | int j uj=>exact wpAny_getItem_str_slice (l:=some (i,ui)) (u:=some (j,uj)) (st:=none) hs rfl (post_val_or_str ⟨Nat.le_trans (Txt.slice_le z _ _) hz,fin _ _ q⟩)
theorem X7{ys:List Str}:∀{us:List Value},Vals (ys.map V.str) us->StrsAre us ys:=by
 induction ys with
 | nil=>intro us r;rw[map_nil]at r;cases r;exact .nil
 | cons n ns ih=>
  intro us r;rw[map_cons]at r;cases r with
  | cons r1 r2=>
   obtain⟨t,e⟩:=r1;subst e;exact .cons n t (ih r2)
theorem Yl:MtR X "str.join" (fun x vs H Q=>∃(z:Str) (p:Addr) (ys:List Str),x = .str z/\vs=[.ref p]/\SqL X.K H p (ys.map V.str)/\(ys.map (·.length)).sum+ys.length*z.length<=16777216/\Q (.str (Txt.join z ys)) H):=by
 intro pins s σ H x vs v us Q I rx rv h;obtain⟨z,p,ys,rfl,rfl,hx,hz,q⟩:=h;obtain⟨t,rfl⟩:=rx;obtain⟨u,rfl,ru⟩:=vals1 rv;cases ru;obtain⟨its,r',pl,_⟩:=I.list hx;exact join_list pl.isList (by simpa using X7 r') hz fun t' k=>⟨.str _,H,I.tok _,⟨_,rfl⟩,q⟩
theorem j3i:MtR X "str.find" (fun x vs H Q=>∃(z y:Str),x = .str z/\vs=[.str y]/\Q (.int (Txt.find z y)) H):=by
 intro pins s σ H x vs v us Q I rx rv h;obtain⟨z,y,rfl,rfl,q⟩:=h;obtain⟨t,rfl⟩:=rx;obtain⟨u,rfl,t',rfl⟩:=vals1 rv;exact SC.find ⟨.int _,H,I.tok _,⟨_,rfl⟩,q⟩
theorem j4u:OpR X (compareOp .In) (fun x y H Q=>∃(c:Nat) (z:Str),x = .str ⟨#[c]⟩/\y = .str z/\Q (.bl (decide (c∈z.cps.toList))) H):=by
 intro pins s σ H x y v u Q I rx ry h;obtain⟨c,z,rfl,rfl,q⟩:=h;refine j1n pins s σ H _ _ v u Q I rx ry ⟨_,_,rfl,rfl,?_⟩;rw[StrLaws.found_one];exact q
theorem j1p:OpR X (compareOp .NotIn) (fun x y H Q=>∃(c:Nat) (z:Str),x = .str ⟨#[c]⟩/\y = .str z/\Q (.bl (!decide (c∈z.cps.toList))) H):=by
 intro pins s σ H x y v u Q I rx ry h;obtain⟨c,z,rfl,rfl,q⟩:=h;refine Wt pins s σ H _ _ v u Q I rx ry ⟨_,_,rfl,rfl,?_⟩;rw[StrLaws.found_one];exact q
theorem KW:CallR X (.type "int") (fun xs H Q=>∃(x:Str) (n:Int),xs=[.str x]/\PySem.intText? x=some n/\x.length<=640/\Q (.int n) H):=by
 intro pins s σ H xs us Q I r h;obtain⟨x,n,rfl,e,hl,q⟩:=h;obtain⟨u,rfl,t,rfl⟩:=vals1 r;exact PySem.W.KIN.call_text e hl ⟨.int n,H,I.tok _,⟨_,rfl⟩,q⟩
theorem kq:OpR X (binaryOp .Mult) (fun x y H Q=>∃(z:Str) (n:Int),x = .str z/\y = .int n/\MulOk z n/\Q (.str (Txt.mul z n)) H):=by
 intro pins s σ H x y v u Q I rx ry h;obtain⟨z,n,rfl,rfl,hk,q⟩:=h;obtain⟨t,rfl⟩:=rx;obtain⟨t',rfl⟩:=ry;exact SB.mul hk fun t' k=>⟨.str _,H,I.tok _,⟨_,rfl⟩,q⟩
theorem YB(hc:X.calm=true):CallR X (.builtin "all") (fun xs H Q=>∃(p:Addr) (bs:List Bool),xs=[.ref p]/\SqL X.K H p (bs.map V.bl)/\Q (.bl (bs.all id)) H):=by
 intro pins s σ H xs us Q I r h;obtain⟨p,bs,rfl,hx,q⟩:=h;obtain⟨u,rfl,rx⟩:=vals1 r;cases rx;obtain⟨its,r',pl,_⟩:=I.list hx;have hl:=pl.isList;obtain⟨o,ho,_⟩:=id hl;have hne:p≠s.heap.objs.size:=Nat.ne_of_lt (Heap.lt_size ho);have W:=Walks.list (prog:=X.prog) (w:=X.w) (A:=X.A.in1) (I.ok.hd hc) s.heap.objs.size p hne its.toArray;refine call_all_walk (wpAny_pyIter_list hl ⟨s.heap.objs.size,_,_,_,_,_,fun i=>bs.getD i true,rfl,W,⟨⟨_,Heap.get?_push_size _ rfl,rfl,rfl⟩,hl.at fun o e=>Heap.get?_push_of_some _ e⟩,?_,?_⟩)
 ·intro i v s' Q' E' hP hQ;have hP':its[i]?=some v:=by simpa using hP
  have hb:∃b,bs[i]?=some b/\v = .bool b:=by
   have hlen:i<bs.length:=by
    have:=(List.getElem?_eq_some_iff.mp hP').1;have e:=r'.length;rw[length_map]at e;omega
   obtain⟨u,hu,ru⟩:=r'.get (i:=i) (x:=.bl bs[i]) (by rw[List.getElem?_map,List.getElem?_eq_getElem hlen];rfl);rw[hP']at hu;cases hu;exact⟨_,List.getElem?_eq_getElem hlen,ru⟩
  obtain⟨b,e1,rfl⟩:=hb;dsimp only at hQ;rw[getD_eq_getElem?_getD,e1]at hQ;exact wpAny_truthy_bool hQ
 ·intro h' tk hk;have e:(List.range its.toArray.size).all (fun i=>bs.getD i true)=bs.all id:=by
   have hl2:its.toArray.size=bs.length:=by
    have e:=r'.length;rw[length_map]at e;simp[e]
   rw[hl2,Bool.eq_iff_iff];simp only[all_eq_true,mem_range,id_eq];constructor
   ·intro hh b hb;obtain⟨i,hi,rfl⟩:=mem_iff_getElem.mp hb;have:=hh i hi;rw[getD_eq_getElem?_getD,List.getElem?_eq_getElem hi]at this;exact this
   ·intro hh i hi;rw[getD_eq_getElem?_getD,List.getElem?_eq_getElem hi];exact hh _ (List.getElem_mem hi)
  rw[e];refine⟨.bl _,H,I.kept fun b o e=>hk b o ?_ (Heap.get?_push_of_some _ e),rfl,q⟩;intro hb;have:b=s.heap.objs.size:=by simpa using hb
  exact absurd (Heap.lt_size e) (this▸Nat.lt_irrefl _)
theorem rd_iStr{tl:TE}{σ:St}{H:Hp}{R:It->Hp->Prop}(h:tl σ H fun x H1=>∃z,x = .str z/\R (Its z) H1):iStr tl σ H R:=h
theorem rd_str{z:Str}{R:Str->Prop}(h:R z):∃z',V.str z = .str z'/\R z':=⟨z,rfl,h⟩
end
section
variable{X:Cx}{K:Frg}
theorem xa(e:X.K=K):IxR X (rIxL K):=by subst e;exact jj
theorem j0x(e:X.K=K):IxR X (rIxT K):=by subst e;exact Zq
theorem XQ(e:X.K=K):OpR X (compareOp .In) (rIn K false):=by subst e;exact qZ
theorem yv(e:X.K=K):OpR X (compareOp .NotIn) (rIn K true):=by subst e;exact Wr
end
mutual
inductive DV(H:Hp):V->PyData->Prop
 | non:DV H .non .none
 | bl (b:Bool):DV H (.bl b) (.bool b)
 | int (i:Int):DV H (.int i) (.int i)
 | str (x:Str):DV H (.str x) (.str x)
 | lst {a:Addr} {xs:List V} {ds:List PyData}:H a=some (.lst xs)->DVs H xs ds->DV H (.ref a) (.list ds)
 | tup {a:Addr} {xs:List V} {ds:List PyData}:H a=some (.tup xs)->DVs H xs ds->DV H (.ref a) (.tuple ds)
inductive DVs(H:Hp):List V->List PyData->Prop
 | nil:DVs H [] []
 | cons {x:V} {d:PyData} {xs:List V} {ds:List PyData}:DV H x d->DVs H xs ds->DVs H (x::xs) (d::ds)
end
section
variable{X:Cx}
mutual
theorem ZV{pins:List (Addr×Obj)}{s:Shared}{σ:St}{H:Hp}(I:Inv X pins σ H s):∀{v:V} {d:PyData} {u:Value},DV H v d->RelV v u->∃as,Reads s.heap u d as
 | _,_,_,.non,r=>⟨_,by cases r;exact Reads.none⟩
 | _,_,_,.bl b,r=>⟨_,by cases r;exact Reads.bool b⟩
 | _,_,_,.int i,r=>by obtain⟨t,rfl⟩:=r;exact⟨_,Reads.int i t⟩
 | _,_,_,.str x,r=>by obtain⟨t,rfl⟩:=r;exact⟨_,Reads.str x t⟩
 | _,_,_,.lst e q,r=>by
  cases r;obtain⟨_,its,c,rv,he⟩:=I.hok _ _ e;obtain⟨as,ra⟩:=YG I q rv;exact⟨_,reads_list_at he rfl rfl (by simpa using ra)⟩
 | _,_,_,.tup e q,r=>by
  cases r;obtain⟨its,rv,pl,_⟩:=I.tuple (SqT.of e);obtain⟨o,ho,hc,n,hd⟩:=pl;obtain⟨as,ra⟩:=YG I q rv;exact⟨_,reads_tuple_at ho hc hd (by simpa using ra)⟩
theorem YG{pins:List (Addr×Obj)}{s:Shared}{σ:St}{H:Hp}(I:Inv X pins σ H s):∀{vs:List V} {ds:List PyData} {us:List Value},DVs H vs ds->Vals vs us->∃as,ReadsAll s.heap us ds as
 | _,_,_,.nil,r=>by cases r;exact⟨_,ReadsAll.nil⟩
 | _,_,_,.cons a q,r=>by
  cases r with
  | cons r1 r2=>
   obtain⟨as,ra⟩:=ZV I a r1;obtain⟨bs,rb⟩:=YG I q r2;exact⟨_,ReadsAll.cons ra rb⟩
end
theorem XN(hu:X.A.units+64<cLine):OpR X (compareOp .Eq) (fun x y H Q=>∃d e,DV H x d/\DV H y e/\SeqAt.shaped d=true/\SeqAt.shaped e=true/\Q (.bl (PyData.eqv d e)) H):=by
 intro pins s σ H x y v u Q I rx ry h;obtain⟨d,e,hd,he,sd,se,q⟩:=h;obtain⟨as,ra⟩:=ZV I hd rx;obtain⟨bs,rb⟩:=ZV I he ry;exact eq_dataH ra rb sd se hu ⟨.bl _,H,I,rfl,q⟩
theorem j4w(hu:X.A.units+64<cLine):OpR X (compareOp .NotEq) (fun x y H Q=>∃d e,DV H x d/\DV H y e/\SeqAt.shaped d=true/\SeqAt.shaped e=true/\Q (.bl (!PyData.eqv d e)) H):=by
 intro pins s σ H x y v u Q I rx ry h;obtain⟨d,e,hd,he,sd,se,q⟩:=h;obtain⟨as,ra⟩:=ZV I hd rx;obtain⟨bs,rb⟩:=ZV I he ry;exact ne_dataH ra rb sd se hu ⟨.bl _,H,I,rfl,q⟩
theorem j2L{us:List Value}:∀{ns:List Int},IntsAre us ns->Vals (ns.map V.int) us:=by
 induction us with
 | nil=>intro ns r;cases r;exact .nil
 | cons u us ih=>
  intro ns r;cases r with
  | cons n t r=>exact .cons ⟨t,rfl⟩ (ih r)
theorem y0:CallR X (.builtin "sorted") (fun xs H Q=>∃(p:Addr) (ns:List Int),xs=[.ref p]/\SqL X.K H p (ns.map V.int)/\ns.length<64/\∀(l:Addr) (ms:List Int),H l=none->ms.Perm ns->ms.Pairwise (·<=·)->Q (.ref l) (upd H l (.lst (ms.map V.int)))):=by
 intro pins s σ H xs us Q I r h;obtain⟨p,ns,rfl,hx,hn,q⟩:=h;obtain⟨u,rfl,rx⟩:=vals1 r;cases rx;obtain⟨its,r',pl,_⟩:=I.list hx;have hi:=intsAre_of r';have hlen:=r'.length;rw[length_map]at hlen;refine sorted_ints pl.isList hi (by omega) fun out ms ho hp hs=>?_
 obtain⟨e,he⟩:=sortedAll_at s.heap its out;refine⟨.ref (s.heap.objs.size+1),_,I.laid (t':=s.toks) (a:=s.heap.objs.size+1) (o:=.lst (ms.map V.int)) (fun b o hb=>sortedAll_old hb) (Nat.le_succ _) ?_,rfl,q _ ms (I.hok.fresh (Nat.le_succ _)) hp hs⟩;have hml:ms.length=ns.length:=hp.length_eq;exact⟨by rw[length_map,hml];exact Nat.le_trans (Nat.le_of_lt hn) (by decide),out.toList,e,j2L ho,by simpa using he⟩
theorem j0S(hc:X.calm=true):CallR X (.builtin "max") (fun xs H Q=>∃(p:Addr) (ns:List Int),xs=[.ref p]/\SqL X.K H p (ns.map V.int)/\0<ns.length/\∀m∈ns,(∀a∈ns,a<=m)->Q (.int m) H):=by
 intro pins s σ H xs us Q I r h;obtain⟨p,ns,rfl,hx,hne,q⟩:=h;obtain⟨u,rfl,rx⟩:=vals1 r;cases rx;obtain⟨its,r',pl,_⟩:=I.list hx;have hi:=intsAre_of r';have hl:=pl.isList;obtain⟨xs,e⟩:=hi.allInts.items;have hns:ns=xs.toList.map (·.1):=by rw[<-hi.numsOf,<-nums_intItems,<-e]
 have hsz:0<xs.size:=by
  have h3:=hne;rw[hns,length_map,Array.length_toList]at h3;exact h3
 rw[e]at hl;refine max_intList (I.ok.hd hc) hl hsz fun v h' tk hv hk=>?_
 obtain⟨t,rfl⟩:=intItems_at hv;obtain⟨h1,h2⟩:=argBest_gt (numAt xs) (xs.size-1);refine⟨.int _,H,I.kept (t':=tk) hk,⟨_,rfl⟩,q _ ?_ fun a ha=>?_⟩
 ·rw[hns,numAt_eq];exact getD_mem (by rw[length_map,Array.length_toList];omega)
 ·rw[hns]at ha;obtain⟨j,hj,rfl⟩:=mem_getD ha;rw[length_map,Array.length_toList]at hj;rw[<-numAt_eq];exact h2 j (by omega)
end
section
variable{σ:St}{H:Hp}{Q:VK}
theorem rd_dget{td ty:TE}(h:td σ H fun x H1=>ty σ H1 fun y H2=>∃a v,x = .ref a/\DGet H2 a y (some v)/\Q v H2):tDGet td ty σ H Q:=h
theorem j3D{trs:List (TE×TE)}(h:∀p,H p=none->tPairs trs σ (upd H p (.dK [])) fun ps H2=>H2 p=some (.dK [])/\∃kvs:List (Key×V),ps=kvs.map (fun kv=>(kV kv.1,kv.2))/\kvs.length<=15/\Q (.ref p) (upd H2 p (.dK (mergeK [] kvs)))):tDisp trs σ H Q:=h
theorem rd_prN{R:List (V×V)->Hp->Prop}(h:R [] H):tPairs [] σ H R:=h
theorem rd_prC{tk tv:TE}{r:List (TE×TE)}{R:List (V×V)->Hp->Prop}(h:tk σ H fun x H1=>tv σ H1 fun y H2=>tPairs r σ H2 fun ps H3=>R ((x,y)::ps) H3):tPairs ((tk,tv)::r) σ H R:=h
end
def TabK(K:Frg)(a:Addr)(D:List (Str×PyProof.Rows.KTD.Dat)):Prop:=PyProof.Rows.KTD.tabLook (PyProof.Rows.KTD.datLooks fun b=>K.lookup b) (fun b=>K.lookup b) a D=true
section
variable{X:Cx}
theorem j4v:OpR X (compareOp .In) (fun x y H Q=>∃a k D,x = .str k/\y = .ref a/\TabK X.K a D/\Q (.bl (PyProof.Rows.KTD.inKeys k D)) H):=by
 intro pins s σ H x y v u Q I rx ry h;obtain⟨a,k,D,rfl,rfl,T,q⟩:=h;obtain⟨t,rfl⟩:=rx;cases ry;exact PyProof.Rows.KTD.in_text (h₀:=s.heap) ⟨PySem.W.kt_text_in I.kIn T,fun _ _ e=>e⟩ ⟨.bl _,H,I.tok _,rfl,q⟩
theorem j1o:OpR X (compareOp .NotIn) (fun x y H Q=>∃a k D,x = .str k/\y = .ref a/\TabK X.K a D/\Q (.bl (!PyProof.Rows.KTD.inKeys k D)) H):=by
 intro pins s σ H x y v u Q I rx ry h;obtain⟨a,k,D,rfl,rfl,T,q⟩:=h;obtain⟨t,rfl⟩:=rx;cases ry;exact PyProof.Rows.KTD.notin_text (h₀:=s.heap) ⟨PySem.W.kt_text_in I.kIn T,fun _ _ e=>e⟩ ⟨.bl _,H,I.tok _,rfl,q⟩
theorem YC:CallR X (.type "str") (fun xs H Q=>(∃i,xs=[.int i]/\i.natAbs.log2<1920/\Q (.str (toString i)) H)\/∃x,xs=[.str x]/\Q (.str x) H):=by
 intro pins s σ H xs us Q I r h;rcases h with⟨i,rfl,hz,q⟩ | ⟨x,rfl,q⟩
 ·obtain⟨u,rfl,t,rfl⟩:=vals1 r;exact PySem.P.str_of_int hz ⟨.str _,H,I.tok _,⟨_,rfl⟩,q⟩
 ·obtain⟨u,rfl,t,rfl⟩:=vals1 r;exact PySem.P.str_of_str ⟨.str x,H,I,⟨_,rfl⟩,q⟩
end
theorem rd_iTup{K:Frg}{te:TE}{σ:St}{H:Hp}{R:It->Hp->Prop}(h:te σ H fun x H1=>∃a,x = .ref a/\(∃xs,SqT K H1 a xs)/\R (Itt K a) H1):iTup K te σ H R:=h
theorem Z3{K:Frg}{i j:Nat}{a:Addr}{x y:V}{σ:St}{H:Hp}{R:St->Hp->Prop}(e:SqT K H a [x,y])(h:gName i x σ H fun σ' H'=>gName j y σ' H' R):gTup K 2 (gCons (gName i) (gCons (gName j) gNil)) (.ref a) σ H R:=
 ⟨a,[x,y],rfl,e,rfl,x,[y],rfl,y,[],rfl,rfl,h⟩
theorem rd_sub{to ti:TE}{t:TSet}{v:V}{σ:St}{H:Hp}{R:St->Hp->Prop}(h:to σ H fun o H1=>ti σ H1 fun i H2=>t o i v H2 fun H3=>R σ H3):gSub to ti t v σ H R:=h
theorem rd_dnew{σ:St}{H:Hp}{Q:VK}(h:∀p,H p=none->Q (.ref p) (upd H p (.dK []))):tDNewK σ H Q:=h
theorem rd_dput{td ty tv:TE}{σ:St}{H:Hp}{D:Ends}(h:tv σ H fun v H1=>td σ H1 fun x H2=>ty σ H2 fun y H3=>∃a H4,x = .ref a/\DPut H3 a y v H4/\D.nx σ H4):sDPut td ty tv D σ H:=h
section
variable{X:Cx}{pins:List (Addr×Obj)}{σ:St}{H:Hp}{s:Shared}{h':Heap}
theorem Inv.turnedL{t':Nat}{ch:List Addr}(I:Inv X pins σ H s)(hf:∀b∈ch,FpOk X pins H b)(k:∀b o,b∉ch->s.heap.get? b=some o->h'.get? b=some o):Inv X pins σ H {s with heap:=h',toks:=t'}:=by
 have nit:∀b u,H b=some u->b∉ch:=fun b u e z=>by rw[(hf b z).1]at e;cases e
 refine I.step (g':=s.gens) (d':=s.drawn) (ch:=ch) (fun b hb=>?_) (fun b o _ _ hc e _=>k b o hc e) (fun b o _ _ hc e _=>⟨o.slots,k b o hc e⟩) (fun _ _ _ _ n=>n)
  (fun b o hc e=>⟨o,k b o hc e⟩) (fun _ _ e=>e) (fun _ _ _ e=>e) (fun b ps e=>⟨#[],by rw[e];simp⟩) (fun m hm=>?_) (fun b u e=>?_) I.bare
 ·obtain⟨_,f1,_,f3,f4,f5⟩:=hf b hb;exact⟨f3,f1,f4,f5⟩
 ·obtain⟨o,es,ep,ho,r⟩:=hm;exact⟨o,es,ep,k _ o (fun z=>(hf _ z).2.1 rfl) ho,r⟩
 ·refine(I.hok b u e).stay (fun c v hc q=>k c v ?_ q) (fun _ q=>q) fun _ _ q=>q
  rcases hc with z | z
  ·rw[z];exact nit b u e
  ·exact nit c _ z
theorem Inv.pair{t':Nat}{ch:List Addr}{x y:V}{u v:Value}(I:Inv X pins σ H s)(hf:∀b∈ch,FpOk X pins H b)(hl:∀b∈ch,b<s.heap.objs.size)(rx:RelV x u)(ry:RelV y v)
  (hT:h'.get? s.heap.objs.size=some {cls:=.type "tuple",data:=.seq #[u,v]}) (k:∀b o,b∉ch->s.heap.get? b=some o->h'.get? b=some o) :
  Inv X pins σ (upd H s.heap.objs.size (.tup [x,y])) {s with heap:=h',toks:=t'}/\∀b∈ch,FpOk X pins (upd H s.heap.objs.size (.tup [x,y])) b:=by
 have f:∀b∈ch,FpOk X pins (upd H s.heap.objs.size (.tup [x,y])) b:=fun b hb=>⟨(jq (Nat.ne_of_lt (hl b hb))).trans (hf b hb).1,(hf b hb).2⟩
 have I1:Inv X pins σ (upd H s.heap.objs.size (.tup [x,y])) {s with heap:=s.heap.push {cls:=.type "tuple",data:=.seq #[u,v]},toks:=t'}:=
  I.laid (t':=t') (fun b o e=>Heap.get?_push_of_some _ e) (Nat.le_refl _) (show ObjOk X.prog X.w _ _ _ (.tup [x,y])from⟨(by show 2<=sizeLine;decide),[u,v],.cons rx (.cons ry .nil),IsTup.new _ _⟩)
 refine⟨I1.turnedL (h':=h') (t':=t') f fun b o hb e=>?_,f⟩;rcases Heap.get?_push_cases e with⟨rfl,rfl⟩ | e
 ·exact hT
 ·exact k b o hb e
end
def Ite(K:Frg)(a:Addr):It:=
 ⟨fun i H=>∃xs x,SqL K H a xs/\xs[i]?=some x,fun i H x H'=>∃T v,x = .ref T/\H T=none/\H'=upd H T (.tup [.int i,v])/\∀xs,SqL K H a xs->xs[i]?=some v,fun i H=>∃xs,SqL K H a xs/\xs.length<=i⟩
theorem j1B{P:Program}{w:World}{K:Frg}{elts:List Expr}{k:Nat}{pos:Pos}(a e it:Addr)(hne:e≠it) :
  Turn P w K (.Tuple elts k pos) (Ite K a) [e,it] e (fun i h=>(∃old,IsEnum h e it ((i:Nat):Int) old)/\h.IsListIter it a i) where
 mem:=by simp
 obj:=fun i h st b hb=>by
  rcases(by simpa using hb:b=e\/b=it)with rfl | rfl
  ·obtain⟨old,he⟩:=st.1;exact⟨_,he,fun v z=>by cases z⟩
  ·obtain⟨o,e,c,d⟩:=st.2;exact⟨o,e,fun v z=>by rw[d]at z;cases z⟩
 keep:=fun i h h' st k=>⟨let ⟨old,he⟩:=st.1;⟨old,k e (by simp) _ he⟩,st.2.at fun o q=>k it (by simp) o q⟩
 item:=by
  intro X hP hw hK hc i pins s σ H E I hf st hg;subst hP hw hK;obtain⟨xs,x,hq,hx⟩:=hg;obtain⟨its,rv,p,hz⟩:=I.list hq;obtain⟨u,hu,ru⟩:=rv.get hx;obtain⟨⟨old,he⟩,hit⟩:=st;have le:e<s.heap.objs.size:=Heap.lt_size he;have li:it<s.heap.objs.size:=by obtain⟨o,q,_⟩:=id hit;exact Heap.lt_size q
  refine wpAny_pyNext_enum_item he hit p.isList (x:=u) (by simpa using hu) hne fun h' ho hit' hT hsz hk=>?_
  obtain⟨I1,f1⟩:=I.pair (t':=s.toks+1) (ch:=[e,it]) (x:=.int i) (y:=x) hf (fun b hb=>by rcases(by simpa using hb:b=e\/b=it)with rfl | rfl<;>assumption) ⟨s.toks,rfl⟩ ru hT
   (fun b o hb q=>hk b o (fun z=>hb (by simp[z])) (fun z=>hb (by simp[z])) q)
  refine⟨_,rfl,wpAny_letOwnedTupleGo_enum ho fun h2 he2 sb=>?_⟩;have I2:=I1.turnedL (h':=h2) (t':=s.toks+1) (ch:=[e,it]) f1 fun b o hb q=>(sb.2 b fun z=>hb (by simp[z])).trans q
  exact⟨.ref s.heap.objs.size,_,I2,rfl,⟨_,x,rfl,I.hok.fresh (Nat.le_refl _),rfl,fun ys hy=>by rw[I.list_inj hy hq];exact hx⟩,
   ⟨⟨u,by simpa using he2⟩,hit'.at fun o q=>(sb.2 it hne.symm).trans q⟩,fun b hb=>(f1 b hb).1⟩
 done:=by
  intro X hP hw hK hc i pins s σ H E I hf st hg;subst hP hw hK;obtain⟨xs,hq,hx⟩:=hg;obtain⟨its,rv,p,hz⟩:=I.list hq;obtain⟨⟨old,he⟩,hit⟩:=st;have hl:=rv.length;exact wpAny_pyNext_enum_end (I.ok.hd hc) he hit p.isList (by simp;omega) fun h' eb=>⟨rfl,I.turnedL (t':=s.toks) (ch:=[e,it]) hf fun b o hb q=>eb b o (fun z=>hb (by simp[z])) q⟩
 self:=fun _ _ _ _ _ st h=>let ⟨_,he⟩:=st.1;wpAny_pyIter_enum he h
def iEnum(K:Frg)(ta:TA):TI:=fun σ H R=>ta σ H fun vs H1=>∃a xs,vs=[.ref a]/\SqL K H1 a xs/\R (Ite K a) H1
theorem j3w{X:Cx}{a:Expr}{ta:TA}{elts:List Expr}{k:Nat}{p pos pos':Pos}(hg:Gl X "enumerate")(hm:X.mg "enumerate"= none)(ha:PA X [a] ta)(hs:starEach [a] X.env=[(false,eval a X.env)]:=by rfl) :
  PI X (.Tuple elts k pos') (.Call (.Name "enumerate" p) [a] [] pos) (iEnum X.K ta):=by
 intro pins s σ H R I h;refine Call_ (QF I hg hm yS (PyProof.Rows.callWith_type1 (thn (ha pos pins s σ H _ I h) fun us s1 ⟨vs,H1,I1,r1,q1⟩=>?_) hs rfl));obtain⟨b,xs,rfl,hq,q⟩:=q1;obtain⟨u,rfl,ru⟩:=vals1 r1;cases ru;obtain⟨its,rv,p,hz⟩:=I1.list hq;refine call_enumerate_list p.isList fun h' he hit hsz hk=>?_
 refine wpAny_pyIter_enum he ?_;refine⟨s1.heap.objs.size+1,[s1.heap.objs.size+1,s1.heap.objs.size],_,_,H1,rfl,I1.kept (t':=s1.toks) hk,j1B b _ _ (Nat.succ_ne_self _),⟨⟨_,by simpa using he⟩,hit⟩,fun c hc=>?_,q⟩;rcases(by simpa using hc:c=s1.heap.objs.size+1\/c=s1.heap.objs.size)with rfl | rfl
 ·exact I1.fpOk (Nat.le_succ _) (I1.hok.fresh (Nat.le_succ _))
 ·exact I1.fpOk (Nat.le_refl _) (I1.hok.fresh (Nat.le_refl _))
theorem j26{K:Frg}{a:Addr}{xs:List V}{g:TG}{tb:TS}{D:Ends}{σ:St}{H:Hp}(Pv:Nat->St->Hp->Prop)(h0:Pv 0 σ H)(hl:∀i σ H,i<=xs.length->Pv i σ H->SqL K H a xs)
  (hs:∀i v σ H T H',xs[i]?=some v->Pv i σ H->Same H H'->H' T=some (.tup [.int i,v])->g (.ref T) σ H' fun σ2 H2=>tb {D with nx:=Pv (i+1),ct:=Pv (i+1),bk:=D.nx} σ2 H2) (hd:∀σ H,Pv xs.length σ H->D.nx σ H) :
  ∃W:Nat->Nat->St->Hp->Prop,(∃m,W 0 m σ H)/\∀i m σ H,W i m σ H->
   ((Ite K a).stop i H/\D.nx σ H)\/((Ite K a).go i H/\∃N:St->Hp->Prop,(∀σ' H',N σ' H'->∃m',m'<m/\W (i+1) m' σ' H')/\∀x H',(Ite K a).yld i H x H'->g x σ H' fun σ2 H2=>tb {D with nx:=N,ct:=N,bk:=D.nx} σ2 H2):=by
 refine⟨fun i m σ H=>m=xs.length-i/\i<=xs.length/\Pv i σ H,⟨xs.length,by simp,Nat.zero_le _,h0⟩,?_⟩;rintro i m σ H ⟨rfl,hi,p⟩;have q:=hl i σ H hi p;by_cases hlt:i<xs.length
 ·refine .inr ⟨⟨xs,xs[i],q,by simp[hlt]⟩,Pv (i+1),fun σ' H' p'=>⟨xs.length-(i+1),by omega,rfl,hlt,p'⟩,fun x H' y=>?_⟩;obtain⟨T,v,rfl,hT,e,y⟩:=y;exact hs i v σ H T H' (y xs q) p (fun b o h=>by rw[e,jq (ji h hT)];exact h) (by rw[e];exact jn)
 ·have e:i=xs.length:=by omega
  subst e;exact .inl ⟨⟨xs,q,Nat.le_refl _⟩,hd σ H p⟩
theorem rd_iEnum{K:Frg}{ta:TA}{σ:St}{H:Hp}{R:It->Hp->Prop}(h:ta σ H fun vs H1=>∃a xs,vs=[.ref a]/\SqL K H1 a xs/\R (Ite K a) H1):iEnum K ta σ H R:=h
theorem JU{n i j:Nat}(h:i≠j):n+i≠n+j:=fun e=>h (Nat.add_left_cancel e)
open PySem PySem.Spec PySem.W PyProof.Rows
section
variable{X:Cx}{pins:List (Addr×Obj)}{σ:St}{H:Hp}{s:Shared}
def NewA(X:Cx)(pins:List (Addr×Obj))(T:Addr):Prop:=X.s₀.heap.objs.size<=T/\T≠X.env.locals/\(∀x c,X.env.cells.lookup x=some c->c≠T)/\∀p∈X.pn++pins,p.1≠T
theorem Inv.newA(I:Inv X pins σ H s){T:Addr}(hT:s.heap.objs.size<=T):NewA X pins T:=by
 obtain⟨_,f1,_,_,f4,f5⟩:=I.fpOk (H':=fun _=>none) hT rfl;exact⟨Nat.le_trans I.sz hT,f1,f4,f5⟩
theorem Inv.track{T:Addr}{o:HO}(I:Inv X pins σ H s)(h0:H T=none)(hn:NewA X pins T)(new:ObjOk X.prog X.w (upd H T o) s.heap T o):Inv X pins σ (upd H T o) s:=by
 have ne:∀b u,H b=some u->b≠T:=fun b u e z=>by rw[z,h0]at e;cases e
 refine I.step (h':=s.heap) (H':=upd H T o) (g':=s.gens) (d':=s.drawn) (t':=s.toks) (ch:=[T]) (fun b hb=>?_) (fun b o _ _ _ e _=>e) (fun b o _ _ _ e _=>⟨o.slots,e⟩) (fun b u hb _ n=>?_) (fun b u _ e=>⟨u,e⟩)
  (fun b xs e=>(jq (ne _ _ e)).trans e) (fun b u v e=>(jq (ne _ _ e)).trans e) (fun b ps e=>⟨#[],by rw[jq (ne _ _ e),e];simp⟩) (fun m hm=>hm) (fun b u e=>?_) I.bare
 ·have e:b=T:=by simpa using hb
  subst e;exact⟨.inr hn.1,hn.2.1,hn.2.2.1,hn.2.2.2⟩
 ·exact(jq fun z=>hb (by simp[z])).trans n
 ·by_cases z:b=T
  ·subst z;rw[jn]at e;cases e;exact new
  ·rw[jq z]at e;exact(I.hok b u e).stay (fun c v _ q=>q) (fun c q=>(jq (ne _ _ q)).trans q) fun c ys q=>(jq (ne _ _ q)).trans q
theorem Inv.trackAll:∀(ws:List (Addr×HO)) {H:Hp},Inv X pins σ H s->(∀p∈ws,H p.1=none/\NewA X pins p.1/\∀H',ObjOk X.prog X.w H' s.heap p.1 p.2)->(ws.map (·.1)).Nodup->∃H',Inv X pins σ H' s/\Same H H'/\∀p∈ws,H' p.1=some p.2
 | [],H,I,_,_=>⟨H,I,Same.refl _,fun p hp=>nomatch hp⟩
 | w::r,H,I,h,nd=>by
  obtain⟨a,b,c⟩:=h w mem_cons_self;rw[map_cons,nodup_cons]at nd;have I1:=I.track a b (c _);obtain⟨H',I2,s2,k2⟩:=Inv.trackAll r I1 (fun p hp=>by
   obtain⟨a',b',c'⟩:=h p (mem_cons_of_mem _ hp);exact⟨(jq fun z:p.1=w.1=>nd.1 (by rw[<-z];exact mem_map.mpr ⟨p,hp,rfl⟩)).trans a',b',c'⟩) nd.2
  have s1:Same H (upd H w.1 w.2):=fun b u q=>(jq (ji q a)).trans q
  refine⟨H',I2,s1.trans s2,fun p hp=>?_⟩;rcases mem_cons.mp hp with rfl | hp
  ·exact s2 _ _ jn
  ·exact k2 p hp
end
section
variable{X:Cx}
theorem valsR:∀as:List Addr,Vals (as.map V.ref) (as.map Value.ref)
 | []=>.nil
 | _::r=>.cons rfl (valsR r)
end
section
variable{X:Cx}
end
section
variable{X:Cx}
end
section
variable{X:Cx}{e:Expr}{te:TE}
end
abbrev IsZipK(h:Heap)(z TI TO T:Addr)(f:Bool):Prop:=h.get? z=some {cls:=.type "zip",dict:=none,data:=.fields #[rawInt T,.bool f,.bool false,.ref TI,.ref TO],slots:=#[]}
section
variable{prog:Program}{w:World}{A:Around}{E:Value->Shared->Prop}{s:Shared}
theorem Yu{z TI TO T:Addr}{f:Bool}{oT:Obj}(hz:IsZipK s.heap z TI TO T f)(hT:s.heap.get? T=some oT) :
  wpAny (model prog w) A (Builtin.SmallTypes.ownedTupleIsFree (.ref z)) (fun a s₁=>a=false/\∃h₁,s₁={s with heap:=h₁}/\IsZipK h₁ z TI TO T true/\Heap.SameBut z s.heap h₁) E s:=by
 unfold Builtin.SmallTypes.ownedTupleIsFree;refine wpAny_bind (wpAny_field hz rfl (x:=rawInt T) rfl ?_);show wpAny _ _ (loadIfAlive ((T:Int).toNat) >>= _) _ _ _;rw[Int.toNat_natCast];refine wpAny_bind (kdx_alive hT ?_);simp only[Option.isNone_some,Bool.false_eq_true,if_false];refine wpAny_bind (wpAny_field hz rfl (x:=.bool f) rfl ?_);cases f with
 | true=>
  rw[if_neg (show¬((Value.bool true != Value.bool true)=true)from Bool.false_ne_true)];exact wpAny_pure ⟨rfl,_,rfl,hz,Heap.SameBut.refl ..⟩
 | false=>
  rw[if_pos (show(Value.bool false != Value.bool true)=true from rfl)];refine wpAny_bind (wpAny_setField_rec hz (by simp) fun h₃ he₃ hs₃=>?_);exact wpAny_pure ⟨rfl,h₃,rfl,he₃,hs₃⟩
theorem Kt{z TI TO T i1 i2 l1 l2:Addr}{f:Bool}{oT:Obj}{k1 k2:Nat}{xs ys:Array Value}{x y:Value}{Q:Value->Shared->Prop}(D:ZipApart z TI TO i1 i2 l1 l2)
  (hz:IsZipK s.heap z TI TO T f) (hT:s.heap.get? T=some oT) (hTI:IsPair s.heap TI (.ref i1) (.ref i2))
  (h1:s.heap.IsListIter i1 l1 k1) (h2:s.heap.IsListIter i2 l2 k2) (hl1:s.heap.IsList l1 xs) (hl2:s.heap.IsList l2 ys) (hx:xs[k1]?=some x) (hy:ys[k2]?=some y)
  (hQ:∀h',IsZipK h' z TI TO T true->h'.IsListIter i1 l1 (k1+1)->h'.IsListIter i2 l2 (k2+1)->IsPair h' s.heap.objs.size x y->h'.objs.size=s.heap.objs.size+1->
   (∀c o,c≠z->c≠i1->c≠i2->s.heap.get? c=some o->h'.get? c=some o)->Q (.ref s.heap.objs.size) {s with heap:=h'}) :
  wpAny (model prog w) A (Builtin.«zip.__next__» ⟨[.ref z],[]⟩) (fun fin s'=>∃v,fin=Fin.done (.ret v)/\Q v s') E s:=by
 show wpAny _ _ (field (.ref z) 2 >>= _) _ _ _;refine wpAny_bind (wpAny_field hz rfl (x:=.bool false) rfl ?_);show wpAny _ _ (field (.ref z) 3 >>= _) _ _ _;refine wpAny_bind (wpAny_field hz rfl (x:=.ref TI) rfl ?_);refine wpAny_bind (wpAny_seqItems hTI rfl ?_);show wpAny _ _ (Builtin.SmallTypes.ownedTupleIsFree (.ref z) >>= _) _ _ _;refine wpAny_bind (thn (Yu hz hT) fun a s₁ ⟨ha,h₁,es,hz₁,hs₁⟩=>?_);subst ha es;simp only[Bool.false_eq_true,if_false];refine wpAny_bind ?_;rw[<-Array.forIn_toList];simp only[forIn_cons,forIn_nil];refine wpAny_bind (wpAny_bind (wpAny_holding ?_));show wpAny _ _ (Builtin.SmallTypes.nextOf (.ref i1) >>= _) _ _ _;refine wpAny_bind (wpAny_nextOf_list_item (h1.extBut hs₁.extBut D.i1z) (hl1.extBut hs₁.extBut D.l1z) hx fun h₂ h1₂ hs₂=>wpAny_pure ?_);refine wpAny_pure ?_;refine wpAny_bind (wpAny_bind (wpAny_holding ?_));show wpAny _ _ (Builtin.SmallTypes.nextOf (.ref i2) >>= _) _ _ _;refine wpAny_bind (wpAny_nextOf_list_item ((h2.extBut hs₁.extBut D.i2z).extBut hs₂.extBut D.i12.symm) ((hl2.extBut hs₁.extBut D.l2z).extBut hs₂.extBut D.l2i1) hy fun h₄ h2₄ hs₄=>wpAny_pure ?_);refine wpAny_pure (wpAny_pure ?_);refine wpAny_bind (wpAny_newTuple (hsz:=by show 2<=sizeLine;decide) ?_);have hsz:h₄.objs.size=s.heap.objs.size:=by rw[hs₄.1,hs₂.1,hs₁.1]
 have hz₄:IsZipK h₄ z TI TO T true:=hs₄.extBut _ _ D.i2z.symm (hs₂.extBut _ _ D.i1z.symm hz₁);have hk:∀c o,c≠z->c≠i1->c≠i2->s.heap.get? c=some o->h₄.get? c=some o:=fun c o c1 c3 c4 e=>hs₄.extBut _ _ c4 (hs₂.extBut _ _ c3 (hs₁.extBut _ _ c1 e))
 refine wpAny_pure ⟨_,rfl,?_⟩;show Q (.ref h₄.objs.size) _;have hT:(h₄.push {cls:=.type "tuple",data:=.seq #[x,y]}).get? h₄.objs.size=some {cls:=.type "tuple",data:=.seq #[x,y]}:=Heap.get?_push_size _ rfl;rw[hsz]at hT|-;exact hQ _ (Heap.get?_push_of_some _ hz₄) ((h1₂.extBut hs₄.extBut D.i12).at fun o e=>Heap.get?_push_of_some _ e) (h2₄.at fun o e=>Heap.get?_push_of_some _ e) hT (by rw[Heap.size_push,hsz]) fun c o c1 c3 c4 e=>Heap.get?_push_of_some _ (hk c o c1 c3 c4 e)
theorem ZE{z TI TO T i1 i2 l1 l2:Addr}{f:Bool}{oT:Obj}{k1 k2:Nat}{xs ys:Array Value}{x y:Value}{Q:Option Value->Shared->Prop}(D:ZipApart z TI TO i1 i2 l1 l2)
  (hz:IsZipK s.heap z TI TO T f) (hT:s.heap.get? T=some oT) (hTI:IsPair s.heap TI (.ref i1) (.ref i2))
  (h1:s.heap.IsListIter i1 l1 k1) (h2:s.heap.IsListIter i2 l2 k2) (hl1:s.heap.IsList l1 xs) (hl2:s.heap.IsList l2 ys) (hx:xs[k1]?=some x) (hy:ys[k2]?=some y)
  (hQ:∀h',IsZipK h' z TI TO T true->h'.IsListIter i1 l1 (k1+1)->h'.IsListIter i2 l2 (k2+1)->IsPair h' s.heap.objs.size x y->h'.objs.size=s.heap.objs.size+1->
   (∀c o,c≠z->c≠i1->c≠i2->s.heap.get? c=some o->h'.get? c=some o)->Q (some (.ref s.heap.objs.size)) {s with heap:=h'}) :
  wpAny (model prog w) A (pyNext (.ref z)) Q E s:=by
 have hTy:s.TypeIs (.ref z) "zip":=⟨_,hz,rfl⟩
 unfold pyNext;refine wpAny_bind (wpAny_attempt (wpAny_callSpecial?_slot (name:=Str.ofString "__next__") hTy F.slot_zip_next
  (wpAny_call_entry F.slot_zip_next hTy F.entry_zip_next (Kt D hz hT hTI h1 h2 hl1 hl2 hx hy fun h' a1 a2 a3 a4 a5 a6=>?_) (F.args_zip_next_1 _))))
 exact wpAny_pure (hQ h' a1 a2 a3 a4 a5 a6)
theorem KM{z TI TO T i1 i2 l1 l2:Addr}{f:Bool}{oT:Obj}{k1:Nat}{xs:Array Value}{Q:Fin->Shared->Prop}(hh:A.handled=none)(D:ZipApart z TI TO i1 i2 l1 l2)
  (hz:IsZipK s.heap z TI TO T f) (hT:s.heap.get? T=some oT) (hTI:IsPair s.heap TI (.ref i1) (.ref i2))
  (h1:s.heap.IsListIter i1 l1 k1) (hl1:s.heap.IsList l1 xs) (hx:xs[k1]?=none)
  (hE:∀h' e,(∀c o,c≠z->c≠i1->c≠i2->s.heap.get? c=some o->h'.get? c=some o)->(∃o,h'.get? e=some o/\o.cls = .type "StopIteration")->E (.ref e) {s with heap:=h'}) :
  wpAny (model prog w) A (Builtin.«zip.__next__» ⟨[.ref z],[]⟩) Q E s:=by
 show wpAny _ _ (field (.ref z) 2 >>= _) _ _ _;refine wpAny_bind (wpAny_field hz rfl (x:=.bool false) rfl ?_);show wpAny _ _ (field (.ref z) 3 >>= _) _ _ _;refine wpAny_bind (wpAny_field hz rfl (x:=.ref TI) rfl ?_);refine wpAny_bind (wpAny_seqItems hTI rfl ?_);show wpAny _ _ (Builtin.SmallTypes.ownedTupleIsFree (.ref z) >>= _) _ _ _;refine wpAny_bind (thn (Yu hz hT) fun a s₁ ⟨ha,h₁,es,hz₁,hs₁⟩=>?_);subst ha es;simp only[Bool.false_eq_true,if_false];refine wpAny_bind ?_;rw[<-Array.forIn_toList];simp only[forIn_cons,forIn_nil];refine wpAny_bind (wpAny_bind (wpAny_holding ?_));show wpAny _ _ (Builtin.SmallTypes.nextOf (.ref i1) >>= _) _ _ _;refine wpAny_bind (wpAny_nextOf_list_end hh (h1.extBut hs₁.extBut D.i1z) (hl1.extBut hs₁.extBut D.l1z) hx fun h₂ e hs₂ he=>?_);exact hE h₂ e (fun c o c1 c3 _ x=>hs₂ _ _ c3 (hs₁.extBut _ _ c1 x)) he
theorem ZH{z TI TO T i1 i2 l1 l2:Addr}{f:Bool}{oT:Obj}{k1:Nat}{xs:Array Value}{Q:Option Value->Shared->Prop}(hh:A.handled=none)(D:ZipApart z TI TO i1 i2 l1 l2)
  (hz:IsZipK s.heap z TI TO T f) (hT:s.heap.get? T=some oT) (hTI:IsPair s.heap TI (.ref i1) (.ref i2))
  (h1:s.heap.IsListIter i1 l1 k1) (hl1:s.heap.IsList l1 xs) (hx:xs[k1]?=none)
  (hQ:∀h',(∀c o,c≠z->c≠i1->c≠i2->s.heap.get? c=some o->h'.get? c=some o)->Q none {s with heap:=h'}):wpAny (model prog w) A (pyNext (.ref z)) Q E s:=by
 have hTy:s.TypeIs (.ref z) "zip":=⟨_,hz,rfl⟩
 unfold pyNext;refine wpAny_bind (wpAny_attempt (wpAny_callSpecial?_slot (name:=Str.ofString "__next__") hTy F.slot_zip_next
  (wpAny_call_entry F.slot_zip_next hTy F.entry_zip_next (KM hh D hz hT hTI h1 hl1 hx fun h' e hk he=>?_) (F.args_zip_next_1 _))))
 obtain⟨o,ho,hc⟩:=he;refine wpAny_bind (wpAny_isInstance (T:="StopIteration") (b:=true) ⟨o,ho,hc⟩ isSubtype_stop ?_);exact wpAny_pure (hQ _ hk)
theorem j05:typeLookup (.type "zip") "__len__"= pure none:=by rw[typeLookup_type,builtinLookup_eq_fast];kernel_rfl
theorem x8:typeLookup (.type "zip") "__length_hint__"= pure none:=by rw[typeLookup_type,builtinLookup_eq_fast];kernel_rfl
def ZipSt(h:Heap)(z TI TO i1 i2 l1 l2:Addr)(i:Nat):Prop:=
 IsPair h TI (.ref i1) (.ref i2)/\h.IsListIter i1 l1 i/\h.IsListIter i2 l2 i/\((i=0/\IsZip h z TI TO .none/\∃a b,IsPair h TO a b)\/(∃T f oT,IsZipK h z TI TO T f/\h.get? T=some oT/\T≠z/\T≠i1/\T≠i2))
theorem j03{z TI TO i1 i2 l1 l2:Addr}{i:Nat}{xs ys:Array Value}{x y:Value}{Q:Option Value->Shared->Prop}(D:ZipApart z TI TO i1 i2 l1 l2)(st:ZipSt s.heap z TI TO i1 i2 l1 l2 i)
  (hl1:s.heap.IsList l1 xs) (hl2:s.heap.IsList l2 ys) (hx:xs[i]?=some x) (hy:ys[i]?=some y)
  (hQ:∀h',ZipSt h' z TI TO i1 i2 l1 l2 (i+1)->IsPair h' s.heap.objs.size x y->h'.objs.size=s.heap.objs.size+1->(∀c o,c≠z->c≠TO->c≠i1->c≠i2->s.heap.get? c=some o->h'.get? c=some o)->Q (some (.ref s.heap.objs.size)) {s with heap:=h'}) :
  wpAny (model prog w) A (pyNext (.ref z)) Q E s:=by
 obtain⟨hTI,h1,h2,st⟩:=st;have n1:s.heap.objs.size≠i1:=by obtain⟨o,e,_⟩:=id h1;exact Nat.ne_of_gt (Heap.lt_size e)
 have n2:s.heap.objs.size≠i2:=by obtain⟨o,e,_⟩:=id h2;exact Nat.ne_of_gt (Heap.lt_size e)
 rcases st with⟨rfl,hz,a,b,hTO⟩ | ⟨T,f,oT,hz,hT,t1,t2,t3⟩
 ·have nz:s.heap.objs.size≠z:=Nat.ne_of_gt (Heap.lt_size hz);refine wpAny_pyNext_zip_item D hz hTI hTO h1 h2 hl1 hl2 hx hy fun h' a1 a2 a3 a4 a5 a6 hk=>?_
  exact hQ h' ⟨hk TI _ D.TIz D.TITO D.TIi1 D.TIi2 hTI,a3,a4,.inr ⟨_,false,_,a1,a5,nz,n1,n2⟩⟩ a5 a6 hk
 ·refine ZE D hz hT hTI h1 h2 hl1 hl2 hx hy fun h' a1 a3 a4 a5 a6 hk=>?_
  exact hQ h' ⟨hk TI _ D.TIz D.TIi1 D.TIi2 hTI,a3,a4,.inr ⟨T,true,oT,a1,hk T _ t1 t2 t3 hT,t1,t2,t3⟩⟩ a5 a6 fun c o c1 c2 c3 c4 e=>hk c o c1 c3 c4 e
theorem j1F{z TI TO i1 i2 l1 l2:Addr}{i:Nat}{xs ys:Array Value}{Q:Option Value->Shared->Prop}(hh:A.handled=none)(D:ZipApart z TI TO i1 i2 l1 l2)(st:ZipSt s.heap z TI TO i1 i2 l1 l2 i)
  (hl1:s.heap.IsList l1 xs) (hl2:s.heap.IsList l2 ys) (hx:xs[i]?=none)
  (hQ:∀h',(∀c o,c≠z->c≠TO->c≠i1->c≠i2->s.heap.get? c=some o->h'.get? c=some o)->Q none {s with heap:=h'}):wpAny (model prog w) A (pyNext (.ref z)) Q E s:=by
 obtain⟨hTI,h1,h2,st⟩:=st;rcases st with⟨rfl,hz,a,b,hTO⟩ | ⟨T,f,oT,hz,hT,t1,t2,t3⟩
 ·exact wpAny_pyNext_zip_end hh D hz hTI hTO h1 h2 hl1 hl2 (.inl hx) hQ
 ·exact ZH hh D hz hT hTI h1 hl1 hx fun h' hk=>hQ h' fun c o c1 c2 c3 c4 e=>hk c o c1 c3 c4 e
def ZPs(h:Heap)(lo:Nat)(as:List Addr)(xs ys:Array Value):Prop:=as.Pairwise (· < ·)/\(∀a∈as,lo<=a/\a<h.objs.size)/\∀(j:Nat) (a:Addr),as[j]?=some a->∃x y,xs[j]?=some x/\ys[j]?=some y/\IsPair h a x y
theorem j2T{R:Result->Shared->Prop}{z TI TO i1 i2 l1 l2 S:Addr}{lo:Nat}{xs ys:Array Value}(hh:A.in1.handled=none)(D:ZipApart z TI TO i1 i2 l1 l2)(hS:S≠z/\S≠TI/\S≠TO/\S≠i1/\S≠i2/\S≠l1/\S≠l2)(hlo:z<lo/\TO<lo/\i1<lo/\i2<lo/\S<lo)(hlen:xs.size=ys.size)(hn:xs.size<=sizeLine)(res:Value) :
  ∀(k i:Nat) (s:Shared) (as:List Addr) (c:Nat),xs.size-i=k->i<=xs.size->ZipSt s.heap z TI TO i1 i2 l1 l2 i->s.heap.IsList l1 xs->s.heap.IsList l2 ys->lo<=s.heap.objs.size->
  s.heap.get? S=some {cls:=.type "list",dict:=none,data:=.seq (as.map Value.ref).toArray c,slots:=#[]}->as.length=i->ZPs s.heap lo as xs ys->
  (∀h' as' c',h'.get? S=some {cls:=.type "list",dict:=none,data:=.seq (as'.map Value.ref).toArray c',slots:=#[]}->as'.length=xs.size->ZPs h' lo as' xs ys->
   (∀b o,b≠S->b≠z->b≠TO->b≠i1->b≠i2->s.heap.get? b=some o->h'.get? b=some o)->R (.ok (.ret res)) {s with heap:=h'})->
  codeAny (model prog w) A (.builtin "list.extend.loop" ⟨[.ref S,.ref z,res],[]⟩) R s:=by
 intro k
 induction k with
 | zero=>
  intro i s as c hk hi st hl1 hl2 hlo' hSo hla hP hR;have hin:i=xs.size:=by omega
  refine codeAny_builtin F.entry_extend_loop ?_;rw[Around.under_plainId F.plain_extend_loop _];show wpAny _ A.in1 (pyNext (.ref z) >>= _) _ _ s;refine wpAny_bind (j1F hh D st hl1 hl2 (by rw[Array.getElem?_eq_none_iff];omega) fun h' hk'=>?_);have ap:∀a∈as,a≠z/\a≠TO/\a≠i1/\a≠i2/\a≠S:=fun a ha=>⟨Nat.ne_of_gt (Nat.lt_of_lt_of_le hlo.1 (hP.2.1 a ha).1),Nat.ne_of_gt (Nat.lt_of_lt_of_le hlo.2.1 (hP.2.1 a ha).1),Nat.ne_of_gt (Nat.lt_of_lt_of_le hlo.2.2.1 (hP.2.1 a ha).1),Nat.ne_of_gt (Nat.lt_of_lt_of_le hlo.2.2.2.1 (hP.2.1 a ha).1),Nat.ne_of_gt (Nat.lt_of_lt_of_le hlo.2.2.2.2 (hP.2.1 a ha).1)⟩
  have keep:∀a∈as,∀o,s.heap.get? a=some o->h'.get? a=some o:=fun a ha o e=>hk' a o (ap a ha).1 (ap a ha).2.1 (ap a ha).2.2.1 (ap a ha).2.2.2.1 e
  refine wpAny_pure (hR h' as c (hk' S _ hS.1 hS.2.2.1 hS.2.2.2.1 hS.2.2.2.2.1 hSo) (by omega) ⟨hP.1,fun a ha=>?_,fun j a e=>?_⟩ fun b o _ b1 b2 b3 b4 e=>hk' b o b1 b2 b3 b4 e)
  ·obtain⟨j,hj,ej⟩:=List.getElem_of_mem ha;obtain⟨x,y,_,_,p⟩:=hP.2.2 j a (by rw[List.getElem?_eq_getElem hj,ej]);exact⟨(hP.2.1 a ha).1,Heap.lt_size (keep a ha _ p)⟩
  ·obtain⟨x,y,p1,p2,p⟩:=hP.2.2 j a e;exact⟨x,y,p1,p2,keep a (mem_of_getElem? e) _ p⟩
 | succ k ih=>
  intro i s as c hk hi st hl1 hl2 hlo' hSo hla hP hR;have hlt:i<xs.size:=by omega
  refine codeAny_builtin F.entry_extend_loop ?_;rw[Around.under_plainId F.plain_extend_loop _];show wpAny _ A.in1 (pyNext (.ref z) >>= _) _ _ s;have ex:xs[i]?=some xs[i]:=by simp[hlt]
  have ey:ys[i]?=some (ys[i]'(by omega)):=by simp[<-hlen,hlt]
  refine wpAny_bind (j03 D st hl1 hl2 ex ey fun h' st' hp hsz hk'=>?_);have hS':=hk' S _ hS.1 hS.2.2.1 hS.2.2.2.1 hS.2.2.2.2.1 hSo;show wpAny _ A.in1 (updateSeq S (·.push (.ref s.heap.objs.size)) >>= _) _ _ _;refine wpAny_bind ?_;have sz1:(as.map Value.ref).toArray.size=i:=by simp[hla]
  refine wpAny_updateSeq hS' rfl (wpAny_pure ⟨plainId_quiet F.plain_extend_loop _,?_⟩) (by rw[sz1];omega) (by show((as.map Value.ref).toArray.push _).size<=sizeLine+1;rw[Array.size_push,sz1];omega);have oth:∀b o,b≠S->h'.get? b=some o->(h'.update S (Obj.mapSeq (·.push (.ref s.heap.objs.size)))).get? b=some o:=fun b o hb e=>(Heap.get?_update_other _ _ (Ne.symm hb)).trans e
  have hS2:=Heap.get?_update_self (Obj.mapSeq (·.push (.ref s.heap.objs.size))) hS' rfl;have e2:∃c2,(Obj.mapSeq (·.push (.ref s.heap.objs.size)) {cls:=.type "list",dict:=none,data:=.seq (as.map Value.ref).toArray c,slots:=#[]}:Obj)={cls:=.type "list",dict:=none,data:=.seq ((as++[s.heap.objs.size]).map Value.ref).toArray c2,slots:=#[]}:=by
   have e3:(as.map Value.ref).toArray.push (.ref s.heap.objs.size)=((as++[s.heap.objs.size]).map Value.ref).toArray:=by simp
   rw[<-e3];exact⟨_,rfl⟩
  obtain⟨c2,e2⟩:=e2;rw[e2]at hS2;have usz:(h'.update S (Obj.mapSeq (·.push (.ref s.heap.objs.size)))).objs.size=s.heap.objs.size+1:=by rw[<-hsz];exact(Heap.SameBut.update ..).1
  have nS:s.heap.objs.size≠S:=Nat.ne_of_gt (Nat.lt_of_lt_of_le hlo.2.2.2.2 hlo');have ap:∀a∈as,a≠z/\a≠TO/\a≠i1/\a≠i2/\a≠S:=fun a ha=>⟨Nat.ne_of_gt (Nat.lt_of_lt_of_le hlo.1 (hP.2.1 a ha).1),Nat.ne_of_gt (Nat.lt_of_lt_of_le hlo.2.1 (hP.2.1 a ha).1),Nat.ne_of_gt (Nat.lt_of_lt_of_le hlo.2.2.1 (hP.2.1 a ha).1),Nat.ne_of_gt (Nat.lt_of_lt_of_le hlo.2.2.2.1 (hP.2.1 a ha).1),Nat.ne_of_gt (Nat.lt_of_lt_of_le hlo.2.2.2.2 (hP.2.1 a ha).1)⟩
  have low:∀a∈as,a<s.heap.objs.size:=fun a ha=>(hP.2.1 a ha).2
  have keep:∀a∈as,∀o,s.heap.get? a=some o->(h'.update S (Obj.mapSeq (·.push (.ref s.heap.objs.size)))).get? a=some o:=fun a ha o e=>oth a o (ap a ha).2.2.2.2 (hk' a o (ap a ha).1 (ap a ha).2.1 (ap a ha).2.2.1 (ap a ha).2.2.2.1 e)
  refine ih (i+1) _ (as++[s.heap.objs.size]) c2 (by omega) hlt ?_ ?_ ?_ ?_ hS2 (by rw[List.length_append,hla];rfl) ?_ ?_
  ·obtain⟨q1,q2,q3,q4⟩:=st';refine⟨oth _ _ hS.2.1.symm q1,q2.at fun o e=>oth _ _ hS.2.2.2.1.symm e,q3.at fun o e=>oth _ _ hS.2.2.2.2.1.symm e,?_⟩;rcases q4 with⟨z0,_⟩ | ⟨T,f,oT,q5,q6,q7,q8,q9⟩
   ·cases z0
   ·by_cases zS:T=S
    ·subst zS;exact .inr ⟨T,f,_,oth _ _ hS.1.symm q5,hS2,q7,q8,q9⟩
    ·exact .inr ⟨T,f,oT,oth _ _ hS.1.symm q5,oth _ _ zS q6,q7,q8,q9⟩
  ·obtain⟨o,e,r⟩:=hl1;exact⟨o,oth _ _ hS.2.2.2.2.2.1.symm (hk' _ _ D.l1z D.l1TO D.l1i1 D.l1i2 e),r⟩
  ·obtain⟨o,e,r⟩:=hl2;exact⟨o,oth _ _ hS.2.2.2.2.2.2.symm (hk' _ _ D.l2z D.l2TO D.l2i1 D.l2i2 e),r⟩
  ·show lo<=(h'.update S _).objs.size;rw[usz];exact Nat.le_succ_of_le hlo'
  ·refine⟨List.pairwise_append.mpr ⟨hP.1,List.pairwise_singleton _ _,fun a ha b hb=>by rw[mem_singleton.mp hb];exact low a ha⟩,fun a ha=>?_,fun j a e=>?_⟩
   ·show lo<=a/\a<(h'.update S _).objs.size;rw[usz];rcases mem_append.mp ha with q | q
    ·exact⟨(hP.2.1 a q).1,Nat.lt_succ_of_lt (hP.2.1 a q).2⟩
    ·rw[mem_singleton.mp q];exact⟨hlo',Nat.lt_succ_self _⟩
   ·by_cases hj:j<as.length
    ·rw[List.getElem?_append_left hj]at e;obtain⟨x,y,p1,p2,p⟩:=hP.2.2 j a e;exact⟨x,y,p1,p2,keep a (mem_of_getElem? e) _ p⟩
    ·rw[List.getElem?_append_right (by omega)]at e;have hj':j=i:=by
      have:=(List.getElem?_eq_some_iff.mp e).1;simp at this;omega
     rw[hj',hla,Nat.sub_self]at e;have ea:s.heap.objs.size=a:=by simpa using e
     subst ea;subst hj';exact⟨_,_,ex,ey,oth _ _ nS hp⟩
  ·intro h'' as' c' a1 a2 a3 a4;exact hR h'' as' c' a1 a2 a3 fun b o b0 b1 b2 b3 b4 e=>a4 b o b0 b1 b2 b3 b4 (oth b o b0 (hk' b o b1 b2 b3 b4 e))
theorem j04{R:Result->Shared->Prop}{z TI TO i1 i2 l1 l2 S:Addr}{lo c₀:Nat}{xs ys:Array Value}(hh:A.in1.handled=none)(D:ZipApart z TI TO i1 i2 l1 l2)(hS:S≠z/\S≠TI/\S≠TO/\S≠i1/\S≠i2/\S≠l1/\S≠l2)(hlo:z<lo/\TO<lo/\i1<lo/\i2<lo/\S<lo)(hlen:xs.size=ys.size)(hn:xs.size<=sizeLine)(res:Value)
  (st:ZipSt s.heap z TI TO i1 i2 l1 l2 0) (hz:IsZip s.heap z TI TO .none) (hl1:s.heap.IsList l1 xs) (hl2:s.heap.IsList l2 ys) (hlo':lo<=s.heap.objs.size) (hSo:s.heap.get? S=some {cls:=.type "list",data:=.seq #[] c₀})
  (hR:∀h' as' c',h'.get? S=some {cls:=.type "list",dict:=none,data:=.seq (as'.map Value.ref).toArray c',slots:=#[]}->as'.length=xs.size->ZPs h' lo as' xs ys->
   (∀b o,b≠S->b≠z->b≠TO->b≠i1->b≠i2->s.heap.get? b=some o->h'.get? b=some o)->R (.ok (.ret res)) {s with heap:=h'}) :
  wpAny (model prog w) A.in1 (Builtin.List.listExtendWith (.ref S) (.ref z) res)
   (fun fin s'=>match fin with | .done f=>R (.ok f) s' | .again c'=>c'.quiet=true/\codeAny (model prog w) A c' R s') (fun e s'=>R (.error e) s') s:=by
 have hT:s.TypeIs (.ref z) "zip":=⟨_,hz,rfl⟩
 unfold Builtin.List.listExtendWith;refine wpAny_bind (wpAny_typeOf hT ?_);have h1:Builtin.List.listSameRef (.ref S) (.ref z)=false:=by simp[Builtin.List.listSameRef,hS.1]
 have h2:(Value.type "zip"== Value.type "list")=false:=by decide
 have h3:(Value.type "zip"== Value.type "tuple")=false:=by decide
 simp only[h1,h2,h3,Bool.or_false,Bool.false_eq_true,if_false];refine wpAny_bind (wpAny_pyIter_zip hz ?_);refine wpAny_bind (wpAny_holding ?_);unfold Builtin.List.listLengthHint;refine wpAny_bind (wpAny_specialOf hT j05 ?_);show wpAny _ A.in1 (specialOf (Value.ref z) (Str.ofString "__length_hint__") >>= _) _ _ _;refine wpAny_bind (wpAny_specialOf hT x8 ?_);refine wpAny_pure ?_;show wpAny _ A.in1 (rule "list.extend.makes-room" >>= fun _=>Builtin.List.listTouch (.ref S) >>= fun _=>
  again (.builtin "list.extend.loop" ⟨[.ref S,.ref z,res],[]⟩)) _ _ _
 refine wpAny_bind (wpAny_rule ?_);refine wpAny_bind ?_;show wpAny _ A.in1 (updateSeq S (·.push .none) >>= fun _=>updateSeq S (·.pop)) _ _ _;refine wpAny_bind (wpAny_updateSeq hSo rfl ?_);have hS₂:=Heap.get?_update_self (Obj.mapSeq (·.push Value.none)) hSo rfl;refine wpAny_updateSeq (hz:=by seq_fits) hS₂ rfl ?_;have hS₃:=Heap.get?_update_self (Obj.mapSeq (·.pop)) hS₂ rfl;have oth:∀b o,b≠S->s.heap.get? b=some o->((s.heap.update S (Obj.mapSeq (·.push Value.none))).update S (Obj.mapSeq (·.pop))).get? b=some o:=
  fun b o hb e=>(Heap.get?_update_other _ _ (Ne.symm hb)).trans ((Heap.get?_update_other _ _ (Ne.symm hb)).trans e)
 have usz:((s.heap.update S (Obj.mapSeq (·.push Value.none))).update S (Obj.mapSeq (·.pop))).objs.size=s.heap.objs.size:=by rw[(Heap.SameBut.update ..).1,(Heap.SameBut.update ..).1]
 obtain⟨q1,q2,q3,q4⟩:=st;obtain⟨o1,e1,r1⟩:=hl1;obtain⟨o2,e2,r2⟩:=hl2;have hTO:∃a b,IsPair s.heap TO a b:=by
  rcases q4 with⟨_,_,h⟩ | ⟨T,f,oT,h,_⟩
  ·exact h
  ·have:=hz.symm.trans h;have:=congrArg (fun o=>(o.map fun o:Obj=>o.data)) this;simp[rawInt]at this
 obtain⟨ta,tb,hTO⟩:=hTO;refine wpAny_pure ⟨plainId_quiet F.plain_extend_loop _,j2T hh D hS hlo hlen hn res xs.size 0 _ [] _ rfl (Nat.zero_le _)
  ⟨oth _ _ hS.2.1.symm q1,q2.at fun o e=>oth _ _ hS.2.2.2.1.symm e,q3.at fun o e=>oth _ _ hS.2.2.2.2.1.symm e,.inl ⟨rfl,oth _ _ hS.1.symm hz,ta,tb,oth _ _ hS.2.2.1.symm hTO⟩⟩
  ⟨o1,oth _ _ hS.2.2.2.2.2.1.symm e1,r1⟩ ⟨o2,oth _ _ hS.2.2.2.2.2.2.symm e2,r2⟩ (by show lo<=Array.size _;rw[usz];exact hlo') hS₃ rfl ⟨.nil,(fun a h=>nomatch h),fun j a h=>by simp at h⟩ fun h' as' c' a1 a2 a3 a4=>?_⟩
 exact hR h' as' c' a1 a2 a3 fun b o b0 b1 b2 b3 b4 e=>a4 b o b0 b1 b2 b3 b4 (oth b o b0 e)
theorem KN{R:Result->Shared->Prop}{z TI TO i1 i2 l1 l2 S:Addr}{lo:Nat}{xs ys:Array Value}(hh:A.in1.handled=none)(D:ZipApart z TI TO i1 i2 l1 l2)(hS:S≠z/\S≠TI/\S≠TO/\S≠i1/\S≠i2/\S≠l1/\S≠l2)(hlo:z<lo/\TO<lo/\i1<lo/\i2<lo/\S<lo)(hlen:xs.size=ys.size)(hn:xs.size<=sizeLine)
  (st:ZipSt s.heap z TI TO i1 i2 l1 l2 0) (hz:IsZip s.heap z TI TO .none) (hl1:s.heap.IsList l1 xs) (hl2:s.heap.IsList l2 ys) (hlo':lo<=s.heap.objs.size) (hSo:s.heap.get? S=some {cls:=.type "list",data:=.seq #[]})
  (hTO:∃a b,IsPair s.heap TO a b)
  (hR:∀h' as' c',h'.get? S=some {cls:=.type "list",dict:=none,data:=.seq (as'.map Value.ref).toArray c',slots:=#[]}->as'.length=xs.size->ZPs h' lo as' xs ys->
   (∀b o,b≠S->b≠z->b≠TO->b≠i1->b≠i2->s.heap.get? b=some o->h'.get? b=some o)->R (.ok (.ret .none)) {s with heap:=h'}) :
  wpAny (model prog w) A.in1 (Builtin.«list.__init__» ⟨[.ref S,.ref z],[]⟩)
   (fun fin s'=>match fin with | .done f=>R (.ok f) s' | .again c'=>c'.quiet=true/\codeAny (model prog w) A c' R s') (fun e s'=>R (.error e) s') s:=by
 show wpAny _ A.in1 (do let old <-Builtin.List.listItems (.ref S);Builtin.List.listUpdate (.ref S) (fun _=>#[]);letGo old.toList.reverse;Builtin.List.listExtendWith (.ref S) (.ref z) .none) _ _ s;refine wpAny_bind ?_;unfold Builtin.List.listItems;refine wpAny_bind (wpAny_seqItems hSo rfl (wpAny_pure ?_));show wpAny _ A.in1 (updateSeq S (fun _=>#[]) >>= fun _=>letGo (#[]:Array Value).toList.reverse >>= fun _=>Builtin.List.listExtendWith (.ref S) (.ref z) .none) _ _ s;refine wpAny_bind (wpAny_updateSeq hSo rfl ?_);have hS₂:=Heap.get?_update_self (Obj.mapSeq (fun _=>(#[]:Array Value))) hSo rfl;have oth:∀b o,b≠S->s.heap.get? b=some o->(s.heap.update S (Obj.mapSeq (fun _=>(#[]:Array Value)))).get? b=some o:=
  fun b o hb e=>(Heap.get?_update_other _ _ (Ne.symm hb)).trans e
 have usz:(s.heap.update S (Obj.mapSeq (fun _=>(#[]:Array Value)))).objs.size=s.heap.objs.size:=(Heap.SameBut.update ..).1;obtain⟨q1,q2,q3,q4⟩:=st;obtain⟨o1,e1,r1⟩:=hl1;obtain⟨o2,e2,r2⟩:=hl2;obtain⟨ta,tb,hTO⟩:=hTO;refine wpAny_bind (wpAny_letGo ?_);refine j04 hh D hS hlo hlen hn .none
  ⟨oth _ _ hS.2.1.symm q1,q2.at fun o e=>oth _ _ hS.2.2.2.1.symm e,q3.at fun o e=>oth _ _ hS.2.2.2.2.1.symm e,.inl ⟨rfl,oth _ _ hS.1.symm hz,ta,tb,oth _ _ hS.2.2.1.symm hTO⟩⟩
  (oth _ _ hS.1.symm hz) ⟨o1,oth _ _ hS.2.2.2.2.2.1.symm e1,r1⟩ ⟨o2,oth _ _ hS.2.2.2.2.2.2.symm e2,r2⟩ (by show lo<=Array.size _;rw[usz];exact hlo') hS₂ fun h' as' c' a1 a2 a3 a4=>?_
 exact hR h' as' c' a1 a2 a3 fun b o b0 b1 b2 b3 b4 e=>a4 b o b0 b1 b2 b3 b4 (oth b o b0 e)
theorem Kx{z TI TO i1 i2 l1 l2:Addr}{xs ys:Array Value}{Q:Value->Shared->Prop}(hh:A.handled=none)(D:ZipApart z TI TO i1 i2 l1 l2)(hlen:xs.size=ys.size)(hn:xs.size<=sizeLine)
  (hz:IsZip s.heap z TI TO .none) (hTI:IsPair s.heap TI (.ref i1) (.ref i2)) (hTO:∃a b,IsPair s.heap TO a b) (h1:s.heap.IsListIter i1 l1 0) (h2:s.heap.IsListIter i2 l2 0) (hl1:s.heap.IsList l1 xs) (hl2:s.heap.IsList l2 ys)
  (hQ:∀h' as' c',h'.get? s.heap.objs.size=some {cls:=.type "list",dict:=none,data:=.seq (as'.map Value.ref).toArray c',slots:=#[]}->as'.length=xs.size->ZPs h' (s.heap.objs.size+1) as' xs ys->
   (∀b o,b≠z->b≠TO->b≠i1->b≠i2->s.heap.get? b=some o->h'.get? b=some o)->Q (.ref s.heap.objs.size) {s with heap:=h'}) :
  wpAny (model prog w) A (call (.type "list") [.ref z]) Q E s:=by
 have lz:=Heap.lt_size hz;have lTI:=Heap.lt_size hTI;obtain⟨ta,tb,hTO⟩:=hTO;have lTO:=Heap.lt_size hTO;have li1:i1<s.heap.objs.size:=by obtain⟨o,e,_⟩:=id h1;exact Heap.lt_size e
 have li2:i2<s.heap.objs.size:=by obtain⟨o,e,_⟩:=id h2;exact Heap.lt_size e
 have ll1:l1<s.heap.objs.size:=by obtain⟨o,e,_⟩:=id hl1;exact Heap.lt_size e
 have ll2:l2<s.heap.objs.size:=by obtain⟨o,e,_⟩:=id hl2;exact Heap.lt_size e
 refine callType_codes (Q₁:=fun obj s₁=>obj = .ref s.heap.objs.size/\s₁={s with heap:=s.heap.push {cls:=.type "list",data:=.seq #[]}}) F.called_list (F.typeCall_list_1 _) F.entry_list_init
  (code_list_new _ ⟨rfl,rfl⟩) fun obj s₁ h₁=>?_
 obtain⟨rfl,rfl⟩:=h₁;have hS:(s.heap.push {cls:=.type "list",data:=.seq #[]}).get? s.heap.objs.size=some {cls:=.type "list",data:=.seq #[]}:=Heap.get?_push_size _ rfl;refine⟨⟨_,hS,rfl⟩,F.args_list_init_2 _ _,KN (lo:=s.heap.objs.size+1) (by simp[hh]) D ⟨Nat.ne_of_gt lz,Nat.ne_of_gt lTI,Nat.ne_of_gt lTO,Nat.ne_of_gt li1,Nat.ne_of_gt li2,Nat.ne_of_gt ll1,Nat.ne_of_gt ll2⟩ ⟨Nat.lt_succ_of_lt lz,Nat.lt_succ_of_lt lTO,Nat.lt_succ_of_lt li1,Nat.lt_succ_of_lt li2,Nat.lt_succ_self _⟩ hlen hn
  ⟨Heap.get?_push_of_some _ hTI,h1.at fun o e=>Heap.get?_push_of_some _ e,h2.at fun o e=>Heap.get?_push_of_some _ e,.inl ⟨rfl,Heap.get?_push_of_some _ hz,ta,tb,Heap.get?_push_of_some _ hTO⟩⟩ (Heap.get?_push_of_some _ hz) (hl1.push _) (hl2.push _) (by rw[Heap.size_push];exact Nat.le_refl _) hS ⟨ta,tb,Heap.get?_push_of_some _ hTO⟩ fun h' as' c' a1 a2 a3 a4=>?_⟩
 exact⟨rfl,hQ h' as' c' a1 a2 a3 fun b o b1 b2 b3 b4 e=>a4 b o (Nat.ne_of_lt (Heap.lt_size e)) b1 b2 b3 b4 (Heap.get?_push_of_some _ e)⟩
end
def tLZ(K:Frg)(ta:TA):TE:=fun σ H Q=>ta σ H fun vs H1=>∃a b xs ys,vs=[.ref a,.ref b]/\SqL K H1 a xs/\SqL K H1 b ys/\xs.length=ys.length/\∀(l:Addr) (as:List Addr) (H':Hp),Same H1 H'->H1 l=none->H' l=some (.lst (as.map V.ref))->as.length=xs.length->
 (∀(i:Nat) (c:Addr) (x y:V),as[i]?=some c->xs[i]?=some x->ys[i]?=some y->H' c=some (.tup [x,y]))->Q (.ref l) H'
theorem rd_lz{K:Frg}{ta:TA}{σ:St}{H:Hp}{Q:VK} (h:ta σ H fun vs H1=>∃a b xs ys,vs=[.ref a,.ref b]/\SqL K H1 a xs/\SqL K H1 b ys/\xs.length=ys.length/\∀(l:Addr) (as:List Addr) (H':Hp),Same H1 H'->H1 l=none->H' l=some (.lst (as.map V.ref))->as.length=xs.length->
 (∀(i:Nat) (c:Addr) (x y:V),as[i]?=some c->xs[i]?=some x->ys[i]?=some y->H' c=some (.tup [x,y]))->Q (.ref l) H'):tLZ K ta σ H Q:=h
theorem XW{X:Cx}{a b:Expr}{ta:TA}{p p' pos pos':Pos}(hc:X.calm=true)(hgl:Gl X "list")(hml:X.mg "list"= none)(hgz:Gl X "zip")(hmz:X.mg "zip"= none)(ha:PA X [a,b] ta)
  (hs0:starEach [.Call (.Name "zip" p') [a,b] [] pos'] X.env=[(false,eval (.Call (.Name "zip" p') [a,b] [] pos') X.env)]:=by rfl)
  (hs:starEach [a,b] X.env=[(false,eval a X.env),(false,eval b X.env)]:=by rfl) (hs2:starEach [b] X.env=[(false,eval b X.env)]:=by rfl) :
  PE X (.Call (.Name "list" p) [.Call (.Name "zip" p') [a,b] [] pos'] [] pos) (tLZ X.K ta):=by
 intro pins s σ H Q I h;refine wpAny_Call_Name_kw (QF I hgl hml wM ?_);refine PyProof.Rows.callWith_type1 ?_ hs0 rfl;rw[hs0];refine Calls.spliced_cons ?_;refine Call_ (QF I hgz hmz j1P (PyProof.Rows.callWith_type1 (thn (ha pos' pins s σ H _ I h) fun us s1 ⟨vs,H1,I1,r1,q1⟩=>?_) (by rw[hs,hs2]) (by rw[hs2];rfl)));obtain⟨l1,l2,xs,ys,rfl,hq,hr,hlen,q⟩:=q1;cases r1 with
 | cons r rr=>
  cases rr with
  | cons r' rr=>
   cases rr;cases r;cases r';obtain⟨its,rv,pl1,hz1⟩:=I1.list hq;obtain⟨jts,rw',pl2,hz2⟩:=I1.list hr;have lx:=rv.length;have ly:=rw'.length;refine call_zip_2 pl1.isList pl2.isList fun h' a1 a2 a3 a4 a5 a6 hk=>?_
   refine Calls.spliced_nil ?_;have ll1:l1<s1.heap.objs.size:=by obtain⟨o,e,_⟩:=id pl1.isList;exact Heap.lt_size e
   have ll2:l2<s1.heap.objs.size:=by obtain⟨o,e,_⟩:=id pl2.isList;exact Heap.lt_size e
   have up:∀{l k:Nat},l<s1.heap.objs.size->l≠s1.heap.objs.size+k:=fun h=>Nat.ne_of_lt (Nat.lt_of_lt_of_le h (Nat.le_add_right _ _))
   refine Kx (s:={s1 with heap:=h'}) (xs:=its.toArray) (ys:=jts.toArray) (I1.ok.hd hc)
    ⟨JU (by decide),JU (by decide),JU (i:=0) (by decide),JU (by decide),JU (by decide),JU (j:=0) (by decide),JU (by decide),JU (j:=0) (by decide),JU (by decide),JU (i:=0) (by decide),up ll1,up ll1,up (k:=0) ll1,up ll1,up ll2,up ll2,up (k:=0) ll2,up ll2⟩
    (by rw[size_toArray,size_toArray];omega) (by rw[size_toArray];omega) a1 a2 ⟨_,_,a3⟩ a4 a5 ?_ ?_ fun h2 as c o2 la zp k2=>?_
   ·obtain⟨o,e,r⟩:=pl1.isList;exact⟨o,hk _ _ e,r⟩
   ·obtain⟨o,e,r⟩:=pl2.isList;exact⟨o,hk _ _ e,r⟩
   have a6:h'.objs.size=s1.heap.objs.size+5:=a6;have o2:h2.get? h'.objs.size=_:=o2;have zp:ZPs h2 (h'.objs.size+1) as its.toArray jts.toArray:=zp;rw[a6]at o2 zp;show EP X pins σ Q (.ref h'.objs.size) _;rw[a6];have la':as.length=its.length:=by rw[size_toArray]at la;exact la
   have k3:∀b o,s1.heap.get? b=some o->h2.get? b=some o:=fun b o e=>k2 b o (up (Heap.lt_size e)) (up (Heap.lt_size e)) (up (k:=0) (Heap.lt_size e)) (up (Heap.lt_size e)) (hk b o e)
   have I2:Inv X pins σ H1 {s1 with heap:=h2}:=I1.kept (t':=s1.toks) k3;have lo:∀c∈as,s1.heap.objs.size<=c:=fun c hc=>Nat.le_trans (Nat.le_add_right _ 6) (zp.2.1 c hc).1
   have ws:∀q∈((s1.heap.objs.size+5,HO.lst (as.map V.ref))::(List.range as.length).map fun i=>(as.getD i 0,HO.tup [xs.getD i .non,ys.getD i .non])),H1 q.1=none/\NewA X pins q.1/\∀H',ObjOk X.prog X.w H' h2 q.1 q.2:=fun q hq=>by
    rcases mem_cons.mp hq with rfl | hq
    ·exact⟨I1.hok.fresh (Nat.le_add_right _ _),I1.newA (Nat.le_add_right _ _),fun H'=>⟨by rw[length_map];omega,as.map Value.ref,c,valsR as,o2⟩⟩
    ·obtain⟨i,hi,rfl⟩:=mem_map.mp hq;have hi:=mem_range.mp hi;have ea:as[i]?=some (as.getD i 0):=by rw[getD_eq_getElem?_getD,List.getElem?_eq_getElem hi];rfl
     have lc:=lo _ (mem_of_getElem? ea);obtain⟨u,v,e1,e2,pr⟩:=zp.2.2 i _ ea;have ex:xs[i]?=some (xs.getD i .non):=by rw[getD_eq_getElem?_getD,List.getElem?_eq_getElem (by omega)];rfl
     have ey:ys[i]?=some (ys.getD i .non):=by rw[getD_eq_getElem?_getD,List.getElem?_eq_getElem (by omega)];rfl
     obtain⟨u',eu,ru⟩:=rv.get ex;obtain⟨v',ev,rv'⟩:=rw'.get ey;have:u=u':=by have:=e1.symm.trans (show its.toArray[i]?=some u' by simpa using eu);exact Option.some.inj this
     subst this;have:v=v':=by have:=e2.symm.trans (show jts.toArray[i]?=some v' by simpa using ev);exact Option.some.inj this
     subst this;exact⟨I1.hok.fresh lc,I1.newA lc,fun H'=>⟨(by show 2<=sizeLine;decide),[u,v],.cons ru (.cons rv' .nil),⟨_,pr,rfl,_,rfl⟩⟩⟩
   have nd:(((s1.heap.objs.size+5,HO.lst (as.map V.ref))::(List.range as.length).map fun i=>(as.getD i 0,HO.tup [xs.getD i .non,ys.getD i .non])).map (·.1)).Nodup:=by
    rw[map_cons,nodup_cons,map_map];have e2:(List.range as.length).map ((fun x=>x.1)∘fun i=>(as.getD i 0,HO.tup [xs.getD i .non,ys.getD i .non]))=as:=List.ext_getElem (by simp) fun i h1 h2=>by
     rw[List.getElem_map,List.getElem_range];show as.getD i 0=_;rw[getD_eq_getElem?_getD,List.getElem?_eq_getElem h2];rfl
    rw[e2];exact⟨fun h=>absurd (zp.2.1 _ h).1 (Nat.not_succ_le_self _),zp.1.imp fun h=>Nat.ne_of_lt h⟩
   obtain⟨H',I3,s3,k4⟩:=Inv.trackAll _ I2 ws nd;refine⟨.ref (s1.heap.objs.size+5),H',I3,rfl,q _ as H' s3 (I1.hok.fresh (Nat.le_add_right _ _)) (k4 _ mem_cons_self) (by omega) fun i c x y e1 e2 e3=>?_⟩;have hi:=(List.getElem?_eq_some_iff.mp e1).1;have:=k4 (as.getD i 0,HO.tup [xs.getD i .non,ys.getD i .non]) (mem_cons_of_mem _ (mem_map.mpr ⟨i,mem_range.mpr hi,rfl⟩));rw[getD_eq_getElem?_getD,getD_eq_getElem?_getD,getD_eq_getElem?_getD,e1,e2,e3]at this;exact this
section
variable{X:Cx}{tg:Expr}
end
section
variable{X:Cx}
end
section
variable{prog:Program}{w:World}{A:Around}{E:Value->Shared->Prop}{s:Shared}
end
section
variable{X:Cx}{pos:Pos}
end
end L2
namespace Sp
open PySem PySem.Builtin.Str PySem.StrLaws
noncomputable def pos(c:Nat):Nat->List Nat->List Nat
 | _,[]=>[]
 | k,a::r=>if a=c then k::pos c (k+1) r else pos c (k+1) r
theorem Ki{c:Nat}:∀{k:Nat} {w r:List Nat},c∉w->pos c k (w++r)=pos c (k+w.length) r
 | k,[],r,_=>rfl
 | k,a::w,r,h=>by
  have ne:¬a=c:=fun e=>h (by rw[e];exact mem_cons_self)
  rw[cons_append,pos,if_neg ne,Ki fun e=>h (mem_cons_of_mem _ e),length_cons];congr 1;omega
theorem Ww{c k:Nat}{r:List Nat}:pos c k (c::r)=k::pos c (k+1) r:=by rw[pos,if_pos rfl]
theorem j0F{x:Str}{c i:Nat}:subAt x ⟨#[c]⟩ i=true↔x.cps.toList[i]?=some c:=by
 unfold subAt;rw[beq_iff_eq];show x.cps.extract i (i+1) = #[c]↔_;constructor
 ·intro h;have h1:(x.cps.extract i (i+1))[0]?=some c:=by rw[h];rfl
  rw[Array.getElem?_extract]at h1;split at h1
  ·rw[Array.getElem?_toList];simpa using h1
  ·cases h1
 ·intro h;rw[Array.getElem?_toList]at h;have hi:i<x.cps.size:=(Array.getElem?_eq_some_iff.mp h).1;apply Array.ext
  ·simp;omega
  ·intro j h1 h2;have:j=0:=by simp at h2;omega
   subst this;have e:=(Array.getElem?_eq_some_iff.mp h).2;simp[e]
theorem kX{x:Str}{c:Nat}:∀(l:List Nat) (k:Nat) (st:Array Nat×Nat),x.cps.toList.drop k=l->k+l.length=x.length->st.1.size<=k->st.2<=k->
  (forIn (List.range' k (l.length+1)) st (occBody x ⟨#[c]⟩ x.length (x.length+1))).run.1.toList=st.1.toList++pos c k l
 | [],k,st,_,hk,h1,h2=>by
  rw[show List.range' k (([]:List Nat).length+1)=[k]from rfl,forIn_cons];unfold occBody;rw[if_neg (fun h=>by have:k+1<=x.length:=h.1.2;have:k+0=x.length:=hk;omega)];rw[pos,append_nil];rfl
 | a::l,k,st,hd,hk,h1,h2=>by
  rw[length_cons]at hk;have ha:x.cps.toList[k]?=some a:=by
   have:=congrArg (fun l=>l[0]?) hd;simpa using this
  have hd':x.cps.toList.drop (k+1)=l:=by
   rw[<-List.drop_drop,hd];rfl
  rw[show List.range' k ((a::l).length+1)=k::List.range' (k+1) (l.length+1)from rfl,forIn_cons];by_cases e:a=c
  ·subst e;unfold occBody;rw[if_pos ⟨⟨⟨by show st.1.size<x.length+1;omega,h2⟩,by show k+1<=x.length;omega⟩,j0F.mpr ha⟩,Ww];have:=kX (c:=a) l (k+1) (st.1.push k,k+1) hd' (by omega) (by rw[Array.size_push];omega) (Nat.le_refl _);rw[show st.1.toList++k::pos a (k+1) l=(st.1.push k).toList++pos a (k+1) l by simp,<-this];rfl
  ·unfold occBody;rw[if_neg (fun h=>e (Option.some.inj (ha.symm.trans (j0F.mp h.2)))),pos,if_neg e];exact kX l (k+1) st hd' (by omega) (by omega) (by omega)
theorem Wk(x:Str)(c:Nat):occurrences x ⟨#[c]⟩ 0 x.length (x.length+1)=pos c 0 x.cps.toList:=by
 rw[occ_eq];have:=kX (x:=x) (c:=c) x.cps.toList 0 (#[],0) rfl (by rw[Nat.zero_add];rfl) (Nat.le_refl _) (Nat.le_refl _);rw[show x.length+1-0=x.cps.toList.length+1 from rfl];simpa using this
noncomputable def glue(c:Nat):List (List Nat)->List Nat
 | []=>[]
 | [w]=>w
 | w::v::r=>w++c::glue c (v::r)
noncomputable def cutAll(x:Str)(st:Nat)(cuts:List Nat):List Str:=((st::cuts.map (· + 1)).zip (cuts++[x.length])).map fun(i,j)=>strSub x i j
theorem j1T{x:Str}{st k:Nat}{cuts:List Nat}:cutAll x st (k::cuts)=strSub x st k::cutAll x (k+1) cuts:=rfl
theorem j0E{x:Str}{p w r:List Nat}(h:x.cps.toList=p++(w++r)):strSub x p.length (p.length+w.length)=⟨w.toArray⟩:=by
 unfold strSub;congr 1;apply Array.toList_inj.mp;rw[Array.toList_extract,h];simp[List.extract]
theorem j0b{x:Str}{c:Nat}:∀(ws:List (List Nat)) (p:List Nat),ws≠[]->(∀w∈ws,c∉w)->x.cps.toList=p++glue c ws->cutAll x p.length (pos c p.length (glue c ws))=ws.map fun w=>⟨w.toArray⟩
 | [],_,h,_,_=>absurd rfl h
 | [w],p,_,hw,hx=>by
  have e:pos c p.length (glue c [w])=[]:=by
   have:=Ki (k:=p.length) (r:=[]) (hw w mem_cons_self);rw[append_nil]at this;exact this
  rw[e];have hx':x.cps.toList=p++(w++[]):=by rw[hx,append_nil];rfl
  have hl:x.length=p.length+w.length:=by
   have:=congrArg List.length hx;rw[List.length_append]at this;exact this
  show[strSub x p.length x.length]=_;rw[hl,j0E hx'];rfl
 | w::v::r,p,_,hw,hx=>by
  have e:pos c p.length (glue c (w::v::r))=(p.length+w.length)::pos c (p.length+w.length+1) (glue c (v::r)):=by
   show pos c p.length (w++c::glue c (v::r))=_;rw[Ki (hw w mem_cons_self),Ww]
  have hx':x.cps.toList=p++(w++c::glue c (v::r)):=hx;have ih:=j0b (x:=x) (c:=c) (v::r) (p++(w++[c])) (by simp) (fun y hy=>hw y (mem_cons_of_mem _ hy)) (by rw[hx'];simp);rw[show(p++(w++[c])).length=p.length+w.length+1 by simp;omega]at ih;rw[e,j1T,j0E hx',ih];rfl
theorem j2F{x:Str}{c:Nat}{ws:List (List Nat)}(h:ws≠[])(hw:∀w∈ws,c∉w)(hx:x.cps.toList=glue c ws):partsBetween x (occurrences x ⟨#[c]⟩ 0 x.length (x.length+1)) 1=ws.map fun w=>⟨w.toArray⟩:=by
 rw[Wk,hx];exact j0b ws [] h hw hx
end Sp
namespace L2
open PySem PySem.Spec PyProof.Rows
section
variable{X:Cx}
theorem wz:∀(ws:List Str) (k:Nat),Vals (ws.map V.str) (strsFrom k ws)
 | [],_=>.nil
 | x::r,k=>.cons ⟨k,rfl⟩ (wz r (k+1))
theorem j2k:MtR X "str.split" (fun x vs H Q=>∃(z:Str) (c:Nat) (v w:List Nat) (ws:List (List Nat)),x = .str z/\vs=[.str ⟨#[c]⟩]/\c<256/\(∀u∈v::w::ws,c∉u)/\z.cps.toList=Sp.glue c (v::w::ws)/\ws.length+2<=sizeLine/\z.length<=sizeLine/\
  ∀p,H p=none->Q (.ref p) (upd H p (.lst (((v::w::ws).map fun u=>(⟨u.toArray⟩:Str)).map V.str)))):=by
 intro pins s σ H x vs val us Q I rx rv h;obtain⟨z,c,v,w,ws,rfl,rfl,hc,hw,hz,hl,hx,q⟩:=h;obtain⟨t,rfl⟩:=rx;obtain⟨u,rfl,t',rfl⟩:=vals1 rv;have sp:=Sp.j2F (x:=z) (c:=c) (ws:=v::w::ws) (by simp) hw hz;have z1:1<=z.length:=by
  have:z.length=(Sp.glue c (v::w::ws)).length:=by rw[<-hz];rfl
  rw[this];show 1<=(v++c::Sp.glue c (w::ws)).length;rw[List.length_append,length_cons];omega
 have k1:Builtin.Str.strKind ⟨#[c]⟩=1:=by
  unfold Builtin.Str.strKind;rw[if_pos (by simpa using hc)]
 have k2:1<=Builtin.Str.strKind z:=by
  unfold Builtin.Str.strKind;split
  ·exact Nat.le_refl _
  ·split<;>decide
 have h1:(decide (z.length<(⟨#[c]⟩:Str).length)||decide (Builtin.Str.strKind z<Builtin.Str.strKind ⟨#[c]⟩))=false:=by
  rw[k1];show(decide (z.length<1)||decide (Builtin.Str.strKind z<1))=false;rw[decide_eq_false (show¬z.length<1 by omega),decide_eq_false (show¬Builtin.Str.strKind z<1 by omega)];rfl
 have hf:(Builtin.Str.occurrences z ⟨#[c]⟩ 0 z.length (z.length+1)).isEmpty=false:=by
  rw[Sp.Wk,hz];show(Sp.pos c 0 (v++c::Sp.glue c (w::ws))).isEmpty=false;rw[Sp.Ki (hw v mem_cons_self),Sp.Ww];rfl
 have hn:(Builtin.Str.partsBetween z (Builtin.Str.occurrences z ⟨#[c]⟩ 0 z.length (z.length+1)) (⟨#[c]⟩:Str).length).length<=sizeLine:=by
  show(Builtin.Str.partsBetween z _ 1).length<=_;rw[sp,length_map];exact hl
 refine call_meets F.slot_str_split (typeIs_str _ _ _) F.entry_str_split (F.args_str_split_2 _ _) (meets_str_split_sep z ⟨#[c]⟩ t t' h1 rfl hf hx hn) ?_;rw[show(⟨#[c]⟩:Str).length=1 from rfl,sp];refine⟨.ref s.heap.objs.size,_,I.laid (o:=.lst (((v::w::ws).map fun u=>(⟨u.toArray⟩:Str)).map V.str)) (fun b ob e=>Heap.get?_push_of_some _ e) (Nat.le_refl _) ?_,rfl,q _ (I.hok.fresh (Nat.le_refl _))⟩;exact⟨by rw[length_map,length_map];exact hl,_,0,wz _ _,Heap.get?_push_size _ rfl⟩
end
noncomputable def ev{α:Type}:List α->List α
 | []=>[]
 | [a]=>[a]
 | a::_::r=>a::ev r
theorem j0k{α:Type}:∀l:List α,(List.range ((l.length+1)/2)).filterMap (fun j=>l[2*j]?)=ev l
 | []=>by simp[ev]
 | [a]=>by simp[ev,List.range_succ]
 | a::b::r=>by
  rw[show((a::b::r).length+1)/2=(r.length+1)/2+1 by rw[length_cons,length_cons];omega,List.range_succ_eq_map,filterMap_cons];show a::_=_;rw[List.filterMap_map];show a::List.filterMap (fun j=>(a::b::r)[2*(j+1)]?) _=a::ev r;rw[<-j0k r];rfl
theorem wW{α:Type}:∀l:List α,(ev l).length<=l.length
 | []=>Nat.le_refl _
 | [a]=>Nat.le_refl _
 | a::b::r=>by
  have:=wW r;show(ev r).length+1<=r.length+1+1;omega
theorem j0G:∀{xs:List V} {us:List Value},Vals xs us->Vals (ev xs) (ev us)
 | _,_,.nil=>.nil
 | _,_,.cons r .nil=>.cons r .nil
 | _,_,.cons r (.cons _ t)=>.cons r (j0G t)
theorem j2q(items:Array Value)(k:Nat)(hk:k<=items.size):slicePick items (some (k:Int)) none (some 2)=(ev (items.toList.drop k)).toArray:=by
 unfold slicePick;have b:sliceBounds (some (k:Int)) none (some 2) items.size=((k:Int),(items.size:Int),2):=by
  unfold sliceBounds;simp only[Option.getD_some];rw[if_neg (show¬((k:Int)<0) by omega),if_pos (show(2:Int)>0 by decide),if_pos (show(2:Int)>0 by decide)];congr 1;omega
 rw[b];show((sliceRange (k:Int) (items.size:Int) 2).filterMap (items[·]?)).toArray=_;congr 1;rw[<-j0k];unfold sliceRange;have c:((if(2:Int)>0 then(if(k:Int)<(items.size:Int)then((items.size:Int)-k+2-1)/2 else 0)else(if(k:Int)>(items.size:Int)then((k:Int)-items.size-2-1)/(-2)else 0):Int)).toNat=((items.toList.drop k).length+1)/2:=by
  rw[if_pos (by decide),length_drop,Array.length_toList];split<;>omega
 show(List.map _ (List.range (Int.toNat _))).filterMap _=_;rw[c,List.filterMap_map];congr 1;funext j;show items[((k:Int)+2*(j:Int)).toNat]?=_;rw[List.getElem?_drop,Array.getElem?_toList,show((k:Int)+2*(j:Int)).toNat=k+2*j by omega]
section
variable{X:Cx}{e:Expr}{te:TE}
end
theorem kHeap{K:Frg}{h:Heap}(x:K.In h):∃hK:Heap,(∀b o,K.lookup b=some o->hK.get? b=some o)/\∀b o,hK.get? b=some o->K.lookup b=some o:=by
 have at_:∀b,((Array.range h.objs.size).map fun b=>(K.lookup b).getD ⟨.none,none,.freed,#[]⟩)[b]?=if b<h.objs.size then some ((K.lookup b).getD ⟨.none,none,.freed,#[]⟩)else none:=fun b=>by
  rw[Array.getElem?_map];by_cases c:b<h.objs.size
  ·rw[if_pos c,Array.getElem?_range,if_pos c];rfl
  ·rw[if_neg c,Array.getElem?_range,if_neg c];rfl
 refine⟨⟨(Array.range h.objs.size).map fun b=>(K.lookup b).getD ⟨.none,none,.freed,#[]⟩,h.life⟩,fun b o e=>?_,fun b o e=>?_⟩
 ·have e1:=x b o e;have lt:=Heap.lt_size e1;unfold Heap.get?;show(match((Array.range h.objs.size).map fun b=>(K.lookup b).getD ⟨.none,none,.freed,#[]⟩)[b]? with | some ⟨_,_,.freed,_⟩=>none | o=>o)=some o;rw[at_,if_pos lt,e];show(match some o with | some ⟨_,_,.freed,_⟩=>none | o=>o)=some o;have nf:o.data≠.freed:=fun z=>by
   unfold Heap.get? at e1;split at e1
   ·cases e1
   ·rename_i hn;obtain⟨c,d,da,sl⟩:=o;simp only at z;subst z;exact hn _ _ _ e1
  obtain⟨c,d,da,sl⟩:=o;cases da<;>first | rfl | exact absurd rfl nf
 ·unfold Heap.get? at e;have e:(match((Array.range h.objs.size).map fun b=>(K.lookup b).getD ⟨.none,none,.freed,#[]⟩)[b]? with | some ⟨_,_,.freed,_⟩=>none | o=>o)=some o:=e;rw[at_]at e;split at e
  ·cases e
  ·split at e
   ·cases hk:K.lookup b with
    | none=>rw[hk]at e;rename_i hn _;rw[hk]at hn;rw[if_pos (by assumption)]at hn;exact absurd rfl (hn _ _ _)
    | some o'=>rw[hk]at e;exact e
   ·cases e
section
variable{X:Cx}
theorem kL:∀{vs:List Value} {ss:List Str},KTD.Flats vs (ss.map PyData.str)->Vals (ss.map V.str) vs
 | _,[],.nil=>.nil
 | _,x::r,.cons f t=>.cons (by have f:=f {};cases f;exact⟨_,rfl⟩) (kL t)
theorem j0w:IxR X (fun x y H Q=>∃(a:Addr) (k:Str) (D:List (Str×KTD.Dat)) (ss:List Str),x = .ref a/\y = .str k/\TabK X.K a D/\KTD.datumAt k D=some (.tup (ss.map PyData.str))/\ss.length<=100/\∀b,(∀H',SqT X.K H' b (ss.map V.str))->Q (.ref b) H):=by
 intro value slice pins s σ H x y v u Q I rx ry h hs;obtain⟨a,k,D,ss,rfl,rfl,T,hd,hz,q⟩:=h;cases rx;obtain⟨t,rfl⟩:=ry;obtain⟨hK,k1,k2⟩:=kHeap I.kIn;have Hr:KTD.Here hK s.heap a D:=⟨KTD.text_of_look k1 T,fun b o e=>I.kIn b o (k2 b o e)⟩
 refine tail_any (ops:=[.ref a,.str k t]) Hr.typeIs slot_dict_getitem.lookup ?_ hs;unfold getItem
 try with_reducible refine wpAny_holding ?_
 refine wpAny_bind (wpAny_sequenceKey Hr.typeIs (by decide) ?_);refine wpAny_bind (wpAny_callSpecial?_slot (name:=Str.ofString "__getitem__") Hr.typeIs slot_dict_getitem
  (wpAny_call_entry slot_dict_getitem Hr.typeIs entry_dict_getitem ?_ (args_dict_getitem _ _)))
 show wpAny _ _ (dictGet a (.str k t) >>= _) _ _ s;refine wpAny_bind (KTD.dictGet_text Hr (fun d v ha hv=>wpAny_pure ⟨v,rfl,wpAny_pure ?_⟩) fun hn=>by rw[hd]at hn;cases hn);rw[hd]at ha;cases ha;obtain⟨b,vs,rfl,⟨o,h1,h2,n,h3⟩,hf⟩:=hv;have fv:=kL hf;refine⟨.ref b,H,I.tok _,rfl,q b fun H'=>.inr ⟨o,vs.toArray,n,k2 _ _ h1,h2,h3,?_,by simpa using fv⟩⟩;have:=fv.length;rw[length_map]at this;rw[size_toArray,sizeLine_eq];omega
theorem j0v:IxR X (fun x y H Q=>∃(a:Addr) (k:Str) (D:List (Str×KTD.Dat)) (i:Int),x = .ref a/\y = .str k/\TabK X.K a D/\KTD.datumAt k D=some (.flat (.int i))/\Q (.int i) H):=by
 intro value slice pins s σ H x y v u Q I rx ry h hs;obtain⟨a,k,D,i,rfl,rfl,T,hd,q⟩:=h;cases rx;obtain⟨t,rfl⟩:=ry;have Hr:KTD.Here s.heap s.heap a D:=⟨PySem.W.kt_text_in I.kIn T,fun _ _ e=>e⟩
 refine tail_any (ops:=[.ref a,.str k t]) Hr.typeIs slot_dict_getitem.lookup ?_ hs;unfold getItem
 try with_reducible refine wpAny_holding ?_
 refine wpAny_bind (wpAny_sequenceKey Hr.typeIs (by decide) ?_);refine wpAny_bind (wpAny_callSpecial?_slot (name:=Str.ofString "__getitem__") Hr.typeIs slot_dict_getitem
  (wpAny_call_entry slot_dict_getitem Hr.typeIs entry_dict_getitem ?_ (args_dict_getitem _ _)))
 show wpAny _ _ (dictGet a (.str k t) >>= _) _ _ s;refine wpAny_bind (KTD.dictGet_text Hr (fun d v ha hv=>wpAny_pure ⟨v,rfl,wpAny_pure ?_⟩) fun hn=>by rw[hd]at hn;cases hn);rw[hd]at ha;cases ha;have hv:=hv s.heap;cases hv;exact⟨.int i,H,I.tok _,⟨_,rfl⟩,q⟩
end
section
variable{prog:Program}{w:World}{A:Around}{R:Result->Shared->Prop}{I:Addr}{fp wr:List Addr}{G:Array GenState->Array GenState->Prop}{n:Nat}{P:Nat->Value->Prop}{St:Nat->Shared->Prop}
end
structure Nxt(prog:Program)(w:World)(it:Addr)(fp:List Addr)(P P':Heap->Prop)(x:Value):Prop where
 run:∀(A:Around) (s:Shared) (Q:Value->Shared->Prop) (E:Value->Shared->Prop),P s.heap->(∀h',P' h'->Heap.SameBut it s.heap h'->Q x {s with heap:=h'})->wpAny (model prog w) A (Builtin.SmallTypes.nextOf (.ref it)) Q E s
 kp:∀h h',P h->(∀b∈fp,∀o,h.get? b=some o->h'.get? b=some o)->P h'
 kp':∀h h',P' h->(∀b∈fp,∀o,h.get? b=some o->h'.get? b=some o)->P' h'
structure ZA(z TI TO i j:Addr)(f g:List Addr):Prop where
 a1:TI≠z
 a2:TO≠z
 a3:i≠z
 a4:j≠z
 a5:TI≠TO
 a6:TI≠i
 a7:TI≠j
 a8:TO≠i
 a9:TO≠j
 b1:z∉f
 b2:TO∉f
 b3:j∉f
 c1:z∉g
 c2:TO∉g
 c3:i∉g
section
variable{prog:Program}{w:World}{A:Around}{E:Value->Shared->Prop}{s:Shared}
theorem XH{it t:Addr}{i:Nat}{xs:Array Value}{x:Value}{Q:Value->Shared->Prop}(hit:s.heap.IsTupleIter it t i)(ht:s.heap.IsTuple t xs)(hx:xs[i]?=some x)
  (hQ:∀h',h'.IsTupleIter it t (i+1)->Heap.SameBut it s.heap h'->Q x {s with heap:=h'}):wpAny (model prog w) A (Builtin.SmallTypes.nextOf (.ref it)) Q E s:=by
 obtain⟨o,ho,hc,hd⟩:=id hit;obtain⟨ol,hol,_,nl,hdl⟩:=ht;unfold Builtin.SmallTypes.nextOf;refine wpAny_bind (wpAny_callSpecial?_slot (name:=Str.ofString "__next__") hit.typeIs F.slot_tuple_iterator_next (wpAny_call_entry F.slot_tuple_iterator_next hit.typeIs F.entry_tuple_iterator_next ?_ (F.args_tuple_iterator_next_1 _)));show wpAny _ _ (field (.ref it) 0 >>= _) _ _ s;refine wpAny_bind (wpAny_field ho hd (x:=.ref t) rfl ?_);show wpAny _ _ (if(Value.ref t==Value.none)=true then _ else _) _ _ s;rw[if_neg (show¬((Value.ref t==Value.none)=true)from Bool.false_ne_true)];show wpAny _ _ (field (.ref it) 1 >>= _) _ _ s;refine wpAny_bind (wpAny_field ho hd (x:=.int i 0) rfl ?_);show wpAny _ _ (seqItems? (.ref t) >>= _) _ _ s;refine wpAny_bind (wpAny_seqItems hol hdl ?_);simp only[Int.toNat_natCast,hx];refine wpAny_bind (wpAny_setField ho hd (by simp) (wpAny_pure ⟨x,rfl,wpAny_pure (hQ _ ?_ (Heap.SameBut.update ..))⟩));exact⟨_,Heap.get?_update_self _ ho (Obj.isFreed_of_fields (Obj.data_mapFields hd _)),(Obj.cls_mapFields ..).trans hc,by rw[Obj.data_mapFields hd];simp[rawInt]⟩
theorem j1j{it t:Addr}{i:Nat}{xs:Array Value}{Q:Value->Shared->Prop}(hh:A.handled=none)(hit:s.heap.IsTupleIter it t i)(ht:s.heap.IsTuple t xs)(hx:xs[i]?=none)
  (hE:∀h' e,Heap.ExtBut it s.heap h'->(∃o,h'.get? e=some o/\o.cls = .type "StopIteration")->E (.ref e) {s with heap:=h'}):wpAny (model prog w) A (Builtin.SmallTypes.nextOf (.ref it)) Q E s:=by
 obtain⟨o,ho,hc,hd⟩:=id hit;obtain⟨ol,hol,_,nl,hdl⟩:=ht;unfold Builtin.SmallTypes.nextOf;refine wpAny_bind (wpAny_callSpecial?_slot (name:=Str.ofString "__next__") hit.typeIs F.slot_tuple_iterator_next (wpAny_call_entry F.slot_tuple_iterator_next hit.typeIs F.entry_tuple_iterator_next ?_ (F.args_tuple_iterator_next_1 _)));show wpAny _ _ (field (.ref it) 0 >>= _) _ _ s;refine wpAny_bind (wpAny_field ho hd (x:=.ref t) rfl ?_);show wpAny _ _ (if(Value.ref t==Value.none)=true then _ else _) _ _ s;rw[if_neg (show¬((Value.ref t==Value.none)=true)from Bool.false_ne_true)];show wpAny _ _ (field (.ref it) 1 >>= _) _ _ s;refine wpAny_bind (wpAny_field ho hd (x:=.int i 0) rfl ?_);show wpAny _ _ (seqItems? (.ref t) >>= _) _ _ s;refine wpAny_bind (wpAny_seqItems hol hdl ?_);simp only[Int.toNat_natCast,hx];refine wpAny_bind (wpAny_rule (wpAny_bind (wpAny_setField ho hd (by simp) ?_)));show wpAny _ _ (newExc (.type "StopIteration") [] >>= _) _ _ _;refine wpAny_bind ?_;simp only[newExc,newTuple];refine wpAny_bind (wpAny_newObj_type ?_ (by size_fits));refine wpAny_bind (m:=firstArgMember _ _) (wpAny_of_eq (a:=Value.none) (by first | rfl | (simp only[firstArgMember];rfl)) ?_);refine wpAny_newObj_type ?_ (by size_fits);simp only[raiseNew];refine wpAny_bind (wpAny_handled ?_)
 first | rw[show A.in1.handled=none from hh] | rw[hh]
 refine wpAny_bind (wpAny_pure (wpAny_throw ?_));exact hE _ _ (((Heap.SameBut.update ..).extBut.push _).push _) ⟨_,Heap.get?_push_size _ rfl,rfl⟩
theorem j3q{it t:Addr}{i:Nat}{xs:Array Value}{x:Value}(ne:t≠it)(hx:xs[i]?=some x):Nxt prog w it [it,t] (fun h=>h.IsTupleIter it t i/\h.IsTuple t xs) (fun h=>h.IsTupleIter it t (i+1)/\h.IsTuple t xs) x where
 run:=fun A s Q E p q=>XH p.1 p.2 hx fun h' a sb=>q h' ⟨a,p.2.extBut sb.extBut ne⟩ sb
 kp:=fun h h' ⟨⟨o,e,r⟩,o',e',r'⟩ k=>⟨⟨o,k it (by simp) o e,r⟩,o',k t (by simp) o' e',r'⟩
 kp':=fun h h' ⟨⟨o,e,r⟩,o',e',r'⟩ k=>⟨⟨o,k it (by simp) o e,r⟩,o',k t (by simp) o' e',r'⟩
theorem j0A{it t:Addr}{i:Nat}{xs:Array Value}{x:Value}(ne:t≠it)(hx:xs[i]?=some x):Nxt prog w it [it,t] (fun h=>h.IsListIter it t i/\h.IsList t xs) (fun h=>h.IsListIter it t (i+1)/\h.IsList t xs) x where
 run:=fun A s Q E p q=>wpAny_nextOf_list_item p.1 p.2 hx fun h' a sb=>q h' ⟨a,p.2.extBut sb.extBut ne⟩ sb
 kp:=fun h h' ⟨⟨o,e,r⟩,o',e',r'⟩ k=>⟨⟨o,k it (by simp) o e,r⟩,o',k t (by simp) o' e',r'⟩
 kp':=fun h h' ⟨⟨o,e,r⟩,o',e',r'⟩ k=>⟨⟨o,k it (by simp) o e,r⟩,o',k t (by simp) o' e',r'⟩
theorem j1E{z TI TO i j:Addr}{f g:List Addr}{P P' R R':Heap->Prop}{x y a b:Value}{Q:Value->Shared->Prop}(N1:Nxt prog w i f P P' x)(N2:Nxt prog w j g R R' y)(D:ZA z TI TO i j f g)
  (hz:IsZip s.heap z TI TO .none) (hTI:IsPair s.heap TI (.ref i) (.ref j)) (hTO:IsPair s.heap TO a b) (h1:P s.heap) (h2:R s.heap)
  (hQ:∀h',IsZip h' z TI TO (rawInt s.heap.objs.size)->IsPair h' TO x y->P' h'->R' h'->IsPair h' s.heap.objs.size x y->(∀c o,c≠z->c≠TO->c≠i->c≠j->s.heap.get? c=some o->h'.get? c=some o)->Q (.ref s.heap.objs.size) {s with heap:=h'}) :
  wpAny (model prog w) A (Builtin.«zip.__next__» ⟨[.ref z],[]⟩) (fun fin s'=>∃v,fin = .done (.ret v)/\Q v s') E s:=by
 show wpAny _ _ (field (.ref z) 2 >>= _) _ _ _;refine wpAny_bind (wpAny_field hz rfl (x:=.bool false) rfl ?_);show wpAny _ _ (field (.ref z) 3 >>= _) _ _ _;refine wpAny_bind (wpAny_field hz rfl (x:=.ref TI) rfl ?_);refine wpAny_bind (wpAny_seqItems hTI rfl ?_);show wpAny _ _ (Builtin.SmallTypes.ownedTupleIsFree (.ref z) >>= _) _ _ _;refine wpAny_bind ?_;unfold Builtin.SmallTypes.ownedTupleIsFree;refine wpAny_bind (wpAny_field hz rfl (x:=.none) rfl (wpAny_pure ?_));simp only[if_true];refine wpAny_bind (wpAny_rule ?_);refine wpAny_bind (wpAny_field hz rfl (x:=.ref TO) rfl ?_);refine wpAny_bind (wpAny_setField_rec hz (by simp) fun k1 z1 e1=>?_)
 replace z1:IsZip k1 z TI TO .ellipsis:=z1
 refine wpAny_bind ?_;simp only[List.zipIdx_cons,List.zipIdx_nil,forIn_cons,forIn_nil];have u1:∀c o,c≠z->s.heap.get? c=some o->k1.get? c=some o:=fun c o n=>e1.extBut c o n
 refine wpAny_bind (wpAny_bind (wpAny_onRaise ?_));show wpAny _ _ (Builtin.SmallTypes.nextOf (.ref i) >>= _) _ _ _;refine wpAny_bind (N1.run _ _ _ _ (N1.kp _ _ h1 fun b hb o q=>u1 b o (fun e=>D.b1 (e▸hb)) q) fun k2 p2 e2=>wpAny_pure ?_);have u2:∀c o,c≠i->k1.get? c=some o->k2.get? c=some o:=fun c o n=>e2.extBut c o n
 have t2:IsPair k2 TO a b:=u2 _ _ D.a8 (u1 _ _ D.a2 hTO);refine wpAny_bind (wpAny_seqItems t2 rfl ?_);refine wpAny_bind (wpAny_updateSeq_pair t2 fun k3 t3 e3=>?_)
 replace t3:IsPair k3 TO x b:=t3
 have u3:∀c o,c≠TO->k2.get? c=some o->k3.get? c=some o:=fun c o n=>e3.extBut c o n
 refine wpAny_bind (wpAny_letGo (wpAny_pure ?_));refine wpAny_bind (wpAny_bind (wpAny_onRaise ?_));show wpAny _ _ (Builtin.SmallTypes.nextOf (.ref j) >>= _) _ _ _;have r3:R k3:=N2.kp _ _ h2 fun b hb o q=>u3 b o (fun e=>D.c2 (e▸hb)) (u2 b o (fun e=>D.c3 (e▸hb)) (u1 b o (fun e=>D.c1 (e▸hb)) q))
 refine wpAny_bind (N2.run _ _ _ _ r3 fun k4 p4 e4=>wpAny_pure ?_);have u4:∀c o,c≠j->k3.get? c=some o->k4.get? c=some o:=fun c o n=>e4.extBut c o n
 have t4:IsPair k4 TO x b:=u4 _ _ D.a9 t3;refine wpAny_bind (wpAny_seqItems t4 rfl ?_);refine wpAny_bind (wpAny_updateSeq_pair t4 fun k5 t5 e5=>?_)
 replace t5:IsPair k5 TO x y:=t5
 have u5:∀c o,c≠TO->k4.get? c=some o->k5.get? c=some o:=fun c o n=>e5.extBut c o n
 refine wpAny_bind (wpAny_letGo (wpAny_pure (wpAny_pure ?_)));refine wpAny_bind (wpAny_seqItems t5 rfl ?_);refine wpAny_bind (wpAny_newTuple (hsz:=by show 2<=sizeLine;decide) ?_);have sz:k5.objs.size=s.heap.objs.size:=by rw[e5.1,e4.1,e3.1,e2.1,e1.1]
 have z5:IsZip k5 z TI TO .ellipsis:=u5 _ _ D.a2.symm (u4 _ _ D.a4.symm (u3 _ _ D.a2.symm (u2 _ _ D.a3.symm z1)));show wpAny _ _ (Builtin.SmallTypes.ownedTupleHandOut (.ref z) (.ref k5.objs.size) >>= _) _ _ _;refine wpAny_bind ?_;unfold Builtin.SmallTypes.ownedTupleHandOut;have z6:IsZip (k5.push {cls:=.type "tuple",data:=.seq #[x,y]}) z TI TO .ellipsis:=Heap.get?_push_of_some _ z5;refine wpAny_bind (wpAny_setField_rec z6 (by simp) fun k7 z7 e7=>?_)
 replace z7:IsZip k7 z TI TO (rawInt k5.objs.size):=z7
 refine wpAny_setField_rec z7 (by simp) fun k8 z8 e8=>?_
 replace z8:IsZip k8 z TI TO (rawInt k5.objs.size):=z8
 have u8:∀c o,c≠z->k5.get? c=some o->k8.get? c=some o:=fun c o n q=>e8.extBut c o n (e7.extBut c o n (Heap.get?_push_of_some _ q))
 have nz:k5.objs.size≠z:=Nat.ne_of_gt (Heap.lt_size z5);have t8:IsPair k8 k5.objs.size x y:=e8.extBut _ _ nz (e7.extBut _ _ nz (Heap.get?_push_size _ rfl));have p8:P' k8:=N1.kp' _ _ p2 fun b hb o q=>u8 b o (fun e=>D.b1 (e▸hb)) (u5 b o (fun e=>D.b2 (e▸hb)) (u4 b o (fun e=>D.b3 (e▸hb)) (u3 b o (fun e=>D.b2 (e▸hb)) q)))
 have r8:R' k8:=N2.kp' _ _ p4 fun b hb o q=>u8 b o (fun e=>D.c1 (e▸hb)) (u5 b o (fun e=>D.c2 (e▸hb)) q)
 refine wpAny_pure ⟨_,rfl,?_⟩;show Q (.ref k5.objs.size) _;rw[sz]at z8 t8|-;exact hQ k8 z8 (u8 _ _ D.a2 t5) p8 r8 t8 fun c o n1 n2 n3 n4 q=>u8 c o n1 (u5 c o n2 (u4 c o n4 (u3 c o n2 (u2 c o n3 (u1 c o n1 q)))))
theorem j2S{z TI TO i j:Addr}{f g:List Addr}{a b:Value}{Q:Fin->Shared->Prop}(D:ZA z TI TO i j f g)(P:Heap->Prop)(kp:∀h h',P h->(∀b∈f,∀o,h.get? b=some o->h'.get? b=some o)->P h')
  (ends:∀(s:Shared) (Q:Value->Shared->Prop) (E:Value->Shared->Prop),P s.heap->(∀h' e,Heap.ExtBut i s.heap h'->(∃o,h'.get? e=some o/\o.cls = .type "StopIteration")->E (.ref e) {s with heap:=h'})->wpAny (model prog w) A (Builtin.SmallTypes.nextOf (.ref i)) Q E s)
  (hz:IsZip s.heap z TI TO .none) (hTI:IsPair s.heap TI (.ref i) (.ref j)) (hTO:IsPair s.heap TO a b) (h1:P s.heap)
  (hE:∀h' e,(∀c o,c≠z->c≠TO->c≠i->c≠j->s.heap.get? c=some o->h'.get? c=some o)->(∃o,h'.get? e=some o/\o.cls = .type "StopIteration")->E (.ref e) {s with heap:=h'}) :
  wpAny (model prog w) A (Builtin.«zip.__next__» ⟨[.ref z],[]⟩) Q E s:=by
 show wpAny _ _ (field (.ref z) 2 >>= _) _ _ _;refine wpAny_bind (wpAny_field hz rfl (x:=.bool false) rfl ?_);show wpAny _ _ (field (.ref z) 3 >>= _) _ _ _;refine wpAny_bind (wpAny_field hz rfl (x:=.ref TI) rfl ?_);refine wpAny_bind (wpAny_seqItems hTI rfl ?_);show wpAny _ _ (Builtin.SmallTypes.ownedTupleIsFree (.ref z) >>= _) _ _ _;refine wpAny_bind ?_;unfold Builtin.SmallTypes.ownedTupleIsFree;refine wpAny_bind (wpAny_field hz rfl (x:=.none) rfl (wpAny_pure ?_));simp only[if_true];refine wpAny_bind (wpAny_rule ?_);refine wpAny_bind (wpAny_field hz rfl (x:=.ref TO) rfl ?_);refine wpAny_bind (wpAny_setField_rec hz (by simp) fun k1 z1 e1=>?_)
 replace z1:IsZip k1 z TI TO .ellipsis:=z1
 refine wpAny_bind ?_;simp only[List.zipIdx_cons,List.zipIdx_nil,forIn_cons,forIn_nil];refine wpAny_bind (wpAny_bind (wpAny_onRaise ?_));show wpAny _ _ (Builtin.SmallTypes.nextOf (.ref i) >>= _) _ _ _;refine wpAny_bind (ends _ _ _ (kp _ _ h1 fun b hb o q=>e1.extBut b o (fun e=>D.b1 (e▸hb)) q) fun k2 e x2 he=>?_);obtain⟨oe,hoe,hce⟩:=he;have z2:IsZip k2 z TI TO .ellipsis:=x2 _ _ D.a3.symm z1;have ez:e≠z:=fun q=>by subst q;rw[z2]at hoe;cases hoe;simp at hce
 exact wpAny_setField_rec z2 (by simp) fun k3 _ e3=>hE k3 e (fun c o c1 _ c3 _ q=>e3.extBut _ _ c1 (x2 _ _ c3 (e1.extBut _ _ c1 q))) ⟨oe,e3.extBut _ _ ez hoe,hce⟩
noncomputable abbrev zT1(h:Heap)(t:Addr):Heap:=h.push {cls:=.type "tuple_iterator",data:=.fields #[.ref t,.int 0 0]}
noncomputable abbrev zT2(h:Heap)(t l:Addr):Heap:=(zT1 h t).push {cls:=.type "list_iterator",data:=.fields #[.ref l,.int 0 0]}
noncomputable abbrev zT3(h:Heap)(t l:Addr):Heap:=(zT2 h t l).push {cls:=.type "tuple",data:=.seq #[.ref h.objs.size,.ref (zT1 h t).objs.size]}
noncomputable abbrev zT4(h:Heap)(t l:Addr):Heap:=(zT3 h t l).push {cls:=.type "tuple",data:=.seq #[.none,.none]}
noncomputable abbrev zT5(h:Heap)(t l:Addr):Heap:=(zT4 h t l).push {cls:=.type "zip",data:=.fields #[.none,.bool false,.bool false,.ref (zT2 h t l).objs.size,.ref (zT3 h t l).objs.size]}
theorem XD(t l:Addr)(xs ys:Array Value):Meets (Builtin.«zip.__new__» ⟨[.type "zip",.ref t,.ref l],[]⟩) (fun _ R s=>s.heap.IsTuple t xs/\s.heap.IsList l ys/\R (.ok (.ret (.ref (zT4 s.heap t l).objs.size))) {s with heap:=zT5 s.heap t l}):=
 .of_wp fun prog w A R s h=>by
  obtain⟨hp,g,d,tk,os⟩:=s;obtain⟨q1,q2,h⟩:=h;have hsub:=sub_zip;have e1:Heap.IsTuple (Shared.heap ⟨hp,g,d,tk,os⟩) t xs:=q1;have e2:Heap.IsList (Shared.heap ⟨hp.push {cls:=.type "tuple_iterator",data:=.fields #[.ref t,.int 0 0]},g,d,tk,os⟩) l ys:=Heap.IsList.push q2 _
  wp_walk using wpAny_pyIter_tuple e1,wpAny_pyIter_list e2
  exact⟨_,rfl,h⟩
theorem j0U{t l:Addr}{xs ys:Array Value}{Q:Value->Shared->Prop}(q1:s.heap.IsTuple t xs)(q2:s.heap.IsList l ys)
  (h:∀h',IsZip h' (s.heap.objs.size+4) (s.heap.objs.size+2) (s.heap.objs.size+3) .none->IsPair h' (s.heap.objs.size+2) (.ref s.heap.objs.size) (.ref (s.heap.objs.size+1))->IsPair h' (s.heap.objs.size+3) .none .none->
   h'.IsTupleIter s.heap.objs.size t 0->h'.IsListIter (s.heap.objs.size+1) l 0->(∀c o,s.heap.get? c=some o->h'.get? c=some o)->Q (.ref (s.heap.objs.size+4)) {s with heap:=h'}):wpAny (model prog w) A (call (.type "zip") [.ref t,.ref l]) Q E s:=by
 refine callType_new F.called_zip (by decide) (F.typeCall_zip_2 _ _) (F.newCall_zip_2 _ _) (fun obj=>F.args_object_init_3 obj _ _) F.entry_zip_new (XD t l xs ys) ⟨q1,q2,?_⟩;have n1:(zT1 s.heap t).objs.size=s.heap.objs.size+1:=Heap.size_push ..;have n2:(zT2 s.heap t l).objs.size=s.heap.objs.size+2:=by rw[Heap.size_push,n1]
 have n3:(zT3 s.heap t l).objs.size=s.heap.objs.size+3:=by rw[Heap.size_push,n2]
 have n4:(zT4 s.heap t l).objs.size=s.heap.objs.size+4:=by rw[Heap.size_push,n3]
 have up:∀{h:Heap} {o o':Obj} {c:Addr},h.get? c=some o->(h.push o').get? c=some o:=fun q=>Heap.get?_push_of_some _ q
 have g5:(zT5 s.heap t l).get? (zT4 s.heap t l).objs.size=some _:=Heap.get?_push_size _ rfl;have g4:(zT5 s.heap t l).get? (zT3 s.heap t l).objs.size=some _:=up (Heap.get?_push_size _ rfl);have g3:(zT5 s.heap t l).get? (zT2 s.heap t l).objs.size=some _:=up (up (Heap.get?_push_size _ rfl));have g2:(zT5 s.heap t l).get? (zT1 s.heap t).objs.size=some _:=up (up (up (Heap.get?_push_size _ rfl)));have g1:(zT5 s.heap t l).get? s.heap.objs.size=some _:=up (up (up (up (Heap.get?_push_size _ rfl))));show _/\_;rw[n2,n3,n4]at g5;rw[n1,n2]at g3;rw[n3]at g4;rw[n1]at g2;rw[n4];exact⟨⟨_,g5,rfl⟩,h _ g5 g3 g4 ⟨_,g1,rfl,rfl⟩ ⟨_,g2,rfl,rfl⟩ fun c o x=>up (up (up (up (up x))))⟩
end
def Izt(K:Frg)(a b:Addr):It:=
 ⟨fun i H=>∃xs x ys y,SqT K H a xs/\xs[i]?=some x/\SqL K H b ys/\ys[i]?=some y,
  fun i H x H'=>∃T u v,x = .ref T/\H T=none/\H'=upd H T (.tup [u,v])/\(∀xs,SqT K H a xs->xs[i]?=some u)/\∀ys,SqL K H b ys->ys[i]?=some v,
  fun i H=>∃xs,SqT K H a xs/\xs.length<=i⟩
theorem j1D{P:Program}{w:World}{K:Frg}{elts:List Expr}{k:Nat}{pos:Pos}(t l z TI TO i1 i2:Addr)(D:ZA z TI TO i1 i2 [i1,t] [i2,l])(ne1:t≠i1)(ne2:l≠i2) :
  Turn P w K (.Tuple elts k pos) (Izt K t l) [z,TI,TO,i1,i2] z (fun i h=>IsZip h z TI TO .none/\IsPair h TI (.ref i1) (.ref i2)/\(∃a b,IsPair h TO a b)/\h.IsTupleIter i1 t i/\h.IsListIter i2 l i) where
 mem:=by simp
 obj:=fun i h st b hb=>by
  obtain⟨hz,hTI,⟨a,c,hTO⟩,⟨o1,e1,_,d1⟩,o2,e2,_,d2⟩:=st;rcases(by simpa using hb:b=z\/b=TI\/b=TO\/b=i1\/b=i2)with rfl | rfl | rfl | rfl | rfl
  ·exact⟨_,hz,fun v z=>by cases z⟩
  ·exact⟨_,hTI,fun v z=>by cases z⟩
  ·exact⟨_,hTO,fun v z=>by cases z⟩
  ·exact⟨o1,e1,fun v z=>by rw[d1]at z;cases z⟩
  ·exact⟨o2,e2,fun v z=>by rw[d2]at z;cases z⟩
 keep:=fun i h h' ⟨hz,hTI,⟨a,c,hTO⟩,h1,h2⟩ k=>⟨k z (by simp) _ hz,k TI (by simp) _ hTI,⟨a,c,k TO (by simp) _ hTO⟩,h1.at fun o q=>k i1 (by simp) o q,h2.at fun o q=>k i2 (by simp) o q⟩
 item:=by
  intro X hP hw hK hc i pins s σ H E I hf st hg;subst hP hw hK;obtain⟨xs,x,ys,y,hq,hx,hr,hy⟩:=hg;obtain⟨its,rv,p,_⟩:=I.tuple hq;obtain⟨jts,rw',p',_⟩:=I.list hr;obtain⟨u,hu,ru⟩:=rv.get hx;obtain⟨v,hv,rv'⟩:=rw'.get hy;obtain⟨hz,hTI,⟨a,c,hTO⟩,h1,h2⟩:=st;have lt:∀b∈[z,TI,TO,i1,i2],b<s.heap.objs.size:=fun b hb=>by
   rcases(by simpa using hb:b=z\/b=TI\/b=TO\/b=i1\/b=i2)with rfl | rfl | rfl | rfl | rfl
   ·exact Heap.lt_size hz
   ·exact Heap.lt_size hTI
   ·exact Heap.lt_size hTO
   ·obtain⟨o,e,_⟩:=h1;exact Heap.lt_size e
   ·obtain⟨o,e,_⟩:=h2;exact Heap.lt_size e
  have hTy:s.TypeIs (.ref z) "zip":=⟨_,hz,rfl⟩
  unfold pyNext;refine wpAny_bind (wpAny_attempt (wpAny_callSpecial?_slot (name:=Str.ofString "__next__") hTy F.slot_zip_next (wpAny_call_entry F.slot_zip_next hTy F.entry_zip_next ?_ (F.args_zip_next_1 _))));refine j1E (j3q ne1 (x:=u) (xs:=its.toArray) (by simpa using hu)) (j0A ne2 (x:=v) (xs:=jts.toArray) (by simpa using hv)) D hz hTI hTO ⟨h1,p⟩ ⟨h2,p'.isList⟩ fun h' a1 a2 a3 a4 a5 hk=>wpAny_pure ?_
  obtain⟨I1,f1⟩:=I.pair (t':=s.toks) (ch:=[z,TI,TO,i1,i2]) (x:=x) (y:=y) hf lt ru rv' a5
   (fun b o hb q=>hk b o (fun e=>hb (by simp[e])) (fun e=>hb (by simp[e])) (fun e=>hb (by simp[e])) (fun e=>hb (by simp[e])) q)
  refine⟨_,rfl,wpAny_letOwnedTupleGo_zip a1 fun h3 hz3 sb=>?_⟩;have I2:=I1.turnedL (h':=h3) (t':=s.toks) (ch:=[z,TI,TO,i1,i2]) f1 fun b o hb q=>(sb.2 b fun e=>hb (by simp[e])).trans q
  exact⟨.ref s.heap.objs.size,_,I2,rfl,⟨_,x,y,rfl,I.hok.fresh (Nat.le_refl _),rfl,(fun ys hy=>by rw[I.tuple_inj hy hq];exact hx),fun ys hy'=>by rw[I.list_inj hy' hr];exact hy⟩,
   ⟨hz3,(sb.2 TI D.a1).trans (hk TI _ D.a1 D.a5 D.a6 D.a7 hTI),⟨_,_,(sb.2 TO D.a2).trans a2⟩,a3.1.at fun o q=>(sb.2 i1 D.a3).trans q,a4.1.at fun o q=>(sb.2 i2 D.a4).trans q⟩,fun b hb=>(f1 b hb).1⟩
 done:=by
  intro X hP hw hK hc i pins s σ H E I hf st hg;subst hP hw hK;obtain⟨xs,hq,hl⟩:=hg;obtain⟨its,rv,p,_⟩:=I.tuple hq;obtain⟨hz,hTI,⟨a,c,hTO⟩,h1,h2⟩:=st;have l1':=rv.length;have hTy:s.TypeIs (.ref z) "zip":=⟨_,hz,rfl⟩
  unfold pyNext;refine wpAny_bind (wpAny_attempt (wpAny_callSpecial?_slot (name:=Str.ofString "__next__") hTy F.slot_zip_next (wpAny_call_entry F.slot_zip_next hTy F.entry_zip_next ?_ (F.args_zip_next_1 _))));refine j2S D (fun h=>h.IsTupleIter i1 t i/\h.IsTuple t its.toArray) (fun h h' ⟨⟨o,e,r⟩,o',e',r'⟩ k=>⟨⟨o,k i1 (by simp) o e,r⟩,o',k t (by simp) o' e',r'⟩)
   (fun s Q E p q=>j1j (I.ok.hd hc) p.1 p.2 (by simp;omega) q) hz hTI hTO ⟨h1,p⟩ fun h' e hk he=>?_
  obtain⟨o,ho,hc⟩:=he;refine wpAny_bind (wpAny_isInstance (T:="StopIteration") (b:=true) ⟨o,ho,hc⟩ isSubtype_stop ?_);exact wpAny_pure ⟨rfl,I.turnedL (t':=s.toks) (ch:=[z,TI,TO,i1,i2]) hf fun b o hb q=>hk b o (fun e=>hb (by simp[e])) (fun e=>hb (by simp[e])) (fun e=>hb (by simp[e])) (fun e=>hb (by simp[e])) q⟩
 self:=fun _ _ _ _ _ st h=>wpAny_pyIter_zip st.1 h
def iZipT(K:Frg)(ta:TA):TI:=fun σ H R=>ta σ H fun vs H1=>∃a b xs ys,vs=[.ref a,.ref b]/\SqT K H1 a xs/\SqL K H1 b ys/\R (Izt K a b) H1
theorem j3x{X:Cx}{a b:Expr}{ta:TA}{elts:List Expr}{k:Nat}{p pos pos':Pos}(hg:Gl X "zip")(hm:X.mg "zip"= none)(ha:PA X [a,b] ta)(hs:starEach [a,b] X.env=[(false,eval a X.env),(false,eval b X.env)]:=by rfl)(hs2:starEach [b] X.env=[(false,eval b X.env)]:=by rfl) :
  PI X (.Tuple elts k pos') (.Call (.Name "zip" p) [a,b] [] pos) (iZipT X.K ta):=by
 intro pins s σ H R I h;refine Call_ (QF I hg hm j1P (PyProof.Rows.callWith_type1 (thn (ha pos pins s σ H _ I h) fun us s1 ⟨vs,H1,I1,r1,q1⟩=>?_) (by rw[hs,hs2]) (by rw[hs2];rfl)));obtain⟨t,l,xs,ys,rfl,hq,hr,q⟩:=q1;obtain⟨u,w',rfl,r,r'⟩:=vals2 r1;cases r;cases r';obtain⟨its,rv,p,hz⟩:=I1.tuple hq;obtain⟨jts,rw',p',hz'⟩:=I1.list hr;have lt:t<s1.heap.objs.size:=by obtain⟨o,e,_⟩:=id p;exact Heap.lt_size e
 have ll:l<s1.heap.objs.size:=by obtain⟨o,e,_⟩:=id p'.isList;exact Heap.lt_size e
 refine j0U p p'.isList fun h' a1 a2 a3 a4 a5 hk=>?_
 refine wpAny_pyIter_zip a1 ?_;have ne:∀{x:Addr} (i:Nat),x<s1.heap.objs.size->s1.heap.objs.size+i≠x:=fun i h=>Nat.ne_of_gt (Nat.lt_of_lt_of_le h (Nat.le_add_right _ _))
 have D:ZA (s1.heap.objs.size+4) (s1.heap.objs.size+2) (s1.heap.objs.size+3) s1.heap.objs.size (s1.heap.objs.size+1) [s1.heap.objs.size,t] [s1.heap.objs.size+1,l]:=
  ⟨JU (by decide),JU (by decide),JU (i:=0) (by decide),JU (by decide),JU (by decide),JU (j:=0) (by decide),JU (by decide),JU (j:=0) (by decide),JU (by decide),
   by simp[JU (n:=s1.heap.objs.size) (i:=4) (j:=0) (by decide),ne 4 lt],by simp[ne 3 lt],by simp[ne 1 lt],
   by simp[ne 4 ll],by simp[ne 3 ll],by simp[ne 0 ll,Nat.ne_of_gt ll]⟩
 refine⟨s1.heap.objs.size+4,[s1.heap.objs.size+4,s1.heap.objs.size+2,s1.heap.objs.size+3,s1.heap.objs.size,s1.heap.objs.size+1],_,_,H1,rfl,I1.kept (t':=s1.toks) hk,
  j1D t l _ _ _ _ _ D (Nat.ne_of_lt lt) (Nat.ne_of_lt (Nat.lt_succ_of_lt ll)),⟨a1,a2,⟨_,_,a3⟩,a4,a5⟩,fun c hc=>?_,q⟩
 have hc':s1.heap.objs.size<=c:=by
  rcases(by simpa using hc:c=s1.heap.objs.size+4\/c=s1.heap.objs.size+2\/c=s1.heap.objs.size+3\/c=s1.heap.objs.size\/c=s1.heap.objs.size+1)with rfl | rfl | rfl | rfl | rfl<;>omega
 exact I1.fpOk hc' (I1.hok.fresh hc')
theorem rd_iZipT{K:Frg}{ta:TA}{σ:St}{H:Hp}{R:It->Hp->Prop}(h:ta σ H fun vs H1=>∃a b xs ys,vs=[.ref a,.ref b]/\SqT K H1 a xs/\SqL K H1 b ys/\R (Izt K a b) H1):iZipT K ta σ H R:=h
theorem j0V{K:Frg}{a b:Addr}{xs zs:List V}{k:Nat}{ci:List Nat}{g:TG}{tf:TT}{te:TE}{σ:St}{H:Hp}{Z:Addr->List V->Hp->Prop}(Pv:Nat->List V->Hp->Prop)(hlen:xs.length=zs.length)(h0:Pv 0 [] H)(hl:∀i ys H,i<=xs.length->Pv i ys H->SqT K H a xs/\SqL K H b zs)
  (hs:∀i u v ys H T H',xs[i]?=some u->zs[i]?=some v->Pv i ys H->Same H H'->H' T=some (.tup [u,v])->g (.ref T) (capS k ci σ) H' fun σ2 H2=>tf σ2 H2 fun b H3=>if b=true then te σ2 H3 fun v H4=>ys.length<sizeLine/\Pv (i+1) (ys++[v]) H4 else Pv (i+1) ys H3)
  (hd:∀ys H,Pv xs.length ys H->ys.length<=sizeLine/\∀p,H p=none->Z p ys H) :
  ∃W:Nat->Nat->List V->Hp->Prop,(∃m,W 0 m [] H)/\∀i m ys H,W i m ys H->
   ((Izt K a b).stop i H/\ys.length<=sizeLine/\∀p,H p=none->Z p ys H)\/
   ((Izt K a b).go i H/\∃N:List V->Hp->Prop,(∀ys' H',N ys' H'->∃m',m'<m/\W (i+1) m' ys' H')/\∀x H',(Izt K a b).yld i H x H'->g x (capS k ci σ) H' fun σ2 H2=>tf σ2 H2 fun b H3=>
    if b=true then te σ2 H3 fun v H4=>ys.length<sizeLine/\N (ys++[v]) H4 else N ys H3):=by
 refine⟨fun i m ys H=>m=xs.length-i/\i<=xs.length/\Pv i ys H,⟨xs.length,by simp,Nat.zero_le _,h0⟩,?_⟩;rintro i m ys H ⟨rfl,hi,p⟩;obtain⟨q,q'⟩:=hl i ys H hi p;by_cases hlt:i<xs.length
 ·refine .inr ⟨⟨xs,xs[i],zs,zs[i],q,by simp[hlt],q',by simp⟩,Pv (i+1),fun ys' H' p'=>⟨xs.length-(i+1),by omega,rfl,hlt,p'⟩,fun x H' y=>?_⟩;obtain⟨T,u,v,rfl,hT,e,y,y'⟩:=y;exact hs i u v ys H T H' (y xs q) (y' zs q') p (fun b o h=>by rw[e,jq (ji h hT)];exact h) (by rw[e];exact jn)
 ·have e:i=xs.length:=by omega
  subst e;exact .inl ⟨⟨xs,q,Nat.le_refl _⟩,hd ys H p⟩
section
variable{prog:Program}{w:World}{A:Around}{E:Value->Shared->Prop}{s:Shared}
end
section
variable{X:Cx}
end
section
variable{prog:Program}{w:World}{A:Around}{E:Value->Shared->Prop}{s:Shared}
theorem j33(a v:Value):checkTypeCall "enumerate" ⟨[a],[(Str.ofString "start",v)]⟩=pure ():=by kernel_rfl
theorem j4e(a v:Value):checkBuiltinCall "enumerate.__new__" ⟨[.type "enumerate",a],[(Str.ofString "start",v)]⟩=pure ():=by kernel_rfl
theorem j32(a b v:Value):argsOk "object.__init__" ⟨[a,b],[(Str.ofString "start",v)]⟩:=by
 unfold argsOk;rw[signature?_of (id:="object.__init__") (n:=['_','_','t','i','n','i','_','_']) (o:=['t','c','e','j','b','o']) (by kernel_rfl) F.owner_object];kernel_rfl
set_option maxRecDepth 100000 in
theorem xu(l:Addr)(items:Array Value)(n:Nat)(dct:Option Addr)(sl:Array (Option Value))(t:Tok) :
  Meets (Builtin.«enumerate.__new__» ⟨[.type "enumerate",.ref l],[(Str.ofString "start",.int 1 t)]⟩) (fun _ R s=>s.heap.get? l=some {cls:=.type "list",dict:=dct,data:=.seq items n,slots:=sl}/\
   R (.ok (.ret (.ref (s.heap.push {cls:=.type "list_iterator",data:=.fields #[.ref l,.int 0 0]}).objs.size)))
    {s with heap:=(s.heap.push {cls:=.type "list_iterator",data:=.fields #[.ref l,.int 0 0]}).push {cls:=.type "enumerate",data:=.fields #[.none,.bool false,.ref s.heap.objs.size,rawInt 1,.none,.none]}}):=
 .of_wp fun prog w A R s h=>by
  obtain⟨hp,g,d,tk,os⟩:=s;obtain⟨hl,h⟩:=h;have hsub:=sub_enumerate;have hL:Heap.IsList (Shared.heap ⟨hp,g,d,tk,os⟩) l items:=⟨_,hl,rfl,n,rfl⟩
  wp_walk using AutoSeq1.wpAny_loadPart' hl
  refine wpAny_stack_any fun st=>wpAny_pure ?_
  split
  ·rename_i c _ _ _ _ _;cases(c==Value.type "enumerate")
   ·wp_walk using AutoSeq1.wpAny_loadPart' hl,wpAny_pyIter_list hL
    exact⟨_,rfl,h⟩
   ·wp_walk using AutoSeq1.wpAny_loadPart' hl,wpAny_pyIter_list hL
    exact⟨_,rfl,h⟩
  ·wp_walk using AutoSeq1.wpAny_loadPart' hl,wpAny_pyIter_list hL
   exact⟨_,rfl,h⟩
theorem xv{T newId:String}{self a v:Value}(hl:typeLookup (.type T) "__init__"= pure (some (.builtin "object.__init__")))(hm:Bind.madeBy (.type T)=pure (some newId))(hne:(some newId != some "object.__new__")=true) :
  Meets (Builtin.«object.__init__» ⟨[self,a],[(Str.ofString "start",v)]⟩) (fun _ R s=>s.TypeIs self T/\R (.ok (.ret .none)) s):=by
 refine Meets.of_wp fun prog w A R s hs=>?_
 obtain⟨hT,hq⟩:=hs
 repeat (any_goals (first | assumption | wp_step))
 exact⟨_,rfl,hq⟩
set_option maxRecDepth 100000 in
set_option maxHeartbeats 3200000 in
theorem Xg{l:Addr}{items:Array Value}{t:Tok}{Q:Value->Shared->Prop}(hL:s.heap.IsList l items)
  (h:∀h',IsEnum h' (s.heap.objs.size+1) s.heap.objs.size 1 .none->h'.IsListIter s.heap.objs.size l 0->(∀b o,s.heap.get? b=some o->h'.get? b=some o)->Q (.ref (s.heap.objs.size+1)) {s with heap:=h'}) :
  wpAny (model prog w) A (call (.type "enumerate") [.ref l] [(Str.ofString "start",.int 1 t)]) Q E s:=by
 obtain⟨⟨c,dct,dt,sl⟩,hl,hc,n,hd⟩:=hL
 replace hc:c = .type "list":=hc
 replace hd:dt = .seq items n:=hd
 subst hc hd;have ft:=F.called_enumerate;obtain⟨c,tl,mr⟩:=ft.mro;have k1:=ft.made;have k2:=ft.sub;refine wpAny_call (codeAny_of_tree ?_);show wpAny _ _ (callAny (.type "enumerate") _) _ _ _;refine wpAny_pure ⟨Code.quiet_builtin _ (by decide +kernel),codeAny_builtin F.entry_type_call ?_⟩;rw[Around.under_plain (weight_type_call_type "enumerate" [.ref l] [(Str.ofString "start",.int 1 t)]) (units_type_call_type "enumerate" [.ref l] [(Str.ofString "start",.int 1 t)])];have k3:=ft.notType;have k4:=ft.canCreate;have k5:=j33 (.ref l) (.int 1 t)
 repeat (any_goals (first | assumption | wp_step))
 refine codeAny_mono (codeAny_call_builtin ft.plain F.entry_enumerate_new (wpAny_of_eq (j4e (.ref l) (.int 1 t)) (xu l items n dct sl t prog w A.in1 (wants (fun obj s₁=>obj = .ref (s.heap.objs.size+1)/\∃h',s₁={s with heap:=h'}/\IsEnum h' (s.heap.objs.size+1) s.heap.objs.size 1 .none/\h'.IsListIter s.heap.objs.size l 0/\∀b o,s.heap.get? b=some o->h'.get? b=some o) E) s ⟨hl,?_⟩))) fun r s1 hr=>?_
 ·have hz:(s.heap.push {cls:=.type "list_iterator",data:=.fields #[.ref l,.int 0 0]}).objs.size=s.heap.objs.size+1:=Heap.size_push ..;have he:=Heap.get?_push_size (s.heap.push {cls:=.type "list_iterator",data:=.fields #[.ref l,.int 0 0]}) (o:={cls:=.type "enumerate",data:=.fields #[.none,.bool false,.ref s.heap.objs.size,rawInt 1,.none,.none]}) rfl;rw[hz]at he;exact⟨by rw[hz],_,rfl,he,⟨_,Heap.get?_push_of_some _ (Heap.get?_push_size _ rfl),rfl,rfl⟩,fun b o x=>Heap.get?_push_of_some _ (Heap.get?_push_of_some _ x)⟩
 cases r with
 | error e=>exact hr
 | ok fl=>
  cases fl with
  | ret obj=>
   obtain⟨rfl,h',rfl,he,hi,hk⟩:=hr;have hT:Shared.TypeIs {s with heap:=h'} (.ref (s.heap.objs.size+1)) "enumerate":=⟨_,he,rfl⟩
   have k6:=ft.init.lookup;have k7:=ft.init.bind (.ref (s.heap.objs.size+1))
   repeat (any_goals (first | assumption | wp_step))
   refine codeAny_mono (codeAny_call_builtin ft.init.plain F.entry_object_init (ft.init.check _ _ _ _ _ _ _ _ hT (j32 _ _ _) (xv ft.init.lookup ft.made (by decide) prog w A.in1 (wants (fun r s₂=>r = .none/\s₂={s with heap:=h'}) E) _ ⟨hT,rfl,rfl⟩))) fun r2 s2 hr2=>?_
   cases r2 with
   | error e=>exact hr2
   | ok fl2=>
    cases fl2 with
    | ret r=>
     obtain⟨rfl,rfl⟩:=hr2
     repeat (any_goals (first | assumption | wp_step))
     exact h h' he hi hk
    | _=>exact hr2.elim
  | _=>exact hr.elim
theorem Xn{e it:Addr}{fp:List Addr}{P P':Heap->Prop}{n:Int}{x old:Value}{Q:Value->Shared->Prop}(N:Nxt prog w it fp P P' x)(ne:e≠it)(nf:e∉fp)(he:IsEnum s.heap e it n old)(h1:P s.heap)
  (hQ:∀h',IsEnumOut h' e it (n+1) x s.heap.objs.size->P' h'->h'.get? s.heap.objs.size=some {cls:=.type "tuple",data:=.seq #[.int n s.toks,x]}->(∀b o,b≠e->b≠it->s.heap.get? b=some o->h'.get? b=some o)->Q (.ref s.heap.objs.size) {s with heap:=h',toks:=s.toks+1}) :
  wpAny (model prog w) A (Builtin.«enumerate.__next__» ⟨[.ref e],[]⟩) (fun fin s'=>∃v,fin = .done (.ret v)/\Q v s') E s:=by
 obtain⟨hp,g,d,tk,os⟩:=s;show wpAny _ _ (field (.ref e) 2 >>= _) _ _ _;refine wpAny_bind (wpAny_field he rfl (x:=.ref it) rfl ?_);refine wpAny_bind (N.run _ _ _ _ h1 fun a1 p1 s1=>?_)
 replace s1:Heap.SameBut it hp a1:=s1
 have e1:IsEnum a1 e it n old:=(s1.2 e ne).trans he;show wpAny _ _ (field (.ref e) 3 >>= _) _ _ ⟨a1,g,d,tk,os⟩;refine wpAny_bind (wpAny_field e1 rfl (x:=rawInt n) rfl ?_);show wpAny _ _ (field (.ref e) 4 >>= _) _ _ ⟨a1,g,d,tk,os⟩;refine wpAny_bind (wpAny_field e1 rfl (x:=.none) rfl ?_);show wpAny _ _ (mkInt n >>= _) _ _ ⟨a1,g,d,tk,os⟩;refine wpAny_bind (wpAny_mkInt ?_);show wpAny _ _ (setField (.ref e) 3 (rawInt (n+1)) >>= _) _ _ ⟨a1,g,d,tk+1,os⟩;refine wpAny_bind (wpAny_setField_rec e1 (by simp) fun a2 e2 s2=>?_)
 replace s2:Heap.SameBut e a1 a2:=s2
 replace e2:IsEnum a2 e it (n+1) old:=e2
 show wpAny _ _ (setField (.ref e) 4 .none >>= _) _ _ ⟨a2,g,d,tk+1,os⟩;refine wpAny_bind (wpAny_setField_rec e2 (by simp) fun a3 e3 s3=>?_)
 replace s3:Heap.SameBut e a2 a3:=s3
 replace e3:IsEnum a3 e it (n+1) old:=e3
 show wpAny _ _ (newTuple [.int n tk,x] >>= _) _ _ ⟨a3,g,d,tk+1,os⟩;refine wpAny_bind (wpAny_newTuple (hsz:=by show 2<=sizeLine;decide) ?_);have e4:IsEnum (a3.push {cls:=.type "tuple",data:=.seq #[.int n tk,x]}) e it (n+1) old:=Heap.get?_push_of_some _ e3;have sz:a3.objs.size=hp.objs.size:=by rw[s3.1,s2.1,s1.1]
 have lt:e<hp.objs.size:=Heap.lt_size he;have t4:(a3.push {cls:=.type "tuple",data:=.seq #[.int n tk,x]}).get? hp.objs.size=some {cls:=.type "tuple",data:=.seq #[.int n tk,x]}:=by rw[<-sz];exact Heap.get?_push_size _ rfl
 have k4:∀b o,b≠e->a1.get? b=some o->(a3.push {cls:=.type "tuple",data:=.seq #[.int n tk,x]}).get? b=some o:=fun b o hb q=>Heap.get?_push_of_some _ (s3.extBut b o hb (s2.extBut b o hb q))
 generalize a3.push {cls:=.type "tuple",data:=.seq #[.int n tk,x]}=a4 at e4 t4 k4;show wpAny _ _ (Builtin.SmallTypes.ownedTupleIsFree (.ref e) >>= _) _ _ ⟨a4,g,d,tk+1,os⟩;rw[sz];refine wpAny_bind ?_;unfold Builtin.SmallTypes.ownedTupleIsFree;refine wpAny_bind (wpAny_field e4 rfl (x:=.none) rfl (wpAny_pure ?_));simp only[if_true];refine wpAny_bind (wpAny_rule ?_);refine wpAny_bind (wpAny_field e4 rfl (x:=old) rfl ?_);refine wpAny_bind (wpAny_setField_rec e4 (by simp) fun a5 e5 s5=>?_)
 replace s5:Heap.SameBut e a4 a5:=s5
 replace e5:IsEnum a5 e it (n+1) x:=e5
 show wpAny _ _ (Builtin.SmallTypes.ownedTupleHandOut (.ref e) (.ref hp.objs.size) >>= _) _ _ ⟨a5,g,d,tk+1,os⟩;refine wpAny_bind ?_;unfold Builtin.SmallTypes.ownedTupleHandOut;refine wpAny_bind (wpAny_setField_rec e5 (by simp) fun a6 e6 s6=>?_)
 replace s6:Heap.SameBut e a5 a6:=s6
 replace e6:IsEnumOut a6 e it (n+1) x hp.objs.size:=e6
 refine wpAny_setField_rec e6 (by simp) fun a7 e7 s7=>?_
 replace s7:Heap.SameBut e a6 a7:=s7
 replace e7:IsEnumOut a7 e it (n+1) x hp.objs.size:=e7
 have up:∀b o,b≠e->a4.get? b=some o->a7.get? b=some o:=fun b o hb q=>s7.extBut b o hb (s6.extBut b o hb (s5.extBut b o hb q))
 refine wpAny_bind (wpAny_letGo (wpAny_pure ⟨_,rfl,hQ a7 e7 ?_ (up _ _ (Nat.ne_of_gt lt) t4) fun b o n1 n2 q=>up b o n1 (k4 b o n1 (s1.extBut b o n2 q))⟩));exact N.kp' _ _ p1 fun b hb o q=>up b o (fun z=>nf (z▸hb)) (k4 b o (fun z=>nf (z▸hb)) q)
end
def Ite1(K:Frg)(a:Addr):It:=
 ⟨fun i H=>∃xs x,SqL K H a xs/\xs[i]?=some x,fun i H x H'=>∃T v,x = .ref T/\H T=none/\H'=upd H T (.tup [.int (i+1),v])/\∀xs,SqL K H a xs->xs[i]?=some v,fun i H=>∃xs,SqL K H a xs/\xs.length<=i⟩
theorem X9{P:Program}{w:World}{K:Frg}{elts:List Expr}{k:Nat}{pos:Pos}(a e it:Addr)(hne:e≠it)(na:a≠e)(ni:a≠it) :
  Turn P w K (.Tuple elts k pos) (Ite1 K a) [e,it] e (fun i h=>(∃old,IsEnum h e it ((i:Nat)+1) old)/\h.IsListIter it a i) where
 mem:=by simp
 obj:=fun i h st b hb=>by
  obtain⟨⟨old,he⟩,o,eo,_,d⟩:=st;rcases(by simpa using hb:b=e\/b=it)with rfl | rfl
  ·exact⟨_,he,fun v z=>by cases z⟩
  ·exact⟨o,eo,fun v z=>by rw[d]at z;cases z⟩
 keep:=fun i h h' ⟨⟨old,he⟩,hi⟩ k=>⟨⟨old,k e (by simp) _ he⟩,hi.at fun o q=>k it (by simp) o q⟩
 item:=by
  intro X hP hw hK hc i pins s σ H E I hf st hg;subst hP hw hK;obtain⟨xs,x,hq,hx⟩:=hg;obtain⟨its,rv,p,hz⟩:=I.list hq;obtain⟨u,hu,ru⟩:=rv.get hx;obtain⟨⟨old,he⟩,hit⟩:=st;have le:e<s.heap.objs.size:=Heap.lt_size he;have li:it<s.heap.objs.size:=by obtain⟨o,q,_⟩:=id hit;exact Heap.lt_size q
  have hTy:s.TypeIs (.ref e) "enumerate":=⟨_,he,rfl⟩
  unfold pyNext;refine wpAny_bind (wpAny_attempt (wpAny_callSpecial?_slot (name:=Str.ofString "__next__") hTy F.slot_enumerate_next (wpAny_call_entry F.slot_enumerate_next hTy F.entry_enumerate_next ?_ (F.args_enumerate_next_1 _))));refine Xn (j0A ni (x:=u) (xs:=its.toArray) (by simpa using hu)) hne (by simp[hne,na.symm]) he ⟨hit,p.isList⟩ fun h' ho p' hT hk=>wpAny_pure ?_
  obtain⟨I1,f1⟩:=I.pair (t':=s.toks+1) (ch:=[e,it]) (x:=.int (i+1)) (y:=x) hf (fun b hb=>by rcases(by simpa using hb:b=e\/b=it)with rfl | rfl<;>assumption) ⟨s.toks,rfl⟩ ru hT
   (fun b o hb q=>hk b o (fun z=>hb (by simp[z])) (fun z=>hb (by simp[z])) q)
  refine⟨_,rfl,wpAny_letOwnedTupleGo_enum ho fun h2 he2 sb=>?_⟩;have I2:=I1.turnedL (h':=h2) (t':=s.toks+1) (ch:=[e,it]) f1 fun b o hb q=>(sb.2 b fun z=>hb (by simp[z])).trans q
  exact⟨.ref s.heap.objs.size,_,I2,rfl,⟨_,x,rfl,I.hok.fresh (Nat.le_refl _),rfl,fun ys hy=>by rw[I.list_inj hy hq];exact hx⟩,
   ⟨⟨u,by simpa using he2⟩,p'.1.at fun o q=>(sb.2 it hne.symm).trans q⟩,fun b hb=>(f1 b hb).1⟩
 done:=by
  intro X hP hw hK hc i pins s σ H E I hf st hg;subst hP hw hK;obtain⟨xs,hq,hx⟩:=hg;obtain⟨its,rv,p,hz⟩:=I.list hq;obtain⟨⟨old,he⟩,hit⟩:=st;have hl:=rv.length;have hTy:s.TypeIs (.ref e) "enumerate":=⟨_,he,rfl⟩
  unfold pyNext;refine wpAny_bind (wpAny_attempt (wpAny_callSpecial?_slot (name:=Str.ofString "__next__") hTy F.slot_enumerate_next (wpAny_call_entry F.slot_enumerate_next hTy F.entry_enumerate_next ?_ (F.args_enumerate_next_1 _))));show wpAny _ _ (field (.ref e) 2 >>= _) _ _ _;refine wpAny_bind (wpAny_field he rfl (x:=.ref it) rfl ?_);refine wpAny_bind (wpAny_nextOf_list_end (I.ok.hd hc) hit p.isList (by simp;omega) fun h' x eb hx'=>?_);obtain⟨o,ho,hc⟩:=hx';refine wpAny_bind (wpAny_isInstance (T:="StopIteration") (b:=true) ⟨o,ho,hc⟩ isSubtype_stop ?_);exact wpAny_pure ⟨rfl,I.turnedL (t':=s.toks) (ch:=[e,it]) hf fun b o hb q=>eb b o (fun z=>hb (by simp[z])) q⟩
 self:=fun _ _ _ _ _ st h=>let ⟨_,he⟩:=st.1;wpAny_pyIter_enum he h
def iEnum1(K:Frg)(ta:TA)(tk:TE):TI:=fun σ H R=>ta σ H fun vs H1=>tk σ H1 fun y H2=>y = .int 1/\∃a xs,vs=[.ref a]/\SqL K H2 a xs/\R (Ite1 K a) H2
theorem rd_iEnum1{K:Frg}{ta:TA}{tk:TE}{σ:St}{H:Hp}{R:It->Hp->Prop}(h:ta σ H fun vs H1=>tk σ H1 fun y H2=>y = .int 1/\∃a xs,vs=[.ref a]/\SqL K H2 a xs/\R (Ite1 K a) H2):iEnum1 K ta tk σ H R:=h
theorem kD{M:Model}{A:Around}{E:Value->Shared->Prop}{s:Shared}{env:Env}{pos:Pos}{T:String}{e:Expr}{kws:List Keyword}{Q:Value->Shared->Prop}
  (h:wpAny M A (spliced (backTo pos (starEach [e] env))) (fun vs s₁=>wpAny M A (evalAll ((backToKw pos (keywordEach kws env)).map (·.2))) (fun kvs s₂=>wpAny M A (call (.type T) vs (((backToKw pos (keywordEach kws env)).filterMap (·.1)).zip kvs)) Q E s₂) E s₁) E s)
  (he:backTo pos (starEach [e] env)=[(false,eval e env)]) (hall:(backToKw pos (keywordEach kws env)).all (·.1.isSome)=true) (hkw:(backToKw pos (keywordEach kws env)).any (·.1.isNone)=false) :
  wpAny M A (callWith pos (.type T) [] (backTo pos (starEach [e] env)) (backToKw pos (keywordEach kws env))) Q E s:=by
 unfold callWith;have q:wpAny M A (evalArgs (.type T) true (backTo pos (starEach [e] env)) (backToKw pos (keywordEach kws env))) (fun a s₁=>wpAny M A (call (.type T) a.pos a.kw) Q E s₁) E s:=by
  rw[he]at h|-;exact evalArgs_kwB hall h
 refine wpAny_bind (wpAny_holding (wpAny_mono q (fun a s1 h1=>wpAny_bind (wpAny_standAt ?_)) fun _ _ x=>x));simp only[hkw,he,any_cons,List.any_nil,Bool.or_false];refine wpAny_bind (wpAny_pure ?_);exact wpAny_bind (wpAny_mono h1 (fun r s2 hr=>wpAny_bind (wpAny_holding (wpAny_point (wpAny_pure hr)))) fun _ _ x=>x)
theorem xJ{X:Cx}{a v:Expr}{ta:TA}{tk:TE}{elts:List Expr}{k:Nat}{p pos pos' kp:Pos}(hg:Gl X "enumerate")(hm:X.mg "enumerate"= none)(ha:PA X [a] ta)(hv:PE X v tk)(hs:starEach [a] X.env=[(false,eval a X.env)]:=by rfl)
  (hk:(backToKw pos (keywordEach [⟨some "start",v,kp⟩] X.env)).filterMap (·.1)=[Str.ofString "start"]:=by rfl) (hall:(backToKw pos (keywordEach [⟨some "start",v,kp⟩] X.env)).all (·.1.isSome)=true:=by rfl) (hkw:(backToKw pos (keywordEach [⟨some "start",v,kp⟩] X.env)).any (·.1.isNone)=false:=by rfl) :
  PI X (.Tuple elts k pos') (.Call (.Name "enumerate" p) [a] [⟨some "start",v,kp⟩] pos) (iEnum1 X.K ta tk):=by
 intro pins s σ H R I h;refine wpAny_Call_Name_kw (QF I hg hm yS (kD (thn (ha pos pins s σ H _ I h) fun us s1 ⟨vs,H1,I1,r1,q1⟩=>?_) (by rw[hs];rfl) hall hkw));refine kws_cons (thn (hv pins s1 σ H1 _ I1 q1) fun y s2 ⟨y',H2,I2,r2,ey,b,xs,ev,hq,q⟩=>kws_nil ?_);subst ey;subst ev;obtain⟨t,rfl⟩:=r2;rw[hk];obtain⟨u,rfl,ru⟩:=vals1 r1;cases ru;obtain⟨its,rv,pl,hz⟩:=I2.list hq;have lb:b<s2.heap.objs.size:=by obtain⟨o,e,_⟩:=id pl.isList;exact Heap.lt_size e
 refine Xg pl.isList fun h' he hit hk=>?_
 refine wpAny_pyIter_enum he ?_;refine⟨s2.heap.objs.size+1,[s2.heap.objs.size+1,s2.heap.objs.size],_,_,H2,rfl,I2.kept (t':=s2.toks) hk,X9 b _ _ (Nat.succ_ne_self _) (Nat.ne_of_lt (Nat.lt_succ_of_lt lb)) (Nat.ne_of_lt lb),⟨⟨_,by simpa using he⟩,hit⟩,fun c hc=>?_,q⟩;rcases(by simpa using hc:c=s2.heap.objs.size+1\/c=s2.heap.objs.size)with rfl | rfl
 ·exact I2.fpOk (Nat.le_succ _) (I2.hok.fresh (Nat.le_succ _))
 ·exact I2.fpOk (Nat.le_refl _) (I2.hok.fresh (Nat.le_refl _))
theorem j10{K:Frg}{a:Addr}{xs:List V}{g:TG}{tb:TS}{D:Ends}{σ:St}{H:Hp}(Pv:Nat->St->Hp->Prop)(h0:Pv 0 σ H)(hl:∀i σ H,i<=xs.length->Pv i σ H->SqL K H a xs)
  (hs:∀i v σ H T H',xs[i]?=some v->Pv i σ H->Same H H'->H' T=some (.tup [.int (i+1),v])->g (.ref T) σ H' fun σ2 H2=>tb {D with nx:=Pv (i+1),ct:=Pv (i+1),bk:=D.nx} σ2 H2) (hd:∀σ H,Pv xs.length σ H->D.nx σ H) :
  ∃W:Nat->Nat->St->Hp->Prop,(∃m,W 0 m σ H)/\∀i m σ H,W i m σ H->
   ((Ite1 K a).stop i H/\D.nx σ H)\/((Ite1 K a).go i H/\∃N:St->Hp->Prop,(∀σ' H',N σ' H'->∃m',m'<m/\W (i+1) m' σ' H')/\∀x H',(Ite1 K a).yld i H x H'->g x σ H' fun σ2 H2=>tb {D with nx:=N,ct:=N,bk:=D.nx} σ2 H2):=by
 refine⟨fun i m σ H=>m=xs.length-i/\i<=xs.length/\Pv i σ H,⟨xs.length,by simp,Nat.zero_le _,h0⟩,?_⟩;rintro i m σ H ⟨rfl,hi,p⟩;have q:=hl i σ H hi p;by_cases hlt:i<xs.length
 ·refine .inr ⟨⟨xs,xs[i],q,by simp[hlt]⟩,Pv (i+1),fun σ' H' p'=>⟨xs.length-(i+1),by omega,rfl,hlt,p'⟩,fun x H' y=>?_⟩;obtain⟨T,v,rfl,hT,e,y⟩:=y;exact hs i v σ H T H' (y xs q) p (fun b o h=>by rw[e,jq (ji h hT)];exact h) (by rw[e];exact jn)
 ·have e:i=xs.length:=by omega
  subst e;exact .inl ⟨⟨xs,q,Nat.le_refl _⟩,hd σ H p⟩
section
variable{σ:St}{H:Hp}{D:Ends}{Q:VK}{ta tb te:TE}
theorem rd_seq{t u:TS}(h:t {D with nx:=u D} σ H):tSeq t u D σ H:=h
theorem rd_asg{g:TG}(h:te σ H fun x H1=>g x σ H1 D.nx):tAsg te g D σ H:=h
theorem rd_v0{v:V}{r:St}(h:Q v H):tVar 0 (some v::r) H Q:=⟨v,rfl,h⟩
theorem rd_n0{a0:Option V}{v:V}{r:St}{R:St->Hp->Prop}(h:R (some v::r) H):gName 0 v (a0::r) H R:=h
theorem rd_v1{a0:Option V}{v:V}{r:St}(h:Q v H):tVar 1 (a0::some v::r) H Q:=⟨v,rfl,h⟩
theorem rd_n1{a0 a1:Option V}{v:V}{r:St}{R:St->Hp->Prop}(h:R (a0::some v::r) H):gName 1 v (a0::a1::r) H R:=h
theorem rd_v2{a0 a1:Option V}{v:V}{r:St}(h:Q v H):tVar 2 (a0::a1::some v::r) H Q:=⟨v,rfl,h⟩
theorem rd_n2{a0 a1 a2:Option V}{v:V}{r:St}{R:St->Hp->Prop}(h:R (a0::a1::some v::r) H):gName 2 v (a0::a1::a2::r) H R:=h
theorem rd_v3{a0 a1 a2:Option V}{v:V}{r:St}(h:Q v H):tVar 3 (a0::a1::a2::some v::r) H Q:=⟨v,rfl,h⟩
theorem rd_n3{a0 a1 a2 a3:Option V}{v:V}{r:St}{R:St->Hp->Prop}(h:R (a0::a1::a2::some v::r) H):gName 3 v (a0::a1::a2::a3::r) H R:=h
theorem rd_v4{a0 a1 a2 a3:Option V}{v:V}{r:St}(h:Q v H):tVar 4 (a0::a1::a2::a3::some v::r) H Q:=⟨v,rfl,h⟩
theorem rd_n4{a0 a1 a2 a3 a4:Option V}{v:V}{r:St}{R:St->Hp->Prop}(h:R (a0::a1::a2::a3::some v::r) H):gName 4 v (a0::a1::a2::a3::a4::r) H R:=h
theorem rd_v5{a0 a1 a2 a3 a4:Option V}{v:V}{r:St}(h:Q v H):tVar 5 (a0::a1::a2::a3::a4::some v::r) H Q:=⟨v,rfl,h⟩
theorem rd_n5{a0 a1 a2 a3 a4 a5:Option V}{v:V}{r:St}{R:St->Hp->Prop}(h:R (a0::a1::a2::a3::a4::some v::r) H):gName 5 v (a0::a1::a2::a3::a4::a5::r) H R:=h
theorem rd_v6{a0 a1 a2 a3 a4 a5:Option V}{v:V}{r:St}(h:Q v H):tVar 6 (a0::a1::a2::a3::a4::a5::some v::r) H Q:=⟨v,rfl,h⟩
theorem rd_n6{a0 a1 a2 a3 a4 a5 a6:Option V}{v:V}{r:St}{R:St->Hp->Prop}(h:R (a0::a1::a2::a3::a4::a5::some v::r) H):gName 6 v (a0::a1::a2::a3::a4::a5::a6::r) H R:=h
theorem rd_v7{a0 a1 a2 a3 a4 a5 a6:Option V}{v:V}{r:St}(h:Q v H):tVar 7 (a0::a1::a2::a3::a4::a5::a6::some v::r) H Q:=⟨v,rfl,h⟩
theorem rd_n7{a0 a1 a2 a3 a4 a5 a6 a7:Option V}{v:V}{r:St}{R:St->Hp->Prop}(h:R (a0::a1::a2::a3::a4::a5::a6::some v::r) H):gName 7 v (a0::a1::a2::a3::a4::a5::a6::a7::r) H R:=h
theorem rd_v8{a0 a1 a2 a3 a4 a5 a6 a7:Option V}{v:V}{r:St}(h:Q v H):tVar 8 (a0::a1::a2::a3::a4::a5::a6::a7::some v::r) H Q:=⟨v,rfl,h⟩
theorem rd_n8{a0 a1 a2 a3 a4 a5 a6 a7 a8:Option V}{v:V}{r:St}{R:St->Hp->Prop}(h:R (a0::a1::a2::a3::a4::a5::a6::a7::some v::r) H):gName 8 v (a0::a1::a2::a3::a4::a5::a6::a7::a8::r) H R:=h
theorem rd_v9{a0 a1 a2 a3 a4 a5 a6 a7 a8:Option V}{v:V}{r:St}(h:Q v H):tVar 9 (a0::a1::a2::a3::a4::a5::a6::a7::a8::some v::r) H Q:=⟨v,rfl,h⟩
theorem rd_n9{a0 a1 a2 a3 a4 a5 a6 a7 a8 a9:Option V}{v:V}{r:St}{R:St->Hp->Prop}(h:R (a0::a1::a2::a3::a4::a5::a6::a7::a8::some v::r) H):gName 9 v (a0::a1::a2::a3::a4::a5::a6::a7::a8::a9::r) H R:=h
theorem rd_const{v:V}(h:Q v H):tC v σ H Q:=h
theorem rd_op{r:R2}(h:ta σ H fun x H1=>tb σ H1 fun y H2=>r x y H2 Q):tOp r ta tb σ H Q:=h
theorem rd_i0{g:Int->Int->V}{i j:Int}(h:Q (g i j) H):rI0 g (.int i) (.int j) H Q:=⟨i,j,rfl,rfl,h⟩
theorem j5e{C:Int->Int->Prop}{g:Int->Int->V}{i j:Int}(c:C i j)(h:Q (g i j) H):rI C g (.int i) (.int j) H Q:=⟨i,j,rfl,rfl,c,h⟩
theorem rd_eqI{i j:Int}(h:Q (.bl (decide (i=j))) H):rEq (.int i) (.int j) H Q:=by
 refine⟨rfl,?_⟩;rw[show decide (V.int i=V.int j)=decide (i=j) by simp];exact h
theorem rd_neI{i j:Int}(h:Q (.bl (!decide (i=j))) H):rNe (.int i) (.int j) H Q:=by
 refine⟨rfl,?_⟩;rw[show decide (V.int i=V.int j)=decide (i=j) by simp];exact h
theorem rd_eqS{i j:Str}(h:Q (.bl (decide (i=j))) H):rEq (.str i) (.str j) H Q:=by
 refine⟨rfl,?_⟩;rw[show decide (V.str i=V.str j)=decide (i=j) by simp];exact h
theorem rd_neS{i j:Str}(h:Q (.bl (!decide (i=j))) H):rNe (.str i) (.str j) H Q:=by
 refine⟨rfl,?_⟩;rw[show decide (V.str i=V.str j)=decide (i=j) by simp];exact h
theorem rd_if{c:TT}{t u:TS}(h:c σ H fun b H1=>if b=true then t D σ H1 else u D σ H1):tIfS c t u D σ H:=h
theorem rd_test{R:Bool->Hp->Prop}(h:te σ H fun x H'=>∃k,x = .bl k/\R k H'):tTest te σ H R:=h
theorem rd_tB{R:Bool->Hp->Prop}(h:te σ H fun x H'=>∃k,x = .bl k/\R k H'):tB te σ H R:=h
theorem rd_blP{k:Bool}{R:Bool->Prop}(h:R k):∃k',V.bl k = .bl k'/\R k':=⟨k,rfl,h⟩
theorem rd_not{t:TT}{R:Bool->Hp->Prop}(h:t σ H fun c H1=>R (!c) H1):tNot t σ H R:=h
theorem rd_and{t u:TT}{R:Bool->Hp->Prop}(h:t σ H fun c H1=>if c=true then u σ H1 R else R false H1):tAnd t u σ H R:=h
theorem rd_or{t u:TT}{R:Bool->Hp->Prop}(h:t σ H fun c H1=>if c=true then R true H1 else u σ H1 R):tOr t u σ H R:=h
theorem rd_andV(h:ta σ H fun x H1=>∃c,x = .bl c/\if c=true then tb σ H1 Q else Q (.bl false) H1):tAndV ta tb σ H Q:=h
theorem rd_notV(h:ta σ H fun x H1=>∃c,x = .bl c/\Q (.bl (!c)) H1):tNotV ta σ H Q:=h
theorem rd_ifE{t:TT}(h:t σ H fun c H1=>if c=true then ta σ H1 Q else tb σ H1 Q):tIf t ta tb σ H Q:=h
theorem rd_ret(h:te σ H D.rt):tRet te D σ H:=h
theorem rd_retN(h:D.rt .non H):tRetN D σ H:=h
theorem rd_next(h:D.nx σ H):tNext D σ H:=h
theorem rd_drop(h:te σ H fun _ H1=>D.nx σ H1):tDrop te D σ H:=h
theorem rd_cb{r:List V->Hp->VK->Prop}{t:TA}(h:t σ H fun vs H1=>r vs H1 Q):tCB r t σ H Q:=h
theorem rd_call{sp:Sp}{dvs:List V}{E:XK}{t:TA}(h:t σ H fun vs H1=>sp (vs++dvs) H1 Q E):tCall sp dvs E t σ H Q:=h
theorem rd_dIn(h:ta σ H fun y H1=>tb σ H1 fun x H2=>∃a o,x = .ref a/\DGet H2 a y o/\Q (.bl o.isSome) H2):tDIn ta tb σ H Q:=h
theorem rd_nil{R:List V->Hp->Prop}(h:R [] H):tNil σ H R:=h
theorem rd_cons{tr:TA}{R:List V->Hp->Prop}(h:ta σ H fun x H1=>tr σ H1 fun xs H2=>R (x::xs) H2):tCons ta tr σ H R:=h
theorem rd_lst{t:TA}(h:t σ H fun xs H1=>xs.length<=sizeLine/\∀p,H1 p=none->Q (.ref p) (upd H1 p (.lst xs))):tLst t σ H Q:=h
theorem rd_tup{t:TA}(h:t σ H fun xs H1=>xs.length<=sizeLine/\∀p,H1 p=none->Q (.ref p) (upd H1 p (.tup xs))):tTup t σ H Q:=h
theorem rd_chain{r r':R2}{tc:TE}(h:ta σ H fun x H1=>tb σ H1 fun y H2=>r x y H2 fun z H3=>∃k,z = .bl k/\(if k=true then tc σ H3 fun w' H4=>r' y w' H4 Q else Q (.bl false) H3)):tChain r r' ta tb tc σ H Q:=h
theorem rd_bm{K:Frg}{T:String}{r:V->List V->Hp->VK->Prop}{t:TA}(h:te σ H fun x H1=>tyV K T x H1/\t σ H1 fun xs H2=>r x xs H2 Q):tBM K T r te t σ H Q:=h
theorem rd_sl{r:V->Option Int->Option Int->Hp->VK->Prop}{tl th:TO}(h:te σ H fun x H1=>tl σ H1 fun l H2=>th σ H2 fun u H3=>r x l u H3 Q):tSl r te tl th σ H Q:=h
theorem rd_nopart{R:Option Int->Hp->Prop}(h:R none H):tNoPart σ H R:=h
theorem rd_part{R:Option Int->Hp->Prop}(h:te σ H fun x H1=>∃i,x = .int i/\R (some i) H1):tPart te σ H R:=h
theorem rd_int{i:Int}{R:Int->Prop}(h:R i):∃i',V.int i = .int i'/\R i':=⟨i,rfl,h⟩
theorem iteD{p A B:Prop}[Decidable p](h1:p->A)(h2:¬p->B):if decide p=true then A else B:=by
 by_cases h:p
 ·rw[if_pos (decide_eq_true h)];exact h1 h
 ·rw[if_neg (by simpa using h)];exact h2 h
theorem iteN{p A B:Prop}[Decidable p](h1:¬p->A)(h2:p->B):if(!decide p)=true then A else B:=by
 by_cases h:p
 ·rw[if_neg (by simpa using h)];exact h2 h
 ·rw[if_pos (by simpa using h)];exact h1 h
theorem rd_rng1{ta:TA}{R:It->Hp->Prop}(h:ta σ H fun vs H1=>∃j:Int,vs=[.int j]/\-(2^62)<=j/\j<2^62/\R (Itr 0 j.toNat) H1):iRng1 ta σ H R:=h
theorem rd_rng2{ta:TA}{R:It->Hp->Prop}(h:ta σ H fun vs H1=>∃i j:Int,vs=[.int i,.int j]/\(-(2^62)<=i/\i<2^62/\-(2^62)<=j/\j<2^62)/\R (Itr i (j-i).toNat) H1):iRng2 ta σ H R:=h
theorem rd_iList{K:Frg}{R:It->Hp->Prop}(h:te σ H fun x H1=>∃a,x = .ref a/\(∃xs,SqL K H1 a xs)/\R (Itl K a) H1):iList K te σ H R:=h
theorem rd_p18(h:Q (.int (10^18)) H):rI CPow (fun i j=>.int (i^j.toNat)) (.int 10) (.int 18) H Q:=⟨10,18,rfl,rfl,⟨by decide,by decide,by decide⟩,h⟩
theorem rd_p20(h:Q (.int (10^20)) H):rI CPow (fun i j=>.int (i^j.toNat)) (.int 10) (.int 20) H Q:=⟨10,20,rfl,rfl,⟨by decide,by decide,by decide⟩,h⟩
theorem rd_p60(h:Q (.int (10^60)) H):rI CPow (fun i j=>.int (i^j.toNat)) (.int 10) (.int 60) H Q:=⟨10,60,rfl,rfl,⟨by decide,by decide,by decide⟩,h⟩
theorem rd_p64(h:Q (.int (10^64)) H):rI CPow (fun i j=>.int (i^j.toNat)) (.int 10) (.int 64) H Q:=⟨10,64,rfl,rfl,⟨by decide,by decide,by decide⟩,h⟩
theorem rd_for{wi:TI}{g:TG}{tb:TS} (h:wi σ H fun J H1=>∃W:Nat->Nat->St->Hp->Prop,(∃m,W 0 m σ H1)/\∀i m σ H,W i m σ H->
 (J.stop i H/\D.nx σ H)\/(J.go i H/\∃N:St->Hp->Prop,(∀σ' H',N σ' H'->∃m',m'<m/\W (i+1) m' σ' H')/\∀x H',J.yld i H x H'->g x σ H' fun σ2 H2=>tb {D with nx:=N,ct:=N,bk:=D.nx} σ2 H2)):tFor wi g tb D σ H:=h
theorem rd_comp{wi:TI}{n:Nat}{ci:List Nat}{g:TG}{tf:TT} (h:wi σ H fun J H1=>∃W:Nat->Nat->List V->Hp->Prop,(∃m,W 0 m [] H1)/\∀i m ys H,W i m ys H->
 (J.stop i H/\ys.length<=sizeLine/\∀p,H p=none->Q (.ref p) (upd H p (.lst ys)))\/
 (J.go i H/\∃N:List V->Hp->Prop,(∀ys' H',N ys' H'->∃m',m'<m/\W (i+1) m' ys' H')/\∀x H',J.yld i H x H'->g x (capS n ci σ) H' fun σ2 H2=>tf σ2 H2 fun b H3=>
  if b=true then te σ2 H3 fun v H4=>ys.length<sizeLine/\N (ys++[v]) H4 else N ys H3)):tComp wi n ci g tf te σ H Q:=h
theorem rd_yes{R:Bool->Hp->Prop}(h:R true H):tYes σ H R:=h
theorem QK{n:Nat}{ci:List Nat}{g:TG}{x:V}{σ':St}{R:St->Hp->Prop}(e:capS n ci σ=σ')(h:g x σ' H R):g x (capS n ci σ) H R:=by rw[e];exact h
theorem jD{t:TS}{σ':St}(e:σ=σ')(h:t D σ' H):t D σ H:=by subst e;exact h
theorem j4r{x y A B:Int}(h1 : -A<=x)(h2:x<=A)(h3 : -B<=y)(h4:y<=B) : -(A*B)<=x*y/\x*y<=A*B:=by
 have hx:x.natAbs<=A.toNat:=by omega
 have hy:y.natAbs<=B.toNat:=by omega
 have h:=Nat.mul_le_mul hx hy;rw[<-Int.natAbs_mul]at h;have e:((A.toNat*B.toNat:Nat):Int)=A*B:=by
  rw[Int.natCast_mul,Int.toNat_of_nonneg (by omega),Int.toNat_of_nonneg (by omega)]
 have h':((x*y).natAbs:Int)<=A*B:=by rw[<-e];exact Int.ofNat_le.mpr h
 omega
theorem j3O{H H':Hp}{p:Addr}{o:HO}(h:H p=none)(e:upd H p o=H'):Same H H':=fun b u q=>by rw[<-e,jq (ji q h)];exact q
theorem WS{H H':Hp}{p:Addr}{o:HO}(e:upd H p o=H'):H' p=some o:=by rw[<-e];exact jn
end
theorem ixLm{K:Frg}{p:Addr}{xs:List V}{i:Int}{v:V}{H:Hp}{Q:VK}(h:SqL K H p xs)(e:atI xs i=some v)(q:Q v H):rIxL K (.ref p) (.int i) H Q:=⟨p,xs,i,v,rfl,rfl,h,e,q⟩
theorem ixTm{K:Frg}{p:Addr}{xs:List V}{i:Int}{v:V}{H:Hp}{Q:VK}(h:SqT K H p xs)(e:atI xs i=some v)(q:Q v H):rIxT K (.ref p) (.int i) H Q:=⟨p,xs,i,v,rfl,rfl,h,e,q⟩
end L2
local macro_rules | `(tactic| walk_at "side") => `(tactic| first | with_reducible assumption | exact L2.cdivB (by omega) (by omega) | exact L2.mulOk (by omega) (by omega) (by omega) (by omega) | exact L2.mulOkC (by first | assumption | exact L2.bits_ediv (by assumption) _) (by omega) (by omega) | omega)
local macro_rules | `(tactic| walk_at $s:str) => do
 let ws:=s.getString.splitOn " "
 if ws.head?==some "f" then
  let vs:=if ws.length==3 then["p"++ws.getD 1 "","hp"++ws.getD 1 "","H"++ws.getD 1 "","s"++ws.getD 1 "",ws.getD 2 ""++ws.getD 1 ""]else ws.drop 1
  let i:=fun(k:Nat)=>Lean.mkIdent (Lean.Name.mkSimple (vs.getD k ""))
  return <-`(tactic| (intro $(i 0):ident $(i 1):ident;generalize eH:L2.upd _ $(i 0) _ = $(i 2):ident;have $(i 3):ident:=L2.j3O $(i 1) eH;have $(i 4):ident:=L2.WS eH;clear eH))
 let ns:=match s.getString with | "goA"=>"rd_seq rd_asg rd_op rd_const rd_i0 rd_cons rd_nil rd_call rd_ret rd_if rd_test rd_tB rd_blP rd_not rd_next" | "goB"=>"rd_and rd_or rd_andV rd_notV rd_ifE rd_retN rd_drop rd_cb rd_lst rd_tup rd_chain rd_bm rd_sl rd_nopart rd_part rd_eqI rd_neI rd_eqS rd_neS rd_iStr rd_str rd_int rd_rng1 rd_rng2 rd_iList rd_for rd_comp rd_yes rd_dget rd_prC rd_prN rd_iTup rd_sub rd_iEnum rd_dnew rd_dput rd_lz rd_dIn rd_iZipT rd_iEnum1" | "goP"=>"rd_p18 rd_p20 rd_p60 rd_p64" | "goV"=>"rd_v0 rd_v1 rd_v2 rd_v3 rd_v4 rd_v5 rd_v6 rd_v7 rd_v8 rd_v9" | "goN"=>"rd_n0 rd_n1 rd_n2 rd_n3 rd_n4 rd_n5 rd_n6 rd_n7 rd_n8 rd_n9" | _=>""
 if ns == "" then Lean.Macro.throwUnsupported
 let as <-(ns.splitOn " ").toArray.mapM fun n=>`(Lean.Parser.Tactic.tacticSeq| refine $(Lean.mkIdent (Lean.Name.mkStr2 "L2" n)) ?_)
 `(tactic| with_reducible (first $[| $as]*))
local macro_rules | `(tactic| walk_at "go1") => `(tactic| first | walk_at "goA" | walk_at "goV" | walk_at "goB" | walk_at "goN" | walk_at "goP" | (with_reducible refine L2.j5e ?c ?_; (case c => ((try dsimp only); walk_at "side"))))
local macro_rules | `(tactic| walk_at "g") => `(tactic| repeat walk_at "go1")
local macro_rules | `(tactic| exists $e) => `(tactic| (walk_at "g"; refine $e))
namespace Pr
open PySem L2
noncomputable def cell(ns:List Int)(k:Int):Int:=ns.getD k.toNat 0
inductive sp_cell_at(K:Frg)(vs:List V)(H:Hp)(Q:VK)(xk:XK):Prop
 | mk (a:Addr) (ns:List Int) (k:Int) (_:vs=[.ref a,.int k]) (_:SqL K H a (ns.map V.int)) (_:ns.length<=63) (_:0<=k) (_:Q (.int (cell ns k)) H):sp_cell_at K vs H Q xk
theorem jJ{ns:List Int}{k:Int}(h0:0<=k)(h:k<(ns.length:Int)):atI (ns.map V.int) k=some (.int (cell ns k)):=by
 have ek:k=((k.toNat:Nat):Int):=by omega
 have hk:k.toNat<ns.length:=by omega
 have q:atI (ns.map V.int) ((k.toNat:Nat):Int)=some (.int ns[k.toNat]):=jB (by rw[List.getElem?_map,List.getElem?_eq_getElem hk]<;>rfl);rw[<-ek]at q;rw[q];unfold cell;rw[getD_eq_getElem?_getD,List.getElem?_eq_getElem hk];rfl
end Pr
namespace Pr
open PySem L2
inductive sp_law(K:Frg)(vs:List V)(H:Hp)(Q:VK)(xk:XK):Prop
 | mk (a:Addr) (ns:List Int) (_:vs=[.ref a]) (_:SqL K H a (ns.map V.int)) (_:ns.length<=63) (_:(∀x∈ns,Builtin.Int.intBits x<=1048576)) (_:∀H',Q (.bl true) H'):sp_law K vs H Q xk
end Pr
namespace Pr
open PySem L2
theorem j3e{ns:List Int}{lo hi:Option Int}{x:V}(h:x∈cutV (ns.map V.int) lo hi):∃c∈ns,x = .int c:=by
 have h1:x∈ns.map V.int:=mem_of_mem_drop (mem_of_mem_take h);obtain⟨c,hc,e⟩:=mem_map.mp h1;exact⟨c,hc,e.symm⟩
end Pr
namespace Pr
open PySem L2
theorem jE{H:Hp}{p:Addr}(h:H p=none)(o:HO):Same H (upd H p o):=fun b u q=>by rw[jq (ji q h)];exact q
end Pr
namespace Pr
open PySem L2
theorem ZW{ns:List Int}{k:Int}(_h0:0<=k)(h:k<(ns.length:Int)):ns[k.toNat]?=some (cell ns k):=by
 have hk:k.toNat<ns.length:=by omega
 unfold cell;rw[getD_eq_getElem?_getD,List.getElem?_eq_getElem hk];rfl
theorem j1U{ns:List Int}{m:Int}(h0:0<=m)(h:m<=(ns.length:Int)):cutV (ns.map V.int) none (some m)=(ns.take m.toNat).map V.int:=by
 unfold cutV;rw[map_take];have e1:HT.sIx (ns.map V.int).length 0 none=0:=rfl;have e2:HT.sIx (ns.map V.int).length (ns.map V.int).length (some m)=m.toNat:=by
  show(if m<0 then _ else min m.toNat _)=_;rw[if_neg (by omega),length_map];omega
 rw[e1,e2];simp
end Pr
namespace Ws
open PySem PySem.NumText L2
noncomputable def digs:List Nat:=[48,49,50,51,52,53,54,55,56,57]
noncomputable def figs:Str:="0123456789"
noncomputable def lets:Str:="abcdefghijklmnopqrstuvwxyz"
theorem wX:figs.cps.toList=digs:=by decide +kernel
theorem kS{c:Nat}:c∈digs↔48<=c/\c<=57:=by
 unfold digs;simp only[mem_cons,not_mem_nil,or_false];omega
noncomputable def among(x z:Str):Bool:=decide (∀c∈x.cps.toList,c∈z.cps.toList)
noncomputable def isW(x:Str):Bool:=decide (1<=x.length/\x.length<=8)&&among x lets
noncomputable def numV(x:Str)(m:Int):V:=if(1<=x.length/\(x.length:Int)<=m)/\among x figs=true/\¬(x.cps.toList.head?=some 48/\x.length≠1)then .int (digitsVal x.cps.toList:Nat)else .non
theorem j3o(x:Str)(m:Int):numV x m = .non\/∃i,numV x m = .int i:=by
 unfold numV;split
 ·exact .inr ⟨_,rfl⟩
 ·exact .inl rfl
theorem QG(x:Str):x.cps.toList.length=x.length:=Array.length_toList
theorem Q9{x:Str}(h:among x figs=true):AllDigits x.cps.toList:=fun c hc=>by
 have h':=of_decide_eq_true h c hc;rw[wX]at h';exact kS.mp h'
theorem intText{x:Str}(h:among x figs=true)(h1:1<=x.length)(h2:x.length<=200):intText? x=some ((digitsVal x.cps.toList:Nat):Int):=
 intText_digits (Q9 h) (fun e=>by have:=QG x;rw[e]at this;simp at this;omega) (by omega)
theorem j34{c:Nat}(h:48<=c/\c<=57):Txt.find figs ⟨#[c]⟩=((c-48:Nat):Int):=by
 rcases(by omega:c=48\/c=49\/c=50\/c=51\/c=52\/c=53\/c=54\/c=55\/c=56\/c=57)with e | e | e | e | e | e | e | e | e | e<;>subst e<;>decide +kernel
theorem j22{c:Nat}(h:¬(48<=c/\c<=57)):Txt.find figs ⟨#[c]⟩ = -1:=by
 have e:=StrLaws.found_one figs c;rw[decide_eq_false (by rw[wX,kS];exact h)]at e;unfold Txt.find;cases q:Builtin.Str.occurrences figs ⟨#[c]⟩ 0 figs.length 1 with
 | nil=>rfl
 | cons i r=>rw[q]at e;cases e
def ZD:Sp:=fun vs H Q _=>∃x z:Str,vs=[.str x,.str z]/\x.length<=200/\∀H',Same H H'->Q (.bl (among x z)) H'
def qt:Sp:=fun vs H Q _=>∃x:Str,vs=[.str x]/\x.length<=200/\∀H',Same H H'->Q (.bl (isW x)) H'
inductive sp_number_of(vs:List V)(H:Hp)(Q:VK)(xk:XK):Prop
 | mk (x:Str) (m:Int) (_:vs=[.str x,.int m]) (_:x.length<=200) (_:∀H',Same H H'->Q (numV x m) H'):sp_number_of vs H Q xk
def yn:Sp:=fun vs H Q _=>∃c m:Int,vs=[.int c,.int m]/\0<=m/\m<=100/\
 ∀(p:Addr) (ns:List Int) (H':Hp),Same H H'->H p=none->H' p=some (.lst (ns.map V.int))->(ns.length:Int)=m->(∀n∈ns,0<=n/\n<33554432)->Q (.ref p) H'
theorem Yp{H H':Hp}{p:Addr}{o:HO}(h:Same H H')(hp:H p=none):Same H (upd H' p o):=fun b u q=>by
 rw[jq (ji q hp)];exact h b u q
end Ws
namespace Ws
open PySem PySem.NumText L2
theorem Wi{x:Str}{m:Int}(h:¬((1<=x.length/\(x.length:Int)<=m)/\among x figs=true/\¬(x.cps.toList.head?=some 48/\x.length≠1))):numV x m = .non:=by unfold numV;rw[if_neg h]
theorem xz{x:Str}{m:Int}(h:(1<=x.length/\(x.length:Int)<=m)/\among x figs=true/\¬(x.cps.toList.head?=some 48/\x.length≠1)):numV x m = .int (digitsVal x.cps.toList:Nat):=by unfold numV;rw[if_pos h]
theorem j0s{x:Str}(h:1<=x.length):∃c r,x.cps.toList=c::r/\atI x.cps.toList 0=some c:=by
 have hl:=QG x;cases e:x.cps.toList with
 | nil=>rw[e]at hl;simp at hl;omega
 | cons c r=>exact⟨c,r,rfl,by unfold atI ixN;simp⟩
theorem ku{c:Nat}:(⟨#[c]⟩:Str) = "0"↔c=48:=by
 constructor
 ·intro h;have e:(⟨#[c]⟩:Str)=⟨#[48]⟩:=h.trans (by decide +kernel);injection e with e;simpa using e
 ·intro h;subst h;decide +kernel
theorem j0I{x:Str}(h:x.cps.toList.head?=some 48):x = "0"↔x.length=1:=by
 have hl:=QG x;constructor
 ·intro e;subst e;decide +kernel
 ·intro e;have e1:x.cps.toList=[48]:=by
   cases q:x.cps.toList with
   | nil=>rw[q]at h;cases h
   | cons c r=>
    rw[q]at h hl;have:r.length=0:=by simp at hl;omega
    rw[List.length_eq_zero_iff.mp this];have hc:c=48:=Option.some.inj h;rw[hc]
  have e2:x=⟨#[48]⟩:=by
   cases x with
   | mk a=>
    congr 1;exact Array.toList_inj.mp e1
  rw[e2];decide +kernel
theorem W3{x:Str}:x = ""↔x.length=0:=by
 constructor
 ·intro e;subst e;decide +kernel
 ·intro e;have e2:x=⟨#[]⟩:=by
   cases x with
   | mk a=>
    congr 1;exact Array.eq_empty_of_size_eq_zero e
  rw[e2];decide +kernel
end Ws
namespace Ws
open PySem L2
theorem xU:∀(l:List Str),(∀z∈l,z.length=1)->(l.map (·.length)).sum=l.length
 | [],_=>rfl
 | a::r,h=>by
  rw[map_cons,sum_cons,xU r fun z hz=>h z (mem_cons_of_mem _ hz),h a mem_cons_self,length_cons];omega
end Ws
namespace Rm
open PySem PySem.NumText PyProof.Rows L2
def Zf:Sp:=fun vs H Q _=>∃c m:Int,vs=[.int c,.int m]/\0<=m/\m<=100/\∀r:Int,Q (.int r) H
def ym:Sp:=fun vs H Q _=>∃c m l:Int,vs=[.int c,.int m,.int l]/\0<=m/\m<33554432/\0<=l/\l<=1/\∀r:Int,l<=r->r<=10^18->Q (.int r) H
theorem to19{P:Int->Prop}(h:∀k:Nat,k<19->P k){n:Int}(h0:0<=n)(h1:n<19):P n:=by
 have e:=h n.toNat (by omega);rw[Int.toNat_of_nonneg h0]at e;exact e
theorem mulOk0{n:Int}(h0:0<=n)(h1:n<19):MulOk "0" n:=mulOk_of 16 1048576 (by decide +kernel) (by omega) (by omega) (by decide) (by decide)
theorem j2H{n:Int}(h0:0<=n)(h1:n<19):(Str.ofString "1").length+(Txt.mul "0" n).length<=sizeLine:=by
 refine to19 (P:=fun n=>(Str.ofString "1").length+(Txt.mul "0" n).length<=sizeLine) ?_ h0 h1;decide +kernel
theorem j1A{n:Int}(h0:0<=n)(h1:n<19):(Str.ofString "1"++Txt.mul "0" n).length<=640:=by
 refine to19 (P:=fun n=>(Str.ofString "1"++Txt.mul "0" n).length<=640) ?_ h0 h1;decide +kernel
theorem tens{n:Int}(h0:0<=n)(h1:n<19):intText? (Str.ofString "1"++Txt.mul "0" n)=some ((10:Int)^n.toNat):=by
 refine to19 (P:=fun n=>intText? (Str.ofString "1"++Txt.mul "0" n)=some ((10:Int)^n.toNat)) ?_ h0 h1;decide +kernel
def xS:Sp:=fun vs H Q _=>∃c:Int,vs=[.int c,.int 68]/\∀(p:Addr) (ws:List Str) (H':Hp),Same H H'->H p=none->H' p=some (.lst (ws.map V.str))->ws.length=68->ws.Nodup->(∀x∈ws,Ws.isW x=true)->Q (.ref p) H'
theorem cutTo{x:Str}{j:Int}(h0:0<=j)(h:j<=(x.length:Int)):(Txt.slice x none (some j)).cps.toList=x.cps.toList.take j.toNat:=by
 have e:Txt.slice x none (some j)=⟨((x.cps.toList.drop 0).take (j-0).toNat).toArray⟩:=StrLaws.sliceText_to ⟨h0,by rw[Ws.QG];exact h⟩;rw[e];simp
theorem cutFrom{x:Str}{i:Int}(h0:0<=i)(h:i<=(x.length:Int)):(Txt.slice x (some i) none).cps.toList=x.cps.toList.drop i.toNat:=by
 have e:Txt.slice x (some i) none=⟨((x.cps.toList.drop i.toNat).take ((x.cps.toList.length:Int)-i).toNat).toArray⟩:=StrLaws.sliceText_from ⟨h0,by rw[Ws.QG];exact h⟩;rw[e];show List.take _ _=_;rw[take_of_length_le];rw[length_drop];omega
theorem app_list(a y:Str):(a++y).cps.toList=a.cps.toList++y.cps.toList:=by rw[Str.cps_append,Array.toList_append]
theorem kT{c:Nat}:c∈Ws.lets.cps.toList↔97<=c/\c<=122:=by
 rw[show Ws.lets.cps.toList=List.range' 97 26 by decide +kernel,List.mem_range'_1];omega
theorem YO{i:Int}(h0:0<=i)(h1:i<26):atI (Str.ofString "abcdefghijklmnopqrstuvwxyz").cps.toList i=some (97+i.toNat):=by
 have h:∀k:Nat,k<26->atI (Str.ofString "abcdefghijklmnopqrstuvwxyz").cps.toList (k:Int)=some (97+(k:Int).toNat):=by decide +kernel
 have e:=h i.toNat (by omega);rw[Int.toNat_of_nonneg h0]at e;exact e
noncomputable def nmL(way:Int)(b:List Nat)(a k:Nat):List Nat:=
 if way=0 then b.take a++[97+k/26,97+k%26]++b.drop a else if way=1 then[97+k/26,97+k%26]++b.take (k%(b.length+1))else if k<26 then[97+k%26]else[97+k/26,97+k%26]
theorem j3j{way:Int}{b:List Nat}{a j k:Nat}(hj:j<68)(hk:k<68)(h:nmL way b a j=nmL way b a k):j=k:=by
 unfold nmL at h;split at h
 ·rw[List.append_assoc,List.append_assoc]at h;have h':=List.append_cancel_left h;simp only[cons_append,List.cons.injEq]at h';omega
 ·split at h
  ·simp only[cons_append,List.cons.injEq]at h;omega
  ·split at h<;>split at h<;>simp only[List.cons.injEq,reduceCtorEq,and_true,and_false,false_and]at h<;>omega
theorem j3k{way:Int}{b:List Nat}{a k:Nat}(hb:∀c∈b,97<=c/\c<=122)(hk:k<68){c:Nat}(h:c∈nmL way b a k):97<=c/\c<=122:=by
 unfold nmL at h;have t1:∀c∈[97+k/26,97+k%26],97<=c/\c<=122:=fun c hc=>by
  simp only[mem_cons,not_mem_nil,or_false]at hc;omega
 split at h
 ·rcases mem_append.mp h with h | h
  ·rcases mem_append.mp h with h | h
   ·exact hb c (mem_of_mem_take h)
   ·exact t1 c h
  ·exact hb c (mem_of_mem_drop h)
 ·split at h
  ·rcases mem_append.mp h with h | h
   ·exact t1 c h
   ·exact hb c (mem_of_mem_take h)
  ·split at h
   ·exact t1 c (mem_cons_of_mem _ h)
   ·exact t1 c h
theorem j0y{way:Int}{b:List Nat}{a k:Nat}(hb:b.length<=6):1<=(nmL way b a k).length/\(nmL way b a k).length<=8:=by
 unfold nmL;split
 ·simp only[List.length_append,length_take,length_drop,length_cons,length_nil];omega
 ·split
  ·simp only[List.length_append,length_take,length_cons,length_nil];omega
  ·split<;>simp
theorem j4h{x:Str}(h1:1<=x.cps.toList.length)(h2:x.cps.toList.length<=8)(h:∀c∈x.cps.toList,97<=c/\c<=122):Ws.isW x=true:=by
 rw[Ws.QG]at h1 h2;unfold Ws.isW Ws.among;rw[decide_eq_true ⟨h1,h2⟩,Bool.true_and];exact decide_eq_true fun c hc=>kT.mpr (h c hc)
theorem XG{way:Int}{b:List Nat}{a:Nat}{ws:List Str}(hb:∀c∈b,97<=c/\c<=122)(hl:b.length<=6)(hw:ws.length=68)(h:∀j,j<68->(ws[j]?).map (·.cps.toList)=some (nmL way b a j)) :
  ws.Nodup/\∀x∈ws,Ws.isW x=true:=by
 have h':∀j (hj:j<ws.length),ws[j].cps.toList=nmL way b a j:=fun j hj=>by
  have e:=h j (by omega);rw[List.getElem?_eq_getElem hj]at e;exact Option.some.inj e
 constructor
 ·refine List.pairwise_iff_getElem.mpr fun i j hi hj hij e=>?_
  have e1:=h' i hi;rw[e,h' j hj]at e1;have:=j3j (by omega) (by omega) e1;omega
 ·intro x hx;obtain⟨j,hj,rfl⟩:=mem_iff_getElem.mp hx;have e:=h' j hj;refine j4h ?_ ?_ ?_<;>rw[e]
  ·exact(j0y hl).1
  ·exact(j0y hl).2
  ·exact fun c hc=>j3k hb (by omega) hc
theorem join_list:∀(zs:List Str),(Txt.join (Str.ofString "") zs).cps.toList=(zs.map (·.cps.toList)).flatten:=by
 intro zs;show(Builtin.Str.glued (Str.ofString "") zs).cps.toList=_;rw[StrLaws.glued_eq_join]
 induction zs with
 | nil=>rfl
 | cons a r ih=>
  cases r with
  | nil=>show a.cps.toList=a.cps.toList++[];rw[append_nil]
  | cons b r=>
   show(a++Str.ofString ""++Str.join (Str.ofString "") (b::r)).cps.toList=_;rw[app_list,app_list,ih,show(Str.ofString "").cps.toList=[] by decide +kernel,append_nil];rfl
theorem j0M{zs:List Str}(h:∀z∈zs,∃c,z=⟨#[c]⟩/\97<=c/\c<=122):(Txt.join (Str.ofString "") zs).length=zs.length/\∀c∈(Txt.join (Str.ofString "") zs).cps.toList,97<=c/\c<=122:=by
 refine⟨PySem.W.KT.join_ones zs fun z hz=>by obtain⟨c,rfl,_⟩:=h z hz;rfl,fun c hc=>?_⟩;rw[join_list]at hc;obtain⟨l,hl,hc⟩:=List.mem_flatten.mp hc;obtain⟨z,hz,rfl⟩:=mem_map.mp hl;obtain⟨d,rfl,h1,h2⟩:=h z hz;have e:c=d:=by simpa using hc
 omega
theorem j3m{way:Int}{b:List Nat}{a i:Nat}{ws:List Str}{x:Str}(hw:ws.length=i)(h:∀j,j<i->(ws[j]?).map (·.cps.toList)=some (nmL way b a j))(hx:x.cps.toList=nmL way b a i) :
  ∀j,j<i+1->((ws++[x])[j]?).map (·.cps.toList)=some (nmL way b a j):=fun j hj=>by
 by_cases e:j<i
 ·rw[List.getElem?_append_left (by omega)];exact h j e
 ·have e2:j=i:=by omega
  subst e2;rw[List.getElem?_append_right (by omega),hw,Nat.sub_self];exact congrArg some hx
open PySem L2
theorem none_of{H H':Hp}{p:Addr}(s:Same H H')(h:H' p=none):H p=none:=by
 cases e:H p with
 | none=>rfl
 | some u=>rw[s _ _ e]at h;cases h
inductive Fm where
 | hold (n:Int) | ring (x:Str) (n:Int) | rise (x:Str) (h n:Int) | row (ps:List Str) | side (ps:List Str) | again (k:Int) (x:Str)
structure Rr where
 names:List Str
 limbs:List (Str×Int)
 parts:List (Str×Fm)
 hands:List (List Int)
 longs:List Int
noncomputable def Rr.add(m:Rr)(f:Fm)(ks:List Int)(g:Int):Rr:={m with parts:=m.parts++[(m.names.getD m.parts.length ⟨#[]⟩,f)],hands:=m.hands++[ks],longs:=m.longs++[g]}
noncomputable def FormAt(H:Hp)(a:Addr):Fm->Prop
 | .hold n=>H a=some (.tup [.str "hold",.int n])
 | .ring x n=>H a=some (.tup [.str "ring",.str x,.int n])
 | .rise x h n=>H a=some (.tup [.str "raise",.str x,.int h,.int n])
 | .row ps=>∃b,H a=some (.tup [.str "row",.ref b])/\H b=some (.tup (ps.map V.str))
 | .side ps=>∃b,H a=some (.tup [.str "side",.ref b])/\H b=some (.tup (ps.map V.str))
 | .again k x=>H a=some (.tup [.str "again",.int k,.str x])
def PartAt(H:Hp)(a:Addr)(p:Str×Fm):Prop:=∃b,H a=some (.tup [.str p.1,.ref b])/\FormAt H b p.2
def LimbAt(H:Hp)(a:Addr)(p:Str×Int):Prop:=H a=some (.tup [.str p.1,.int p.2])
def All2{α:Type}(R:Addr->α->Prop)(as:List Addr)(xs:List α):Prop:=as.length=xs.length/\∀(i:Nat) (a:Addr) (x:α),as[i]?=some a->xs[i]?=some x->R a x
theorem All2.nil{α:Type}{R:Addr->α->Prop}:All2 R [] []:=⟨rfl,fun i a x h=>by simp at h⟩
theorem All2.mono{α:Type}{R S:Addr->α->Prop}{as:List Addr}{xs:List α}(h:All2 R as xs)(k:∀a x,R a x->S a x):All2 S as xs:=⟨h.1,fun i a x h1 h2=>k a x (h.2 i a x h1 h2)⟩
theorem All2.snoc{α:Type}{R:Addr->α->Prop}{as:List Addr}{xs:List α}{a:Addr}{x:α}(h:All2 R as xs)(hx:R a x):All2 R (as++[a]) (xs++[x]):=by
 have hl:=h.1;refine⟨by simp[hl],fun i b y h1 h2=>?_⟩;by_cases hi:i<as.length
 ·rw[List.getElem?_append_left hi]at h1;rw[List.getElem?_append_left (by omega)]at h2;exact h.2 i b y h1 h2
 ·rw[List.getElem?_append_right (by omega)]at h1;rw[List.getElem?_append_right (by omega)]at h2;have e:i-as.length=0:=by
   have:=(List.getElem?_eq_some_iff.mp h1).1;simp at this;omega
  rw[e]at h1;rw[show i-xs.length=0 by omega]at h2;simp at h1 h2;subst h1 h2;exact hx
theorem All2.get{α:Type}{R:Addr->α->Prop}{as:List Addr}{xs:List α}{i:Nat}{x:α}(h:All2 R as xs)(hx:xs[i]?=some x):∃a,as[i]?=some a/\R a x:=by
 have hi:=(List.getElem?_eq_some_iff.mp hx).1;have hl:=h.1;have ha:as[i]?=some as[i]:=List.getElem?_eq_getElem (by omega);exact⟨_,ha,h.2 i _ _ ha hx⟩
structure Ra where
 r:Addr
 pn:Addr
 pl:Addr
 pp:Addr
 ph:Addr
 pg:Addr
def Ra.off(z:Ra)(a:Addr):Prop:=a≠z.pp/\a≠z.ph/\a≠z.pg
def HandAt(z:Ra)(H:Hp)(a:Addr)(ks:List Int):Prop:=H a=some (.lst (ks.map V.int))/\z.off a
structure RoomAt(H:Hp)(z:Ra)(m:Rr):Prop where
 d:H z.r=some (.dK [(Sum.inr "names",.ref z.pn),(Sum.inr "limbs",.ref z.pl),(Sum.inr "parts",.ref z.pp),(Sum.inr "hands",.ref z.ph),(Sum.inr "long",.ref z.pg)])
 n:H z.pn=some (.lst (m.names.map V.str))
 l:∃ls,H z.pl=some (.lst (ls.map V.ref))/\All2 (LimbAt H) ls m.limbs
 p:∃qs,H z.pp=some (.lst (qs.map V.ref))/\All2 (PartAt H) qs m.parts
 h:∃hs,H z.ph=some (.lst (hs.map V.ref))/\All2 (HandAt z H) hs m.hands
 g:H z.pg=some (.lst (m.longs.map V.int))
 on:z.off z.pn
 ol:z.off z.pl
 ph:z.pp≠z.ph
 pg:z.pp≠z.pg
 hg:z.ph≠z.pg
def Kp(z:Ra)(H H':Hp):Prop:=∀b u,z.off b->H b=some u->H' b=some u
theorem Kp.refl(z:Ra)(H:Hp):Kp z H H:=fun _ _ _ h=>h
theorem Kp.trans{z:Ra}{H H1 H2:Hp}(a:Kp z H H1)(b:Kp z H1 H2):Kp z H H2:=fun c u o h=>b c u o (a c u o h)
theorem Kp.of{z:Ra}{H H':Hp}(s:Same H H'):Kp z H H':=fun b u _ h=>s b u h
section
variable{H H':Hp}{z:Ra}{m:Rr}
theorem QR(R:RoomAt H z m){a:Addr}{xs:List V}(h:H a=some (.tup xs)):z.off a:=by
 obtain⟨qs,e1,_⟩:=R.p;obtain⟨hs,e2,_⟩:=R.h;exact⟨qQ h e1 (fun z=>by cases z),qQ h e2 (fun z=>by cases z),qQ h R.g (fun z=>by cases z)⟩
theorem xA(R:RoomAt H z m):z.off z.r:=by
 obtain⟨qs,e1,_⟩:=R.p;obtain⟨hs,e2,_⟩:=R.h;exact⟨qQ R.d e1 (fun z=>by cases z),qQ R.d e2 (fun z=>by cases z),qQ R.d R.g (fun z=>by cases z)⟩
theorem Zs(R:RoomAt H z m){a:Addr}(h:H a=none):z.off a:=by
 obtain⟨qs,e1,_⟩:=R.p;obtain⟨hs,e2,_⟩:=R.h;refine⟨fun e=>?_,fun e=>?_,fun e=>?_⟩
 ·rw[e,e1]at h;cases h
 ·rw[e,e2]at h;cases h
 ·rw[e,R.g]at h;cases h
theorem FormAt.kp{a:Addr}{f:Fm}(R:RoomAt H z m)(k:Kp z H H')(h:FormAt H a f):FormAt H' a f:=by
 cases f with
 | row ps=>obtain⟨b,h1,h2⟩:=h;exact⟨b,k _ _ (QR R h1) h1,k _ _ (QR R h2) h2⟩
 | side ps=>obtain⟨b,h1,h2⟩:=h;exact⟨b,k _ _ (QR R h1) h1,k _ _ (QR R h2) h2⟩
 | hold n=>exact k _ _ (QR R h) h
 | ring x n=>exact k _ _ (QR R h) h
 | rise x g n=>exact k _ _ (QR R h) h
 | again x n=>exact k _ _ (QR R h) h
theorem PartAt.kp{a:Addr}{p:Str×Fm}(R:RoomAt H z m)(k:Kp z H H')(h:PartAt H a p):PartAt H' a p:=by
 obtain⟨b,h1,h2⟩:=h;exact⟨b,k _ _ (QR R h1) h1,FormAt.kp R k h2⟩
theorem RoomAt.keeps(R:RoomAt H z m)(s:Same H H'):RoomAt H' z m:=by
 have k:Kp z H H':=Kp.of s;obtain⟨ls,e1,a1⟩:=R.l;obtain⟨qs,e2,a2⟩:=R.p;obtain⟨hs,e3,a3⟩:=R.h;exact⟨s _ _ R.d,s _ _ R.n,⟨ls,s _ _ e1,a1.mono fun a x h=>s _ _ h⟩,⟨qs,s _ _ e2,a2.mono fun a x h=>PartAt.kp R k h⟩,⟨hs,s _ _ e3,a3.mono fun a x h=>⟨s _ _ h.1,h.2⟩⟩,s _ _ R.g,R.on,R.ol,R.ph,R.pg,R.hg⟩
theorem K8(R:RoomAt H z m):DGet H z.r (.str "names") (some (.ref z.pn)):=DGet.k (k:=Sum.inr "names") R.d
theorem YJ(R:RoomAt H z m):DGet H z.r (.str "limbs") (some (.ref z.pl)):=DGet.k (k:=Sum.inr "limbs") R.d
theorem qj(R:RoomAt H z m):DGet H z.r (.str "parts") (some (.ref z.pp)):=DGet.k (k:=Sum.inr "parts") R.d
theorem YI(R:RoomAt H z m):DGet H z.r (.str "hands") (some (.ref z.ph)):=DGet.k (k:=Sum.inr "hands") R.d
theorem j28(R:RoomAt H z m):DGet H z.r (.str "long") (some (.ref z.pg)):=DGet.k (k:=Sum.inr "long") R.d
end
inductive sp_add(vs:List V)(H:Hp)(Q:VK)(xk:XK):Prop
 | mk (z:Ra) (m:Rr) (fa ha:Addr) (f:Fm) (ks:List Int) (g:Int) (_:vs=[.ref z.r,.ref fa,.ref ha,.int g]) (_:RoomAt H z m) (_:FormAt H fa f) (_:HandAt z H ha ks) (_:m.parts.length<68) (_:m.hands.length<68) (_:m.longs.length<68) (_:m.names.length=68) (_:∀H',Kp z H H'->RoomAt H' z (m.add f ks g)->(∀hs:List Addr,H z.ph=some (.lst (hs.map V.ref))->H' z.ph=some (.lst ((hs++[ha]).map V.ref)))->Q .non H'):sp_add vs H Q xk
theorem j08{ws:List Str}{n:Nat}(h:n<ws.length):atI (ws.map V.str) (n:Int)=some (.str (ws.getD n ⟨#[]⟩)):=by
 refine jB ?_;rw[List.getElem?_map,getD_eq_getElem?_getD,List.getElem?_eq_getElem h];rfl
theorem j1H{H H':Hp}{z:Ra}{m:Rr}{f:Fm}{ks:List Int}{g:Int}{p ha:Addr}{qs hs:List Addr}(R:RoomAt H z m)(k:Kp z H H')
  (eq:H z.pp=some (.lst (qs.map V.ref))) (aq:All2 (PartAt H) qs m.parts) (eh:H z.ph=some (.lst (hs.map V.ref))) (ah:All2 (HandAt z H) hs m.hands)
  (hp:PartAt H p (m.names.getD m.parts.length ⟨#[]⟩,f)) (hh:HandAt z H ha ks)
  (e1:H' z.pp=some (.lst (qs.map V.ref++[.ref p]))) (e2:H' z.ph=some (.lst (hs.map V.ref++[.ref ha]))) (e3:H' z.pg=some (.lst (m.longs.map V.int++[.int g]))):RoomAt H' z (m.add f ks g):=by
 obtain⟨ls,e0,a0⟩:=R.l;refine⟨k _ _ (xA R) R.d,k _ _ R.on R.n,⟨ls,k _ _ R.ol e0,a0.mono fun a x h=>k _ _ (QR R h) h⟩,⟨qs++[p],?_,?_⟩,⟨hs++[ha],?_,?_⟩,?_,R.on,R.ol,R.ph,R.pg,R.hg⟩
 ·rw[e1,map_append];rfl
 ·exact(aq.mono fun a x h=>PartAt.kp R k h).snoc (PartAt.kp R k hp)
 ·rw[e2,map_append];rfl
 ·exact(ah.mono fun a x h=>⟨k _ _ h.2 h.1,h.2⟩).snoc ⟨k _ _ hh.2 hh.1,hh.2⟩
 ·rw[e3];show _=some (HO.lst ((m.longs++[g]).map V.int));rw[map_append];rfl
noncomputable def Rr.nm(m:Rr)(j:Nat):Str:=m.names.getD j ⟨#[]⟩
noncomputable def Rr.hd(m:Rr)(j:Nat):List Int:=m.hands.getD j []
noncomputable def Rr.lg(m:Rr)(j:Nat):Int:=m.longs.getD j 0
def Idx(m:Rr)(i:Nat)(is:List Nat)(ps:List Str):Prop:=ps=is.map m.nm/\∀j∈is,j<i
def KsOf(m:Rr)(is:List Nat)(ks:List Int):Prop:=∀k,k∈ks↔∃j∈is,k∈m.hd j
def Apart(m:Rr)(is:List Nat):Prop:=(∀j∈is,m.hd j≠[])/\is.Pairwise fun a b=>∀k∈m.hd a,¬k∈m.hd b
noncomputable def FmOk(m:Rr)(i:Nat):Fm->List Int->Int->Prop
 | .hold n,ks,g=>1<=n/\n<=10^18/\ks=[]/\g=n
 | .ring x n,ks,g=>x∈m.names/\1<=n/\n<=10^18/\ks=[]/\g=n
 | .rise x h n,ks,g=>(∃(j:Nat) (v:Int),m.limbs[j]?=some (x,v)/\ks=[(j:Int)])/\0<=h/\h<=10^18/\1<=n/\n<=10^18/\g=n
 | .row ps,ks,g=>∃is,Idx m i is ps/\1<=is.length/\is.length<=8/\KsOf m is ks/\g=(is.map m.lg).sum
 | .side ps,ks,g=>∃is,Idx m i is ps/\2<=is.length/\is.length<=4/\Apart m is/\KsOf m is ks/\(∃j∈is,g=m.lg j)/\∀j∈is,m.lg j<=g
 | .again k x,ks,g=>1<=k/\k<=10^18/\∃j,j<i/\x=m.nm j/\ks=m.hd j/\g=k*m.lg j
structure PartOk(m:Rr)(i:Nat)(f:Fm)(ks:List Int)(g:Int):Prop where
 f:FmOk m i f ks g
 k:∀k∈ks,0<=k/\k<(m.limbs.length:Int)
 o:ks.Pairwise (· < ·)
 g1:1<=g
 g2:g<=10^60
structure Good(m:Rr):Prop where
 nl:m.names.length=68
 nd:m.names.Nodup
 nw:∀x∈m.names,Ws.isW x=true
 l1:1<=m.limbs.length
 l8:m.limbs.length<=8
 ln:(m.limbs.map (·.1)).Nodup
 lm:∀p∈m.limbs,p.1∈m.names/\0<=p.2/\p.2<=10^18
 hl:m.hands.length=m.parts.length
 gl:m.longs.length=m.parts.length
 ps:∀i p,m.parts[i]?=some p->p.1=m.nm i/\PartOk m i p.2 (m.hd i) (m.lg i)
section
variable{m:Rr}{f:Fm}{ks:List Int}{g:Int}
theorem getD_snoc{α:Type}{l:List α}{x d:α}{j:Nat}(h:j<l.length):(l++[x]).getD j d=l.getD j d:=by
 rw[getD_eq_getElem?_getD,getD_eq_getElem?_getD,List.getElem?_append_left h]
theorem getD_last{α:Type}{l:List α}{x d:α}:(l++[x]).getD l.length d=x:=by
 rw[getD_eq_getElem?_getD,List.getElem?_append_right (Nat.le_refl _),Nat.sub_self];rfl
theorem yA{j:Nat}(h:j<m.hands.length):(m.add f ks g).hd j=m.hd j:=getD_snoc h
theorem kB{j:Nat}(h:j<m.longs.length):(m.add f ks g).lg j=m.lg j:=getD_snoc h
theorem FmOk.add{f':Fm}{ks':List Int}{g':Int}{i:Nat}(h1:i<=m.hands.length)(h2:i<=m.longs.length)(h:FmOk m i f' ks' g'):FmOk (m.add f ks g) i f' ks' g':=by
 have eh:∀is:List Nat,(∀j∈is,j<i)->KsOf m is ks'->KsOf (m.add f ks g) is ks':=fun is hi h k=>by
  rw[h k];constructor
  ·rintro⟨j,hj,hk⟩;exact⟨j,hj,by rw[yA (by have:=hi j hj;omega)];exact hk⟩
  ·rintro⟨j,hj,hk⟩;exact⟨j,hj,by rw[yA (by have:=hi j hj;omega)]at hk;exact hk⟩
 cases f' with
 | hold n=>exact h
 | ring x n=>exact h
 | rise x v n=>exact h
 | row ps=>
  obtain⟨is,a,b,c,d,e⟩:=h;refine⟨is,a,b,c,eh is a.2 d,e.trans ?_⟩;congr 1;exact map_congr_left fun j hj=>(kB (by have:=a.2 j hj;omega)).symm
 | side ps=>
  obtain⟨is,a,b,c,p,d,e1,e2⟩:=h;refine⟨is,a,b,c,⟨fun j hj=>?_,?_⟩,eh is a.2 d,?_,fun j hj=>?_⟩
  ·rw[yA (by have:=a.2 j hj;omega)];exact p.1 j hj
  ·refine List.Pairwise.imp_of_mem (fun {x y} hx hy hxy=>?_) p.2;rw[yA (by have:=a.2 x hx;omega),yA (by have:=a.2 y hy;omega)];exact hxy
  ·obtain⟨j,hj,e⟩:=e1;exact⟨j,hj,by rw[kB (by have:=a.2 j hj;omega)];exact e⟩
  ·rw[kB (by have:=a.2 j hj;omega)];exact e2 j hj
 | again k x=>
  obtain⟨a,b,j,hj,c,d,e⟩:=h;exact⟨a,b,j,hj,c,by rw[yA (by omega)];exact d,by rw[kB (by omega)];exact e⟩
theorem Good.add(G:Good m)(h:PartOk m m.parts.length f ks g):Good (m.add f ks g):=by
 refine⟨G.nl,G.nd,G.nw,G.l1,G.l8,G.ln,G.lm,?_,?_,fun i p hp=>?_⟩
 ·show(m.hands++[ks]).length=(m.parts++_).length;rw[List.length_append,List.length_append,G.hl];rfl
 ·show(m.longs++[g]).length=(m.parts++_).length;rw[List.length_append,List.length_append,G.gl];rfl
 ·have e1:=G.hl;have e2:=G.gl;by_cases hi:i<m.parts.length
  ·have hp':m.parts[i]?=some p:=by rw[<-hp];exact(List.getElem?_append_left hi).symm
   obtain⟨n,o⟩:=G.ps i p hp';rw[yA (by omega),kB (by omega)];exact⟨n,FmOk.add (by omega) (by omega) o.f,o.k,o.o,o.g1,o.g2⟩
  ·have hl:i=m.parts.length:=by
    have:=(List.getElem?_eq_some_iff.mp hp).1;have e:(m.add f ks g).parts.length=m.parts.length+1:=by show(m.parts++_).length=_;rw[List.length_append];rfl
    omega
   subst hl;have ep:p=(m.nm m.parts.length,f):=by
    have e:(m.add f ks g).parts[m.parts.length]?=some (m.nm m.parts.length,f):=by
     show(m.parts++[_])[m.parts.length]?=_;rw[List.getElem?_append_right (Nat.le_refl _),Nat.sub_self];rfl
    rw[hp]at e;exact Option.some.inj e
   have e3:(m.add f ks g).hd m.parts.length=ks:=by rw[<-G.hl];exact getD_last
   have e4:(m.add f ks g).lg m.parts.length=g:=by rw[<-G.gl];exact getD_last
   rw[ep,e3,e4];exact⟨rfl,FmOk.add (by omega) (by omega) h.f,h.k,h.o,h.g1,h.g2⟩
theorem yc:(m.add f ks g).parts.length=m.parts.length+1:=by show(m.parts++_).length=_;rw[List.length_append];rfl
end
def Big(ns:List Int):Prop:=∀n∈ns,0<=n/\n<33554432
theorem Big.cell{ns:List Int}(h:Big ns){k:Int}(h0:0<=k)(h1:k<(ns.length:Int)):0<=Pr.cell ns k/\Pr.cell ns k<33554432:=h _ (mem_of_getElem? (Pr.ZW h0 h1))
def More(z:Ra)(m:Rr)(H:Hp)(Q:VK):Prop:=∀m' H',Kp z H H'->RoomAt H' z m'->Good m'->m'.parts.length=m.parts.length+1->Q .non H'
inductive sp_simple(vs:List V)(H:Hp)(Q:VK)(xk:XK):Prop
 | mk (z:Ra) (m:Rr) (c:Int) (p:Addr) (ns:List Int) (_:vs=[.ref z.r,.int c,.ref p]) (_:RoomAt H z m) (_:Good m) (_:m.parts.length<65) (_:H p=some (.lst (ns.map V.int))) (_:z.off p) (_:4<=ns.length) (_:Big ns) (_:More z m H Q):sp_simple vs H Q xk
theorem WR{ws:List Str}{i:Int}(h0:0<=i)(h:i<(ws.length:Int)):atI (ws.map V.str) i=some (.str (ws.getD i.toNat ⟨#[]⟩)):=by
 have e:=j08 (ws:=ws) (n:=i.toNat) (by omega);rw[Int.toNat_of_nonneg h0]at e;exact e
theorem getD_in{ws:List Str}{n:Nat}(h:n<ws.length):ws.getD n ⟨#[]⟩∈ws:=by
 rw[getD_eq_getElem?_getD,List.getElem?_eq_getElem h];exact List.getElem_mem h
theorem yR{as:List Addr}{i:Int}{a:Addr}(h0:0<=i)(h:as[i.toNat]?=some a):atI (as.map V.ref) i=some (.ref a):=by
 have e:atI (as.map V.ref) ((i.toNat:Nat):Int)=some (.ref a):=jB (by rw[List.getElem?_map,h];rfl);rw[Int.toNat_of_nonneg h0]at e;exact e
open PySem PySem.Spec PyProof.Rows L2
inductive sp_there(vs:List V)(H:Hp)(Q:VK)(xk:XK):Prop
 | mk (z:Ra) (m:Rr) (n:Int) (_:vs=[.ref z.r,.int n]) (_:RoomAt H z m) (_:0<m.parts.length) (_:0<=n) (_:∀i:Nat,i<m.parts.length->Q (.int i) H):sp_there vs H Q xk
theorem j0t{k:Nat}{H:Hp}{Q:VK}(q:∀i:Nat,i<k->Q (.int i) H){x:Int}(h0:0<=x)(h1:x<k):Q (.int x) H:=by
 have e:=q x.toNat (by omega);rw[Int.toNat_of_nonneg h0]at e;exact e
noncomputable def vN(j:Nat):V:=.int j
inductive sp_apart(vs:List V)(H:Hp)(Q:VK)(xk:XK):Prop
 | mk (z:Ra) (m:Rr) (p:Addr) (ns:List Int) (_:vs=[.ref z.r,.ref p]) (_:RoomAt H z m) (_:Good m) (_:0<m.parts.length) (_:m.parts.length<65) (_:H p=some (.lst (ns.map V.int))) (_:6<=ns.length) (_:Big ns) (_:∀(l:Addr) (is:List Nat) (H':Hp),Same H H'->H l=none->H' l=some (.lst (is.map vN))->is.length<=4->(∀j∈is,j<m.parts.length)->Apart m is->Q (.ref l) H'):sp_apart vs H Q xk
theorem wd:∀{ks:List Int} {lo hi:Int},ks.Pairwise (· < ·)->(∀k∈ks,lo<=k/\k<hi)->ks.length<=(hi-lo).toNat
 | [],_,_,_,_=>Nat.zero_le _
 | k::r,lo,hi,h,b=>by
  have h1:=wd (ks:=r) (lo:=k+1) (hi:=hi) (List.pairwise_cons.mp h).2 fun x hx=>⟨(List.pairwise_cons.mp h).1 x hx,(b x (mem_cons_of_mem _ hx)).2⟩
  have h2:=b k mem_cons_self;rw[length_cons];omega
theorem j2a{m:Rr}(G:Good m){j:Nat}(h:j<m.parts.length):(m.hd j).length<=8:=by
 obtain⟨_,o⟩:=G.ps j _ (List.getElem?_eq_getElem h);have e:=wd o.o o.k;have:=G.l8;omega
theorem j0h{H:Hp}:∀(ks:List Int),DVs H (ks.map V.int) (ks.map PyData.int)
 | []=>.nil
 | k::r=>.cons (.int k) (j0h r)
theorem j40{H:Hp}{a:Addr}{ks:List Int}(h:H a=some (.lst (ks.map V.int))):DV H (.ref a) (.list (ks.map PyData.int)):=.lst h (j0h ks)
theorem j4d{H:Hp}{a:Addr}(h:H a=some (.lst [])):DV H (.ref a) (.list []):=.lst h .nil
theorem j41(ks:List Int):PyData.eqv (.list (ks.map PyData.int)) (.list [])=decide (ks=[]):=by
 cases ks<;>simp[PyData.eqv,PyData.eqvAll]
theorem shp(ks:List Int):SeqAt.shaped (.list (ks.map PyData.int))=true:=PySem.W.ke_shaped_ints ks
theorem shp0:SeqAt.shaped (.list [])=true:=PySem.W.ke_shaped_ints []
theorem wZ{H:Hp}{z:Ra}{m:Rr}(R:RoomAt H z m)(G:Good m){j:Nat}(hj:j<m.parts.length){hs:List Addr}(eh:H z.ph=some (.lst (hs.map V.ref))):∃a,hs[j]?=some a/\H a=some (.lst ((m.hd j).map V.int))/\z.off a:=by
 obtain⟨hs',eh',ah⟩:=R.h;have e:hs'=hs:=by
  rw[eh]at eh';injection eh' with e;injection e with e;exact(List.map_inj_right (fun x y h=>by injection h)).mp e.symm
 subst e;have hl:=G.hl;obtain⟨a,ha,h1,h2⟩:=ah.get (i:=j) (x:=m.hd j) (by unfold Rr.hd;rw[getD_eq_getElem?_getD,List.getElem?_eq_getElem (by omega)];rfl);exact⟨a,ha,h1,h2⟩
theorem Apart.snoc{m:Rr}{is:List Nat}{j:Nat}{hs:List Int}(h:Apart m is)(hh:∀i∈is,∀k∈m.hd i,k∈hs)(h1:m.hd j≠[])(h2:∀k∈m.hd j,¬k∈hs):Apart m (is++[j]):=by
 refine⟨fun i hi=>?_,List.pairwise_append.mpr ⟨h.2,List.pairwise_singleton _ _,fun a ha b hb k hk hk'=>?_⟩⟩
 ·rcases mem_append.mp hi with e | e
  ·exact h.1 i e
  ·have e':i=j:=by simpa using e
   rw[e'];exact h1
 ·have e:b=j:=by simpa using hb
  subst e;exact h2 k hk' (hh a ha k hk)
theorem w4(n:Int):∀hs:List Int,inV (.int n) (hs.map V.int)=decide (n∈hs)
 | []=>rfl
 | h::r=>by
  have ih:=w4 n r;unfold inV at ih|-;rw[map_cons,any_cons,ih];have e:eqV (.int h) (.int n)=decide (h=n):=by
   show decide _=_;simp
  rw[e,Bool.eq_iff_iff];simp only[Bool.or_eq_true,decide_eq_true_eq,mem_cons];constructor
  ·rintro(x | x)
   ·exact .inl x.symm
   ·exact .inr x
  ·rintro(x | x)
   ·exact .inl x.symm
   ·exact .inr x
theorem inI(n:Int)(hs:List Int):(if false=true then !inV (.int n) (hs.map V.int)else inV (.int n) (hs.map V.int))=decide (n∈hs):=by rw[if_neg (by decide),w4]
theorem notInI(n:Int)(hs:List Int):(if true=true then !inV (.int n) (hs.map V.int)else inV (.int n) (hs.map V.int)) = !decide (n∈hs):=by rw[if_pos rfl,w4]
theorem flats:∀hs:List Int,(hs.map V.int).all flatV=true
 | []=>rfl
 | h::r=>by rw[map_cons,all_cons,flats r];rfl
theorem take_snoc{α:Type}{l:List α}{i:Nat}{x:α}(h:l[i]?=some x):l.take (i+1)=l.take i++[x]:=by
 rw[take_add_one,h];rfl
inductive sp_naming(vs:List V)(H:Hp)(Q:VK)(xk:XK):Prop
 | mk (z:Ra) (m:Rr) (c:Int) (p:Addr) (ns:List Int) (_:vs=[.ref z.r,.int c,.ref p]) (_:RoomAt H z m) (_:Good m) (_:0<m.parts.length) (_:m.parts.length<65) (_:H p=some (.lst (ns.map V.int))) (_:z.off p) (_:ns.length=12) (_:Big ns) (_:More z m H Q):sp_naming vs H Q xk
theorem j2Y{ns:List Int}{h:Int}(h0:2<=h)(h1:h<=(ns.length:Int)):cutV (ns.map V.int) (some 2) (some h)=((ns.drop 2).take (h-2).toNat).map V.int:=by
 unfold cutV;rw[map_take,map_drop];have e1:HT.sIx (ns.map V.int).length 0 (some 2)=2:=(HT.zJ (ns.map V.int).length 0 2).trans (by rw[length_map];omega);have e2:HT.sIx (ns.map V.int).length (ns.map V.int).length (some h)=h.toNat:=by
  show(if h<0 then _ else min h.toNat _)=_;rw[if_neg (by omega),length_map];omega
 rw[e1,e2];congr 1;omega
theorem j2I{is:List Nat}{i:Nat}{x:V}(h:(is.map vN)[i]?=some x):∃j,is[i]?=some j/\x = .int j/\j∈is:=by
 rw[List.getElem?_map]at h;obtain⟨j,hj,rfl⟩:=Option.map_eq_some_iff.mp h;exact⟨j,hj,rfl,mem_of_getElem? hj⟩
theorem j3c{m:Rr}(G:Good m){j:Nat}(h:j<m.parts.length):atI (m.longs.map V.int) (j:Int)=some (.int (m.lg j)):=by
 have e:=G.gl;refine jB ?_;rw[List.getElem?_map];unfold Rr.lg;rw[getD_eq_getElem?_getD,List.getElem?_eq_getElem (by omega)];rfl
theorem j2g{m:Rr}(G:Good m){j:Nat}(h:j<m.parts.length):1<=m.lg j/\m.lg j<=10^60:=by
 obtain⟨_,o⟩:=G.ps j _ (List.getElem?_eq_getElem h);exact⟨o.g1,o.g2⟩
theorem X8{m:Rr}(G:Good m):∀{is:List Nat},(∀j∈is,j<m.parts.length)->(is.length:Int)<=(is.map m.lg).sum/\(is.map m.lg).sum<=is.length*10^60
 | [],_=>⟨Int.le_refl _,by simp⟩
 | j::r,h=>by
  have a:=X8 G (is:=r) fun x hx=>h x (mem_cons_of_mem _ hx)
  have b:=j2g G (h j mem_cons_self);rw[map_cons,sum_cons,length_cons];omega
theorem cut1{xs:List V}:cutV xs none (some 1)=xs.take 1:=by
 unfold cutV;rw[show HT.sIx xs.length 0 none=0 from rfl,show HT.sIx xs.length xs.length (some 1)=min 1 xs.length from HT.zJ xs.length xs.length 1,List.drop_zero,Nat.sub_zero];cases xs with
 | nil=>rfl
 | cons x r=>rw[length_cons,show min 1 (r.length+1)=1 by omega]
theorem j4Y{m:Rr}(G:Good m){j:Nat}(h:j<m.parts.length):(m.hd j).Nodup:=by
 obtain⟨_,o⟩:=G.ps j _ (List.getElem?_eq_getElem h);exact o.o.imp fun h=>Int.ne_of_lt h
theorem Xq{m:Rr}{is:List Nat}{hs:List Int}{i j:Nat}(hj:is[i]?=some j)(h:∀k,k∈hs↔∃x∈is.take i,k∈m.hd x)(nd:hs.Nodup)(nj:(m.hd j).Nodup) :
  (hs++(m.hd j).filter fun k=>!decide (k∈hs)).Nodup/\∀k,k∈hs++(m.hd j).filter (fun k=>!decide (k∈hs))↔∃x∈is.take (i+1),k∈m.hd x:=by
 constructor
 ·refine nodup_append.mpr ⟨nd,nj.filter _,fun a ha b hb e=>?_⟩;subst e;have:=(mem_filter.mp hb).2;simp[ha]at this
 ·intro k;rw[take_snoc hj,mem_append,h k,mem_filter];constructor
  ·rintro(⟨x,hx,hk⟩ | ⟨hk,_⟩)
   ·exact⟨x,mem_append_left _ hx,hk⟩
   ·exact⟨j,mem_append_right _ (mem_singleton.mpr rfl),hk⟩
  ·rintro⟨x,hx,hk⟩;rcases mem_append.mp hx with e | e
   ·exact .inl ⟨x,e,hk⟩
   ·have e':x=j:=mem_singleton.mp e;subst e';by_cases hin:k∈hs
    ·exact .inl ((h k).mp hin)
    ·exact .inr ⟨hk,by simp[hin]⟩
theorem wo{ms hs:List Int}(hp:ms.Perm hs)(nd:hs.Nodup)(ho:ms.Pairwise (·<=·)):ms.Pairwise (· < ·):=
 (List.Pairwise.and ho (hp.nodup_iff.mpr nd)).imp fun {a b} h=>by have h1:=h.1;have h2:a≠b:=h.2;omega
theorem j29{m:Rr}(G:Good m){is:List Nat}(hj:∀j∈is,j<m.parts.length){hs:List Int}(hmem:∀k,k∈hs↔∃j∈is,k∈m.hd j):∀k∈hs,0<=k/\k<(m.limbs.length:Int):=fun k hk=>by
 obtain⟨j,h1,h2⟩:=(hmem k).mp hk;exact(G.ps j _ (List.getElem?_eq_getElem (hj j h1))).2.k k h2
def Shp(n:Nat)(d:PyData):Prop:=d.canLay0=true/\d.depth<=n
theorem Shp.int{i:Int}:Shp 0 (.int i):=⟨rfl,Nat.le_refl _⟩
theorem Shp.str{x:Str}(h:PyData.strOk x=true):Shp 0 (.str x):=⟨h,Nat.le_refl _⟩
theorem Shp.mono{n k:Nat}{d:PyData}(h:Shp n d)(hk:n<=k):Shp k d:=⟨h.1,Nat.le_trans h.2 hk⟩
theorem Yq{n:Nat}:∀{ds:List PyData},(∀d∈ds,Shp n d)->PyData.canLayAll0 ds=true/\PyData.depthAll ds<=n
 | [],_=>⟨rfl,Nat.zero_le _⟩
 | d::r,h=>by
  have h1:=h d mem_cons_self;have h2:=Yq (ds:=r) fun x hx=>h x (mem_cons_of_mem _ hx)
  constructor
  ·show(d.canLay0&&PyData.canLayAll0 r)=true;rw[h1.1,h2.1];rfl
  ·show max d.depth (PyData.depthAll r)<=n;exact Nat.max_le.mpr ⟨h1.2,h2.2⟩
theorem Shp.lst{n:Nat}{ds:List PyData}(h:∀d∈ds,Shp n d):Shp (n+1) (.list ds):=⟨(Yq h).1,Nat.succ_le_succ (Yq h).2⟩
theorem Shp.tup{n:Nat}{ds:List PyData}(h:∀d∈ds,Shp n d):Shp (n+1) (.tuple ds):=⟨(Yq h).1,Nat.succ_le_succ (Yq h).2⟩
theorem Shp.ok{n:Nat}{d:PyData}(h:Shp n d)(hn:n<=64):SeqAt.shaped d=true:=by
 unfold SeqAt.shaped;rw[h.1,Bool.true_and];exact decide_eq_true (Nat.le_trans h.2 hn)
theorem yo{x:Str}(h:Ws.isW x=true):PyData.strOk x=true:=by
 unfold Ws.isW Ws.among at h;rw[Bool.and_eq_true]at h;have h2:=of_decide_eq_true h.2;unfold PyData.strOk;rw[Array.all_eq_true_iff_forall_mem];intro c hc;have:=kT.mp (h2 c (by simpa using hc));exact decide_eq_true (by omega)
theorem xi{x:Str}(h:Ws.isW x=true):x.length<=8:=by
 unfold Ws.isW at h;rw[Bool.and_eq_true]at h;exact(of_decide_eq_true h.1).2
noncomputable def fmD:Fm->PyData
 | .hold n=>.tuple [.str "hold",.int n]
 | .ring x n=>.tuple [.str "ring",.str x,.int n]
 | .rise x h n=>.tuple [.str "raise",.str x,.int h,.int n]
 | .row ps=>.tuple [.str "row",.tuple (ps.map PyData.str)]
 | .side ps=>.tuple [.str "side",.tuple (ps.map PyData.str)]
 | .again k x=>.tuple [.str "again",.int k,.str x]
noncomputable def partD(p:Str×Fm):PyData:=.tuple [.str p.1,fmD p.2]
noncomputable def limbD(p:Str×Int):PyData:=.tuple [.str p.1,.int p.2]
theorem wV{H:Hp}:∀(xs:List Str),DVs H (xs.map V.str) (xs.map PyData.str)
 | []=>.nil
 | x::r=>.cons (.str x) (wV r)
theorem j30{H:Hp}{a:Addr}{f:Fm}(h:FormAt H a f):DV H (.ref a) (fmD f):=by
 cases f with
 | hold n=>exact .tup h (.cons (.str _) (.cons (.int _) .nil))
 | ring x n=>exact .tup h (.cons (.str _) (.cons (.str _) (.cons (.int _) .nil)))
 | rise x v n=>exact .tup h (.cons (.str _) (.cons (.str _) (.cons (.int _) (.cons (.int _) .nil))))
 | row ps=>obtain⟨b,h1,h2⟩:=h;exact .tup h1 (.cons (.str _) (.cons (.tup h2 (wV ps)) .nil))
 | side ps=>obtain⟨b,h1,h2⟩:=h;exact .tup h1 (.cons (.str _) (.cons (.tup h2 (wV ps)) .nil))
 | again k x=>exact .tup h (.cons (.str _) (.cons (.int _) (.cons (.str _) .nil)))
theorem j0i{H:Hp}{a:Addr}{p:Str×Fm}(h:PartAt H a p):DV H (.ref a) (partD p):=by
 obtain⟨b,h1,h2⟩:=h;exact .tup h1 (.cons (.str _) (.cons (j30 h2) .nil))
theorem j31{H:Hp}{a:Addr}{p:Str×Int}(h:LimbAt H a p):DV H (.ref a) (limbD p):=.tup h (.cons (.str _) (.cons (.int _) .nil))
theorem All2.tail{α:Type}{R:Addr->α->Prop}{a:Addr}{x:α}{as:List Addr}{xs:List α}(h:All2 R (a::as) (x::xs)):R a x/\All2 R as xs:=
 ⟨h.2 0 a x rfl rfl,Nat.succ.inj h.1,fun i b y h1 h2=>h.2 (i+1) b y (by simpa using h1) (by simpa using h2)⟩
theorem Ya{α:Type}{H:Hp}{R:Addr->α->Prop}{D:α->PyData}(k:∀a x,R a x->DV H (.ref a) (D x)):∀{as:List Addr} {xs:List α},All2 R as xs->DVs H (as.map V.ref) (xs.map D)
 | [],[],_=>.nil
 | [],_::_,h=>by have:=h.1;simp at this
 | _::_,[],h=>by have:=h.1;simp at this
 | _::_,_::_,h=>.cons (k _ _ h.tail.1) (Ya k h.tail.2)
noncomputable def FmWs:Fm->Prop
 | .hold n=>0<=n/\n<=10^18
 | .ring x n=>Ws.isW x=true/\0<=n/\n<=10^18
 | .rise x h n=>Ws.isW x=true/\0<=h/\h<=10^18/\0<=n/\n<=10^18
 | .row ps=>ps.length<=8/\∀x∈ps,Ws.isW x=true
 | .side ps=>ps.length<=8/\∀x∈ps,Ws.isW x=true
 | .again k x=>0<=k/\k<=10^18/\Ws.isW x=true
structure BkOk(ls:List (Str×Int))(ps:List (Str×Fm)):Prop where
 l8:ls.length<=8
 ln:∀p∈ls,Ws.isW p.1=true/\0<=p.2/\p.2<=10^18
 p61:ps.length<=61
 pn:∀p∈ps,Ws.isW p.1=true/\FmWs p.2
theorem j3l{m:Rr}(G:Good m){j:Nat}(h:j<68):Ws.isW (m.nm j)=true:=G.nw _ (getD_in (by rw[G.nl];exact h))
theorem Good.bk{m:Rr}(G:Good m)(h61:m.parts.length<=61):BkOk m.limbs m.parts:=by
 refine⟨G.l8,fun p hp=>⟨G.nw _ (G.lm p hp).1,(G.lm p hp).2⟩,h61,fun p hp=>?_⟩;obtain⟨i,hi,rfl⟩:=mem_iff_getElem.mp hp;obtain⟨e,o⟩:=G.ps i _ (List.getElem?_eq_getElem hi);refine⟨by rw[e];exact j3l G (by omega),?_⟩;have f:=o.f;generalize(m.parts[i]).2=fm at f;cases fm with
 | hold n=>exact⟨by have:=f.1;omega,f.2.1⟩
 | ring x n=>exact⟨G.nw _ f.1,by have:=f.2.1;omega,f.2.2.1⟩
 | rise x v n=>
  obtain⟨⟨j,v',hj,_⟩,h1,h2,h3,h4,_⟩:=f;exact⟨G.nw _ (G.lm _ (mem_of_getElem? hj)).1,h1,h2,by omega,h4⟩
 | row ps=>
  obtain⟨is,⟨rfl,hlt⟩,h1,h2,_⟩:=f;refine⟨by rw[length_map];exact h2,fun x hx=>?_⟩;obtain⟨j,hj,rfl⟩:=mem_map.mp hx;exact j3l G (by have:=hlt j hj;omega)
 | side ps=>
  obtain⟨is,⟨rfl,hlt⟩,h1,h2,_⟩:=f;refine⟨by rw[length_map];omega,fun x hx=>?_⟩;obtain⟨j,hj,rfl⟩:=mem_map.mp hx;exact j3l G (by have:=hlt j hj;omega)
 | again k x=>
  obtain⟨h1,h2,j,hj,rfl,_⟩:=f;exact⟨by omega,h2,j3l G (by omega)⟩
theorem xR{n:Nat}{xs:List Str}(h:∀x∈xs,Ws.isW x=true):∀d∈xs.map PyData.str,Shp n d:=fun d hd=>by
 obtain⟨x,hx,rfl⟩:=mem_map.mp hd;exact(Shp.str (yo (h x hx))).mono (Nat.zero_le _)
theorem j2E{f:Fm}(h:FmWs f):Shp 2 (fmD f):=by
 cases f with
 | hold n=>exact(Shp.tup (n:=0) (by rintro d hd;simp only[mem_cons,not_mem_nil,or_false]at hd;rcases hd with rfl | rfl;exact Shp.str (by decide +kernel);exact Shp.int)).mono (by decide)
 | ring x n=>exact(Shp.tup (n:=0) (by rintro d hd;simp only[mem_cons,not_mem_nil,or_false]at hd;rcases hd with rfl | rfl | rfl;exact Shp.str (by decide +kernel);exact Shp.str (yo h.1);exact Shp.int)).mono (by decide)
 | rise x v n=>exact(Shp.tup (n:=0) (by rintro d hd;simp only[mem_cons,not_mem_nil,or_false]at hd;rcases hd with rfl | rfl | rfl | rfl;exact Shp.str (by decide +kernel);exact Shp.str (yo h.1);exact Shp.int;exact Shp.int)).mono (by decide)
 | row ps=>exact Shp.tup (n:=1) (by rintro d hd;simp only[mem_cons,not_mem_nil,or_false]at hd;rcases hd with rfl | rfl;exact(Shp.str (by decide +kernel)).mono (by decide);exact Shp.tup (xR h.2))
 | side ps=>exact Shp.tup (n:=1) (by rintro d hd;simp only[mem_cons,not_mem_nil,or_false]at hd;rcases hd with rfl | rfl;exact(Shp.str (by decide +kernel)).mono (by decide);exact Shp.tup (xR h.2))
 | again k x=>exact(Shp.tup (n:=0) (by rintro d hd;simp only[mem_cons,not_mem_nil,or_false]at hd;rcases hd with rfl | rfl | rfl;exact Shp.str (by decide +kernel);exact Shp.int;exact Shp.str (yo h.2.2))).mono (by decide)
theorem wm{ls:List (Str×Int)}{ps:List (Str×Fm)}(B:BkOk ls ps):Shp 4 (.list (ps.map partD)):=by
 refine Shp.lst fun d hd=>?_
 obtain⟨p,hp,rfl⟩:=mem_map.mp hd;refine Shp.tup fun d hd=>?_
 simp only[mem_cons,not_mem_nil,or_false]at hd;rcases hd with rfl | rfl
 ·exact(Shp.str (yo (B.pn p hp).1)).mono (by decide)
 ·exact j2E (B.pn p hp).2
theorem j1x{ls:List (Str×Int)}{ps:List (Str×Fm)}(B:BkOk ls ps):Shp 4 (.list (ls.map limbD)):=by
 refine Shp.mono (n:=2) (Shp.lst fun d hd=>?_) (by decide);obtain⟨p,hp,rfl⟩:=mem_map.mp hd;refine Shp.tup fun d hd=>?_
 simp only[mem_cons,not_mem_nil,or_false]at hd;rcases hd with rfl | rfl
 ·exact Shp.str (yo (B.ln p hp).1)
 ·exact Shp.int
noncomputable def bookD(ls:List (Str×Int))(ps:List (Str×Fm)):PyData:=.tuple [.list (ls.map limbD),.list (ps.map partD)]
theorem Kn{ls:List (Str×Int)}{ps:List (Str×Fm)}(B:BkOk ls ps):Shp 5 (bookD ls ps):=by
 refine Shp.tup fun d hd=>?_
 simp only[mem_cons,not_mem_nil,or_false]at hd;rcases hd with rfl | rfl
 ·exact j1x B
 ·exact wm B
structure BookAt(H:Hp)(b pl pp:Addr)(las pas:List Addr)(ls:List (Str×Int))(ps:List (Str×Fm)):Prop where
 t:H b=some (.tup [.ref pl,.ref pp])
 l:H pl=some (.lst (las.map V.ref))
 la:All2 (LimbAt H) las ls
 p:H pp=some (.lst (pas.map V.ref))
 pa:All2 (PartAt H) pas ps
theorem FormAt.same{H H':Hp}{a:Addr}{f:Fm}(s:Same H H')(h:FormAt H a f):FormAt H' a f:=by
 cases f with
 | row ps=>obtain⟨b,h1,h2⟩:=h;exact⟨b,s _ _ h1,s _ _ h2⟩
 | side ps=>obtain⟨b,h1,h2⟩:=h;exact⟨b,s _ _ h1,s _ _ h2⟩
 | hold n=>exact s _ _ h
 | ring x n=>exact s _ _ h
 | rise x g n=>exact s _ _ h
 | again x n=>exact s _ _ h
theorem PartAt.same{H H':Hp}{a:Addr}{p:Str×Fm}(s:Same H H')(h:PartAt H a p):PartAt H' a p:=by
 obtain⟨b,h1,h2⟩:=h;exact⟨b,s _ _ h1,FormAt.same s h2⟩
theorem BookAt.same{H H':Hp}{b pl pp:Addr}{las pas:List Addr}{ls:List (Str×Int)}{ps:List (Str×Fm)}(B:BookAt H b pl pp las pas ls ps)(s:Same H H'):BookAt H' b pl pp las pas ls ps:=
 ⟨s _ _ B.t,s _ _ B.l,B.la.mono fun a x h=>s _ _ h,s _ _ B.p,B.pa.mono fun a x h=>PartAt.same s h⟩
theorem BookAt.dv{H:Hp}{b pl pp:Addr}{las pas:List Addr}{ls:List (Str×Int)}{ps:List (Str×Fm)}(B:BookAt H b pl pp las pas ls ps):DV H (.ref b) (bookD ls ps):=
 .tup B.t (.cons (.lst B.l (Ya (fun _ _ h=>j31 h) B.la)) (.cons (.lst B.p (Ya (fun _ _ h=>j0i h) B.pa)) .nil))
theorem j21{ls:List (Str×Int)}{ps:List (Str×Fm)}(B:BkOk ls ps):PyData.eqv (bookD ls ps) (bookD ls ps)=true:=SeqAt.eqv_refl _ (Kn B).1
theorem j0Z(ps:List (Str×Fm)):PyData.eqv (.list (ps.map partD)) (.list [])=decide (ps=[]):=by
 cases ps<;>simp[PyData.eqv,PyData.eqvAll]
noncomputable def tI(n:Int):Str:=Str.ofString (toString n)
noncomputable def bl:Str:=" "
noncomputable def limbW(p:Str×Int):List Str:=[p.1,tI p.2]
noncomputable def fmW:Fm->List Str
 | .hold n=>["hold",tI n]
 | .ring x n=>["ring",x,tI n]
 | .rise x h n=>["raise",x,tI h,tI n]
 | .row ps=>"row"::ps
 | .side ps=>"side"::ps
 | .again k x=>["again",tI k,x]
noncomputable def rowL(ls:List (Str×Int)):Str:=Txt.join bl (("limbs" : Str)::ls.flatMap limbW)
noncomputable def rowP(p:Str×Fm):Str:=Txt.join bl (("part" : Str)::p.1::fmW p.2)
noncomputable def rowsOf(ls:List (Str×Int))(ps:List (Str×Fm)):List Str:=rowL ls::ps.map rowP
inductive sp_rows(vs:List V)(H:Hp)(Q:VK)(xk:XK):Prop
 | mk (b pl pp:Addr) (las pas:List Addr) (ls:List (Str×Int)) (ps:List (Str×Fm)) (_:vs=[.ref b]) (_:BookAt H b pl pp las pas ls ps) (_:BkOk ls ps) (_:∀(l:Addr) (H':Hp),Same H H'->H l=none->H' l=some (.lst ((rowsOf ls ps).map V.str))->Q (.ref l) H'):sp_rows vs H Q xk
inductive sp_room(K:Frg)(vs:List V)(H:Hp)(Q:VK)(xk:XK):Prop
 | mk (a:Addr) (ns:List Int) (_:vs=[.ref a]) (_:SqL K H a (ns.map V.int)) (_:ns.length<=63) (_:∀(z:Ra) (m:Rr) (H':Hp),Same H H'->RoomAt H' z m->Good m->1<=m.parts.length->m.parts.length<=61->H z.pl=none->H z.pp=none->Q (.ref z.r) H'):sp_room K vs H Q xk
theorem Wc{n:Int}(h0:0<=n)(h1:n<=10^18):n.natAbs.log2<1920:=by
 by_cases e:n.natAbs=0
 ·rw[e];decide
 ·exact(Nat.log2_lt e).mpr (Nat.lt_of_lt_of_le (show n.natAbs<2^60 by omega) (Nat.pow_le_pow_right (by decide) (by decide)))
theorem zY{n:Int}(h0:0<=n)(h1:n<=10^18):(tI n).length<=19:=toString_length_le h0 (by decide) (by omega)
theorem zH(z:Str)(ys:List Str):Txt.join z ys=Str.join z ys:=by
 show Builtin.Str.glued z ys=_;rw[StrLaws.glued_eq_join]
theorem Yg(z:Str):∀ys:List Str,(Str.join z ys).length<=(ys.map (·.length)).sum+ys.length*z.length
 | []=>Nat.zero_le _
 | [a]=>by
  show a.length<=a.length+0+1*z.length;omega
 | a::b::r=>by
  have ih:=Yg z (b::r);show(a++z++Str.join z (b::r)).length<=_;rw[Str.length_append,Str.length_append,map_cons,sum_cons,length_cons,Nat.add_mul];omega
theorem YL(z a:Str):∀ys:List Str,ys≠[]->Str.join z (ys++[a])=Str.join z ys++z++a
 | [],h=>absurd rfl h
 | [b],_=>rfl
 | b::c::r,_=>by
  show b++z++Str.join z ((c::r)++[a])=b++z++Str.join z (c::r)++z++a;rw[YL z a (c::r) (by simp)];simp only[Str.append_assoc]
theorem j3Q{ys:List Str}{B:Nat}(h:∀y∈ys,y.length<=B):(ys.map (·.length)).sum<=ys.length*B:=by
 induction ys with
 | nil=>exact Nat.zero_le _
 | cons y r ih=>
  have h1:=h y mem_cons_self;have h2:=ih fun x hx=>h x (mem_cons_of_mem _ hx)
  rw[map_cons,sum_cons,length_cons,Nat.add_mul];omega
theorem j23{f:Fm}(h:FmWs f):(fmW f).length<=9/\∀y∈fmW f,y.length<=19:=by
 have k:∀{a:Str},a∈(["hold","ring","raise","row","side","again"]:List Str)->a.length<=19:=by decide +kernel
 have w:∀{x:Str},Ws.isW x=true->x.length<=19:=fun h=>Nat.le_trans (xi h) (by decide)
 cases f with
 | hold n=>
  refine⟨(by show 2<=9;decide),fun y hy=>?_⟩;simp only[fmW,mem_cons,not_mem_nil,or_false]at hy;rcases hy with rfl | rfl
  ·exact k (by decide +kernel)
  ·exact zY h.1 h.2
 | ring x n=>
  refine⟨(by show 3<=9;decide),fun y hy=>?_⟩;simp only[fmW,mem_cons,not_mem_nil,or_false]at hy;rcases hy with rfl | rfl | rfl
  ·exact k (by decide +kernel)
  ·exact w h.1
  ·exact zY h.2.1 h.2.2
 | rise x v n=>
  refine⟨(by show 4<=9;decide),fun y hy=>?_⟩;simp only[fmW,mem_cons,not_mem_nil,or_false]at hy;rcases hy with rfl | rfl | rfl | rfl
  ·exact k (by decide +kernel)
  ·exact w h.1
  ·exact zY h.2.1 h.2.2.1
  ·exact zY h.2.2.2.1 h.2.2.2.2
 | row ps=>
  refine⟨Nat.succ_le_succ h.1,fun y hy=>?_⟩;rcases mem_cons.mp hy with rfl | hy
  ·exact k (by decide +kernel)
  ·exact w (h.2 y hy)
 | side ps=>
  refine⟨Nat.succ_le_succ h.1,fun y hy=>?_⟩;rcases mem_cons.mp hy with rfl | hy
  ·exact k (by decide +kernel)
  ·exact w (h.2 y hy)
 | again n x=>
  refine⟨(by show 3<=9;decide),fun y hy=>?_⟩;simp only[fmW,mem_cons,not_mem_nil,or_false]at hy;rcases hy with rfl | rfl | rfl
  ·exact k (by decide +kernel)
  ·exact zY h.1 h.2.1
  ·exact w h.2.2
theorem xj{ls:List (Str×Int)}(h:∀p∈ls,Ws.isW p.1=true/\0<=p.2/\p.2<=10^18):(ls.flatMap limbW).length=2*ls.length/\∀y∈ls.flatMap limbW,y.length<=19:=by
 induction ls with
 | nil=>exact⟨rfl,fun y hy=>nomatch hy⟩
 | cons p r ih=>
  have h1:=h p mem_cons_self;obtain⟨i1,i2⟩:=ih fun x hx=>h x (mem_cons_of_mem _ hx)
  rw[List.flatMap_cons];refine⟨by rw[List.length_append,i1,length_cons];show 2+_=_;omega,fun y hy=>?_⟩;rcases mem_append.mp hy with e | e
  ·simp only[limbW,mem_cons,not_mem_nil,or_false]at e;rcases e with rfl | rfl
   ·exact Nat.le_trans (xi h1.1) (by decide)
   ·exact zY h1.2.1 h1.2.2
  ·exact i2 y e
noncomputable def lix(c:Int)(k:Nat):Nat:=if c%3<2 then 60+k else((c/3+5*(k:Int))%8).toNat
noncomputable def lnm(ws:List Str)(c:Int)(k:Nat):Str:=ws.getD (lix c k) ⟨#[]⟩
theorem j1I{x y:Int}{i:Int}(h0:0<=i)(h1:i<3):atI [V.int x,V.int x,V.int y] i=some (.int (if i<2 then x else y)):=by
 rcases(by omega:i=0\/i=1\/i=2)with e | e | e<;>subst e<;>rfl
theorem j4o{ws:List Str}{c:Int}{i:Nat}(hl:ws.length=68)(hc:0<=c)(hi:i<8) :
  0<=(if c%3<2 then 60+(0+(i:Int))else(c/3+5*(0+(i:Int)))%8)/\(if c%3<2 then 60+(0+(i:Int))else(c/3+5*(0+(i:Int)))%8)<(ws.length:Int)/\
   ws.getD (if c%3<2 then 60+(0+(i:Int))else(c/3+5*(0+(i:Int)))%8).toNat ⟨#[]⟩=lnm ws c i:=by
 unfold lnm lix;rw[hl,Int.zero_add];split
 ·exact⟨by omega,by omega,by rw[show(60+(i:Int)).toNat=60+i by omega]⟩
 ·exact⟨by omega,by omega,rfl⟩
theorem Xx{c:Int}{k:Nat}(h:k<8):lix c k<68:=by
 unfold lix;split<;>omega
theorem j3b{c:Int}{j k:Nat}(hj:j<8)(hk:k<8)(h:lix c j=lix c k):j=k:=by
 unfold lix at h;split at h<;>omega
theorem getD_inj{ws:List Str}(nd:ws.Nodup){i j:Nat}(hi:i<ws.length)(hj:j<ws.length)(h:ws.getD i ⟨#[]⟩=ws.getD j ⟨#[]⟩):i=j:=by
 rw[getD_eq_getElem?_getD,getD_eq_getElem?_getD,List.getElem?_eq_getElem hi,List.getElem?_eq_getElem hj]at h;have h':ws[i]=ws[j]:=h;rcases Nat.lt_trichotomy i j with q | q | q
 ·exact absurd h' (List.pairwise_iff_getElem.mp nd i j hi hj q)
 ·exact q
 ·exact absurd h'.symm (List.pairwise_iff_getElem.mp nd j i hj hi q)
theorem j4q{ws:List Str}{c:Int}{n:Nat}(hl:ws.length=68)(nd:ws.Nodup)(hn:n<=8):((List.range n).map (lnm ws c)).Nodup:=by
 refine List.pairwise_map.mpr (List.Pairwise.imp_of_mem (fun {a b} ha hb hab e=>?_) List.nodup_range);have h1:=mem_range.mp ha;have h2:=mem_range.mp hb;exact hab (j3b (by omega) (by omega) (getD_inj nd (by rw[hl];exact Xx (by omega)) (by rw[hl];exact Xx (by omega)) e))
theorem j4p{ws:List Str}{c:Int}{n:Nat}(hl:ws.length=68)(hn:n<=8){x:Str}(h:x∈(List.range n).map (lnm ws c)):x∈ws:=by
 obtain⟨k,hk,rfl⟩:=mem_map.mp h;have:=mem_range.mp hk;exact getD_in (by rw[hl];exact Xx (by omega))
theorem j4b{xs:List V}:(cutV xs (some 2) (some 62)).length<=60:=by
 unfold cutV;rw[length_take,show HT.sIx xs.length 0 (some 2)=min 2 xs.length from HT.zJ xs.length 0 2,show HT.sIx xs.length xs.length (some 62)=min 62 xs.length from HT.zJ xs.length xs.length 62];omega
open PyProof.Rows.KTD (inKeys Dat)
noncomputable def MN:List (Str×Dat):=[("row",.flat (.int 8)),("side",.flat (.int 4))]
def TxV(v:V)(w:Str):Prop:=v = .str w\/∃n:Int,v = .int n/\0<=n/\n<=10^18/\w=tI n
structure FmIt(H:Hp)(a:Addr)(k:Str)(xs:List V)(out:Nat->List Str)(ws:List Str):Prop where
 t:H a=some (.tup (.str k::xs))
 o0:out 0=[]
 e:k::out xs.length=ws
 l:∀i,i<=xs.length->(out i).length<=9
 s:∀i x,xs[i]?=some x->(∃b ps,x = .ref b/\H b=some (.tup (ps.map V.str))/\out (i+1)=out i++ps)\/∃w,TxV x w/\out (i+1)=out i++[w]
inductive Tx:List V->List Str->Prop
 | nil:Tx [] []
 | cons {v:V} {w:Str} {vs:List V} {ws:List Str}:TxV v w->Tx vs ws->Tx (v::vs) (w::ws)
theorem Tx.len{vs:List V}{ws:List Str}(h:Tx vs ws):vs.length=ws.length:=by
 induction h with
 | nil=>rfl
 | cons _ _ ih=>rw[length_cons,length_cons,ih]
theorem Tx.get{vs:List V}{ws:List Str}(h:Tx vs ws):∀{i:Nat} {v:V},vs[i]?=some v->∃w,ws[i]?=some w/\TxV v w:=by
 induction h with
 | nil=>intro i v e;simp at e
 | cons hv _ ih=>
  intro i v e;cases i with
  | zero=>simp at e;subst e;exact⟨_,rfl,hv⟩
  | succ i=>simp at e;obtain⟨w,h1,h2⟩:=ih e;exact⟨w,by simpa using h1,h2⟩
theorem j0m{H:Hp}{a:Addr}{k:Str}{xs:List V}{us:List Str}(ht:H a=some (.tup (.str k::xs)))(tx:Tx xs us)(hl:us.length<=9):FmIt H a k xs (fun i=>us.take i) (k::us):=by
 refine⟨ht,rfl,by rw[tx.len,take_length],fun i _=>Nat.le_trans (List.length_take_le' _ _) hl,fun i x hx=>.inr ?_⟩;obtain⟨w,h1,h2⟩:=tx.get hx;exact⟨w,h2,take_snoc h1⟩
theorem j25{H:Hp}{a b:Addr}{k:Str}{ps:List Str}(ht:H a=some (.tup [.str k,.ref b]))(hb:H b=some (.tup (ps.map V.str)))(hl:ps.length<=8):FmIt H a k [.ref b] (fun i=>if i=0 then[]else ps) (k::ps):=by
 refine⟨ht,rfl,rfl,fun i _=>?_,fun i x hx=>.inl ?_⟩
 ·show(if i=0 then[]else ps).length<=9;split
  ·exact Nat.zero_le _
  ·omega
 ·cases i with
  | zero=>simp at hx;subst hx;exact⟨b,ps,rfl,hb,rfl⟩
  | succ i=>simp at hx
theorem j24{H:Hp}{a:Addr}{f:Fm}(h:FormAt H a f)(w:FmWs f):∃k xs out,FmIt H a k xs out (fmW f):=by
 cases f with
 | hold n=>exact⟨_,_,_,j0m h (.cons (.inr ⟨n,rfl,w.1,w.2,rfl⟩) .nil) (by show 1<=9;decide)⟩
 | ring x n=>exact⟨_,_,_,j0m h (.cons (.inl rfl) (.cons (.inr ⟨n,rfl,w.2.1,w.2.2,rfl⟩) .nil)) (by show 2<=9;decide)⟩
 | rise x v n=>exact⟨_,_,_,j0m h (.cons (.inl rfl) (.cons (.inr ⟨v,rfl,w.2.1,w.2.2.1,rfl⟩) (.cons (.inr ⟨n,rfl,w.2.2.2.1,w.2.2.2.2,rfl⟩) .nil))) (by show 3<=9;decide)⟩
 | row ps=>obtain⟨b,h1,h2⟩:=h;exact⟨_,_,_,j25 h1 h2 w.1⟩
 | side ps=>obtain⟨b,h1,h2⟩:=h;exact⟨_,_,_,j25 h1 h2 w.1⟩
 | again k x=>exact⟨_,_,_,j0m h (.cons (.inr ⟨k,rfl,w.1,w.2.1,rfl⟩) (.cons (.inl rfl) .nil)) (by show 2<=9;decide)⟩
theorem at0{x:V}{xs:List V}:atI (x::xs) 0=some x:=jB (j:=0) rfl
theorem iteB0{b:Bool}{A B:Prop}(e:b=false)(h:B):if b=true then A else B:=by rw[e];exact h
theorem iteB1{b:Bool}{A B:Prop}(e:b=true)(h:A):if b=true then A else B:=by rw[e];exact h
theorem j1L:bl.length=1:=by decide +kernel
theorem jb{ys:List Str}{n:Nat}(hl:ys.length<=n)(h:∀y∈ys,y.length<=19):(ys.map (·.length)).sum+ys.length*bl.length<=n*20:=by
 have h1:=j3Q h;have h2:=Nat.mul_le_mul_right 20 hl;rw[j1L];omega
theorem j3L{ls:List (Str×Int)}{ps:List (Str×Fm)}(B:BkOk ls ps){p:Str×Fm}(hp:p∈ps):(((("part" : Str)::p.1::fmW p.2)).map (·.length)).sum+(("part" : Str)::p.1::fmW p.2).length*bl.length<=220:=by
 obtain⟨h1,h2⟩:=B.pn p hp;obtain⟨f1,f2⟩:=j23 h2;refine jb (n:=11) (by rw[length_cons,length_cons];omega) fun y hy=>?_
 rcases mem_cons.mp hy with rfl | hy
 ·decide +kernel
 rcases mem_cons.mp hy with rfl | hy
 ·exact Nat.le_trans (xi h1) (by decide)
 ·exact f2 y hy
theorem j3K{ls:List (Str×Int)}(h8:ls.length<=8)(h:∀p∈ls,Ws.isW p.1=true/\0<=p.2/\p.2<=10^18):(((("limbs" : Str)::ls.flatMap limbW)).map (·.length)).sum+(("limbs" : Str)::ls.flatMap limbW).length*bl.length<=340:=by
 obtain⟨f1,f2⟩:=xj h;refine jb (n:=17) (by rw[length_cons,f1];omega) fun y hy=>?_
 rcases mem_cons.mp hy with rfl | hy
 ·decide +kernel
 ·exact f2 y hy
theorem j2x{ls:List (Str×Int)}(h8:ls.length<=8)(h:∀p∈ls,Ws.isW p.1=true/\0<=p.2/\p.2<=10^18):(rowL ls).length<=340:=by
 unfold rowL;rw[zH];exact Nat.le_trans (Yg _ _) (j3K h8 h)
theorem j1v(ls:List (Str×Int))(p:Str×Int):rowL (ls++[p])=rowL ls++" "++p.1++" "++tI p.2:=by
 unfold rowL;rw[zH,zH,List.flatMap_append];show Str.join bl ((("limbs" : Str)::ls.flatMap limbW)++([p.1]++[tI p.2]))=_;rw[<-List.append_assoc,YL _ _ _ (by simp),YL _ _ _ (by simp)];rfl
theorem y9{x:V}{xs:List V}:cutV (x::xs) (some 1) none=xs:=by
 unfold cutV;rw[show HT.sIx (x::xs).length 0 (some 1)=min 1 (x::xs).length from HT.zJ _ 0 1,show HT.sIx (x::xs).length (x::xs).length none=(x::xs).length from rfl,length_cons,show min 1 (xs.length+1)=1 by omega];show List.take (xs.length+1-1) xs=xs;rw[Nat.add_sub_cancel,take_length]
theorem WW{x:V}{xs:List V}:¬(HT.sIx (x::xs).length 0 (some 1)=0/\HT.sIx (x::xs).length (x::xs).length none=(x::xs).length):=fun h=>by
 have h1:=h.1;rw[show HT.sIx (x::xs).length 0 (some 1)=min 1 (x::xs).length from HT.zJ _ 0 1,length_cons]at h1;omega
theorem All2.at_ref{α:Type}{R:Addr->α->Prop}{as:List Addr}{xs:List α}{i:Nat}{v:V}(h:All2 R as xs)(hv:(as.map V.ref)[i]?=some v):∃a x,v = .ref a/\xs[i]?=some x/\R a x:=by
 rw[List.getElem?_map]at hv;obtain⟨a,ha,rfl⟩:=Option.map_eq_some_iff.mp hv;have hi:=(List.getElem?_eq_some_iff.mp ha).1;have hl:=h.1;have hx:xs[i]?=some xs[i]:=List.getElem?_eq_getElem (by omega);exact⟨a,_,rfl,hx,h.2 i a _ ha hx⟩
theorem cat2{r:Str}(h:r.length<=340)(n3:bl.length=1):r.length+bl.length<=sizeLine:=by
 have sz:(1000:Nat)<sizeLine:=by decide
 omega
theorem cat3{r x:Str}(h:r.length<=340)(n3:bl.length=1)(n1:x.length<=8):(r++bl).length+x.length<=sizeLine:=by
 have sz:(1000:Nat)<sizeLine:=by decide
 rw[Str.length_append];omega
theorem cat4{r x:Str}(h:r.length<=340)(n3:bl.length=1)(n1:x.length<=8):(r++bl++x).length+bl.length<=sizeLine:=by
 have sz:(1000:Nat)<sizeLine:=by decide
 rw[Str.length_append,Str.length_append];omega
theorem cat5{r x y:Str}(h:r.length<=340)(n3:bl.length=1)(n1:x.length<=8)(n2:y.length<=19):(r++bl++x++bl).length+y.length<=sizeLine:=by
 have sz:(1000:Nat)<sizeLine:=by decide
 rw[Str.length_append,Str.length_append,Str.length_append];omega
theorem YT:∀{n:Nat} {hs:List Int},hs.Nodup->(∀k∈hs,0<=k/\k<(n:Int))->hs.length<=n
 | 0,hs,_,h=>by
  cases hs with
  | nil=>exact Nat.le_refl _
  | cons k r=>have:=h k mem_cons_self;omega
 | n+1,hs,nd,h=>by
  by_cases e:(n:Int)∈hs
  ·have i:=YT (n:=n) (nd.erase (n:Int)) fun k hk=>by
    have h1:=h k (List.mem_of_mem_erase hk);have h2:k≠(n:Int):=fun z=>nd.not_mem_erase (z▸hk)
    omega
   have l:=List.length_erase_of_mem e;omega
  ·have i:=YT (n:=n) nd fun k hk=>by
    have h1:=h k hk;have h2:k≠(n:Int):=fun z=>e (z▸hk)
    omega
   omega
noncomputable def numK(xs:List Str):List (Key×V):=xs.zipIdx.map fun p=>(Sum.inr p.1,.int (p.2:Nat))
theorem j1k(xs:List Str)(x:Str):numK (xs++[x])=numK xs++[(Sum.inr x,.int (xs.length:Nat))]:=by
 unfold numK;rw[List.zipIdx_append,map_append];simp
theorem j2l(xs:List Str):(numK xs).length=xs.length:=by simp[numK]
theorem wf(xs:List Str):(numK xs).map (·.1)=xs.map Sum.inr:=by
 unfold numK;rw[map_map];have e:∀(k:Nat) (xs:List Str),(xs.zipIdx k).map ((fun x=>x.1)∘fun p:Str×Nat=>((Sum.inr p.1:Key),V.int (p.2:Nat)))=xs.map Sum.inr:=fun k xs=>by
  induction xs generalizing k with
  | nil=>rfl
  | cons x r ih=>rw[List.zipIdx_cons,map_cons,map_cons,ih];rfl
 exact e 0 xs
theorem xL{kvs:List (Key×V)}{k:Key}{v:V}(h:k∉kvs.map (·.1)):putK kvs k v=kvs++[(k,v)]:=by
 unfold putK;rw[if_neg];intro e;obtain⟨p,hp,hk⟩:=List.any_eq_true.mp e;exact h (mem_map.mpr ⟨p,hp,of_decide_eq_true hk⟩)
noncomputable def nmsOf{α:Type}(ps:List (Str×α)):List Str:=ps.map (·.1)
inductive sp_numbers_of(vs:List V)(H:Hp)(Q:VK)(xk:XK):Prop
 | mk (l:Addr) (as:List Addr) (xs:List Str) (_:vs=[.ref l]) (_:H l=some (.lst (as.map V.ref))) (_:as.length=xs.length) (_:(∀(i:Nat) (a:Addr) (x:Str),as[i]?=some a->xs[i]?=some x->∃r,H a=some (.tup [.str x,r]))) (_:xs.Nodup) (_:xs.length<=100) (_:∀(d:Addr) (H':Hp),Same H H'->H d=none->H' d=some (.dK (numK xs))->Q (.ref d) H'):sp_numbers_of vs H Q xk
theorem jB{xs:List V}{i:Nat}{x:V}(h:xs[i]?=some x):atI xs (0+(i:Int))=some x:=by
 obtain⟨hi,rfl⟩:=List.getElem?_eq_some_iff.mp h;rw[Int.zero_add];unfold atI;simp[hi,ixN]
end Rm
namespace Nm
open PySem PySem.Spec PyProof.Rows L2
theorem j07:∀m:Nat,∀c∈Nat.toDigits 10 m,48<=c.toNat/\c.toNat<=57:=by
 intro m
 induction m using Nat.strongRecOn with
 | ind m ih=>
  intro c hc;have dc:∀k:Nat,k<10->48<=(Nat.digitChar k).toNat/\(Nat.digitChar k).toNat<=57:=by decide
  rw[Nat.toDigits_eq_if (by decide)]at hc;split at hc
  ·rename_i lt;rw[mem_singleton.mp hc];exact dc m lt
  ·rename_i ge;rcases mem_append.mp hc with z | z
   ·exact ih (m/10) (by omega) c z
   ·rw[mem_singleton.mp z];exact dc _ (by omega)
end Nm
namespace Rm
open PySem PySem.Spec PyProof.Rows L2
open PyProof.Rows.KTD (inKeys Dat datumAt)
noncomputable def FT:List (Str×Dat):=[("raise",.tup [.str "limb",.str "height",.str "beats"]),("hold",.tup [.str "beats"]),("ring",.tup [.str "word",.str "beats"]),("again",.tup [.str "times",.str "part"])]
theorem wT{k x:Str}{d:Dat}{r:List (Str×Dat)}(h:decide (k=x)=true):datumAt k ((x,d)::r)=some d:=by rw[datumAt,if_pos h]
theorem YF{k x:Str}{d:Dat}{r:List (Str×Dat)}(h:decide (k=x)=false):datumAt k ((x,d)::r)=datumAt k r:=by rw[datumAt,if_neg (by rw[h];decide)]
theorem Yb{α:Type}(a:α)(l:List α):ev (a::l)=a::ev (l.drop 1):=by
 cases l with
 | nil=>rfl
 | cons b r=>rfl
noncomputable def tabB(xs:List Str):List (Key×V):=xs.map fun x=>(Sum.inr x,V.bl true)
theorem j1z(xs:List Str):(tabB xs).map (·.1)=xs.map Sum.inr:=by simp[tabB]
theorem wu:∀{xs:List Str} {x:Str},x∈xs->(valV (tabB xs) (Sum.inr x)).isSome=true
 | [],_,h=>nomatch h
 | y::r,x,h=>by
  by_cases e:y=x
  ·subst e;rw[show tabB (y::r)=(Sum.inr y,V.bl true)::tabB r from rfl,Yt rfl];rfl
  ·rw[show tabB (y::r)=(Sum.inr y,V.bl true)::tabB r from rfl,Z8 (fun z=>e (Sum.inr.inj z))];rcases mem_cons.mp h with z | z
   ·exact absurd z.symm e
   ·exact wu z
theorem wt:∀{xs:List Str} {x:Str},x∉xs->valV (tabB xs) (Sum.inr x)=none
 | [],_,_=>rfl
 | y::r,x,h=>by
  rw[show tabB (y::r)=(Sum.inr y,V.bl true)::tabB r from rfl,Z8 (fun z=>h (by rw[Sum.inr.inj z];exact mem_cons_self))];exact wt fun z=>h (mem_cons_of_mem _ z)
theorem xW{xs:List Str}{x:Str}(h:x∉xs):putK (tabB xs) (Sum.inr x) (.bl true)=tabB (xs++[x]):=by
 rw[xL,show tabB (xs++[x])=tabB xs++[(Sum.inr x,V.bl true)] by simp[tabB]];rw[j1z];intro z;obtain⟨y,hy,e⟩:=mem_map.mp z;exact h (Sum.inr.inj e▸hy)
def Cln(y:Str):Prop:=∀c∈y.cps.toList,48<=c
theorem kH{x:Str}(h:Ws.isW x=true):Cln x:=by
 unfold Ws.isW Ws.among at h;rw[Bool.and_eq_true]at h;have h2:=of_decide_eq_true h.2;intro c hc;have:=kT.mp (h2 c (by simpa using hc));omega
theorem K2{n:Int}(h0:0<=n):Cln (tI n):=by
 obtain⟨m,rfl⟩:=Int.eq_ofNat_of_zero_le h0;have sg:(tI (m:Int)).cps.toList=(Nat.toDigits 10 m).map Char.toNat:=PySem.W.KIN.signs_num m;intro c hc;rw[sg]at hc;obtain⟨d,hd,rfl⟩:=mem_map.mp hc;exact(Nm.j07 m d hd).1
theorem j4a{f:Fm}(h:FmWs f):∀y∈fmW f,Cln y:=by
 have two:∀{a b:Str},Cln a->Cln b->∀y∈[a,b],Cln y:=fun p q y hy=>by
  rcases mem_cons.mp hy with rfl | hy
  ·exact p
  ·rw[mem_singleton.mp hy];exact q
 have onto:∀{a:Str} {r:List Str},Cln a->(∀y∈r,Cln y)->∀y∈a::r,Cln y:=fun p q y hy=>by
  rcases mem_cons.mp hy with rfl | hy
  ·exact p
  ·exact q y hy
 cases f with
 | hold n=>exact two (by unfold Cln;decide +kernel) (K2 h.1)
 | ring x n=>exact onto (by unfold Cln;decide +kernel) (two (kH h.1) (K2 h.2.1))
 | rise x v n=>exact onto (by unfold Cln;decide +kernel) (onto (kH h.1) (two (K2 h.2.1) (K2 h.2.2.2.1)))
 | row ps=>exact onto (by unfold Cln;decide +kernel) fun y hy=>kH (h.2 y hy)
 | side ps=>exact onto (by unfold Cln;decide +kernel) fun y hy=>kH (h.2 y hy)
 | again k x=>exact onto (by unfold Cln;decide +kernel) (two (K2 h.1) (kH h.2.2))
theorem W6{c d:Nat}:∀{ws:List (List Nat)},c∈Sp.glue d ws->c=d\/∃w∈ws,c∈w
 | [],h=>nomatch h
 | [w],h=>.inr ⟨w,mem_cons_self,h⟩
 | w::v::r,h=>by
  have h:c∈w++d::Sp.glue d (v::r):=h;rcases mem_append.mp h with z | z
  ·exact .inr ⟨w,mem_cons_self,z⟩
  rcases mem_cons.mp z with z | z
  ·exact .inl z
  rcases W6 z with z | ⟨u,hu,z⟩
  ·exact .inl z
  ·exact .inr ⟨u,mem_cons_of_mem _ hu,z⟩
theorem yf{c:Nat}:∀ys:List Str,(Str.join ⟨#[c]⟩ ys).cps.toList=Sp.glue c (ys.map fun y=>y.cps.toList)
 | []=>rfl
 | [a]=>rfl
 | a::b::r=>by
  show(a++⟨#[c]⟩++Str.join ⟨#[c]⟩ (b::r)).cps.toList=a.cps.toList++c::Sp.glue c ((b::r).map fun y=>y.cps.toList);rw[<-yf (b::r)];show((a.cps++#[c])++(Str.join ⟨#[c]⟩ (b::r)).cps).toList=_;simp
theorem j1Q{ls:List (Str×Int)}(h:∀p∈ls,Ws.isW p.1=true/\0<=p.2/\p.2<=10^18):∀y∈("limbs" : Str)::ls.flatMap limbW,Cln y:=fun y hy=>by
 rcases mem_cons.mp hy with rfl | hy
 ·unfold Cln;decide +kernel
 ·obtain⟨p,hp,hy⟩:=List.mem_flatMap.mp hy;rcases mem_cons.mp hy with rfl | hy
  ·exact kH (h p hp).1
  ·rw[mem_singleton.mp hy];exact K2 (h p hp).2.1
theorem j1R{x:Str}{f:Fm}(hx:Ws.isW x=true)(h:FmWs f):∀y∈("part" : Str)::x::fmW f,Cln y:=fun y hy=>by
 rcases mem_cons.mp hy with rfl | hy
 ·unfold Cln;decide +kernel
 rcases mem_cons.mp hy with rfl | hy
 ·exact kH hx
 ·exact j4a h y hy
theorem PartAt.put{H H':Hp}{a:Addr}{p:Str×Fm}(k:∀b xs,H b=some (.tup xs)->H' b=some (.tup xs))(h:PartAt H a p):PartAt H' a p:=by
 obtain⟨b,h1,h2⟩:=h;refine⟨b,k _ _ h1,?_⟩;generalize p.2=f at h2|-;cases f with
 | row ps=>obtain⟨c,q1,q2⟩:=h2;exact⟨c,k _ _ q1,k _ _ q2⟩
 | side ps=>obtain⟨c,q1,q2⟩:=h2;exact⟨c,k _ _ q1,k _ _ q2⟩
 | hold n=>exact k _ _ h2
 | ring x n=>exact k _ _ h2
 | rise x v n=>exact k _ _ h2
 | again k' x=>exact k _ _ h2
end Rm
namespace L2
open PySem PySem.Spec PyProof.Rows
theorem ObjOk.has{P:Program}{w:World}{H:Hp}{h:Heap}{a:Addr}{o:HO}(x:ObjOk P w H h a o):∃ob,h.get? a=some ob:=by
 cases o with
 | lst xs=>obtain⟨_,_,_,_,e⟩:=x;exact⟨_,e⟩
 | tup xs=>obtain⟨_,_,_,_,e,_⟩:=x;exact⟨_,e⟩
 | dK kvs=>obtain⟨_,_,_,_,o,_,_,e,_⟩:=x;exact⟨_,e⟩
 | dT kvs=>obtain⟨_,_,_,_,o,_,_,e,_⟩:=x;exact⟨_,e⟩
 | set S n=>obtain⟨o,_,_,_,e,_⟩:=x;exact⟨_,e⟩
 | ins C dx fs=>obtain⟨_,_,_,e,_⟩:=x;exact⟨_,e⟩
 | own y=>exact x
 | xd fs=>obtain⟨_,⟨_,_,_,e,_⟩,_⟩:=x;exact⟨_,e⟩
 | rng lo hi=>obtain⟨_,_,_,e⟩:=x;exact⟨_,e⟩
 | frz ob u=>obtain⟨e,_⟩:=x;exact⟨_,e⟩
 | tbl ps=>exact⟨_,show h.get? a=some _ from x⟩
 | met f y=>exact⟨_,show h.get? a=some _ from x⟩
 | ext φ=>obtain⟨_,e,_⟩:=x;exact e
def Air(B:Heap)(l:List Env)(a:Addr)(cls:Value)(h:Heap):Prop:=
  B.StaysIn h/\B.get? a=none/\h.FunFrames B l/\
    ((∃a0,h.TracedW B a cls a0)\/(∃oe vs a0,h.get? a=some oe/\oe.cls=cls/\oe.data = .fields vs/\vs[1]?=some .none/\vs[0]?=some a0)\/
     ∃env r L a0,l=env::r/\env.frame=some L/\h.TracedAtW B a cls a0 (rawInt L))
section
variable{M:Model}{A:Around}{E:Value->Shared->Prop}{s:Shared}{B:Heap}{env:Env}{outer:List Env}{L a:Addr}{cls:Value}{Q:Unit->Shared->Prop}
theorem WQ(hfr:A.frames=some (env::outer))(hf:env.frame=some L)(x:Air B (env::outer) a cls s.heap)
  (hQ:∀h',Air B outer a cls h'->s.heap.UpToSlots h'->Q () {s with heap:=h'}):wpAny M A (leaving env (.ref a)) Q E s:=by
 obtain⟨k1,k2,k3,⟨a0,t⟩ | ⟨oe,vs,a0,he,rfl,hd,h1,h0⟩ | ⟨env',r,L',a0,e1,hf',t⟩⟩:=x
 ·exact wpAny_leaving_nextW hfr k3 hf t k1 k2 fun h' ⟨x1,⟨_,_,x2⟩,x3,x4⟩=>hQ h' ⟨x1,k2,x2,.inl ⟨a0,x3⟩⟩ x4
 ·exact wpAny_leaving_firstW (a0:=a0) hfr k3 hf he k1 k2 hd h1 h0 fun h' ⟨x1,⟨_,_,x2⟩,x3,x4⟩=>hQ h' ⟨x1,k2,x2,.inl ⟨a0,x3⟩⟩ x4
 ·cases e1;unfold leaving;refine wpAny_bind (wpAny_noteFrame_againW hf' t (wpAny_landsW ⟨k1,k2,k3,t⟩ fun h' ⟨x1,x2,⟨_,_,x3⟩,x4⟩ u=>hQ h' ⟨x1,x2,x3,.inl ⟨a0,x4⟩⟩ u))
theorem j0K(hfr:A.frames=some (env::outer))(hf:env.frame=some L)(x:Air B (env::outer) a cls s.heap)
  (hQ:∀h' a0,Heap.FlyingW B (env::outer) a cls a0 h'->s.heap.UpToSlots h'->Q () {s with heap:=h'}) :
  wpAny M A (noteFrame (.ref a) env) (fun _ s₂=>wpAny M A (setFlight (.ref a) none) Q E s₂) E s:=by
 obtain⟨k1,k2,k3,⟨a0,t⟩ | ⟨oe,vs,a0,he,rfl,hd,h1,h0⟩ | ⟨env',r,L',a0,e1,hf',t⟩⟩:=x
 ·exact wpAny_looks_onW hfr hf ⟨k1,k2,k3,t⟩ fun h4 hh u4=>wpAny_landsW hh fun h5 f5 u5=>hQ h5 a0 f5 (u4.trans u5)
 ·unfold noteFrame;simp only[hf];refine wpAny_bind (wpAny_field he hd h1 ?_);rw[if_neg (by decide)];refine wpAny_entryW hfr k3 hf he k1 k2 hd (Array.getElem?_eq_some_iff.mp h1).1 h0 fun h4 ⟨x1,x2,x3,x4⟩=>?_
  exact wpAny_landsW ⟨x1,k2,x2,x3⟩ fun h5 f5 u5=>hQ h5 a0 f5 (Heap.UpToSlots.trans x4 u5)
 ·cases e1;exact wpAny_noteFrame_againW hf' t (wpAny_landsW ⟨k1,k2,k3,t⟩ fun h5 f5 u5=>hQ h5 a0 f5 u5)
theorem j0L(hfr:A.frames=some (env::outer))(hf:env.frame=some L)(x:Air B (env::outer) a cls s.heap)
  (hQ:∀h' a0,Heap.HeldW B (env::outer) a cls a0 L h'->s.heap.UpToSlots h'->Q () {s with heap:=h'}):wpAny M A (noteFrame (.ref a) env) Q E s:=by
 obtain⟨k1,k2,k3,⟨a0,t⟩ | ⟨oe,vs,a0,he,rfl,hd,h1,h0⟩ | ⟨env',r,L',a0,e1,hf',t⟩⟩:=x
 ·exact wpAny_looks_onW hfr hf ⟨k1,k2,k3,t⟩ fun h4 hh u4=>hQ h4 a0 hh u4
 ·unfold noteFrame;simp only[hf];refine wpAny_bind (wpAny_field he hd h1 ?_);rw[if_neg (by decide)];exact wpAny_entryW hfr k3 hf he k1 k2 hd (Array.getElem?_eq_some_iff.mp h1).1 h0 fun h4 ⟨x1,x2,x3,x4⟩=>hQ h4 a0 ⟨x1,k2,x2,x3⟩ x4
 ·cases e1;obtain rfl:L=L':=Option.some.inj (hf.symm.trans hf');exact wpAny_noteFrame_againW hf' t (hQ _ a0 ⟨k1,k2,k3,t⟩ (.refl _))
theorem Xr{a0:Value}(x:Heap.HeldW B (env::outer) a cls a0 L s.heap)(hf:env.frame=some L)
  (hQ:∀h',Heap.HeldW B (env::outer) a cls a0 L h'->s.heap.UpToSlots h'->Q () {s with heap:=h'}) :
  wpAny M A (do
   if(<-field (.ref a) 1) == .none then unsupported "frame.own-activation:exception-without-traceback"
   setFlight (.ref a) env.frame) Q E s:=by
 obtain⟨hkb,hen,hl,oe,vs,T,oT,ts,he,hcls,hd,h1,hnT,hTe,hT,hdT,h3⟩:=x;have hsz3:3<ts.size:=(Array.getElem?_eq_some_iff.mp h3).1;have other:∀b,b≠T->(s.heap.update T (Obj.mapFields (·.setIfInBounds 3 ((some L).elim Value.none fun f=>rawInt f)))).get? b=s.heap.get? b:=
  fun b hb=>Heap.get?_update_other _ _ (Ne.symm hb)
 have noRecord:∀b o,s.heap.get? b=some o->(∀vs,o.data≠.fields vs)->b≠T:=fun b o hb hnf q=>by
  rw[q,hT]at hb;injection hb with hb;subst hb;exact hnf ts hdT
 rw[hf];refine wpAny_bind (wpAny_field he hd h1 ?_);rw[if_neg (show¬((Value.ref T==Value.none)=true)from by simp)];unfold setFlight;refine wpAny_bind (wpAny_field he hd h1 ?_);rw[if_pos (show(Value.ref T != Value.none)=true from by simp)];refine wpAny_setField hT hdT hsz3 (hQ _ ⟨fun b o hbo=>(other b fun q=>by rw[q,hnT]at hbo;cases hbo).trans (hkb b o hbo),hen,
  hl.of_keeps fun b o hb hnf=>⟨o,(other b (noRecord b o hb hnf)).trans hb,rfl⟩,?_⟩ fun b o hb hnf=>⟨o.slots,(other b (noRecord b o hb hnf)).trans hb⟩)
 exact⟨oe,vs,T,_,_,(other a (Ne.symm hTe)).trans he,hcls,hd,h1,hnT,hTe,Heap.get?_update_self _ hT (Obj.isFreed_of_fields (Obj.data_mapFields hdT _)),Obj.data_mapFields hdT _,by simp[hsz3]⟩
end
def DS(h h':Heap):Prop:=∀b o,h.get? b=some o->∃o',h'.get? b=some o'/\o'.cls=o.cls/\o'.dict=o.dict
theorem DS.refl(h:Heap):DS h h:=fun _ o e=>⟨o,e,rfl,rfl⟩
theorem DS.trans{h1 h2 h3:Heap}(x:DS h1 h2)(y:DS h2 h3):DS h1 h3:=fun b o e=>
 let ⟨o1,e1,c1,d1⟩:=x b o e;let ⟨o2,e2,c2,d2⟩:=y b o1 e1;⟨o2,e2,c2.trans c1,d2.trans d1⟩
def Kf(f:Obj->Obj):Prop:=∀o,(f o).cls=o.cls/\(f o).dict=o.dict/\(o.isFreed=false->(f o).isFreed=false)
theorem DS.upd{h:Heap}{a:Addr}{f:Obj->Obj}(k:Kf f):DS h (h.update a f):=fun b o e=>by
 by_cases z:b=a
 ·subst z;exact⟨f o,Heap.get?_update_self _ e ((k o).2.2 (Heap.get?_some_iff.mp e).2),(k o).1,(k o).2.1⟩
 ·exact⟨o,(Heap.get?_update_ne _ _ _ _ z).trans e,rfl,rfl⟩
theorem DS.push{h:Heap}{o:Obj}:DS h (h.push o):=fun b ob e=>⟨ob,Heap.get?_push_of_some _ e,rfl,rfl⟩
inductive DK{α:Type}:Sem α->Prop
 | pure (a:α):DK (.pure a)
 | raise (e:Value):DK (.raise e)
 | unsupported (w:String):DK (.unsupported w)
 | finish (e:Ending):DK (.finish e)
 | rule {t:String} {k:Unit->Sem α} (h:∀u,DK (k u)):DK (.rule t k)
 | at {p:Pos} {k:Unit->Sem α} (h:∀u,DK (k u)):DK (.at p k)
 | load {a:Addr} {pt:Option Value} {k:Obj->Sem α} (h:∀o,DK (k o)):DK (.load a pt k)
 | update {a:Addr} {pt:Option Value} {f:Obj->Obj} {k:Unit->Sem α} (kf:Kf f) (h:∀u,DK (k u)):DK (.update a pt f k)
 | alloc {o:Obj} {k:Addr->Sem α} (h:∀a,DK (k a)):DK (.alloc o k)
 | alive {a:Addr} {k:Option Obj->Sem α} (h:∀o,DK (k o)):DK (.loadIfAlive a k)
 | point {l:List Value} {k:Unit->Sem α} (h:∀u,DK (k u)):DK (.point l k)
 | ask {k:Setting->Sem α} (h:∀u,DK (k u)):DK (.ask k)
 | stack {k:List (Code×Pos)->Sem α} (h:∀u,DK (k u)):DK (.stack k)
 | fresh {k:Tok->Sem α} (h:∀u,DK (k u)):DK (.fresh k)
 | handled {b:Bool} {k:Option Value->Sem α} (h:∀u,DK (k u)):DK (.handled b k)
theorem wpMono{α:Type}{M:Model}{Γ:PySem.Ctx}{t:Sem α}{Q Q':α->Pos->Shared->Prop}{E E':Value->Pos->Shared->Prop}{p:Pos}{s:Shared}(h:Sem.wp M Γ t Q E p s)(q:∀a p' s',Q a p' s'->Q' a p' s')(e:∀a p' s',E a p' s'->E' a p' s'):Sem.wp M Γ t Q' E' p s:=Sem.wp_mono M Γ t q e p s h
theorem j5a{α:Type}{M:Model}{Γ:PySem.Ctx}{t:Sem α}(d:DK t):∀{Q:α->Pos->Shared->Prop} {E:Value->Pos->Shared->Prop} {p:Pos} {s:Shared},Sem.wp M Γ t Q E p s->
  Sem.wp M Γ t (fun a p' s'=>Q a p' s'/\DS s.heap s'.heap) (fun a p' s'=>E a p' s'/\DS s.heap s'.heap) p s:=by
 induction d with
 | pure a=>intro Q E p s h;rw[Sem.wp]at h|-;exact⟨h,.refl _⟩
 | raise a=>intro Q E p s h;rw[Sem.wp]at h|-;exact⟨h,.refl _⟩
 | unsupported=>intro Q E p s h;rw[Sem.wp]at h;exact h.elim
 | finish=>intro Q E p s h;rw[Sem.wp]at h;exact h.elim
 | rule _ ih=>intro Q E p s h;rw[Sem.wp]at h|-;exact ih _ h
 | «at» _ ih=>intro Q E p s h;rw[Sem.wp]at h|-;exact ih _ h
 | load _ ih=>intro Q E p s h;rw[Sem.wp]at h|-;obtain⟨o,e,h⟩:=h;exact⟨o,e,ih _ h⟩
 | update kf _ ih=>
  intro Q E p s h;rw[Sem.wp]at h|-;refine⟨h.1,wpMono (ih _ h.2) (fun a p' s' z=>⟨z.1,(DS.upd kf).trans z.2⟩) fun a p' s' z=>⟨z.1,(DS.upd kf).trans z.2⟩⟩
 | alloc _ ih=>
  intro Q E p s h;rw[Sem.wp]at h|-;exact wpMono (ih _ h) (fun a p' s' z=>⟨z.1,DS.push.trans z.2⟩) fun a p' s' z=>⟨z.1,DS.push.trans z.2⟩
 | alive _ ih=>intro Q E p s h;rw[Sem.wp]at h|-;exact ih _ h
 | point _ ih=>intro Q E p s h;rw[Sem.wp]at h|-;exact ih _ h
 | ask _ ih=>intro Q E p s h;rw[Sem.wp]at h|-;exact ih _ h
 | stack _ ih=>intro Q E p s h;rw[Sem.wp]at h|-;exact ih _ h
 | fresh _ ih=>intro Q E p s h;rw[Sem.wp]at h|-;exact ih _ h
 | handled _ ih=>intro Q E p s h;rw[Sem.wp]at h|-;exact ih _ h
theorem Zg{α:Type}{M:Model}{A:Around}{t:Sem α}(d:DK t){Q:α->Shared->Prop}{E:Value->Shared->Prop}{s:Shared}(h:wpAny M A t Q E s):wpAny M A t (fun a s'=>Q a s'/\DS s.heap s'.heap) (fun e s'=>E e s'/\DS s.heap s'.heap) s:=
 fun Γ p z=>j5a d (h Γ p z)
theorem DK.bind{α β:Type}{t:Sem α}{f:α->Sem β}(d:DK t)(h:∀a,DK (f a)):DK (t >>= f):=by
 show DK (Sem.bind t f)
 induction d with
 | pure a=>exact h a
 | raise=>exact .raise _
 | unsupported=>exact .unsupported _
 | finish=>exact .finish _
 | rule _ ih=>exact .rule ih
 | «at» _ ih=>exact .at ih
 | load _ ih=>exact .load ih
 | update kf _ ih=>exact .update kf ih
 | alloc _ ih=>exact .alloc ih
 | alive _ ih=>exact .alive ih
 | point _ ih=>exact .point ih
 | ask _ ih=>exact .ask ih
 | stack _ ih=>exact .stack ih
 | fresh _ ih=>exact .fresh ih
 | handled _ ih=>exact .handled ih
theorem j2d(f:Array Value->Array Value):Kf (Obj.mapFields f):=fun o=>by
 obtain⟨c,d,dt,sl⟩:=o;cases dt<;>exact⟨rfl,rfl,fun h=>h⟩
theorem ZT(v:Value):DK (fieldsOf v):=by
 unfold fieldsOf;split
 ·refine DK.bind (.load fun o=>.pure _) fun o=>?_
  split
  ·exact .pure _
  ·exact .unsupported _
 ·exact .unsupported _
theorem Zc(v:Value)(i:Nat):DK (field v i):=by
 unfold field;refine DK.bind (ZT v) fun a=>?_
 split
 ·exact .pure _
 ·exact .unsupported _
theorem kK(a:Addr)(i:Nat)(v:Value):DK (updateField a i v):=by
 unfold updateField
 repeat (first | exact DK.pure _ | exact DK.unsupported _ | exact DK.raise _ | exact ZT _ | exact Zc _ _ | (refine DK.update (j2d _) fun _=>?_) | (refine DK.load fun _=>?_) | (refine DK.stack fun _=>?_) | (refine DK.alloc fun _=>?_) | (refine DK.rule fun _=>?_) | (refine DK.point fun _=>?_) | (refine DK.bind ?_ fun _=>?_) | split | assumption)
theorem ZU(v:Value)(i:Nat)(x:Value):DK (setField v i x):=by
 unfold setField;split
 ·exact kK _ _ _
 ·exact .unsupported _
theorem Qq(e:Value)(f:Option Addr):DK (setFlight e f):=by
 unfold setFlight;refine DK.bind (Zc _ _) fun _=>?_
 split
 ·exact ZU _ _ _
 ·exact .pure _
theorem j0Y(env:Env)(l:List Env):DK (behindIsImport env l):=by
 unfold behindIsImport
 repeat (first | exact DK.pure _ | exact DK.unsupported _ | exact DK.raise _ | exact ZT _ | exact Zc _ _ | (refine DK.update (j2d _) fun _=>?_) | (refine DK.load fun _=>?_) | (refine DK.stack fun _=>?_) | (refine DK.alloc fun _=>?_) | (refine DK.rule fun _=>?_) | (refine DK.point fun _=>?_) | (refine DK.bind ?_ fun _=>?_) | split | assumption)
theorem j1Z:DK underTheClaimsCaller:=.stack fun _=>.pure _
theorem W0(env:Env)(i:Bool)(l:List Env):DK (keptBack env i l):=by
 unfold keptBack;split
 ·split
  ·exact .pure _
  ·exact .bind j1Z fun _=>.pure _
 ·exact .pure _
theorem W2:∀l:List Env,DK (readyFrames l)
 | []=>.pure _
 | env::outer=>by
  unfold readyFrames;split
  ·refine DK.bind (.load fun o=>.pure _) fun o=>?_
   split
   ·exact .pure _
   ·refine DK.bind (j0Y _ _) fun _=>DK.bind (W0 _ _ _) fun _=>DK.bind (.update (fun o=>⟨rfl,rfl,fun h=>by obtain⟨c,d,dt,sl⟩:=o;cases dt<;>exact h⟩) fun _=>.pure _) fun _=>W2 outer
  ·exact .unsupported _
theorem kJ:∀l:List Env,DK (frameObject l)
 | []=>.pure _
 | env::outer=>.bind (W2 _) fun _=>.pure _
theorem Xl(env:Env):DK (PySem.frameOf env):=by
 unfold PySem.frameOf;refine DK.bind (.stack fun _=>.pure _) fun _=>DK.bind (kJ _) fun a=>?_
 split
 ·exact .pure _
 ·exact .unsupported _
theorem j1Y(f:Addr)(b:Bool):DK (entryPlaceOf f b):=by
 unfold entryPlaceOf;refine DK.bind (.stack fun _=>.pure _) fun _=>?_
 split<;>exact .pure _
theorem W1(a b c d e:Value)(pl:List Value):DK (EntryCells.newEntry a b c d e pl):=by
 unfold EntryCells.newEntry newFields newObj;dsimp only;have fin:∀dt:Data,DK (newObjAsIs (.type "traceback") dt):=fun dt=>DK.bind (.alloc fun _=>.pure _) fun _=>.pure _
 split<;>split<;>first | exact fin _ | exact DK.bind (.unsupported _) fun _=>fin _
theorem wU(e:Value)(env:Env):DK (noteFrame e env):=by
 unfold noteFrame;split
 ·refine DK.bind (Zc _ _) fun hd=>?_
  have rest:∀(f:Addr),DK (do setField e 1 (<-EntryCells.newEntry hd (<-frameOf env) .none (rawInt f) .none (<-entryPlaceOf f (hd != .none)))):=fun f=>
   DK.bind (Xl _) fun _=>DK.bind (j1Y _ _) fun _=>DK.bind (W1 _ _ _ _ _ _) fun _=>ZU _ _ _
  split
  ·refine DK.bind (Zc _ _) fun _=>?_
   split
   ·exact .pure _
   ·exact DK.bind (ZU _ _ _) fun _=>rest _
  ·exact rest _
 ·exact .unsupported _
theorem Xm(env:Env)(e:Value):DK (leaving env e):=.bind (wU _ _) fun _=>Qq _ _
theorem wH{M:Model}{A:Around}{E:Value->Shared->Prop}{s:Shared}{B:Heap}{env:Env}{outer:List Env}{L a:Addr}{cls:Value}{Q:Unit->Shared->Prop}(hfr:A.frames=some (env::outer))(hf:env.frame=some L)(x:Air B (env::outer) a cls s.heap)
  (hQ:∀h',Air B outer a cls h'->s.heap.UpToSlots h'->DS s.heap h'->Q () {s with heap:=h'}):wpAny M A (leaving env (.ref a)) Q E s:=by
 refine wpAny_mono (Zg (Xm env (.ref a)) (WQ (E:=E) (Q:=fun u s'=>Air B outer a cls s'.heap/\s.heap.UpToSlots s'.heap/\s'={s with heap:=s'.heap}) hfr hf x fun h' a' u=>⟨a',u,rfl⟩)) (fun u s' z=>?_) fun _ _ z=>z.1
 obtain⟨⟨z1,z2,z3⟩,z4⟩:=z;rw[z3];exact hQ _ z1 z2 z4
theorem Xc{M:Model}{A:Around}{E:Value->Shared->Prop}{s:Shared}{B:Heap}{env:Env}{outer:List Env}{L a:Addr}{cls:Value}{Q:Unit->Shared->Prop}(hfr:A.frames=some (env::outer))(hf:env.frame=some L)(x:Air B (env::outer) a cls s.heap)
  (hQ:∀h' a0,Heap.FlyingW B (env::outer) a cls a0 h'->s.heap.UpToSlots h'->DS s.heap h'->Q () {s with heap:=h'}) :
  wpAny M A (noteFrame (.ref a) env) (fun _ s₂=>wpAny M A (setFlight (.ref a) none) Q E s₂) E s:=by
 have h1:=Zg (wU (.ref a) env) (j0K (M:=M) (E:=E) (Q:=fun u s'=>(∃a0,Heap.FlyingW B (env::outer) a cls a0 s'.heap)/\s.heap.UpToSlots s'.heap/\s'={s with heap:=s'.heap}) hfr hf x fun h' a0 f u=>⟨⟨a0,f⟩,u,rfl⟩);refine wpAny_mono h1 (fun u s' z=>?_) fun _ _ z=>z.1
 refine wpAny_mono (Zg (Qq _ _) z.1) (fun u' s2 y=>?_) fun _ _ y=>y.1
 obtain⟨⟨⟨a0,y1⟩,y2,y3⟩,y4⟩:=y;rw[y3];exact hQ _ a0 y1 y2 (z.2.trans y4)
noncomputable def CX1(P:Program)(w:World):CXT:=fun outer H s E e s'=>∃a cls H' B dd,e = .ref a/\s.heap.get? a=none/\s'.os=s.os/\AllBare s'.gens/\
 Un (frs outer) [] H H' s.heap s'.heap/\HOk P w H' s'.heap/\H' a=none/\Air B outer a cls s'.heap/\
 (∀b o,s'.heap.get? b=some o->(H' b≠none\/∃o0,s.heap.get? b=some o0)->b∉frs outer->B.get? b=some o)/\(∃oe,s'.heap.get? a=some oe/\oe.dict=dd)/\E cls dd H'
def XP(X:Cx)(pins:List (Addr×Obj))(σ:St)(E:XK)(e:Value)(s':Shared):Prop:=
 ∃a cls H' B dd,e = .ref a/\X.s₀.heap.get? a=none/\Inv X pins σ H' s'/\H' a=none/\Air B X.stack a cls s'.heap/\
  (∀b o,s'.heap.get? b=some o->(H' b≠none\/(∃o0,X.s₀.heap.get? b=some o0)\/∃p∈X.pn++pins,p.1=b)->b∉frs X.stack->B.get? b=some o)/\(∃oe,s'.heap.get? a=some oe/\oe.dict=dd)/\E cls dd H'
structure Flat(X:Cx):Prop where
 ex:X.ex=[]
 stk:X.stack=X.env::X.outer
 fr:X.env.frame=some X.env.locals
 calm:X.calm=true
section
variable{X:Cx}{pins:List (Addr×Obj)}{σ:St}{H:Hp}{s s':Shared}{E:XK}{e:Value}
theorem Flat.fs(F:Flat X):frs X.stack=X.env.locals::X.fs:=by
 rw[F.stk];unfold frs;rw[filterMap_cons,F.fr];rfl
theorem XP.of_call(F:Flat X)(I:Inv X pins σ H s)(h:CX1 X.prog X.w X.stack H s E e s'):XP X pins σ E e s':=by
 obtain⟨a,cls,H',B,dd,rfl,na,os,bare,un,hok,n,air,cov,hD,hE⟩:=h;have I':Inv X pins σ H' s':=I.call' (ch:=[]) os un hok bare (fun b z=>absurd z (by simp));have old:∀b o,X.s₀.heap.get? b=some o->∃o',s.heap.get? b=some o':=fun b o e=>I.base.there b o e (by rw[F.ex];simp)
 refine⟨a,cls,H',B,dd,rfl,?_,I',n,air,fun b o e q hb=>cov b o e ?_ hb,hD,hE⟩
 ·cases q:X.s₀.heap.get? a with
  | none=>rfl
  | some o=>obtain⟨o',e'⟩:=old a o q;rw[na]at e';cases e'
 ·rcases q with q | ⟨o0,q⟩ | ⟨p,hp,rfl⟩
  ·exact .inl q
  ·exact .inr (old b o0 q)
  ·exact .inr ⟨_,(I.pin p hp).1⟩
theorem XP.stays(F:Flat X){H':Hp}{B h':Heap}(I:Inv X pins σ H' s')
  (cov:∀b o,s'.heap.get? b=some o->(H' b≠none\/(∃o0,X.s₀.heap.get? b=some o0)\/∃p∈X.pn++pins,p.1=b)->b∉frs X.stack->B.get? b=some o)
  (st:B.StaysIn h') (up:s'.heap.UpToSlots h') :
  (∀b o,s'.heap.get? b=some o->(H' b≠none\/(∃o0,X.s₀.heap.get? b=some o0)\/∃p∈X.pn++pins,p.1=b)->b∉frs X.stack->h'.get? b=some o)/\
  (∀b o,s'.heap.get? b=some o->b∈frs X.stack->∃sl,h'.get? b=some {o with slots:=sl})/\HOk X.prog X.w H' h':=by
 have k1:∀b o,s'.heap.get? b=some o->(H' b≠none\/(∃o0,X.s₀.heap.get? b=some o0)\/∃p∈X.pn++pins,p.1=b)->b∉frs X.stack->h'.get? b=some o:=fun b o e q hb=>st b o (cov b o e q hb)
 refine⟨k1,fun b o e hb=>?_,fun b u e=>?_⟩
 ·obtain⟨_,o',e',hd⟩:=I.stack.mem hb;rw[e]at e';cases e';exact up b o e hd
 ·have nf:∀c v,H' c=some v->c∉frs X.stack:=fun c v q z=>by rw[I.stkFree c z]at q;cases q
  refine(I.hok b u e).stay (fun c v hc q=>?_) (fun _ q=>q) fun _ _ q=>q
  rcases hc with rfl | hc
  ·exact k1 c v q (.inl (by rw[e];simp)) (nf c u e)
  ·exact k1 c v q (.inl (by rw[hc];simp)) (nf c _ hc)
end
theorem XP.leaves{P:Program}{w:World}{K:Frg}{mg:Str->Option Value}{base:Heap}{N:List Str}{qual:Str}{scope:Scope}{f:Addr}{cd:Value}{A:Around}{outer:List Env}{s s':Shared}{H:Hp}{E:XK}{σ:St}{e:Value}
  (h:XP (cxOf (CX1 P w) P w K mg base N qual scope f cd A outer s H E) [] σ E e s'):(cxOf (CX1 P w) P w K mg base N qual scope f cd A outer s H E).xe e s':=by
 obtain⟨a,cls,H',B,dd,rfl,na,I,n,air,cov,⟨oe,hoe,hoed⟩,hE⟩:=h;refine wH (L:=s.heap.objs.size) I.ok.frames rfl air fun h' air' up ds=>?_
 obtain⟨oe',hoe',_,hd'⟩:=ds a oe hoe;obtain⟨k1,k2,hok⟩:=XP.stays (X:=cxOf (CX1 P w) P w K mg base N qual scope f cd A outer s H E) ⟨rfl,rfl,rfl,rfl⟩ I cov air'.1 up;have fsE:frs (cxOf (CX1 P w) P w K mg base N qual scope f cd A outer s H E).stack=s.heap.objs.size::frs outer:=rfl;have nL:∀b o,s.heap.get? b=some o->b≠s.heap.objs.size:=fun b o e=>Nat.ne_of_lt (Heap.lt_size e)
 have nfs:∀b o,s.heap.get? b=some o->b∉frs outer->b∉frs (cxOf (CX1 P w) P w K mg base N qual scope f cd A outer s H E).stack:=fun b o e hb z=>by
  rw[fsE]at z;rcases mem_cons.mp z with z | z
  ·exact nL b o e z
  ·exact hb z
 have nx:∀b:Addr,b∉(cxOf (CX1 P w) P w K mg base N qual scope f cd A outer s H E).ex:=fun b z=>absurd (show b∈([]:List Addr)from z) (by simp)
 have inS:∀b,b∈frs outer->b∈frs (cxOf (CX1 P w) P w K mg base N qual scope f cd A outer s H E).stack:=fun b z=>by rw[fsE];exact mem_cons_of_mem _ z
 refine⟨a,cls,H',B,dd,rfl,na,I.os,I.bare,⟨fun b o e m hb _=>?_,fun b o e m hb _=>?_,fun b o e m _=>I.base.free b o e m (nx b),fun b o e _=>?_,I.base.tups,I.base.frzs,I.base.tbls⟩,hok,n,air',fun b o e q hb=>?_,⟨oe',hoe',hd'.trans hoed⟩,hE⟩
 ·exact k1 b o (I.base.keep b o e m hb (nx b)) (.inr (.inl ⟨o,e⟩)) (nfs b o e hb)
 ·obtain⟨sl,e1⟩:=I.base.slot b o e m hb (nx b);obtain⟨sl',e2⟩:=k2 b _ e1 (inS b hb);exact⟨sl',e2⟩
 ·obtain⟨o',e1⟩:=I.base.there b o e (nx b);by_cases hb:b∈frs outer
  ·obtain⟨sl',e2⟩:=k2 b _ e1 (inS b hb);exact⟨_,e2⟩
  ·exact⟨o',k1 b o' e1 (.inr (.inl ⟨o,e⟩)) (nfs b o e hb)⟩
 ·have had:∃o',s'.heap.get? b=some o'/\b∉frs (cxOf (CX1 P w) P w K mg base N qual scope f cd A outer s H E).stack:=by
   rcases q with q | ⟨o0,q⟩
   ·cases q':H' b with
    | none=>exact absurd q' q
    | some u=>
     obtain⟨ob,z⟩:=(I.hok b u q').has;exact⟨ob,z,fun zz=>by rw[I.stkFree b zz]at q';cases q'⟩
   ·obtain⟨o',e1⟩:=I.base.there b o0 q (nx b);exact⟨o',e1,nfs b o0 q hb⟩
  obtain⟨o',e1,nf⟩:=had;have q2:H' b≠none\/(∃o0,s.heap.get? b=some o0)\/∃p∈(cxOf (CX1 P w) P w K mg base N qual scope f cd A outer s H E).pn++[],p.1=b:=by
   rcases q with q | q
   ·exact .inl q
   ·exact .inr (.inl q)
  have e2:=cov b o' e1 q2 nf;have e3:h'.get? b=some o:=e;rw[air'.1 b o' e2]at e3;cases e3;exact e2
noncomputable abbrev XS:=St->XK
noncomputable abbrev TRE:=St->Hp->XK->Prop
noncomputable abbrev TRS:=St->Hp->XS->Prop
def XPS(X:Cx)(pins:List (Addr×Obj))(E:XS)(e:Value)(s':Shared):Prop:=∃σ',XP X pins σ' (E σ') e s'
def RE(X:Cx)(e:Expr)(t:TRE):Prop:=
 ∀(pins:List (Addr×Obj)) (s:Shared) (σ:St) (H:Hp) (E:XK),Inv X pins σ H s->t σ H E->wpAny (model X.prog X.w) X.A (eval e X.env) (fun _ _=>False) (XP X pins σ E) s
def RS(X:Cx)(st:Stmt)(t:TRS):Prop:=
 ∀(pins:List (Addr×Obj)) (s:Shared) (σ:St) (H:Hp) (E:XS),Inv X pins σ H s->t σ H E->wpAny (model X.prog X.w) X.A (exec st X.env) (fun _ _=>False) (XPS X pins E) s
def RSs(X:Cx)(st:List Stmt)(t:TRS):Prop:=
 ∀(pins:List (Addr×Obj)) (s:Shared) (σ:St) (H:Hp) (E:XS),Inv X pins σ H s->t σ H E->wpAny (model X.prog X.w) X.A (execs st X.env) (fun _ _=>False) (XPS X pins E) s
noncomputable def rE(t:TRE):TRS:=fun σ H E=>t σ H (E σ)
noncomputable def rSeq(t1:TS)(t2:TRS):TRS:=fun σ H E=>t1 {nx:=fun σ' H'=>t2 σ' H' E,rt:=fun _ _=>False} σ H
noncomputable def rIf(tc:TT)(ta tb:TRS):TRS:=fun σ H E=>tc σ H fun b H1=>if b=true then ta σ H1 E else tb σ H1 E
noncomputable def rNever:TRS:=fun _ _ _=>False
section
variable{X:Cx}{e a b c:Expr}{t:TRE}{ta tb:TRS}{x:Str}{pos pos':Pos}{st:Stmt}{rest l r:List Stmt}
theorem j4L(he:RE X e t)(hs:swapsWith e (some (.Name x pos')) pos.line X.env=pure false:=by rfl):RS X (.Assign [.Name x pos'] e pos) (rE t):=fun pins s σ H E I h=>
 wpAny_Assign_Name (wpAny_mono (he pins s σ H _ I h) (fun _ _ z=>z.elim) fun e s' q=>⟨σ,q⟩) hs
theorem YX:RSs X l rNever:=fun _ _ _ _ _ _ h=>h.elim
theorem zx(h1:RS X st ta):RSs X (st::rest) ta:=fun pins s σ H E I h=>
 wpAny_execs_cons (wpAny_mono (h1 pins s σ H E I h) (fun _ _ z=>z.elim) fun _ _ q=>q)
theorem zw{t1:TS}(h1:PS X.nox st t1)(h2:RSs X rest tb):RSs X (st::rest) (rSeq t1 tb):=fun pins s σ H E I h=>by
 refine wpAny_execs_cons (wpAny_mono (h1 pins s σ H _ (I.wish _) h) (fun f s1 q=>?_) fun _ _ z=>False.elim z);cases f with
 | next=>
  obtain⟨σ',H',I',q⟩:=q;exact h2 pins s1 σ' H' E I'.unwish q
 | ret v=>obtain⟨_,_,_,_,_,q⟩:=q;exact q.elim
 | brk=>obtain⟨_,_,_,q⟩:=q;exact q.elim
 | cont=>obtain⟨_,_,_,q⟩:=q;exact q.elim
theorem j2B{tc:TT}(hc:PT X.nox c tc)(ha:RSs X l ta)(hb:RSs X r tb):RS X (.If c l r pos) (rIf tc ta tb):=fun pins s σ H E I h=>by
 refine wpAny_If (wpAny_mono (hc pins s σ H _ (I.wish _) h) (fun d s1 ⟨H1,I1,q1⟩=>?_) fun _ _ z=>False.elim z);cases d with
 | true=>exact ha pins s1 σ H1 E I1.unwish q1
 | false=>exact hb pins s1 σ H1 E I1.unwish q1
end
section
variable{X:Cx}{k:Nat}{f C:Addr}{fd:FuncData}{ps:List Str}{sp:Sp}{dvs:List V}{ds:List Value}{E:XK}{x m:Str}{p pos apos:Pos}{e o:Expr}{es:List Expr}{ta:TE}{t:TA}
theorem j3N{pins:List (Addr×Obj)}{σ:St}{H:Hp}{s:Shared}{us:List Value}{vs:List V}(F:FnOk X.prog X.w X.K X.mg X.base (CX1 X.prog X.w) k f fd ps sp)(hr:Room k X.A)(hb:Binds X.K fd ps ds)(hd:Vals dvs ds)(fl:Flat X)
  (I:Inv X pins σ H s) (r:Vals vs us) (h:sp (vs++dvs) H (fun _ _=>False) E):wpAny (model X.prog X.w) X.A (call (.ref f) us) (fun _ _=>False) (XP X pins σ E) s:=by
 have r2:Vals (vs++dvs) (us++ds):=r.append hd;have hl:(us++ds).length=ps.length:=by rw[<-r2.length];exact F.len _ _ _ _ h
 refine wpAny_call (codeAny_mono (F.run X.A X.stack s H ⟨us,[]⟩ (us++ds) (vs++dvs) _ E hr I.env0 (hb s us I.kIn hl) r2 h) fun r s' hq=>?_);cases r with
 | error e=>exact XP.of_call fl I hq
 | ok fl=>
  cases fl with
  | ret u=>obtain⟨_,_,_,_,_,_,_,q⟩:=hq;exact q.elim
  | next=>exact False.elim hq
  | brk=>exact False.elim hq
  | cont=>exact False.elim hq
noncomputable def rCall(sp:Sp)(dvs:List V)(t:TA):TRE:=fun σ H E=>t σ H fun vs H1=>sp (vs++dvs) H1 (fun _ _=>False) E
theorem j3J(F:FnOk X.prog X.w X.K X.mg X.base (CX1 X.prog X.w) k f fd ps sp)(hr:Room k X.A)(hg:Gl X x)(hm:X.mg x=some (.ref f))(hk:PySem.W.keepIn X.K (.ref f)=true)(hb:Binds X.K fd ps ds)(hd:Vals dvs ds)(fl:Flat X)
  (ha:PA X.nox (e::es) t) (hdb:(x==("__debug__" : Str))=false:=by decide) (he:starEach (e::es) X.env=(false,eval e X.env)::starEach es X.env:=by rfl) (hpl:(backTo pos (starEach es X.env)).any (·.1)=false:=by rfl) :
  RE X (.Call (.Name x p) (e::es) [] pos) (rCall sp dvs t):=by
 intro pins s σ H E I h;refine wpAny_Call_Name_kw (yg I hg hm ?_ hdb);refine PySem.W.callWith_K (h₀:=X.base) I.ok.mod.kin hk (wpAny_mono (ha pos pins s σ H _ (I.wish _) h) (fun us s1 ⟨vs,H1,I1,r,q⟩=>⟨I1.unwish.kIn,?_⟩) fun _ _ z=>False.elim z) he hpl;exact j3N F hr hb hd fl I1.unwish r q
end
section
variable{P:Program}{w:World}{K:Frg}{mg:Str->Option Value}{base:Heap}
theorem j4g{k:Nat}{f:Addr}{name qual:Str}{params:Arguments}{body:List Stmt}{scope:Scope}{dV kV doc pm cdv ct oc:Value}{an od:Option Addr}
  {osl:Array (Option Value)} {N ps:List Str} {sp:Sp} (lk:K.lookup f=some ⟨oc,od,.func (PySem.W.fnOf name qual params body scope dV kV doc pm an cdv ct),osl⟩) (hcd:PySem.W.codeIn K cdv qual=true) (S:FnScope N ps scope)
  (len:∀vs H Q E,sp vs H Q E->vs.length=ps.length)
  (hbody:∀(A:Around) (outer:List Env) (s:Shared) (H:Hp) (vs:List V) (Q:VK) (E:XK),Room k (A.deeper (envOfC qual scope s.heap.objs.size f cdv))->sp vs H Q E->
   ∃t,RSs (cxOf (CX1 P w) P w K mg base N qual scope f cdv A outer s H E) body t/\t (start N vs) H (fun _=>E)) :
  FnOk P w K mg base (CX1 P w) (k+1) f (PySem.W.fnOf name qual params body scope dV kV doc pm an cdv ct) ps sp:=by
 refine⟨len,fun A outer s H args us vs Q E hr e0 hb r hsp=>?_⟩;have hl:=len _ _ _ _ hsp;have KX:K.In s.heap:=e0.mod.kin.keeps fun b o e=>(e0.bs b o e).1
 have lim:s.heap.NoLimit:=e0.mod.nolimit.keeps fun b o e=>(e0.bs b o e).1
 have hkind:∀y∈ps.zip us,scope.names.lookup y.1=some .local\/(scope.names.lookup y.1=some .cell/\((cellsFrom (s.heap.objs.size+1) scope.names []).lookup y.1).isSome=true):=fun⟨n,v⟩ hy=>by
  rcases S.par n (of_mem_zip hy).1 with q | q
  ·exact .inl q
  ·exact .inr ⟨q,PySem.W.cellsFrom_some _ _ _ (.inl q)⟩
 refine codeAny_call_function hr.depth (KX _ _ lk) rfl S.co S.gen rfl (PySem.W.codeRec_of KX hcd) (hb _ _ _ _ ?_);refine wpAny_newFunctionEnv_cells S.kind hkind fun env he s1 x=>?_
 subst he;refine⟨lim.keeps x.toInCall.keep,codeAny_func ?_⟩;obtain⟨t,ht,hq⟩:=hbody A outer s H vs Q E (hr.deeper _) hsp;have I:Inv (cxOf (CX1 P w) P w K mg base N qual scope f cdv A outer s H E) [] (start N vs) H s1:=wa S hr.hd e0 hl r x;exact wpAny_mono (ht [] s1 (start N vs) H _ I hq) (fun _ _ z=>z.elim) fun e s' ⟨σ',q⟩=>XP.leaves q
theorem Fun.okR{x qual:Str}{st:Stmt}{f:Addr}{fd:FuncData}{N ps:List Str}{k:Nat}{sp:Sp}(F:Fun K x qual st f fd)(S:FnScope N ps (defScope st))(len:∀vs H Q E,sp vs H Q E->vs.length=ps.length)
  (hbody:∀(cdv:Value) (A:Around) (outer:List Env) (s:Shared) (H:Hp) (vs:List V) (Q:VK) (E:XK),Room k (A.deeper (envOfC qual (defScope st) s.heap.objs.size f cdv))->sp vs H Q E->
   ∃t,RSs (cxOf (CX1 P w) P w K mg base N qual (defScope st) f cdv A outer s H E) (defBody st) t/\t (start N vs) H (fun _=>E)):FnOk P w K mg base (CX1 P w) (k+1) f fd ps sp:=by
 obtain⟨oc,od,kV,doc,pm,an,cdv,ct,osl,rfl,lk,hcd⟩:=F.ex;exact j4g lk hcd S len fun A outer s H vs Q E hr hsp=>hbody cdv A outer s H vs Q E hr hsp
end
noncomputable def xcO(cls:Value)(a:Addr):Heap->Prop:=fun h=>∃o vs,h.get? a=some o/\o.cls=cls/\o.data = .fields vs
noncomputable def xcF(cls:Value)(a:Addr)(dd:Option Addr):Heap->Prop:=fun h=>∃o vs,h.get? a=some o/\o.cls=cls/\o.data = .fields vs/\o.dict=dd
noncomputable abbrev XcF(cls:Value)(a:Addr)(dd:Option Addr):HO:=.ext (xcF cls a dd)
theorem xcF.xc{cls:Value}{a:Addr}{dd:Option Addr}{h:Heap}(x:xcF cls a dd h):xcO cls a h:=let ⟨o,vs,e,c,f,_⟩:=x;⟨o,vs,e,c,f⟩
theorem Wb{M:Model}{A:Around}{E:Value->Shared->Prop}{s:Shared}{base:Heap}{l:List Env}{e:Addr}{cls a0:Value}{Q:Unit->Shared->Prop}(hh:Heap.FlyingW base l e cls a0 s.heap)
  (hQ:∀h',Heap.FlyingW base l e cls a0 h'->s.heap.UpToSlots h'->DS s.heap h'->Q () {s with heap:=h'}):wpAny M A (setFlight (.ref e) none) Q E s:=by
 refine wpAny_mono (Zg (Qq _ _) (lands_againW (M:=M) (A:=A) (E:=E) (Q:=fun _ s'=>Heap.FlyingW base l e cls a0 s'.heap/\s.heap.UpToSlots s'.heap/\s'={s with heap:=s'.heap}) hh fun h' f u=>⟨f,u,rfl⟩)) (fun u s' z=>?_) fun _ _ z=>z.1
 obtain⟨⟨z1,z2,z3⟩,z4⟩:=z;rw[z3];exact hQ _ z1 z2 z4
section
variable{X:Cx}{pins:List (Addr×Obj)}{σ:St}{H:Hp}{s:Shared}
theorem Inv.landed{H':Hp}{B h':Heap}(F:Flat X)(I:Inv X pins σ H' s)
  (cov:∀b o,s.heap.get? b=some o->(H' b≠none\/(∃o0,X.s₀.heap.get? b=some o0)\/∃p∈X.pn++pins,p.1=b)->b∉frs X.stack->B.get? b=some o)
  (st:B.StaysIn h') (up:s.heap.UpToSlots h'):Inv X pins σ H' {s with heap:=h'}:=by
 obtain⟨k1,k2,hok⟩:=XP.stays F I cov st up;have nfs:∀b o,X.s₀.heap.get? b=some o->b∉X.fs->b∉frs X.stack:=fun b o e hb z=>by
  rw[F.fs]at z;rcases mem_cons.mp z with z | z
  ·exact absurd (Nat.lt_of_lt_of_le (Heap.lt_size e) I.ok.above) (by rw[z];exact Nat.lt_irrefl _)
  ·exact hb z
 have inS:∀b,b∈X.fs->b∈frs X.stack:=fun b z=>by rw[F.fs];exact mem_cons_of_mem _ z
 have cellK:∀c v,s.heap.IsCell c v->h'.IsCell c v:=fun c v ⟨o,ho,hd⟩=>by
  obtain⟨sl,e⟩:=up c o ho fun vs q=>by rw[hd]at q;cases q
  exact⟨_,e,hd⟩
 refine⟨I.ok,I.os,I.bare,⟨fun b o e n hb hx=>?_,fun b o e n hb hx=>?_,I.base.free,fun b o e hx=>?_,I.base.tups,I.base.frzs,I.base.tbls⟩,?_,fun x c e=>?_,I.free,I.freeC,fun p hp=>?_,hok,I.len⟩
 ·exact k1 b o (I.base.keep b o e n hb hx) (.inr (.inl ⟨o,e⟩)) (nfs b o e hb)
 ·obtain⟨sl,e1⟩:=I.base.slot b o e n hb hx;obtain⟨sl',e2⟩:=k2 b _ e1 (inS b hb);exact⟨sl',e2⟩
 ·obtain⟨o',e1⟩:=I.base.there b o e hx;by_cases hb:b∈X.fs
  ·obtain⟨sl',e2⟩:=k2 b _ e1 (inS b hb);exact⟨_,e2⟩
  ·exact⟨o',k1 b o' e1 (.inr (.inl ⟨o,e⟩)) (nfs b o e hb)⟩
 ·obtain⟨m,hn,hl⟩:=I.loc;refine⟨m,up.ns hn,fun i x v e1 e2 e3=>?_⟩;obtain⟨u,r,l⟩:=hl i x v e1 e2 e3;refine⟨u,r,?_⟩;rcases l with l | ⟨k,c,e,z⟩
  ·exact .inl l
  ·exact .inr ⟨k,c,e,cellK c _ z⟩
 ·obtain⟨v,z⟩:=I.cell x c e;exact⟨v,cellK c v z⟩
 ·obtain⟨e,n,ne,nf,d⟩:=I.pin p hp;refine⟨k1 p.1 p.2 e (.inr (.inr ⟨p,hp,rfl⟩)) ?_,n,ne,nf,d⟩;rw[F.fs];intro z;rcases mem_cons.mp z with z | z
  ·exact ne z
  ·exact nf z
theorem Inv.known{T:Addr}{o:HO}(I:Inv X pins σ H s)(h0:H T=none)(hs:X.s₀.heap.get? T=none)(hL:T≠X.env.locals)(hC:∀x c,X.env.cells.lookup x=some c->c≠T)(hp:∀p∈X.pn++pins,p.1≠T)
  (new:ObjOk X.prog X.w (upd H T o) s.heap T o):Inv X pins σ (upd H T o) s:=by
 have ne:∀b u,H b=some u->b≠T:=fun b u e z=>by rw[z,h0]at e;cases e
 have ns:∀b u,X.s₀.heap.get? b=some u->b≠T:=fun b u e z=>by rw[z,hs]at e;cases e
 refine⟨I.ok,I.os,I.bare,⟨I.base.keep,I.base.slot,fun b u e n hx=>(jq (ns b u e)).trans (I.base.free b u e n hx),I.base.there,fun b xs e=>?_,fun b u v e=>?_,fun b ps e=>?_⟩,I.loc,I.cell,(jq (Ne.symm hL)).trans I.free,fun x c e=>(jq (hC x c e)).trans (I.freeC x c e),fun p hq=>?_,fun b u e=>?_,I.len⟩
 ·have:=I.base.tups b xs e;exact(jq (ne _ _ this)).trans this
 ·have:=I.base.frzs b u v e;exact(jq (ne _ _ this)).trans this
 ·obtain⟨more,this⟩:=I.base.tbls b ps e;exact⟨more,(jq (ne _ _ this)).trans this⟩
 ·obtain⟨e,n,r⟩:=I.pin p hq;exact⟨e,(jq (hp p hq)).trans n,r⟩
 ·by_cases z:b=T
  ·subst z;rw[jn]at e;cases e;exact new
  ·rw[jq z]at e;exact(I.hok b u e).stay (fun c v _ q=>q) (fun c q=>(jq (ne _ _ q)).trans q) fun c ys q=>(jq (ne _ _ q)).trans q
noncomputable abbrev Cx.inExc(X:Cx)(A:Around):Cx:={X with A:=A,calm:=false,xe:=fun _ _=>False}
theorem Inv.inExc(I:Inv X pins σ H s){A:Around}(hA:A.frames=X.A.frames):Inv (X.inExc A) pins σ H s:=
 ⟨⟨I.ok.mod,I.ok.kind,I.ok.glob,I.ok.blt,I.ok.above,I.ok.inj,I.ok.has,I.ok.cab,(fun z=>nomatch z),hA.trans I.ok.frames,I.ok.stk,I.ok.exf,I.ok.bs,I.ok.bsz,I.ok.noex,I.ok.exfs,I.ok.funs,I.ok.frf⟩,I.os,I.bare,I.base,I.loc,I.cell,I.free,I.freeC,I.pin,I.hok,I.len⟩
theorem Inv.outExc{A:Around}(I:Inv (X.inExc A) pins σ H s)(ok:X.Ok):Inv X pins σ H s:=⟨ok,I.os,I.bare,I.base,I.loc,I.cell,I.free,I.freeC,I.pin,I.hok,I.len⟩
theorem j1g{M:Model}{A:Around}{E:Value->Shared->Prop}{i:Nat}{n:Str}{pos:Pos}{Q:Unit->Shared->Prop}(I:Inv X pins σ H s)(hN:X.N.Nodup)(hi:X.N[i]?=some n)(hl:X.env.scope.names.lookup n=some .local)
  (h:∀s',Inv X pins (σ.set i none) H s'->Q () s'):wpAny M A (do bindName X.env n .none;unbindBehindTheSuite X.env n pos) Q E s:=by
 obtain⟨m,hn,hlk⟩:=id I.loc;refine wpAny_nameGoes_keeps hl hn (by rw[I.ok.kind];rfl) fun h' v hn' hs=>h _ ?_
 obtain⟨oL,_,_,hoL,_⟩:=id hn;have hiσ:i<σ.length:=by rw[I.len];exact(List.getElem?_eq_some_iff.mp hi).1
 have tracked:HOk X.prog X.w H h':=fun b ob e=>by
  refine(I.hok b ob e).stay (fun c w' hc q=>(hs.2 c ?_).trans q) (fun _ q=>q) fun _ _ q=>q
  rintro rfl;rcases hc with hc | hc
  ·rw[<-hc,I.free]at e;cases e
  ·rw[I.free]at hc;cases hc
 refine⟨I.ok,I.os,I.bare,⟨fun b o e n hb hx=>?_,fun b o e n hb hx=>?_,I.base.free,fun b o e hx=>?_,I.base.tups,I.base.frzs,I.base.tbls⟩,⟨_,hn',fun j y v' e1 e2 e3=>?_⟩,fun y c e=>?_,I.free,I.freeC,fun p hp=>?_,tracked,by simpa using I.len⟩
 ·exact(hs.2 b (Nat.ne_of_lt (Nat.lt_of_lt_of_le (Heap.lt_size e) I.ok.above))).trans (I.base.keep b o e n hb hx)
 ·obtain⟨sl,e1⟩:=I.base.slot b o e n hb hx;exact⟨sl,(hs.2 b (Nat.ne_of_lt (Nat.lt_of_lt_of_le (Heap.lt_size e) I.ok.above))).trans e1⟩
 ·obtain⟨o',e1⟩:=I.base.there b o e hx;exact⟨o',(hs.2 b (Nat.ne_of_lt (Nat.lt_of_lt_of_le (Heap.lt_size e) I.ok.above))).trans e1⟩
 ·by_cases hj:j=i
  ·subst hj;rw[List.getElem?_set_self hiσ]at e2;cases e2
  ·rw[List.getElem?_set_ne (Ne.symm hj)]at e2;obtain⟨u',r',q⟩:=hlk j y v' e1 e2 e3;refine⟨u',r',?_⟩;rcases q with⟨k,e⟩ | ⟨k,c,e,z⟩
   ·refine .inl ⟨k,?_⟩;have:y≠n:=fun e=>hj (kW hN e1 (e▸hi))
    simp[this,e]
   ·exact .inr ⟨k,c,e,z.sameBut hs (I.cne y c e)⟩
 ·obtain⟨w',z⟩:=I.cell y c e;exact⟨w',z.sameBut hs (I.cne y c e)⟩
 ·obtain⟨e,n,ne,nf,d⟩:=I.pin p hp;exact⟨(hs.2 p.1 ne).trans e,n,ne,nf,d⟩
end
def tTry(K:Frg)(c:Value)(i:Nat)(tn:TS)(tr:TRS)(ts:TS):TS:=fun D σ H=>
 tn D σ H\/tr σ H fun σ' cls dd H'=>PySem.W.exmOne K cls c=some true/\∀a,H' a=none->
  ts {nx:=fun σ2 H2=>D.nx (σ2.set i none) H2,rt:=D.rt,bk:=fun σ2 H2=>D.bk (σ2.set i none) H2,ct:=fun σ2 H2=>D.ct (σ2.set i none) H2} (σ'.set i (some (.ref a))) (upd H' a (XcF cls a dd))
theorem j4D{X:Cx}{body suite:List Stmt}{b0:Stmt}{x n:Str}{C:Addr}{i:Nat}{np hp pos:Pos}{tn:TS}{tr:TRS}{ts:TS}(fl:Flat X)(hN:X.N.Nodup)(hi:X.N[i]?=some n)(hl:X.env.scope.names.lookup n=some .local)
  (hg:Gl X x) (hm:X.mg x=some (.ref C)) (hb:PSs X.nox body tn) (hr:RSs X body tr) (hs:∀A,PSs (X.inExc A) (b0::suite) ts) (hdb:(x==("__debug__" : Str))=false:=by decide) :
  PS X (.Try body [.ExceptHandler (some (.Name x np)) (some n) (b0::suite) hp] [] [] pos) (tTry X.K (.ref C) i tn tr ts):=by
 intro pins s σ H D I h;rcases h with h | h
 ·refine wpAny_Try_except (wpAny_mono (hb pins s σ H D (I.wish _) h) (fun f s1 q=>?_) fun _ _ z=>False.elim z);have q:=q.unwish;cases f with
  | next=>exact wpAny_execs_nil q
  | ret v=>exact q
  | brk=>exact q
  | cont=>exact q
 ·refine wpAny_Try_except (wpAny_mono (hr pins s σ H _ I h) (fun _ _ z=>z.elim) fun e s1 xp=>?_);obtain⟨σ',a,cls,H',B,dd,rfl,na,I1,nT,air,cov,⟨oe0,hoe0,hod0⟩,hcls,hsu⟩:=xp;have air1:=air;rw[fl.stk]at air1;have frs1:X.A.frames=some (X.env::X.outer):=by rw[<-fl.stk];exact I.ok.frames
  refine Xc frs1 fl.fr air1 fun h5 a0 fl5 up5 ds5=>?_
  have I5:Inv X pins σ' H' {s1 with heap:=h5}:=I1.landed fl cov fl5.1 up5;have I5m:Inv (X.inExc (X.A.mark (some (.ref a)))) pins σ' H' {s1 with heap:=h5}:=I5.inExc rfl;have LT:PySem.W.Looks (model X.prog X.w) h5 (typeOf (.ref a)) cls:=by
   obtain⟨ob,hob,hc⟩:=fl5.there;subst hc;exact(PySem.W.Looks.ld hob).andThen .now
  refine wpAny_handleBy_cons (codeAny_handlers_test (yg (X:=X.inExc (X.A.mark (some (.ref a)))) I5m hg hm ?_ hdb)) (by intro q;cases q);refine(PySem.W.exm_one I5.kIn LT hcls).here (codeAny_handlers_suite_as ?_);refine Wb fl5 fun h6 fl6 up6 ds6=>?_
  have I6:Inv X pins σ' H' {s1 with heap:=h6}:=I1.landed fl cov fl6.1 (up5.trans up6);obtain⟨oe,ws,hoe,hoec,hoed,_⟩:=fl6.first
  have hoD:oe.dict=dd:=by
   obtain⟨o1,e1,_,d1⟩:=(ds5.trans ds6) a oe0 hoe0;rw[hoe]at e1;cases e1;exact d1.trans hod0
  have I7:Inv X pins σ' (upd H' a (XcF cls a dd)) {s1 with heap:=h6}:=by
   refine I6.known nT na (fun z=>?_) (fun y c e z=>?_) (fun p hp z=>?_) ⟨⟨oe,ws,hoe,hoec,hoed,hoD⟩,⟨oe,hoe⟩,fun h1 h2 ⟨o,vs,e1,e2,e3,e4⟩ k=>⟨o,vs,k o e1,e2,e3,e4⟩⟩
   ·obtain⟨m,⟨o,es,ep,ho,hd,_⟩,_⟩:=I6.loc;have ho':h6.get? a=some o:=by rw[z];exact ho
    rw[hoe]at ho';cases ho';rw[hoed]at hd;cases hd
   ·obtain⟨v,o,ho,hd⟩:=I6.cell y c e;have ho':h6.get? a=some o:=by rw[<-z];exact ho
    rw[hoe]at ho';cases ho';rw[hoed]at hd;cases hd
   ·obtain⟨e,nn,ne,nf,_⟩:=I1.pin p hp;have nf':p.1∉frs X.stack:=by
     rw[fl.fs];intro zz;rcases mem_cons.mp zz with zz | zz
     ·exact ne zz
     ·exact nf zz
    have:=cov p.1 p.2 e (.inr (.inr ⟨p,hp,rfl⟩)) nf';rw[z,air.2.1]at this;cases this
  refine Ko (X:=X) I7 hN hi (.inl hl) (v:=.ref a) rfl (fun s8 I8=>?_) (.inr hl);refine wpAny_mono (hs (X.A.mark (some (.ref a))) pins s8 _ _ _ (I8.inExc rfl) (hsu a nT)) (fun f s9 q=>?_) fun _ _ z=>False.elim z
  have fin:∀{σ9:St} {H9:Hp},Inv (X.inExc (X.A.mark (some (.ref a)))) pins σ9 H9 s9->(∀s',Inv X pins (σ9.set i none) H9 s'->SP X pins D f s')->
    wpAny (model X.prog X.w) X.A (do bindName X.env n .none;unbindBehindTheSuite X.env n hp) (fun _ s₃=>SP X pins D f s₃) X.xe s9:=fun {σ9 H9} I9 k=>j1g (I9.outExc I.ok) hN hi hl k
  cases f with
  | next=>obtain⟨σ9,H9,I9,q⟩:=q;exact fin I9 fun s' I'=>⟨_,_,I',q⟩
  | brk=>obtain⟨σ9,H9,I9,q⟩:=q;exact fin I9 fun s' I'=>⟨_,_,I',q⟩
  | cont=>obtain⟨σ9,H9,I9,q⟩:=q;exact fin I9 fun s' I'=>⟨_,_,I',q⟩
  | ret u=>obtain⟨v,σ9,H9,I9,r,q⟩:=q;exact fin I9 fun s' I'=>⟨v,_,_,I',r,q⟩
def tTryJ(K:Frg)(c:Value)(i:Nat)(tn:TS)(tr:TRS)(ts:TS):TS:=fun D σ H=>∃Mid:St->Hp->Prop,tTry K c i tn tr ts {nx:=Mid,rt:=D.rt} σ H/\∀σ' H',Mid σ' H'->D.nx σ' H'
theorem j3A{X:Cx}{body suite:List Stmt}{b0:Stmt}{x n:Str}{C:Addr}{i:Nat}{np hp pos:Pos}{tn:TS}{tr:TRS}{ts:TS}(fl:Flat X)(hN:X.N.Nodup)(hi:X.N[i]?=some n)(hl:X.env.scope.names.lookup n=some .local)
  (hg:Gl X x) (hm:X.mg x=some (.ref C)) (hb:PSs X.nox body tn) (hr:RSs X body tr) (hs:∀A,PSs (X.inExc A) (b0::suite) ts) (hdb:(x==("__debug__" : Str))=false:=by decide) :
  PS X (.Try body [.ExceptHandler (some (.Name x np)) (some n) (b0::suite) hp] [] [] pos) (tTryJ X.K (.ref C) i tn tr ts):=by
 intro pins s σ H D I ⟨Mid,h,k⟩;refine thn (j4D fl hN hi hl hg hm hb hr hs hdb pins s σ H _ I h) fun f s1 q=>?_
 cases f with
 | next=>obtain⟨σ',H',I',q⟩:=q;exact⟨σ',H',I',k σ' H' q⟩
 | ret v=>exact q
 | brk=>obtain⟨_,_,_,q⟩:=q;exact q.elim
 | cont=>obtain⟨_,_,_,q⟩:=q;exact q.elim
open PySem PySem.Spec PyProof.Rows PySem.W
theorem j2Z(a:Addr)(f:Option Addr):DK (do
   if(<-field (.ref a) 1) == .none then unsupported "frame.own-activation:exception-without-traceback"
   setFlight (.ref a) f):=by
 refine DK.bind (Zc _ _) fun v=>?_
 split
 ·exact DK.bind (.unsupported _) fun _=>Qq _ _
 ·exact Qq _ _
section
variable{X:Cx}{pins pl:List (Addr×Obj)}{σ:St}{E:XK}{e:Value}{s':Shared}
theorem XP.unpinned(h:XP X (pins++pl) σ E e s'):XP X pins σ E e s':=by
 obtain⟨a,cls,H',B,dd,rfl,na,I,nT,air,cov,hD,hE⟩:=h;refine⟨a,cls,H',B,dd,rfl,na,I.unpinned,nT,air,fun b o e q hb=>cov b o e ?_ hb,hD,hE⟩;rcases q with q | q | ⟨p,hp,q⟩
 ·exact .inl q
 ·exact .inr (.inl q)
 ·refine .inr (.inr ⟨p,?_,q⟩);rcases mem_append.mp hp with z | z
  ·exact mem_append_left _ z
  ·exact mem_append_right _ (mem_append_left _ z)
theorem XP.own(F:Flat X)(h:XP X pins σ E e s'):notedBy (model X.prog X.w) X.A X.env (cameBackBy (model X.prog X.w) X.A X.env (XP X pins σ E)) e s':=by
 obtain⟨a,cls,H',B,dd,rfl,na,I,nT,air,cov,⟨oe0,hoe0,hod0⟩,hE⟩:=h;have air1:=air;rw[F.stk]at air1;have frs1:X.A.frames=some (X.env::X.outer):=by rw[<-F.stk];exact I.ok.frames
 have step1:=Zg (wU (.ref a) X.env) (j0L (M:=model X.prog X.w) (A:=X.A) (E:=fun _ _=>False) (Q:=fun _ s1=>(∃a0,Heap.HeldW B (X.env::X.outer) a cls a0 X.env.locals s1.heap)/\s'.heap.UpToSlots s1.heap/\s1={s' with heap:=s1.heap}) frs1 F.fr air1 fun h' a0 hh u=>⟨⟨a0,hh⟩,u,rfl⟩);refine wpAny_mono step1 (fun _ s1 ⟨⟨⟨a0,hh⟩,u1,es1⟩,ds1⟩=>?_) fun _ _ z=>z.1.elim
 have step2:=Zg (j2Z a X.env.frame) (Xr (M:=model X.prog X.w) (A:=X.A) (E:=fun _ _=>False) (Q:=fun _ s2=>Heap.HeldW B (X.env::X.outer) a cls a0 X.env.locals s2.heap/\s1.heap.UpToSlots s2.heap/\s2={s1 with heap:=s2.heap}) hh F.fr fun h' hh' u=>⟨hh',u,rfl⟩);refine wpAny_mono step2 (fun _ s2 ⟨⟨hh2,u2,es2⟩,ds2⟩=>?_) fun _ _ z=>z.1.elim
 have up:=u1.trans u2;obtain⟨k1,_,_⟩:=XP.stays F I cov hh2.1 up;have I2:Inv X pins σ H' s2:=by
  have e3:s2={s' with heap:=s2.heap}:=es2.trans (by
   obtain⟨_,_,_,_,_⟩:=s1;injection es1 with _ q1 q2 q3 q4;subst q1 q2 q3 q4;rfl)
  rw[e3];exact I.landed F cov hh2.1 up
 obtain⟨oe2,he2,_,hd2⟩:=(ds1.trans ds2) a oe0 hoe0;refine⟨a,cls,H',B,dd,rfl,na,I2,nT,⟨hh2.1,hh2.2.1,by rw[F.stk];exact hh2.2.2.1,.inr (.inr ⟨X.env,X.outer,X.env.locals,a0,F.stk,F.fr,hh2.2.2.2⟩)⟩,fun b o e q hb=>?_,⟨oe2,he2,hd2.trans hod0⟩,hE⟩;have had:∃o',s'.heap.get? b=some o':=by
  rcases q with q | ⟨o0,q⟩ | ⟨p,hp,q⟩
  ·cases q':H' b with
   | none=>exact absurd q' q
   | some u=>exact(I.hok b u q').has
  ·exact I.base.there b o0 q (by rw[F.ex];simp)
  ·exact⟨p.2,by rw[<-q];exact(I.pin p hp).1⟩
 obtain⟨o',e'⟩:=had;have e2:=k1 b o' e' q hb;rw[e]at e2;cases e2;exact cov b o e' q hb
end
theorem XPS.own{X:Cx}{pins:List (Addr×Obj)}{E:XS}(F:Flat X):PassesOwn (model X.prog X.w) X.A X.env (XPS X pins E):=fun e s' ⟨σ',xp⟩=>by
 refine wpAny_mono (XP.own F xp) (fun _ s1 q=>?_) fun _ s1 q=>?_
 all_goals exact wpAny_mono q (fun _ _ z=>⟨σ',z⟩) fun _ _ z=>⟨σ',z⟩
noncomputable def rFor(wi:TI)(g:TG)(tb:TS)(tr:TRS):TRS:=fun σ H E=>wi σ H fun J H1=>∃W:Nat->Nat->St->Hp->Prop,(∃m,W 0 m σ H1)/\∀i m σ H,W i m σ H->
 J.go i H/\∃N:St->Hp->Prop,(∀σ' H',N σ' H'->∃m',m'<m/\W (i+1) m' σ' H')/\∀x H',J.yld i H x H'->g x σ H' fun σ2 H2=>tr σ2 H2 E\/tb {nx:=N,ct:=N,bk:=fun _ _=>False,rt:=fun _ _=>False} σ2 H2
theorem j3M{X:Cx}{tg iter:PySem.Expr}{body:List Stmt}{wi:TI}{g:TG}{tb:TS}{tr:TRS}{pos:Pos}(fl:Flat X)(hi:PI X.nox tg iter wi)(hg:PG X.nox tg g)(hb:PSs X.nox body tb)(hr:RSs X body tr)
  (hs:∀x,foldedSetIterable iter X.env x=pure x:=by intro _;rfl):RS X (.For tg iter body [] pos) (rFor wi g tb tr):=by
 intro pins s σ H E I h;have weak:∀{α:Type} {t:Sem α} {Q:α->Shared->Prop} {s0:Shared} {E':Value->Shared->Prop},wpAny (model X.prog X.w) X.A t Q (fun _ _=>False) s0->wpAny (model X.prog X.w) X.A t Q E' s0:=fun z=>wpAny_mono z (fun _ _ y=>y) fun _ _ y=>y.elim
 refine wpAny_For (wpAny_mono (hi pins s σ H _ (I.wish _) h) (fun v s1 h1=>wpAny_mono h1 (fun itv s2 h2=>?_) fun _ _ z=>False.elim z) fun _ _ z=>False.elim z) hs;obtain⟨it,fp,tn,J,H2,e,I2,T,st2,f2,W,⟨m0,w0⟩,turn⟩:=h2;subst e;have I2:=I2.unwish;have f2:∀b∈fp,FpOk X pins H2 b:=f2;have stat:∀{H':Hp},(∀b∈fp,H' b=none)->∀b∈fp,FpOk X pins H' b:=fun hn b hb=>⟨hn b hb,(f2 b hb).2⟩
 refine codeAny_forLoop_any (fun n s'=>∃i σ' H',Inv X pins σ' H' s'/\tn i s'.heap/\(∀b∈fp,H' b=none)/\W i n σ' H') ?_ m0 ⟨0,σ,H2,I2,st2,fun b hb=>(f2 b hb).1,w0⟩;rintro n s3 ⟨i,σ3,H3,I3,st3,fr3,w3⟩;obtain⟨go,N,hN,step⟩:=turn i n σ3 H3 w3;refine wpAny_mono (T.item X.nox rfl rfl rfl fl.calm i pins s3 σ3 H3 (fun _ _=>False) (I3.wish _) (stat fr3) st3 go) (fun r s4 ⟨u,hr4,h4⟩=>?_) fun _ _ z=>z.elim
 subst hr4;refine wpAny_mono h4 (fun _ s5 ⟨x,H5,I5,r5,y5,st5,fr5⟩=>?_) fun _ _ z=>z.elim
 have I5':=(I5.unwish).pinned (stat fr5) (T.obj _ _ st5);refine wpAny_mono (hg _ s5 σ3 H5 x u _ (I5'.wish _) r5 (step x H5 y5)) (fun _ s6 ⟨σ6,H6,I6,q6⟩=>?_) fun _ _ z=>False.elim z
 have I6:=I6.unwish;rcases q6 with q6 | q6
 ·refine wpAny_passesOwn (XPS.own fl) (wpAny_mono (hr _ s6 σ6 H6 E I6 q6) (fun _ _ z=>z.elim) fun e s7 ⟨σ7,xp⟩=>⟨σ7,xp.unpinned⟩)
 ·refine wpAny_mono (hb _ s6 σ6 H6 _ (I6.wish _) q6) (fun f s7 q7=>?_) fun _ _ z=>False.elim z
  have again:∀{σ7:St} {H7:Hp},Inv X (pins++pinsAt fp s5.heap) σ7 H7 s7->N σ7 H7->∃m,m<n/\∃i σ' H',Inv X pins σ' H' s7/\tn i s7.heap/\(∀b∈fp,H' b=none)/\W i m σ' H':=fun {σ7 H7} I7 n7=>by
   obtain⟨m',hm,w7⟩:=hN σ7 H7 n7;refine⟨m',hm,i+1,σ7,H7,I7.unpinned,T.keep _ _ _ st5 fun b hb o e=>(I7.pin (b,o) (mem_append_right _ (mem_append_right _ (QI hb e)))).1,fun b hb=>?_,w7⟩;obtain⟨o,e,d⟩:=T.obj _ _ st5 b hb;exact(I7.pin (b,o) (mem_append_right _ (mem_append_right _ (QI hb e)))).2.1
  cases f with
  | next=>obtain⟨σ7,H7,I7,n7⟩:=q7;exact again I7.unwish n7
  | cont=>obtain⟨σ7,H7,I7,n7⟩:=q7;exact again I7.unwish n7
  | brk=>obtain⟨_,_,_,q7⟩:=q7;exact q7.elim
  | ret v=>obtain⟨_,_,_,_,_,q7⟩:=q7;exact q7.elim
noncomputable def rOr(a b:TRS):TRS:=fun σ H E=>a σ H E\/b σ H E
theorem j2C{X:Cx}{st:Stmt}{rest:List Stmt}{ta tb:TRS}{t1:TS}(h1:RS X st ta)(h2:PS X.nox st t1)(h3:RSs X rest tb):RSs X (st::rest) (rOr ta (rSeq t1 tb)):=fun pins s σ H E I h=>by
 rcases h with h | h
 ·exact zx h1 pins s σ H E I h
 ·exact zw h2 h3 pins s σ H E I h
theorem j3G{wi:TI}{g:TG}{tb:TS}{tr:TRS}{σ:St}{H:Hp}{E:XS} (h:wi σ H fun J H1=>∃W:Nat->Nat->St->Hp->Prop,(∃m,W 0 m σ H1)/\∀i m σ H,W i m σ H->
 J.go i H/\∃N:St->Hp->Prop,(∀σ' H',N σ' H'->∃m',m'<m/\W (i+1) m' σ' H')/\∀x H',J.yld i H x H'->g x σ H' fun σ2 H2=>tr σ2 H2 E\/tb {nx:=N,ct:=N,bk:=fun _ _=>False,rt:=fun _ _=>False} σ2 H2):rFor wi g tb tr σ H E:=h
theorem Xt{K:Frag}{t:Value}:∀{cs:List Value},(∀c∈cs,kitOne K t c=some false)->kitAny K t cs=some false
 | [],_=>rfl
 | c::r,h=>by
  unfold kitAny;rw[h c mem_cons_self];exact Xt fun d hd=>h d (mem_cons_of_mem _ hd)
theorem X2{K:Frag}{a:Addr}{xs:List V}{g:TG}{tb:TS}{tr:TRS}{E:XS}{σ:St}{H:Hp}(k:Nat)(hk:k<xs.length)(Pv:Nat->St->Hp->Prop)(h0:Pv 0 σ H)(hl:∀i σ H,i<=k->Pv i σ H->SqL K H a xs)
  (hs:∀i v σ H T H',i<=k->xs[i]?=some v->Pv i σ H->Same H H'->H' T=some (.tup [.int (i+1),v])->g (.ref T) σ H' fun σ2 H2=>tr σ2 H2 E\/tb {nx:=fun σ' H'=>i<k/\Pv (i+1) σ' H',ct:=fun σ' H'=>i<k/\Pv (i+1) σ' H',bk:=fun _ _=>False,rt:=fun _ _=>False} σ2 H2) :
  ∃W:Nat->Nat->St->Hp->Prop,(∃m,W 0 m σ H)/\∀i m σ H,W i m σ H->
   (Ite1 K a).go i H/\∃N:St->Hp->Prop,(∀σ' H',N σ' H'->∃m',m'<m/\W (i+1) m' σ' H')/\∀x H',(Ite1 K a).yld i H x H'->g x σ H' fun σ2 H2=>tr σ2 H2 E\/tb {nx:=N,ct:=N,bk:=fun _ _=>False,rt:=fun _ _=>False} σ2 H2:=by
 refine⟨fun i m σ H=>m=k-i/\i<=k/\Pv i σ H,⟨k,by simp,Nat.zero_le _,h0⟩,?_⟩;rintro i m σ H ⟨rfl,hi,p⟩;have q:=hl i σ H hi p;refine⟨⟨xs,xs[i],q,by rw[List.getElem?_eq_getElem (by omega)]⟩,fun σ' H'=>i<k/\Pv (i+1) σ' H',fun σ' H' ⟨h1,p'⟩=>⟨k-(i+1),by omega,rfl,h1,p'⟩,fun x H' y=>?_⟩;obtain⟨T,v,rfl,hT,e,y⟩:=y;exact hs i v σ H T H' hi (y xs q) p (fun b o h=>by rw[e,jq (ji h hT)];exact h) (by rw[e];exact jn)
structure ExcI(K:Frag)(C:Addr):Prop where
 ga:findIn K (.ref C) "__getattribute__"= some (some (.builtin "BaseException.__getattribute__"))
 nh:findIn K (.ref C) "__getattr__"= some none
 cls:findIn K (.ref C) "__class__"= some (some (.builtin "object.__class__"))
 base:subIn K (.ref C) (.type "BaseException")=some true
 obj:subIn K (.ref C) (.type "object")=some true
 is:isClsIn K C=true
section
variable{prog:Program}{w:World}{A:Around}{E:Value->Shared->Prop}{K:Frag}{C a:Addr}
theorem xZ{M:Model}{h:Heap}{cls:Value}(p:xcO cls a h):Looks M h (typeOf (.ref a)) cls:=by
 obtain⟨o,vs,h1,h2,_⟩:=p;exact h2▸(Looks.ld h1).andThen .now
theorem j4T{R:Result->Shared->Prop}{h:Heap}{g:Array GenState}{d:Drawn}{t:Nat}{os:OsState}(Z:ExcI K C)(X:K.In h)(p:xcO (.ref C) a h)(hq:R (.ok (.ret (.ref C))) ⟨h,g,d,t,os⟩) :
  codeAny (model prog w) A (.call (.builtin "getset_descriptor.__get__") ⟨[.builtin "object.__class__",.ref a,.ref C],[]⟩) R ⟨h,g,d,t,os⟩:=by
 have L0:Looks (model prog w) h (typeOf (.ref a)) (.ref C):=xZ p;have hT5:(⟨h,g,d,t,os⟩:Shared).TypeIs (.builtin "object.__class__") "getset_descriptor":=F.typeOf_object_class;have L5:Looks (model prog w) h (isSubtype (.ref C) (.type (".".intercalate ("object.__class__".cutAt '.').dropLast))) true:=by rw[F.owner_object_class];exact looks_subIn X Z.obj
 refine codeAny_call_builtin F.slot_gs_get.plain F.entry_gs_get (F.slot_gs_get.check _ _ _ _ _ _ _ _ hT5 (F.args_gs_get _ _ _) ?_)
 repeat (any_goals (first | assumption | with_reducible refine Looks.at L0 ?_ | with_reducible refine Looks.at L5 ?_ | wp_step))
 refine⟨Code.quiet_builtin _ (by decide +kernel),codeAny_builtin F.entry_object_class ?_⟩
 repeat (any_goals (first | assumption | with_reducible refine Looks.at L0 ?_ | wp_step))
theorem j2R{tk:Tok}{Q:Fin->Shared->Prop}{h:Heap}{g:Array GenState}{d:Drawn}{t:Nat}{os:OsState}(Z:ExcI K C)(X:K.In h)(p:xcO (.ref C) a h)(hq:Q (.done (.ret (.ref C))) ⟨h,g,d,t,os⟩) :
  wpAny (model prog w) A (Builtin.«object.__getattribute__» ⟨[.ref a,.str "__class__" tk],[]⟩) Q E ⟨h,g,d,t,os⟩:=by
 have L0:Looks (model prog w) h (typeOf (.ref a)) (.ref C):=xZ p;have L3:=looks_findIn (M:=model prog w) X Z.cls;have hT5:(⟨h,g,d,t,os⟩:Shared).TypeIs (.builtin "object.__class__") "getset_descriptor":=F.typeOf_object_class;have f5:=F.typeOf_object_class;have f6:=F.slot_gs_get.lookup;have f7:=F.slot_gs_set.lookup
 repeat (any_goals (first | assumption | with_reducible refine Looks.at L0 ?_ | with_reducible refine Looks.at L3 ?_ | wp_step))
 refine j4T Z X p ?_
 repeat (any_goals (first | assumption | wp_step))
theorem j2P{M:Model}{nameV:Value}{Q:Unit->Shared->Prop}{h:Heap}{g:Array GenState}{d:Drawn}{t:Nat}{os:OsState}(Z:ExcI K C)(X:K.In h)(p:xcO (.ref C) a h)(hq:Q () ⟨h,g,d,t,os⟩) :
  wpAny M A (checkBuiltinCall "BaseException.__getattribute__" ⟨[.ref a,nameV],[]⟩) Q E ⟨h,g,d,t,os⟩:=by
 have hk:builtinKind "BaseException.__getattribute__"= some .slot:=by decide +kernel
 have hsplit:splitId "BaseException.__getattribute__"= some ("BaseException","__getattribute__"):=by decide +kernel
 have L0:Looks M h (typeOf (.ref a)) (.ref C):=xZ p;have L4:Looks M h (isSubtype (.ref C) (.type "BaseException")) true:=looks_subIn X Z.base;have ha:=F.args_bexc_ga (.ref a) nameV;simp only[checkBuiltinCall,hk,hsplit];refine wpAny_bind ?_;unfold isInstance
 repeat (first | with_reducible refine Looks.at L0 ?_ | with_reducible refine Looks.at L4 ?_ | wp_step)
 exact hq
theorem j2Q{Q:Option Value->Shared->Prop}{s:Shared}(Z:ExcI K C)(X:K.In s.heap)(p:xcO (.ref C) a s.heap)(q:Q (some (.ref C)) {s with toks:=s.toks+1}) :
  wpAny (model prog w) A (getAttr? (.ref a) "__class__") Q E s:=by
 obtain⟨h,g,d,t,os⟩:=s;have L0:Looks (model prog w) h (typeOf (.ref a)) (.ref C):=xZ p;have L1:=looks_findIn (M:=model prog w) X Z.ga;have L2:=looks_findIn (M:=model prog w) X Z.nh;have f3:=F.attr_ValueError.ga.bind (.ref a);have hx2:(Value.builtin "BaseException.__getattribute__"== Value.builtin "object.__getattribute__")=false:=by decide +kernel
 unfold getAttr? getAttrBy? getAttrBy;refine wpAny_bind (wpAny_mkText (wpAny_bind (wpAny_attempt (wpAny_holding (wpAny_bind (L0.at (wpAny_bind (L1.at ?_))))))));dsimp only;rw[show(onTheHeap (Value.ref C)&&Value.builtin "BaseException.__getattribute__"== Value.builtin "object.__getattribute__")=false from by rw[hx2];rfl];simp only[Bool.false_eq_true,if_false];unfold getAttrByItsOwn hookBefore;rw[show onTheHeap (Value.ref C)=true from rfl];simp only[if_true];refine wpAny_bind (L2.at ?_);refine wpAny_bind (wpAny_attempt (wpAny_holding ?_));unfold callGetattribute;simp only[Bool.false_and,Bool.false_eq_true,if_false];unfold boundAndCalled
 repeat (any_goals (first | assumption | wp_step))
 refine codeAny_call_builtin F.attr_ValueError.ga.plain F.entry_bexc_ga (j2P Z X p (j2R Z X p ?_))
 repeat (any_goals (first | assumption | wp_step))
theorem xg(Z:ExcI K C):KitX K (.ref a) (.ref C) (xcO (.ref C) a) where
 ty:=fun _ _ _ p=>xZ p
 it:=fun _ _ X _=>by
  have z0:(clsIn K C).isSome=true:=Z.is;unfold clsIn at z0;split at z0
  ·rename_i c' d' cd' sl' ho;intro A' Q' E' s' k q;unfold isType loadHead;exact wpAny_bind (wpAny_loadPart (k _ _ (X _ _ ho)) (wpAny_pure q))
  ·cases z0
 ne:=fun h tp dd its n sl X htp=>by
  have z0:(clsIn K C).isSome=true:=Z.is;refine Bool.eq_false_iff.mpr fun q=>?_
  have e:C=tp:=Value.ref.inj (beq_iff_eq.mp q);subst e;unfold clsIn at z0;split at z0
  ·rename_i c' d' cd' sl' ho;have z:=(X _ _ ho).symm.trans htp;cases z
  ·cases z0
 ca:=fun X p k=>j2Q Z X p k
end
section
variable{X:Cx}
def rIsiE(K:Frag)(xs:List V)(H:Hp)(Q:VK):Prop:=∃a C dd d u b,xs=[.ref a,d]/\H a=some (XcF (.ref C) a dd)/\ExcI K C/\RelV d u/\kitOne K (.ref C) u=some b/\Q (.bl b) H
theorem KY:CallR X (.builtin "isinstance") (rIsiE X.K):=by
 intro pins s σ H xs us Q I r h;obtain⟨a,C,dd,d,u,b,rfl,ea,Z,rd,e,q⟩:=h;obtain⟨v,w',rfl,rx,rT⟩:=vals2 r;cases(show v=Value.ref a from rx);obtain⟨p,_,_⟩:=(show ObjOk X.prog X.w H s.heap a (XcF (.ref C) a dd)from I.hok a _ ea)
 have e':kitOne X.K (.ref C) w'=some b:=by
  cases d with
  | ref D=>cases(show w'=Value.ref D from rT);cases(show u=Value.ref D from rd);exact e
  | ty T=>cases(show w'=Value.type T from rT);cases(show u=Value.type T from rd);exact e
  | non=>cases(show u=Value.none from rd);cases(show w'=Value.none from rT);exact e
  | bl y=>cases(show u=Value.bool y from rd);cases(show w'=Value.bool y from rT);exact e
  | int i=>obtain⟨t,z⟩:=(show∃t,u=Value.int i t from rd);obtain⟨t',z'⟩:=(show∃t,w'=Value.int i t from rT);subst z z';unfold kitOne at e|-;rw[if_neg (by intro h;cases beq_iff_eq.mp h)]at e|-;exact e
  | str i=>obtain⟨t,z⟩:=(show∃t,u=Value.str i t from rd);obtain⟨t',z'⟩:=(show∃t,w'=Value.str i t from rT);subst z z';unfold kitOne at e|-;rw[if_neg (by intro h;cases beq_iff_eq.mp h)]at e|-;exact e
  | byt i=>obtain⟨t,z⟩:=(show∃t,u=Value.bytes i t from rd);obtain⟨t',z'⟩:=(show∃t,w'=Value.bytes i t from rT);subst z z';unfold kitOne at e|-;rw[if_neg (by intro h;cases beq_iff_eq.mp h)]at e|-;exact e
  | flt i=>obtain⟨t,z⟩:=(show∃t,u=Value.float i t from rd);obtain⟨t',z'⟩:=(show∃t,w'=Value.float i t from rT);subst z z';unfold kitOne at e|-;rw[if_neg (by intro h;cases beq_iff_eq.mp h)]at e|-;exact e
 exact kia_one (xg Z) I.kIn p.xc e' (fun z=>nomatch z) fun tk=>⟨.bl b,H,I.tok _,rfl,q⟩
theorem j0C{a C:Addr}{dd:Option Addr}{d:V}{u:Value}{b:Bool}{K:Frag}{H:Hp}{Q:VK}(ea:H a=some (XcF (.ref C) a dd))(Z:ExcI K C)(e:kitOne K (.ref C) u=some b)(q:Q (.bl b) H)(rd:RelV d u:=by rfl):rIsiE K [.ref a,d] H Q:=⟨a,C,dd,d,u,b,rfl,ea,Z,rd,e,q⟩
def rIsiT(K:Frag)(xs:List V)(H:Hp)(Q:VK):Prop:=∃(a C tp:Addr) (dd:Option Addr) (cs:List Addr) (b:Bool),xs=[.ref a,.ref tp]/\H a=some (XcF (.ref C) a dd)/\ExcI K C/\H tp=some (.tup (cs.map V.ref))/\kitAny K (.ref C) (cs.map Value.ref)=some b/\Q (.bl b) H
theorem Ks:∀{cs:List Addr} {us:List Value},Vals (cs.map V.ref) us->us=cs.map Value.ref
 | [],_,.nil=>rfl
 | _::_,_,.cons r t=>by rw[Ks t];cases r;rfl
theorem KZ:CallR X (.builtin "isinstance") (rIsiT X.K):=by
 intro pins s σ H xs us Q I r h;obtain⟨a,C,tp,dd,cs,b,rfl,ea,Z,et,e,q⟩:=h;obtain⟨v,w',rfl,rx,rT⟩:=vals2 r;cases(show v=Value.ref a from rx);cases(show w'=Value.ref tp from rT);obtain⟨p,_,_⟩:=(show ObjOk X.prog X.w H s.heap a (XcF (.ref C) a dd)from I.hok a _ ea)
 obtain⟨_,its,rv,⟨o,e1,e2,n,e3⟩⟩:=(show ObjOk X.prog X.w H s.heap tp (.tup (cs.map V.ref))from I.hok tp _ et)
 have ei:=Ks rv;subst ei;obtain⟨oc,od,oda,osl⟩:=o;dsimp only at e2 e3;subst e2 e3;exact kia_tup (xg Z) I.kIn p.xc e1 e (fun z=>nomatch z) fun tk=>⟨.bl b,H,I.tok _,rfl,q⟩
theorem Kw:bootBuiltins "ValueError"= some (.type "ValueError"):=by decide +kernel
theorem wj{t:TRS}{σ σ':St}{H:Hp}{E:XS}(e:σ=σ')(h:t σ' H E):t σ H E:=by subst e;exact h
theorem zI{t1:TS}{t2:TRS}{σ:St}{H:Hp}{E:XS}(h:t1 {nx:=fun σ' H'=>t2 σ' H' E,rt:=fun _ _=>False} σ H):rSeq t1 t2 σ H E:=h
theorem WA{tc:TT}{ta tb:TRS}{σ:St}{H:Hp}{E:XS}(h:tc σ H fun b H1=>if b=true then ta σ H1 E else tb σ H1 E):rIf tc ta tb σ H E:=h
theorem j54{t:TRE}{σ:St}{H:Hp}{E:XS}(h:t σ H (E σ)):rE t σ H E:=h
theorem j2v{sp:Sp}{dvs:List V}{t:TA}{σ:St}{H:Hp}{E:XK}(h:t σ H fun vs H1=>sp (vs++dvs) H1 (fun _ _=>False) E):rCall sp dvs t σ H E:=h
theorem j3H{K:Frag}{c:Value}{i:Nat}{tn:TS}{tr:TRS}{ts:TS}{D:Ends}{σ:St}{H:Hp}(h:tn D σ H):tTry K c i tn tr ts D σ H:=.inl h
theorem j3I{K:Frag}{c:Value}{i:Nat}{tn:TS}{tr:TRS}{ts:TS}{D:Ends}{σ:St}{H:Hp} (h:tr σ H fun σ' cls dd H'=>exmOne K cls c=some true/\∀a,H' a=none->
  ts {nx:=fun σ2 H2=>D.nx (σ2.set i none) H2,rt:=D.rt,bk:=fun σ2 H2=>D.bk (σ2.set i none) H2,ct:=fun σ2 H2=>D.ct (σ2.set i none) H2} (σ'.set i (some (.ref a))) (upd H' a (XcF cls a dd))):tTry K c i tn tr ts D σ H:=.inr h
end
section
variable{X:Cx}{e:PySem.Expr}{es:List PySem.Expr}{te:TE}{t:TRE}{f:Addr}{x:Str}{p pos:Pos}
end
end L2
namespace PySem
section
variable{prog:Program}{w:World}{A:Around}{E:Value->Shared->Prop}{h:Heap}{g:Array GenState}{d:Drawn}{t:Nat}{os:OsState}
variable{nm q:Str}{C N:Addr}{bs bm bmB:List Value}{hdct:Bool}{sn:List Str}{sub:List Value}{ab:Bool}{col:Option Bool}{dd:Option Addr}{k0 k1 k2 k3 k5:Option Value}{B newId initId:String}
theorem yp(F:ExcBaseFacts B newId initId bmB)(T:OwnTail h bmB bm){mN:Str->Option Value}{rest:List Value}{fI:Addr}{oI:Obj}{Q:Fin->Shared->Prop}
  (hC:h.get? C=some (excClassObj nm q C N bs bm hdct sn sub ab col dd k0 k1 k2 k3 k5 newId)) (hn:h.Ns N mN) (hi:mN "__init__"= some (.ref fI))
  (hfI:h.get? fI=some oI) (hfc:oI.cls = .type "function")
  (hq:∀h' e,Heap.MadeExcOf h h' e (.ref C) rest->
   wpAny (model prog w) A (call (.ref fI) (.ref e::rest)) (fun r s'=>r = .none/\Q (.done (.ret (.ref e))) s') E ⟨h',g,d,t,os⟩) (hrest:rest.length<=sizeLine:=by size_fits) :
  wpAny (model prog w) A (Builtin.«type.__call__» ⟨.ref C::rest,[]⟩) Q E ⟨h,g,d,t,os⟩:=by
 repeat (first | with_reducible refine wpAny_loadPart_at hC ?_ | with_reducible refine wpAny_madeBy_exc hC ?_ | wp_step)
 refine codeAny_call_builtin_code (Code.quiet_builtin _ F.quiet) (wpAny_check_new_subT F T hC ?_);refine codeAny_exc_new_subT F T hC ?_ hrest;show wpAny _ _ _ _ _ _;have hC₁:=Heap.get?_push_of_some {cls:=.ref C,data:=.fields #[.ref h.objs.size,.none,.none,.none,.bool false,.none]}
  (Heap.get?_push_of_some {cls:=.type "tuple",data:=.seq rest.toArray} hC)
 have hfI₁:=Heap.get?_push_of_some {cls:=.ref C,data:=.fields #[.ref h.objs.size,.none,.none,.none,.bool false,.none]}
  (Heap.get?_push_of_some {cls:=.type "tuple",data:=.seq rest.toArray} hfI)
 have hn₁:((h.push {cls:=.type "tuple",data:=.seq rest.toArray}).push {cls:=.ref C,data:=.fields #[.ref h.objs.size,.none,.none,.none,.bool false,.none]}).Ns N mN:=
  let ⟨o,es,ep,e,r⟩:=hn;⟨o,es,ep,Heap.get?_push_of_some _ (Heap.get?_push_of_some _ e),r⟩
 have hget:((h.push {cls:=.type "tuple",data:=.seq rest.toArray}).push
   {cls:=.ref C,data:=.fields #[.ref h.objs.size,.none,.none,.none,.bool false,.none]}).get? (h.objs.size+1)=some
   {cls:=.ref C,data:=.fields #[.ref h.objs.size,.none,.none,.none,.bool false,.none]}:=by heap_get
 have hcC:(Value.ref C::bm).contains (.ref C)=true:=by simp
 have T₁:=T.keeps (h':=(h.push {cls:=.type "tuple",data:=.seq rest.toArray}).push {cls:=.ref C,data:=.fields #[.ref h.objs.size,.none,.none,.none,.bool false,.none]})
  fun b o e=>Heap.get?_push_of_some _ (Heap.get?_push_of_some _ e)
 unfold isInstance
 repeat (first | with_reducible refine wpAny_loadPart_at hget ?_ | (with_reducible refine wpAny_isSubtype_exc hC₁ ?_;rw[hcC]) | wp_step)
 show wpAny _ _ (typeLookup (.ref C) _) _ _ _;refine wpAny_typeLookup_tail hC₁ hn₁ T₁ F.mroIs F.init.lookup ?_;rw[hi];refine wpAny_holding (wpAny_bind ?_);unfold bindSpecial;refine wpAny_bind (wpAny_typeOf (T:="function") ⟨_,hfI₁,hfc⟩ ?_);rw[if_pos (by decide)];refine wpAny_pure (wpAny_bind (wpAny_mono (hq _ (h.objs.size+1) ⟨fun b o hb=>Heap.get?_push_of_some _ (Heap.get?_push_of_some _ hb),Heap.get?_none_of_le (Nat.le_succ _),h.objs.size,hget,Heap.get?_none_of_le (Nat.le_refl _),?_⟩) (fun r s' hr=>?_) fun _ _ x=>x))
 ·exact Heap.get?_push_of_some _ (Heap.get?_push_at rfl rfl)
 ·obtain⟨rfl,hQ⟩:=hr
  wp_walk
  exact hQ
theorem kE(F:ExcBaseFacts B newId initId bmB)(T:OwnTail h bmB bm){mN:Str->Option Value}{rest:List Value}{fI:Addr}{oI:Obj}{Q:Value->Shared->Prop}
  (hC:h.get? C=some (excClassObj nm q C N bs bm hdct sn sub ab col dd k0 k1 k2 k3 k5 newId)) (hn:h.Ns N mN) (hi:mN "__init__"= some (.ref fI))
  (hfI:h.get? fI=some oI) (hfc:oI.cls = .type "function")
  (hq:∀h' e,Heap.MadeExcOf h h' e (.ref C) rest->
   wpAny (model prog w) (A.under (.builtin "type.__call__" ⟨.ref C::rest,[]⟩)) (call (.ref fI) (.ref e::rest)) (fun r s'=>r = .none/\Q (.ref e) s') E ⟨h',g,d,t,os⟩) (hrest:rest.length<=sizeLine:=by size_fits) :
  wpAny (model prog w) A (call (.ref C) rest) Q E ⟨h,g,d,t,os⟩:=by
 have f1:=tc_lookup;have f2:=tc_bind (.ref C);have hT:(⟨h,g,d,t,os⟩:Shared).TypeIs (.ref C) "type":=⟨_,hC,rfl⟩
 refine wpAny_call (codeAny_of_tree ?_);show wpAny _ _ (callAny (.ref C) _) _ _ _
 repeat (any_goals (first | assumption | with_reducible refine wpAny_loadPart_at hC ?_ | wp_step))
 refine⟨rfl,?_⟩;refine codeAny_call_builtin_at (Code.quiet_builtin _ (by decide +kernel)) entry_typeCall (wpAny_check_type_call_sub hC (yp (hrest:=hrest) F T hC hn hi hfI hfc fun h' e hm=>?_));exact hq h' e hm
end
end PySem
namespace L2
open PySem PySem.Spec PyProof.Rows PySem.W PySem.Builtin PySem.Builtin.ObjectAttr
noncomputable def overVE:List Value->Bool
 | [.type a,.type b,.type c,.type d]=>a == "ValueError" && b == "Exception" && c == "BaseException" && d == "object"
 | .ref _::r=>overVE r
 | _=>false
theorem YV(self:Value):∀{l:List Value},overVE l=true->refuseLoop self "__setattr__" l=pure ()/\l.contains (.type "object")=true/\l.isEmpty=false
 | [.type a,.type b,.type c,.type d],e=>by
  unfold overVE at e;simp only[Bool.and_eq_true,beq_iff_eq]at e;obtain⟨⟨⟨rfl,rfl⟩,rfl⟩,rfl⟩:=e;exact⟨PySem.F.store_ValueError.passes self,by decide +kernel,rfl⟩
 | .ref c::r,e=>by
  obtain⟨h1,h2,_⟩:=YV self (l:=r) (by cases r<;>first | exact e | cases e);exact⟨by rw[refuseLoop_ref];exact h1,by rw[List.contains_cons,h2,Bool.or_true],rfl⟩
noncomputable def xovIn(K:Frag)(C:Addr):Bool:=(clsIn K C).any (fun cd=>overVE cd.mro&&cd.hasDict)
structure ExcF(K:Frag)(C:Addr):Prop where
 i:ExcI K C
 sa:findIn K (.ref C) "__setattr__"= some (some (.builtin "object.__setattr__"))
 ov:xovIn K C=true
section
variable{prog:Program}{w:World}{A:Around}{E:Value->Shared->Prop}{K:Frag}{C x:Addr}{h:Heap}{g:Array GenState}{d:Drawn}{t:Nat}{os:OsState}{mA:Str->Option Value}{name:Str}{v:Value}
theorem Yf{M:Model}(I:h.Inst x C mA):Looks M h (typeOf (.ref x)) (.ref C):=by
 obtain⟨o,h1,h2,_⟩:=I;exact h2▸(Looks.ld h1).andThen .now
theorem j5c{tk:Tok}{Q:Fin->Shared->Prop}{ns:List Str}(X:K.In h)(Z:ExcF K C)(ha:findIn K (.ref C) name=some none)(I:h.Inst x C mA)
  (hq:∀h' tk',h'.Inst x C (fun y=>if y=name then some v else mA y)->
   (∀b o,b≠x->(∀o₀ dx,h.get? x=some o₀->o₀.dict=some dx->b≠dx)->h.get? b=some o->h'.get? b=some o)->
   (∀o₀,h.get? x=some o₀->∃o₁,h'.get? x=some o₁/\o₁.cls=o₀.cls/\o₁.data=o₀.data/\o₁.slots=o₀.slots/\(∀dx,o₀.dict=some dx->o₁.dict=some dx)/\(o₀.dict=none->o₁.dict=some h.objs.size))->Q (.done (.ret .none)) ⟨h',g,d,tk',os⟩) (hw:Within mA ns) (hsz:ns.length<sizeLine) :
  wpAny (model prog w) A (Builtin.«object.__setattr__» ⟨[.ref x,.str name tk,v],[]⟩) Q E ⟨h,g,d,t,os⟩:=by
 obtain⟨cd,hc,ho⟩:=any_some Z.ov;rw[Bool.and_eq_true]at ho;obtain⟨ho,hd'⟩:=ho;obtain⟨r1,r2,r3⟩:=YV (.ref x) ho;have hm:Looks (model prog w) h (mroOf (.ref C)) cd.mro:=(looks_clsIn X hc).andThen .now;have LT:Looks (model prog w) h (typeOf (.ref x)) (.ref C):=Yf I;rw[osa_eq,refuse_eq];refine wpAny_bind (wpAny_bind (LT.here (wpAny_bind (hm.here ?_))));rw[r1];refine wpAny_pure (wpAny_bind (LT.here (wpAny_bind ((looks_findIn X ha).here (wpAny_bind ?_)))));refine wpAny_pure ?_;dsimp only;obtain⟨o,hx,hcl,hnc,hd⟩:=I;refine wpAny_bind (wpAny_pure (wpAny_bind (wpAny_bind (wpAny_loadPart hx ?_))));dsimp only;rw[hcl];refine wpAny_bind ((looks_clsIn X hc).here ?_);rw[hd'];rw[if_neg (by decide)];rcases hd with⟨hdn,hmA⟩ | ⟨dx,hdx,hne,hns⟩
 ·rw[hdn,if_neg (by simp[typeHasDict])];split
  ·rename_i hcd;cases hcd
  split
  ·rename_i c hcd;exact absurd hcd (hnc c)
  ·have hx₁:(h.push {cls:=.type "dict",data:=.dict #[]}).get? x=some o:=Heap.get?_push_of_some _ hx;have hxs:x≠h.objs.size:=Nat.ne_of_lt (Heap.lt_size hx);refine wpAny_bind (wpAny_alloc' ?_);refine wpAny_bind (wpAny_update' hx₁ ?_);refine wpAny_pure ?_;have hgd:((h.push {cls:=.type "dict",data:=.dict #[]}).update x fun o=>{cls:=o.cls,dict:=some h.objs.size,data:=o.data,slots:=o.slots}).get? h.objs.size
     = some {cls:=.type "dict",data:=.dict #[]}:=
    (Heap.get?_update_ne _ _ _ _ hxs.symm).trans (Heap.get?_push_at rfl rfl)
   have hnd:((h.push {cls:=.type "dict",data:=.dict #[]}).update x fun o=>{cls:=o.cls,dict:=some h.objs.size,data:=o.data,slots:=o.slots}).Ns h.objs.size (fun _=>none):=
    ⟨_,#[],_,hgd,rfl,fun e he=>absurd he (by simp),fun _=>rfl⟩
   show wpAny _ _ (storeInDict h.objs.size (.str name tk) name v) _ _ _;unfold storeInDict newKeyGuard;refine wpAny_bind (wpAny_pure (wpAny_bind (wpAny_nsSet1 (Heap.Ns1.of_empty hnd) fun h' hn' hs=>?_)));obtain⟨oD,esD,epD,hoD,hdD,hcD⟩:=hn'.count (Within.cons name v Within.nil);refine wpAny_bind (wpAny_lookBehind hoD (by rw[hdD];exact pastItsLine_dict (Nat.le_trans hcD (by rw[length_cons,length_nil,sizeLine_eq];omega))) ?_)
   wp_walk
   have hx':h'.get? x=some {cls:=o.cls,dict:=some h.objs.size,data:=o.data,slots:=o.slots}:=?_;refine hq h' _ ⟨{cls:=o.cls,dict:=some h.objs.size,data:=o.data,slots:=o.slots},hx',hcl,hnc,.inr ⟨h.objs.size,rfl,hxs.symm,?_⟩⟩ (fun b ob hbx _ hb=>?_)
    (fun o₀ h₀=>by obtain rfl:o=o₀:=Option.some.inj (hx.symm.trans h₀);exact⟨_,hx',rfl,rfl,rfl,(fun dx e=>by rw[hdn]at e;cases e),fun _=>rfl⟩)
   ·obtain⟨o',es,ep,e1,e2,e3,eu,e4⟩:=hn';exact⟨o',es,ep,e1,e2,e3,eu,fun y=>by rw[e4 y];by_cases hy:y=name<;>simp[hy,hmA]⟩
   ·exact(hs.2 b (Nat.ne_of_lt (Heap.lt_size hb))).trans ((Heap.get?_update_ne _ _ _ _ hbx).trans (Heap.get?_push_of_some _ hb))
   ·refine(hs.2 x hxs).trans (Heap.get?_update_self _ hx₁ ?_);have hfr:=(Heap.get?_some_iff.mp hx).2;obtain⟨oc,od,odt,osl⟩:=o;cases odt<;>first | rfl | exact hfr
 ·rw[hdx];refine wpAny_pure ?_;show wpAny _ _ (storeInDict dx (.str name tk) name v) _ _ _;unfold storeInDict newKeyGuard;refine wpAny_bind (wpAny_pure (wpAny_bind (wpAny_nsSet1 hns fun h' hn' hs=>?_)));obtain⟨oD,esD,epD,hoD,hdD,hcD⟩:=hn'.count (Within.cons name v hw);refine wpAny_bind (wpAny_lookBehind hoD (by rw[hdD];exact pastItsLine_dict (Nat.le_trans hcD (by rw[length_cons];omega))) ?_)
  wp_walk
  refine hq h' _ ⟨o,(hs.2 x hne.symm).trans hx,hcl,hnc,.inr ⟨dx,hdx,hne,hn'⟩⟩ (fun b ob _ hbd hb=>?_)
   (fun o₀ h₀=>⟨o₀,(hs.2 x hne.symm).trans h₀,rfl,rfl,rfl,(fun _ e=>e),fun e=>by rw[hx]at h₀;cases h₀;rw[hdx]at e;cases e⟩)
  exact(hs.2 b (hbd o dx hx hdx)).trans hb
theorem j46{Q:Unit->Shared->Prop}{ns:List Str}(X:K.In h)(Z:ExcF K C)(ha:findIn K (.ref C) name=some none)(I:h.Inst x C mA)
  (hq:∀h' tk',h'.Inst x C (fun y=>if y=name then some v else mA y)->
   (∀b o,b≠x->(∀o₀ dx,h.get? x=some o₀->o₀.dict=some dx->b≠dx)->h.get? b=some o->h'.get? b=some o)->
   (∀o₀,h.get? x=some o₀->∃o₁,h'.get? x=some o₁/\o₁.cls=o₀.cls/\o₁.data=o₀.data/\o₁.slots=o₀.slots/\(∀dx,o₀.dict=some dx->o₁.dict=some dx)/\(o₀.dict=none->o₁.dict=some h.objs.size))->Q () ⟨h',g,d,tk',os⟩) (hw:Within mA ns) (hsz:ns.length<sizeLine) :
  wpAny (model prog w) A (setAttr (.ref x) name v) Q E ⟨h,g,d,t,os⟩:=by
 have SF:=PySem.F.store_object;obtain⟨cd,hc,ho⟩:=any_some Z.ov;rw[Bool.and_eq_true]at ho;obtain⟨r1,r2,r3⟩:=YV (.ref x) ho.1;have LT:Looks (model prog w) h (typeOf (.ref x)) (.ref C):=Yf I;have sub:Looks (model prog w) h (isInstance (.ref x) (.type "object")) true:=LT.andThen (looks_mroIn X (by unfold mroIn;rw[hc,Option.bind_some,if_neg (by rw[r3];decide),r2]));refine wpAny_bind (wpAny_mkText (wpAny_bind (wpAny_bind (wpAny_bind (LT _ _ _ _ (fun _ _ e=>e) (looks_findIn X Z.sa _ _ _ _ (fun _ _ e=>e) (wpAny_holding ?_)))))));rw[SF.slot.bind];refine wpAny_bind (wpAny_pure (wpAny_bind (wpAny_call ?_)));refine codeAny_call_builtin SF.slot.plain SF.entry (@check_slot (model prog w) _ _ ⟨h,g,d,_,os⟩ "object.__setattr__" "object" "__setattr__" (.ref x) [.str name _,v] [] _ SF.kind SF.split sub (SF.args (.ref x) (.str name _) v) ?_);refine j5c X Z ha I (fun h' tk' a b c=>?_) hw hsz;exact wpAny_pure (wpAny_pure (hq h' tk' a b c))
structure ExcP(K:Frag)(CP:Addr)(initId:String):Prop where
 g:specialIn K (.ref CP) "__getattribute__"= some (some (.builtin "type.__getattribute__"))
 r:readsIn K CP (.type "type")=true
 f:findCls K (.ref CP) (.type "type") "__init__"= some (.val (.builtin initId))
 h:handedIn (.builtin initId)=true
theorem j4S{CP:Addr}{initId:String}{pl:Sem Bool}{Q:Value×List Value->Shared->Prop}{s:Shared}(X:K.In s.heap)(Z:ExcP K CP initId)(h:Q (.builtin initId,[]) {s with toks:=s.toks+1}):wpAny (model prog w) A (getMethod (.ref CP) "__init__" pl) Q E s:=
 method_cls X Z.g (cls_value X Z.r Z.f Z.h h)
theorem j3T{newId initId:String}{bmB:List Value}(F:ExcBaseFacts "ValueError" newId initId bmB){o:Obj}{vs:Array Value}{Q:Value->Shared->Prop}(X:K.In h)(Z:ExcF K C)(hs:subIn K (.ref C) (.type "ValueError")=some true)(he:h.get? x=some o)(hcl:o.cls = .ref C)(hdt:o.data = .fields vs){a0:Addr}(h0:vs[0]?=some (.ref a0))
  (hq:∀h' t',(∀b ob,b≠x->h.get? b=some ob->h'.get? b=some ob)->h.get? t'=none->h'.get? x=some {o with data:=.fields (vs.setIfInBounds 0 (.ref t'))}->Q .none ⟨h',g,d,t,os⟩) {u:Value} :
  wpAny (model prog w) A (call (.builtin initId) [.ref x,u]) Q E ⟨h,g,d,t,os⟩:=by
 have LT:Looks (model prog w) h (typeOf (.ref x)) (.ref C):=hcl▸(Looks.ld he).andThen .now;have LS:Looks (model prog w) h (isSubtype (.ref C) (.type "ValueError")) true:=looks_subIn X hs;have hshort:=F.noStar;obtain⟨oC,cd,hC,hCd⟩:∃oC cd,h.get? C=some oC/\oC.data = .cls cd:=by
  have z0:(clsIn K C).isSome=true:=Z.i.is;unfold clsIn at z0;split at z0
  ·rename_i c' d' cd' sl' ho;exact⟨_,_,X _ _ ho,rfl⟩
  ·cases z0
 refine wpAny_call (codeAny_call_builtin F.init.plain F.initEntry ?_);simp only[checkBuiltinCall,F.initKind,F.initSplit,F.initRow];unfold isInstance
 repeat (first | with_reducible refine Looks.at LT ?_ | with_reducible refine Looks.at LS ?_ | (with_reducible refine wpAny_load hC ?_;rw[hCd]) | wp_step)
 rw[hdt];refine wpAny_pure ?_;rw[h0];refine wpAny_pure ?_;have he₁:(h.push {cls:=.type "tuple",data:=.seq #[u]}).get? x=some o:=Heap.get?_push_of_some _ he
 repeat (first | (with_reducible refine wpAny_load he₁ ?_;rw[hdt]) | wp_step)
 rw[if_pos (Array.getElem?_eq_some_iff.mp h0).1];refine wpAny_update' he₁ ?_
 repeat (first | wp_step)
 refine hq _ h.objs.size (fun b ob hb e=>(Heap.get?_update_ne _ _ _ _ hb).trans (Heap.get?_push_of_some _ e)) (Heap.get?_none_of_le (Nat.le_refl _)) ?_;refine(Heap.get?_update_self _ he₁ ?_).trans ?_
 all_goals (obtain⟨oc,od,odt,osl⟩:=o;dsimp only at hdt;subst hdt;rfl)
theorem j2O{tk:Tok}{Q:Fin->Shared->Prop}(X:K.In h)(Z:ExcF K C)(ha:findIn K (.ref C) name=some none)(I:h.Inst x C mA)(hv:mA name=some v)(hq:Q (.done (.ret v)) ⟨h,g,d,t,os⟩) :
  wpAny (model prog w) A (Builtin.«object.__getattribute__» ⟨[.ref x,.str name tk],[]⟩) Q E ⟨h,g,d,t,os⟩:=by
 have L0:Looks (model prog w) h (typeOf (.ref x)) (.ref C):=Yf I;have L3:=looks_findIn (M:=model prog w) X ha;obtain⟨o,hx,hcl,hnc,hd⟩:=I;obtain⟨dx,hdx,hne,hns⟩:∃dx,o.dict=some dx/\dx≠x/\h.Ns1 dx mA:=by
  rcases hd with⟨_,hm⟩ | z
  ·rw[hm]at hv;cases hv
  ·exact z
 have hn:=hns.ns;obtain⟨oc,od,odt,osl⟩:=o;dsimp only at hcl hdx;subst hcl hdx;obtain⟨cd,hc,ho⟩:=any_some Z.ov;rw[Bool.and_eq_true]at ho;have LC:Looks (model prog w) h (classData C) cd:=looks_clsIn X hc;have hd':=ho.2
 repeat (any_goals (first | assumption | with_reducible refine Looks.at L0 ?_ | with_reducible refine Looks.at L3 ?_ | with_reducible refine Looks.at LC ?_ | with_reducible refine wpAny_loadPart_at hx ?_ | (with_reducible refine wpAny_nsGet hn ?_;rw[hv]) | wp_step))
 split
 ·rename_i c hcd;exact absurd hcd (hnc c)
 ·unfold instanceDict;refine wpAny_bind (wpAny_loadPart hx ?_);dsimp only;refine wpAny_bind (LC.at ?_);rw[hd',if_neg (by decide)];refine wpAny_pure ?_;unfold inDict;refine wpAny_nsGet hn ?_;rw[hv]
  repeat (any_goals (first | assumption | wp_step))
theorem j2N{M:Model}{nameV:Value}{Q:Unit->Shared->Prop}(Z:ExcF K C)(X:K.In h)(I:h.Inst x C mA)(hq:Q () ⟨h,g,d,t,os⟩) :
  wpAny M A (checkBuiltinCall "BaseException.__getattribute__" ⟨[.ref x,nameV],[]⟩) Q E ⟨h,g,d,t,os⟩:=by
 have hk:builtinKind "BaseException.__getattribute__"= some .slot:=by decide +kernel
 have hsplit:splitId "BaseException.__getattribute__"= some ("BaseException","__getattribute__"):=by decide +kernel
 have L0:Looks M h (typeOf (.ref x)) (.ref C):=Yf I;have L4:Looks M h (isSubtype (.ref C) (.type "BaseException")) true:=looks_subIn X Z.i.base;have ha:=F.args_bexc_ga (.ref x) nameV;simp only[checkBuiltinCall,hk,hsplit];refine wpAny_bind ?_;unfold isInstance
 repeat (first | with_reducible refine Looks.at L0 ?_ | with_reducible refine Looks.at L4 ?_ | wp_step)
 exact hq
theorem j5b{expr:Bool}{Q:Value->Shared->Prop}(X:K.In h)(Z:ExcF K C)(ha:findIn K (.ref C) name=some none)(I:h.Inst x C mA)(hv:mA name=some v)(hh:handedIn v=true)(hq:Q v ⟨h,g,d,t+1,os⟩) :
  wpAny (model prog w) A (getAttr (.ref x) name expr) Q E ⟨h,g,d,t,os⟩:=by
 have L0:Looks (model prog w) h (typeOf (.ref x)) (.ref C):=Yf I;have L1:=looks_findIn (M:=model prog w) X Z.i.ga;have L2:=looks_findIn (M:=model prog w) X Z.i.nh;have f3:=F.attr_ValueError.ga.bind (.ref x);have hx2:(Value.builtin "BaseException.__getattribute__"== Value.builtin "object.__getattribute__")=false:=by decide +kernel
 unfold getAttr getAttrBy;refine wpAny_bind (wpAny_mkText (wpAny_holding (wpAny_bind (L0.at (wpAny_bind (L1.at ?_))))));dsimp only;rw[show(onTheHeap (Value.ref C)&&Value.builtin "BaseException.__getattribute__"== Value.builtin "object.__getattribute__")=false from by rw[hx2];rfl];simp only[Bool.false_eq_true,if_false];unfold getAttrByItsOwn hookBefore;rw[show onTheHeap (Value.ref C)=true from rfl];simp only[if_true];refine wpAny_bind (L2.at ?_);refine wpAny_bind (wpAny_attempt (wpAny_holding ?_));unfold callGetattribute;rw[show(expr&&onTheHeap (Value.builtin "BaseException.__getattribute__"))=false from Bool.and_false _,if_neg (by decide)];unfold boundAndCalled
 repeat (any_goals (first | assumption | wp_step))
 refine codeAny_call_builtin F.attr_ValueError.ga.plain F.entry_bexc_ga (j2N Z X I (j2O X Z ha I hv ?_));show wpAny _ _ (handedOut v) _ _ _;rw[handedOut_of hh];exact wpAny_pure hq
end
open PySem PySem.Spec PyProof.Rows PySem.W
theorem xcF.inst{C a dx:Addr}{h:Heap}{mA:Str->Option Value}(x:xcF (.ref C) a (some dx) h)(hn:h.Ns1 dx mA):h.Inst a C mA:=by
 obtain⟨o,vs,e,c,f,d⟩:=x;refine⟨o,e,c,(fun cd z=>by rw[f]at z;cases z),.inr ⟨dx,d,fun z=>?_,hn⟩⟩;obtain⟨o',es,ep,e',d',_⟩:=hn;rw[z,e]at e';cases e';rw[f]at d';cases d'
def tXf(K:Frag)(ta:TE)(m:Str):TE:=fun σ H Q=>ta σ H fun x H1=>∃a C dx fs v,x = .ref a/\H1 a=some (XcF (.ref C) a (some dx))/\H1 dx=some (.xd fs)/\ExcF K C/\findIn K (.ref C) m=some none/\fs.lookup m=some v/\Q v H1
theorem Wu{X:Cx}{e:PySem.Expr}{ta:TE}{f:Str}{pos:Pos}(he:PE X e ta)(hb:attributeBase e f X.env (eval e X.env)=eval e X.env:=by rfl):PE X (.Attribute e f pos) (tXf X.K ta f):=by
 intro pins s σ H Q I h;refine j2V hb (thn (he pins s σ H _ I h) fun u s1 ⟨x,H1,I1,rx,a,C,dx,fs,v,ex,ea,ed,Z,n,l,q⟩=>?_);subst ex;obtain rfl:u=Value.ref a:=rx;obtain⟨p,_,_⟩:=(show ObjOk X.prog X.w H1 s1.heap a (XcF (.ref C) a (some dx))from I1.hok a _ ea)
 obtain⟨mA,hn,hr⟩:=(show ObjOk X.prog X.w H1 s1.heap dx (.xd fs)from I1.hok dx _ ed)
 have hrf:=hr f;rw[l]at hrf;cases em:mA f with
 | none=>rw[em]at hrf;exact hrf.elim
 | some w'=>
  rw[em]at hrf;have hh:handedIn w'=true:=by
   cases v<;>first | (obtain⟨_,z⟩:=hrf;subst z;rfl) | (cases hrf;rfl)
  obtain⟨h,g,d,t,os⟩:=s1;exact j5b I1.kIn Z n (p.inst hn) em hh ⟨v,H1,I1.tok _,hrf,q⟩
theorem WB{K:Frag}{ta:TE}{m:Str}{σ:St}{H:Hp}{Q:VK}(h:ta σ H fun x H1=>∃a C dx fs v,x = .ref a/\H1 a=some (XcF (.ref C) a (some dx))/\H1 dx=some (.xd fs)/\ExcF K C/\findIn K (.ref C) m=some none/\fs.lookup m=some v/\Q v H1):tXf K ta m σ H Q:=h
noncomputable def unk(H:Hp)(T:Addr):Hp:=fun b=>if b=T then none else H b
theorem Kq{H:Hp}{T b:Addr}(h:b≠T):unk H T b=H b:=if_neg h
theorem Yr{H:Hp}{T:Addr}:unk H T T=none:=if_pos rfl
theorem Inv.unknow{X:Cx}{pins:List (Addr×Obj)}{σ:St}{H:Hp}{s:Shared}{T:Addr}{φ:Heap->Prop}(I:Inv X pins σ H s)(hT:H T=some (.ext φ)):Inv X pins σ (unk H T) s:=by
 have non:∀b,H b=none->unk H T b=none:=fun b h=>by
  by_cases z:b=T
  ·rw[z];exact Yr
  ·rw[Kq z];exact h
 have oth:∀b u,H b=some u->(∀ψ,u≠.ext ψ)->unk H T b=some u:=fun b u h n=>by
  rw[Kq fun z=>?_]
  ·exact h
  ·rw[z,hT]at h;exact n φ (Option.some.inj h).symm
 refine⟨I.ok,I.os,I.bare,⟨I.base.keep,I.base.slot,fun b u e n hx=>non b (I.base.free b u e n hx),I.base.there,fun b xs e=>oth _ _ (I.base.tups b xs e) (fun ψ z=>by cases z),fun b u v e=>oth _ _ (I.base.frzs b u v e) (fun ψ z=>by cases z),fun b ps e=>?_⟩,I.loc,I.cell,non _ I.free,fun x c e=>non _ (I.freeC x c e),fun p hq=>?_,fun b u e=>?_,I.len⟩
 ·obtain⟨more,this⟩:=I.base.tbls b ps e;exact⟨more,oth _ _ this (fun ψ z=>by cases z)⟩
 ·obtain⟨e,n,r⟩:=I.pin p hq;exact⟨e,non _ n,r⟩
 ·have z:b≠T:=fun z=>by rw[z,Yr]at e;cases e
  rw[Kq z]at e;exact(I.hok b u e).stay (fun c v _ q=>q) (fun c q=>oth _ _ q (fun ψ z=>by cases z)) fun c ys q=>oth _ _ q (fun ψ z=>by cases z)
open PySem PySem.Spec PyProof.Rows
def tFmt(te:TE):TE:=fun σ H Q=>te σ H fun x H1=>(∃i:Int,x = .int i/\i.natAbs.log2<1920/\Q (.str (toString i)) H1)\/∃y:Str,x = .str y/\y.length<=sizeLine/\Q (.str y) H1
theorem j4y{X:Cx}{e:PySem.Expr}{te:TE}{pos:Pos}(he:PE X e te):PE X (.FormattedValue e (-1) none pos) (tFmt te):=by
 intro pins s σ H Q I h;refine FormattedValue_plain (thn (he pins s σ H _ I h) fun u s1 ⟨x,H1,I1,rx,q⟩=>?_);rcases q with⟨i,rfl,hi,q⟩ | ⟨y,rfl,hy,q⟩
 ·obtain⟨t,rfl⟩:=(show∃t,u=Value.int i t from rx)
  exact formatField_int_small hi ⟨.str (toString i),H1,I1.tok _,⟨_,rfl⟩,q⟩
 ·obtain⟨t,rfl⟩:=(show∃t,u=Value.str y t from rx)
  exact formatField_str (fun t' tk=>⟨.str y,H1,I1.tok _,⟨_,rfl⟩,q⟩) hy
noncomputable abbrev TJ:=Str->TE
def PJ(X:Cx)(es:List PySem.Expr)(t:TJ):Prop:=∀(out:Str) (pins:List (Addr×Obj)) (s:Shared) (σ:St) (H:Hp) (Q:VK),Inv X pins σ H s->t out σ H Q->
 wpAny (model X.prog X.w) X.A (joinParts out (evalEach es X.env)) (fun u s1=>∃x H1,Inv X pins σ H1 s1/\RelV x u/\Q x H1) X.xe s
noncomputable def jNil:TJ:=fun out _ H Q=>out.length<=sizeLine/\Q (.str out) H
noncomputable def jCons(te:TE)(t:TJ):TJ:=fun out σ H Q=>te σ H fun x H1=>∃y:Str,x = .str y/\(out++y).length<=sizeLine/\t (out++y) σ H1 Q
theorem j4C{X:Cx}:PJ X [] jNil:=fun out pins s σ H Q I h=>joinParts_nil ⟨.str out,H,I.tok _,⟨_,rfl⟩,h.2⟩ h.1
theorem Wv{X:Cx}{e:PySem.Expr}{es:List PySem.Expr}{te:TE}{t:TJ}(he:PE X e te)(hr:PJ X es t)(hs:evalEach (e::es) X.env=eval e X.env::evalEach es X.env:=by rfl):PJ X (e::es) (jCons te t):=by
 intro out pins s σ H Q I h;rw[hs];refine joinParts_cons (thn (he pins s σ H _ I h) fun u s1 ⟨x,H1,I1,rx,y,ex,hl,q⟩=>?_);subst ex;obtain⟨t',rfl⟩:=(show∃t,u=Value.str y t from rx)
 exact⟨hl,hr _ pins s1 σ H1 Q I1 q⟩
def tJoin(t:TJ):TE:=fun σ H Q=>t Str.empty σ H Q
theorem j3v{X:Cx}{a b:PySem.Expr}{es:List PySem.Expr}{t:TJ}{pos:Pos}(h:PJ X (a::b::es) t)(hs:evalEach (a::b::es) X.env=eval a X.env::eval b X.env::evalEach es X.env:=by rfl):PE X (.JoinedStr (a::b::es) pos) (tJoin t):=by
 intro pins s σ H Q I q;have z:=h Str.empty pins s σ H Q I q;rw[hs]at z;exact JoinedStr_many z
noncomputable def xcN(C e:Addr)(dd:Option Addr):Heap->Prop:=fun h=>∃o vs a0,h.get? e=some o/\o.cls = .ref C/\o.data = .fields vs/\vs[0]?=some (.ref a0)/\vs[1]?=some .none/\o.dict=dd
noncomputable abbrev XcN(C e:Addr)(dd:Option Addr):HO:=.ext (xcN C e dd)
theorem xcN.ok{C e:Addr}{dd:Option Addr}{P:Program}{w:World}{H:Hp}{h:Heap}(x:xcN C e dd h):ObjOk P w H h e (XcN C e dd):=
 ⟨x,let ⟨o,_,_,z,_⟩:=x;⟨o,z⟩,fun _ _ ⟨o,vs,a0,e1,r⟩ k=>⟨o,vs,a0,k o e1,r⟩⟩
section
variable{X:Cx}{pins:List (Addr×Obj)}{σ:St}{H:Hp}{s:Shared}{C e dx:Addr}{dd:Option Addr}
theorem Inv.xset{h':Heap}{t':Nat}{fs:List (Str×V)}(I:Inv X pins σ H s)(he:H e=some (XcN C e dd))(k:∀b o,b≠e->b≠dx->s.heap.get? b=some o->h'.get? b=some o)
  (hdx:s.heap.objs.size<=dx\/∃gs,H dx=some (.xd gs)) (n1:xcN C e (some dx) h') (n2:∃mA,h'.Ns1 dx mA/\∀f,RelO (fs.lookup f) (mA f)) :
  Inv X pins σ (upd (upd H e (XcN C e (some dx))) dx (.xd fs)) {s with heap:=h',toks:=t'}:=by
 have ne:∀b u,H b=some u->(∀φ,u≠.ext φ)->b≠e:=fun b u q n z=>by rw[z,he]at q;exact n _ (Option.some.inj q).symm
 have nd:∀b u,H b=some u->(∀gs,u≠.xd gs)->b≠dx:=fun b u q n z=>by
  rcases hdx with w' | ⟨gs,w'⟩
  ·rw[z,I.hok.fresh w']at q;cases q
  ·rw[z,w']at q;exact n _ (Option.some.inj q).symm
 have ned:e≠dx:=nd e _ he (fun gs z=>by cases z);have n0:∀b o,H b=none->s.heap.get? b=some o->b≠e/\b≠dx:=fun b o q z=>⟨(fun w'=>by rw[w',he]at q;cases q),fun w'=>by
  rcases hdx with w2 | ⟨gs,w2⟩
  ·rw[w']at z;exact absurd (Heap.lt_size z) (Nat.not_lt.mpr w2)
  ·rw[w',w2]at q;cases q⟩
 have oth:∀b,b≠e->b≠dx->upd (upd H e (XcN C e (some dx))) dx (.xd fs) b=H b:=fun b z1 z2=>(jq z2).trans (jq z1)
 have keep:∀b u,H b=some u->(∀φ,u≠.ext φ)->(∀gs,u≠.xd gs)->upd (upd H e (XcN C e (some dx))) dx (.xd fs) b=some u:=fun b u q z1 z2=>(oth b (ne b u q z1) (nd b u q z2)).trans q
 refine I.un ⟨fun b o q n _ _=>k b o (n0 b o n q).1 (n0 b o n q).2 q,fun b o q n _ _=>⟨o.slots,k b o (n0 b o n q).1 (n0 b o n q).2 q⟩,fun b o q n _=>(oth b (n0 b o n q).1 (n0 b o n q).2).trans n,fun b o q _=>?_,fun b xs q=>keep b _ q (fun _ z=>by cases z) (fun _ z=>by cases z),
  fun b o u q=>keep b _ q (fun _ z=>by cases z) (fun _ z=>by cases z),fun b ps q=>⟨#[],by rw[keep b _ q (fun _ z=>by cases z) (fun _ z=>by cases z)];simp⟩⟩ fun b u q=>?_
 ·by_cases z1:b=e
  ·obtain⟨o',_,_,z,_⟩:=n1;exact⟨o',by rw[z1];exact z⟩
  ·by_cases z2:b=dx
   ·obtain⟨_,⟨o',_,_,z,_⟩,_⟩:=n2;exact⟨o',by rw[z2];exact z⟩
   ·exact⟨o,k b o z1 z2 q⟩
 ·by_cases z2:b=dx
  ·subst z2;rw[jn]at q;cases q;exact n2
  ·rw[jq z2]at q;by_cases z1:b=e
   ·subst z1;rw[jn]at q;cases q;exact n1.ok
   ·rw[jq z1]at q;refine(I.hok b u q).stay (fun c v hc z=>k c v ?_ ?_ z) (fun c z=>keep c _ z (fun _ z=>by cases z) (fun _ z=>by cases z)) fun c xs z=>keep c _ z (fun _ z=>by cases z) (fun _ z=>by cases z)
    ·rcases hc with rfl | hc
     ·exact z1
     ·exact ne c _ hc (fun _ z=>by cases z)
    ·rcases hc with rfl | hc
     ·exact z2
     ·exact nd c _ hc (fun _ z=>by cases z)
end
theorem xcN.inst{C e dx:Addr}{h:Heap}{mA:Str->Option Value}(x:xcN C e (some dx) h)(hn:h.Ns1 dx mA):h.Inst e C mA:=by
 obtain⟨o,vs,a0,e1,c,f,_,_,d⟩:=x;refine⟨o,e1,c,(fun cd z=>by rw[f]at z;cases z),.inr ⟨dx,d,fun z=>?_,hn⟩⟩;obtain⟨o',es,ep,e',d',_⟩:=hn;rw[z,e1]at e';cases e';rw[f]at d';cases d'
theorem xcN.inst0{C e:Addr}{h:Heap}(x:xcN C e none h):h.Inst e C (fun _=>none):=by
 obtain⟨o,vs,a0,e1,c,f,_,_,d⟩:=x;exact⟨o,e1,c,(fun cd z=>by rw[f]at z;cases z),.inl ⟨d,fun _=>rfl⟩⟩
def sXf(K:Frag)(ta tv:TE)(m:Str):TS:=fun D σ H=>tv σ H fun y H1=>ta σ H1 fun x H2=>∃e C,x = .ref e/\ExcF K C/\findIn K (.ref C) m=some none/\
  ((H2 e=some (XcN C e none)/\∀dx,H2 dx=none->D.nx σ (upd (upd H2 e (XcN C e (some dx))) dx (.xd [(m,y)])))\/
   ∃dx fs,H2 e=some (XcN C e (some dx))/\H2 dx=some (.xd fs)/\fs.length<1000/\D.nx σ (upd (upd H2 e (XcN C e (some dx))) dx (.xd (putF m y fs))))
theorem j3B{X:Cx}{o value:PySem.Expr}{f:Str}{pos pos':Pos}{ta tv:TE}(ha:PE X o ta)(hv:PE X value tv)(hs:swapsWith value (some (.Attribute o f pos')) pos.line X.env=pure false:=by rfl):PS X (.Assign [.Attribute o f pos'] value pos) (sXf X.K ta tv f):=by
 intro pins s σ H D I h;refine plainObj_wpAny_Assign_Attribute (thn (hv pins s σ H _ I h) fun u s1 ⟨y,H1,I1,ry,q⟩=>thn (ha pins s1 σ H1 _ I1 q) fun ov s2 ⟨x,H2,I2,rx,e,C,ex,Z,hn,q2⟩=>?_) hs;subst ex;obtain rfl:ov=Value.ref e:=rx;rcases q2 with⟨he,q2⟩ | ⟨dx,fs,he,hd,hl,q2⟩
 ·obtain⟨p,_,_⟩:=(show ObjOk X.prog X.w H2 s2.heap e (XcN C e none)from I2.hok e _ he)
  obtain⟨o,vs,a0,e1,ec,ed,e0,e2,edd⟩:=id p;have I2':=I2;obtain⟨hp,g,d,t,os⟩:=s2;refine j46 (ns:=[]) I2.kIn Z hn p.inst0 (fun h' tk' i1 i2 i3=>?_) Within.nil (by rw[length_nil,sizeLine_eq];omega);obtain⟨o1,z1,z2,z3,z4,_,z6⟩:=i3 o e1;have zd:=z6 edd;obtain⟨o',y1,y2,y3,y4⟩:=i1;rw[z1]at y1;cases y1;have hns:h'.Ns1 hp.objs.size (fun z=>if z=f then some u else none):=by
   rcases y4 with⟨w1,_⟩ | ⟨dx,w1,w2,w3⟩
   ·rw[zd]at w1;cases w1
   ·rw[zd]at w1;cases w1;exact w3
  have J:=Inv.xset (h':=h') (t':=tk') (dx:=hp.objs.size) (fs:=[(f,y)]) I2' he (fun b ob b1 _ b3=>i2 b ob b1 (fun o₀ dx w1 w2=>by rw[e1]at w1;cases w1;rw[edd]at w2;cases w2) b3) (.inl (Nat.le_refl _))
   ⟨o1,vs,a0,z1,z2.trans ec,z3.trans ed,e0,e2,zd⟩ ⟨_,hns,fun m=>?_⟩
  ·exact⟨σ,_,J,q2 _ (I2'.hok.fresh (Nat.le_refl _))⟩
  ·show RelO (List.lookup m [(f,y)]) (if m=f then some u else none);rw[lookup_cons];by_cases z:m=f
   ·rw[if_pos z,beq_iff_eq.mpr z];exact ry
   ·rw[if_neg z,beq_false_of_ne z];exact True.intro
 ·obtain⟨p,_,_⟩:=(show ObjOk X.prog X.w H2 s2.heap e (XcN C e (some dx))from I2.hok e _ he)
  obtain⟨mA,hns,hr⟩:=(show ObjOk X.prog X.w H2 s2.heap dx (.xd fs)from I2.hok dx _ hd)
  obtain⟨o,vs,a0,e1,ec,ed,e0,e2,edd⟩:=id p;have I2':=I2;have wi:Within mA (fs.map (·.1)):=fun z hz=>by
   have:=hr z;cases q:fs.lookup z with
   | none=>rw[q]at this;cases q':mA z with
    | none=>exact absurd q' hz
    | some _=>rw[q']at this;exact this.elim
   | some v=>
    exact mem_map.mpr ⟨(z,v),by
     clear this hr hz hd hl he q2
     induction fs with
     | nil=>cases q
     | cons p r ih=>
      obtain⟨p1,p2⟩:=p;rw[lookup_cons]at q;by_cases w':z=p1
      ·subst w';rw[beq_self_eq_true]at q;cases q;exact mem_cons_self
      ·rw[beq_false_of_ne w']at q;exact mem_cons_of_mem _ (ih q),rfl⟩
  obtain⟨hp,g,d,t,os⟩:=s2;refine j46 I2.kIn Z hn (p.inst hns) (fun h' tk' i1 i2 i3=>?_) wi (by rw[length_map,sizeLine_eq];omega);obtain⟨o1,z1,z2,z3,z4,z5,_⟩:=i3 o e1;have zd:=z5 dx edd;obtain⟨o',y1,y2,y3,y4⟩:=i1;rw[z1]at y1;cases y1;have hns':h'.Ns1 dx (fun z=>if z=f then some u else mA z):=by
   rcases y4 with⟨w1,_⟩ | ⟨dx',w1,w2,w3⟩
   ·rw[zd]at w1;cases w1
   ·rw[zd]at w1;cases w1;exact w3
  have J:=Inv.xset (h':=h') (t':=tk') (dx:=dx) (fs:=putF f y fs) I2' he (fun b ob b1 b2 b3=>i2 b ob b1 (fun o₀ dx' w1 w2=>by rw[e1]at w1;cases w1;rw[edd]at w2;cases w2;exact b2) b3) (.inr ⟨_,hd⟩)
   ⟨o1,vs,a0,z1,z2.trans ec,z3.trans ed,e0,e2,zd⟩ ⟨_,hns',fun m=>?_⟩
  ·exact⟨σ,_,J,q2⟩
  ·show RelO ((putF f y fs).lookup m) (if m=f then some u else mA m);rw[kb];by_cases z:m=f
   ·rw[if_pos z,if_pos z];exact ry
   ·rw[if_neg z,if_neg z];exact hr m
def tBin(K:Frag)(t:TA):TE:=fun σ H Q=>t σ H fun vs H1=>∃e C dd u,vs=[.ref e,u]/\H1 e=some (XcN C e dd)/\ExcF K C/\subIn K (.ref C) (.type "ValueError")=some true/\Q .non H1
theorem j2o{X:Cx}{x:Str}{CP:Addr}{newId initId:String}{bmB:List Value}{pl:Sem Bool}{p apos pos:Pos}{e:PySem.Expr}{es:List PySem.Expr}{t:TA}(F:ExcBaseFacts "ValueError" newId initId bmB)(Z:ExcP X.K CP initId)(hg:Gl X x)(hm:X.mg x=some (.ref CP))(ha:PA X (e::es) t)
  (hdb:(x==("__debug__" : Str))=false:=by decide) (hst:starEach (e::es) X.env=(false,eval e X.env)::starEach es X.env:=by rfl) (hpl:(backTo pos (starEach es X.env)).any (·.1)=false:=by rfl)
  (ht:eval (.Call (.Attribute (.Name x p) "__init__" apos) (e::es) [] pos) X.env=(do
   let ov <-eval (.Name x p) X.env
   standAt apos.atName
   let (f,first) <-holding [ov] (getMethod ov "__init__" pl)
   callWith pos f first (backTo pos (starEach (e::es) X.env)) (backToKw pos (keywordEach [] X.env))):=by rfl) :
  PE X (.Call (.Attribute (.Name x p) "__init__" apos) (e::es) [] pos) (tBin X.K t):=by
 intro pins s σ H Q I h;refine PySem.W.methodCall_KW (pl:=pl) (yg I hg hm ?_ hdb) ht;refine j4S (X:=I.kIn) Z ?_;refine PyProof.Rows.callWith_builtin1 (thn (ha pos pins _ σ H _ (I.tok _) h) fun us s1 ⟨vs,H1,I1,r,e',C,dd,u,ev,he,ZF,hsub,q⟩=>?_) hst hpl;subst ev;obtain⟨v1,v2,rfl,r1,r2⟩:=vals2 r;obtain rfl:v1=Value.ref e':=r1;obtain⟨p,_,_⟩:=(show ObjOk X.prog X.w H1 s1.heap e' (XcN C e' dd)from I1.hok e' _ he)
 obtain⟨o,vs,a0,e1,ec,ed,e0,e2,edd⟩:=id p;have I1':=I1;obtain⟨hp,g,d,t,os⟩:=s1;refine j3T F I1.kIn ZF hsub e1 ec ed e0 fun h' t' k nt hx=>?_
 have J:=I1'.write (x:=e') (e:=e') (o:=XcN C e' dd) (h':=h') (t':=t) (by rw[he];exact True.intro) (.inl rfl) (fun b ob hb q=>k b ob hb q) ⟨_,hx⟩
  (xcN.ok ⟨_,_,t',hx,ec,rfl,?_,?_,edd⟩)
 ·have eH:upd H1 e' (XcN C e' dd)=H1:=by
   funext b;by_cases z:b=e'
   ·rw[z,jn,he]
   ·exact jq z
  rw[eH]at J;exact⟨.non,H1,J,rfl,q⟩
 ·have:=(Array.getElem?_eq_some_iff.mp e0).1;rw[Array.getElem?_setIfInBounds_self_of_lt this]
 ·rw[Array.getElem?_setIfInBounds_ne (by decide)];exact e2
theorem j4F{K:Frag}{t:TA}{σ:St}{H:Hp}{Q:VK}(h:t σ H fun vs H1=>∃e C dd u,vs=[.ref e,u]/\H1 e=some (XcN C e dd)/\ExcF K C/\subIn K (.ref C) (.type "ValueError")=some true/\Q .non H1):tBin K t σ H Q:=h
theorem j4I{K:Frag}{ta tv:TE}{m:Str}{D:Ends}{σ:St}{H:Hp} (h:tv σ H fun y H1=>ta σ H1 fun x H2=>∃e C,x = .ref e/\ExcF K C/\findIn K (.ref C) m=some none/\
  ((H2 e=some (XcN C e none)/\∀dx,H2 dx=none->D.nx σ (upd (upd H2 e (XcN C e (some dx))) dx (.xd [(m,y)])))\/
   ∃dx fs,H2 e=some (XcN C e (some dx))/\H2 dx=some (.xd fs)/\fs.length<1000/\D.nx σ (upd (upd H2 e (XcN C e (some dx))) dx (.xd (putF m y fs))))):sXf K ta tv m D σ H:=h
theorem j3F{t:TJ}{σ:St}{H:Hp}{Q:VK}(h:t Str.empty σ H Q):tJoin t σ H Q:=h
theorem j3E{out:Str}{σ:St}{H:Hp}{Q:VK}(h:out.length<=sizeLine/\Q (.str out) H):jNil out σ H Q:=h
theorem xN{y:Str}{t:TJ}{out:Str}{σ:St}{H:Hp}{Q:VK}(h1:(out++y).length<=sizeLine)(h:t (out++y) σ H Q):jCons (tC (.str y)) t out σ H Q:=⟨y,rfl,h1,h⟩
theorem j2u{te:TE}{t:TJ}{out:Str}{σ:St}{H:Hp}{Q:VK}(h:te σ H fun x H1=>∃y:Str,x = .str y/\(out++y).length<=sizeLine/\t (out++y) σ H1 Q):jCons te t out σ H Q:=h
theorem j4G{te:TE}{σ:St}{H:Hp}{Q:VK}(h:te σ H fun x H1=>(∃i:Int,x = .int i/\i.natAbs.log2<1920/\Q (.str (toString i)) H1)\/∃y:Str,x = .str y/\y.length<=sizeLine/\Q (.str y) H1):tFmt te σ H Q:=h
noncomputable def exiIn(K:Frag)(C:Addr)(bmB:List Value)(newId:String)(f:Addr):Bool:=match K.lookup C with
 | some ⟨.type "type",_,.cls cd,sl⟩=>(match cd.mro,sl.toList with
  | .ref C'::bm,[_,_,_,_,some (.builtin n),_]=>C'==C&&n==newId && !cd.hasDel&&tailIn K bmB bm&&nsOkIn K cd.ns&&nsIn K cd.ns "__init__"== some (some (.ref f))
  | _,_=>false)
 | _=>false
theorem j50{K:Frag}{h:Heap}{N:Addr}{mg:Str->Option Value}{n:Str}{v:Value}(X:K.In h)(G:h.Ns N mg)(e:nsIn K N n=some (some v)):mg n=some v:=by
 obtain⟨o,es,ep,ho,hd,_,hf⟩:=G;unfold nsIn at e;split at e
 ·rename_i es' ep' hl;have:=X _ _ hl;rw[ho]at this;cases this;cases hd;split at e
  ·rename_i e' he;cases e;rw[<-hf];unfold nsFind findBy;rw[<-Array.find?_toList,he];rfl
  ·split at e<;>cases e
 ·cases e
theorem j0l{K:Frag}{h:Heap}{C f:Addr}{bmB:List Value}{newId:String}(X:K.In h)(q:exiIn K C bmB newId f=true) :
  ∃bm N nm qn bs hdct sn sub ab col dd k0 k1 k2 k3 k5 mN,h.get? C=some (excClassObj nm qn C N bs bm hdct sn sub ab col dd k0 k1 k2 k3 k5 newId)/\h.Ns N mN/\mN "__init__"= some (.ref f)/\OwnTail h bmB bm:=by
 unfold exiIn at q;split at q
 ·rename_i dd cd sl ho;split at q
  ·rename_i C' bm k0 k1 k2 k3 n k5 hm hs;simp only[Bool.and_eq_true,beq_iff_eq,Bool.not_eq_true']at q;obtain⟨⟨⟨⟨⟨rfl,rfl⟩,hdel⟩,ht⟩,hok⟩,hni⟩:=q;obtain⟨nm,bs,mro,ns,qn,hd,sn,sub,ab,col,del⟩:=cd;dsimp only at hm hdel hok hni;subst hm hdel;have hsl:sl = #[k0,k1,k2,k3,some (.builtin n),k5]:=by
    obtain⟨l⟩:=sl;simp only at hs;rw[hs]
   subst hsl;exact⟨bm,ns,nm,qn,bs,hd,sn,sub,ab,col,dd,k0,k1,k2,k3,k5,_,X _ _ ho,.of_isNs (PySem.W.isNs_of_in X hok),j50 X (.of_isNs (PySem.W.isNs_of_in X hok)) hni,PySem.W.tail_of_in X ht⟩
  ·cases q
 ·cases q
structure ExcM(K:Frag)(C f:Addr):Prop where
 x:exiIn K C [.type "ValueError",.type "Exception",.type "BaseException",.type "object"] "ValueError.__new__" f=true
 F:ExcF K C
 ve:subIn K (.ref C) (.type "ValueError")=some true
 fn:isFn K (.ref f)=true
 kp:keepIn K (.ref C)=true
section
variable{X:Cx}{pins:List (Addr×Obj)}{σ:St}{H:Hp}{s:Shared}{E:XK}{e C:Addr}{dd:Option Addr}
theorem XP.of_known(F:Flat X)(I:Inv X pins σ H s)(he:H e=some (XcN C e dd))(n0:X.s₀.heap.get? e=none)(hE:E (.ref C) dd (unk H e)):XP X pins σ E (.ref e) s:=by
 obtain⟨⟨o,vs,a0,e1,ec,ed,e0,e2,edd⟩,_,_⟩:=(show ObjOk X.prog X.w H s.heap e (XcN C e dd)from I.hok e _ he)
 have hin:∀env∈X.stack,∀b,env.frame=some b->b∈e::frs X.stack:=fun env he b hb=>mem_cons_of_mem _ (List.mem_filterMap.mpr ⟨env,he,hb⟩)
 refine⟨e,.ref C,unk H e,hideAll s.heap (e::frs X.stack),dd,rfl,n0,I.unknow he,Yr,⟨fun b o q=>of_hideAll _ q,hideAll_none _ (mem_cons_self ..),funFrames_hide I.stack hin,.inr (.inl ⟨o,vs,_,e1,ec,ed,e2,e0⟩)⟩,fun b ob q z hb=>hideAll_get _ q fun w'=>?_,⟨o,e1,edd⟩,hE⟩;rcases mem_cons.mp w' with w' | w'
 ·subst w';rcases z with z | ⟨o0,z⟩ | ⟨p,hp,z⟩
  ·exact z Yr
  ·rw[n0]at z;cases z
  ·have:=(I.pin p hp).2.1;rw[z,he]at this;cases this
 ·exact hb w'
end
theorem KI{M:Model}{A:Around}{E:Value->Shared->Prop}{s:Shared}{env:Env}{K:Frag}{C f:Addr}{x:Sem Value}{Q:Flow->Shared->Prop}(Z:ExcM K C f)(hh:A.handled=none)
  (h:wpAny M A x (fun v s₁=>∃e o vs,v = .ref e/\K.In s₁.heap/\s₁.heap.get? e=some o/\o.cls = .ref C/\o.data = .fields vs/\vs[1]?=some .none/\E (.ref e) s₁) E s) :
  wpAny M A (raiseStmt env (some x) none) Q E s:=by
 unfold raiseStmt;refine wpAny_bind (wpAny_mono h (fun v s₁ h₁=>?_) fun _ _ x=>x);obtain⟨e,o,vs,rfl,X,he,hc,hd,h1,hE⟩:=h₁;obtain⟨tl,N,nm,q,bs,hdct,sn,sub,ab,col,dd,k0,k1,k2,k3,k5,mN,hC,_,_,T⟩:=j0l X Z.x;have L4:Looks M s₁.heap (isSubtype (.ref C) (.type "BaseException")) true:=looks_subIn X Z.F.i.base;obtain⟨hp,g,d,tk,os⟩:=s₁;obtain⟨oc,od,odt,osl⟩:=o;dsimp only at hc hd;subst hc hd
 repeat (first | with_reducible refine wpAny_loadPart_at he ?_ | with_reducible refine wpAny_loadPart_at hC ?_ | with_reducible refine Looks.at L4 ?_ | wp_step)
 rw[h1]
 repeat wp_step
 exact wpAny_raiseNew_none hh hE
noncomputable def rRaiseF(C:Addr)(sp:Sp)(E0:XK)(t:TA):TRS:=fun σ H E=>t σ H fun vs H1=>∀e,H1 e=none->sp (.ref e::vs) (upd H1 e (XcN C e none)) (fun v H2=>v = .non/\∃dx,H2 e=some (XcN C e (some dx))/\E σ (.ref C) (some dx) (unk H2 e)) E0
theorem YW{X:Cx}{CX:CXT}{x:Str}{C f:Addr}{fd:FuncData}{ps:List Str}{k:Nat}{sp:Sp}{E0:XK}{np cpos pos:Pos}{initId:String}{e:PySem.Expr}{es:List PySem.Expr}{t:TA}(FB:ExcBaseFacts "ValueError" "ValueError.__new__" initId [.type "ValueError",.type "Exception",.type "BaseException",.type "object"])(fl:Flat X)(Z:ExcM X.K C f)(hg:Gl X x)(hm:X.mg x=some (.ref C))
  (F:FnOk X.prog X.w X.K X.mg X.base CX k f fd ps sp) (hr:Room (k+1) X.A) (hb:Binds X.K fd ps []) (hp:Passes CX X.nox E0) (ha:PA X.nox (e::es) t)
  (hps:ps.length<=1000:=by decide) (hdb:(x==("__debug__" : Str))=false:=by decide) (he:starEach (e::es) X.env=(false,eval e X.env)::starEach es X.env:=by rfl) (hpl:(backTo cpos (starEach es X.env)).any (·.1)=false:=by rfl) :
  RS X (.Raise (some (.Call (.Name x np) (e::es) [] cpos)) none pos) (rRaiseF C sp E0 t):=by
 intro pins s σ H E I h;show wpAny _ _ (do standAt pos;raiseStmt X.env (some (do let v <-eval (.Call (.Name x np) (e::es) [] cpos) X.env;standAt pos;pure v)) none) _ _ _;refine wpAny_bind (wpAny_standAt (KI Z (I.ok.hd fl.calm) (wpAny_bind (wpAny_mono ?_ (fun v s₁ h₁=>wpAny_bind (wpAny_standAt (wpAny_pure h₁))) fun _ _ x=>x))));refine wpAny_Call_Name_kw (yg I hg hm ?_ hdb);refine PySem.W.callWith_K (h₀:=X.base) I.ok.mod.kin Z.kp (wpAny_mono (ha cpos pins s σ H _ (I.wish _) h) (fun us s1 ⟨vs,H1,I1,r,q⟩=>⟨I1.unwish.kIn,?_⟩) fun _ _ z=>False.elim z) he hpl;have I1:=I1.unwish;obtain⟨tl,N,nm,qn,bs,hdct,sn,sub,ab,col,dd,k0,k1,k2,k3,k5,mN,hC,hn,hi,T⟩:=j0l I1.kIn Z.x;obtain⟨oI,hfI,hfc⟩:∃oI,s1.heap.get? f=some oI/\oI.cls = .type "function":=by
  have z:=Z.fn;unfold isFn typeIn at z;obtain⟨o,ho,hc⟩:=Option.map_eq_some_iff.mp (beq_iff_eq.mp z);exact⟨o,I1.kIn _ _ ho,hc⟩
 have hq0:=q s1.heap.objs.size (I1.hok.fresh (Nat.le_refl _));have hlen0:=F.len _ _ _ _ hq0;have hlen:us.length<=sizeLine:=by
  have z:=r.length;rw[length_cons]at hlen0;rw[sizeLine_eq];omega
 have I1':=I1;obtain⟨hp1,g1,d1,t1,os1⟩:=s1;refine kE FB T hC hn hi hfI hfc (fun h' a made=>?_) hlen;have na:H1 a=none:=by
  cases z:H1 a with
  | none=>rfl
  | some o=>obtain⟨ob,e⟩:=(I1'.hok a o z).has;rw[made.new]at e;cases e
 have hq:=q a na;obtain⟨ta,hta,hta2,_⟩:=made.there;have J:Inv X pins σ H1 ⟨h',g1,d1,t1,os1⟩:=I1'.kept (h':=h') (t':=t1) made.keeps;have n0:X.s₀.heap.get? a=none:=by
  cases z:X.s₀.heap.get? a with
  | none=>rfl
  | some o=>
   obtain⟨o',e'⟩:=I1'.base.there a o z (by rw[fl.ex];simp);rw[made.new]at e';cases e'
 have J2:Inv X pins σ (upd H1 a (XcN C a none)) ⟨h',g1,d1,t1,os1⟩:=by
  refine J.known na n0 (fun z=>?_) (fun y c e z=>?_) (fun p hp z=>?_) (xcN.ok ⟨_,_,ta,hta,rfl,rfl,rfl,rfl,rfl⟩)
  ·obtain⟨m,⟨o,es,ep,ho,hd,_⟩,_⟩:=I1'.loc;rw[<-z,made.new]at ho;cases ho
  ·obtain⟨v,o,ho,hd⟩:=I1'.cell y c e;rw[z,made.new]at ho;cases ho
  ·have:=(I1'.pin p hp).1;rw[z,made.new]at this;cases this
 have r2:Vals (V.ref a::vs) (Value.ref a::us):=.cons rfl r;have hl2:(Value.ref a::us).length=ps.length:=by
  have z:=r2.length;rw[F.len _ _ _ _ hq]at z;exact z.symm
 refine wpAny_call (codeAny_mono (F.run _ X.stack _ _ ⟨Value.ref a::us,[]⟩ (Value.ref a::us) _ _ E0 (hr.make C us []) (J2.env0.make C us []) (by have z:=hb ⟨h',g1,d1,t1,os1⟩ (Value.ref a::us) J2.kIn (by rw[append_nil];exact hl2);rw[append_nil]at z;exact z) r2 hq) fun r s' hq'=>?_);cases r with
 | error e=>exact False.elim (hp pins σ _ _ e s' (J2.wish _) hq')
 | ok fl'=>
  cases fl' with
  | ret u=>
   obtain⟨v,H',I3,rv,ev,dx,hdx,q3⟩:=J2.after hq';subst ev;refine⟨rv,?_⟩;obtain⟨⟨o,ws,a0,e1,ec,ed,e0,e2,edd⟩,_,_⟩:=(show ObjOk X.prog X.w H' s'.heap a (XcN C a (some dx))from I3.hok a _ hdx)
   exact⟨a,o,ws,rfl,I3.kIn,e1,ec,ed,e2,σ,XP.of_known fl I3 hdx n0 q3⟩
  | next=>exact False.elim hq'
  | brk=>exact False.elim hq'
  | cont=>exact False.elim hq'
theorem yk{C:Addr}{sp:Sp}{E0:XK}{t:TA}{σ:St}{H:Hp}{E:XS}(h:t σ H fun vs H1=>∀e,H1 e=none->sp (.ref e::vs) (upd H1 e (XcN C e none)) (fun v H2=>v = .non/\∃dx,H2 e=some (XcN C e (some dx))/\E σ (.ref C) (some dx) (unk H2 e)) E0):rRaiseF C sp E0 t σ H E:=h
section
variable{X:Cx}
theorem Jx:MtR X "str.split" (fun x vs H Q=>∃(z:Str) (c:Nat) (ws:List (List Nat)),x = .str z/\vs=[.str ⟨#[c]⟩]/\c<256/\ws≠[]/\(∀u∈ws,c∉u)/\z.cps.toList=Sp.glue c ws/\ws.length<=sizeLine/\z.length<=sizeLine/\
  ∀p,H p=none->Q (.ref p) (upd H p (.lst ((ws.map fun u=>(⟨u.toArray⟩:Str)).map V.str)))):=by
 intro pins s σ H x vs val us Q I rx rv h;obtain⟨z,c,ws,rfl,rfl,hc,hne,hw,hz,hl,hx,q⟩:=h
 match ws,hne with
 | v::w::r,_=>exact j2k pins s σ H _ _ val us Q I rx rv ⟨z,c,v,w,r,rfl,rfl,hc,hw,hz,hl,hx,q⟩
 | [w],_=>
  obtain⟨t,rfl⟩:=rx;obtain⟨u,rfl,t',rfl⟩:=vals1 rv;have ez:(⟨w.toArray⟩:Str)=z:=by
   have hz':z.cps.toList=w:=hz;rw[<-hz']
  have fin:EP X pins σ Q (.ref s.heap.objs.size) {s with heap:=s.heap.push {cls:=.type "list",data:=.seq #[.str z t]}}:=by
   refine⟨.ref s.heap.objs.size,_,I.laid (o:=.lst (([w].map fun u=>(⟨u.toArray⟩:Str)).map V.str)) (t':=s.toks) (fun b ob e=>Heap.get?_push_of_some _ e) (Nat.le_refl _) ?_,rfl,q _ (I.hok.fresh (Nat.le_refl _))⟩;exact⟨by show 1<=sizeLine;decide,[.str z t],0,.cons ⟨t,by show Value.str z t=Value.str (⟨w.toArray⟩:Str) t;rw[ez]⟩ .nil,Heap.get?_push_size _ rfl⟩
  by_cases h1:(decide (z.length<(⟨#[c]⟩:Str).length)||decide (Builtin.Str.strKind z<Builtin.Str.strKind ⟨#[c]⟩))=true
  ·exact call_meets F.slot_str_split (typeIs_str _ _ _) F.entry_str_split (F.args_str_split_2 _ _) (meets_str_split_cannot_occur z ⟨#[c]⟩ t t' h1) fin
  ·have hf:(Builtin.Str.occurrences z ⟨#[c]⟩ 0 z.length (z.length+1)).isEmpty=true:=by
    rw[Sp.Wk,hz];show(Sp.pos c 0 w).isEmpty=true;have e:=Sp.Ki (r:=[]) (k:=0) (hw w mem_cons_self);rw[append_nil]at e;rw[e];rfl
   exact call_meets F.slot_str_split (typeIs_str _ _ _) F.entry_str_split (F.args_str_split_2 _ _) (meets_str_split_not_found z ⟨#[c]⟩ t t' (Bool.eq_false_iff.mpr h1) rfl hf) fin
end
end L2
namespace Rm
open PySem PySem.Spec PyProof.Rows L2
def XiDone(H:Hp)(e C:Addr)(fs:List (Str×V))(Q:VK):Prop:=∀(dx:Addr) (H':Hp),(∀b u,b≠e->H b=some u->H' b=some u)->H dx=none->dx≠e->H' e=some (XcN C e (some dx))->H' dx=some (.xd fs)->Q .non H'
inductive sp_xi1(C:Addr)(vs:List V)(H:Hp)(Q:VK)(xk:XK):Prop
 | mk (e:Addr) (r:Int) (_:vs=[.ref e,.int r]) (_:0<=r) (_:r<=10^18) (_:H e=some (XcN C e none)) (_:XiDone H e C [("row",.int r)] Q):sp_xi1 C vs H Q xk
def XE(H:Hp)(C:Addr)(fs:List (Str×V))(E:XK):Prop:=∀(dx:Addr) (H':Hp),Same H H'->H dx=none->H' dx=some (.xd fs)->E (.ref C) (some dx) H'
theorem XE.of{H H1:Hp}{e C:Addr}{fs:List (Str×V)}{E:XK}(x:XE H C fs E)(s:Same H H1)(he:H1 e=none) :
  XiDone (upd H1 e (XcN C e none)) e C fs (fun v H2=>v = .non/\∃dx,H2 e=some (XcN C e (some dx))/\E (.ref C) (some dx) (unk H2 e)):=by
 intro dx H' k hd ne h1 h2;rw[jq ne]at hd;refine⟨rfl,dx,h1,x dx (unk H' e) (fun b u h=>?_) (none_of s hd) ((Kq ne).trans h2)⟩;have hb:=s b u h;have nb:b≠e:=ji hb he;exact(Kq nb).trans (k b u nb ((jq nb).trans hb))
end Rm
namespace L2
open PySem PySem.Spec PyProof.Rows
def NdC(xs:List Str)(i m:Nat):Prop:=m<=i/\(m=i↔(xs.take i).Nodup)
theorem NdC.nil{xs:List Str}:NdC xs 0 0:=⟨Nat.le_refl _,fun _=>by simp,fun _=>rfl⟩
theorem NdC.step{xs:List Str}{i m:Nat}{x:Str}(h:NdC xs i m)(ex:xs[i]?=some x):NdC xs (i+1) (if decide (x∈xs.take i)=true then m else m+1):=by
 have e2:xs.take (i+1)=xs.take i++[x]:=by
  rw[List.take_succ,ex];rfl
 obtain⟨h1,h2⟩:=h;unfold NdC;rw[e2,nodup_append];by_cases c:x∈xs.take i
 ·rw[if_pos (decide_eq_true c)];exact⟨by omega,fun z=>absurd z (by omega),fun z=>absurd rfl (z.2.2 x c x (mem_singleton.mpr rfl))⟩
 ·rw[if_neg (by rw[decide_eq_false c];decide)];refine⟨by omega,fun z=>⟨h2.mp (by omega),by simp,fun a ha b hb e=>?_⟩,fun z=>by have:=h2.mpr z.1;omega⟩;rw[mem_singleton.mp hb]at e;exact c (e▸ha)
section
variable{prog:Program}{w:World}{A:Around}{R:Result->Shared->Prop}{I:Addr}{fp wr:List Addr}{G:Array GenState->Array GenState->Prop}{n:Nat}{P:Nat->Value->Prop}{St:Nat->Shared->Prop}
theorem X5(W:WalksS prog w A.in1 I fp wr G n P St)(a:Addr)(ha:a∉fp)(xs:List Str)(hn:xs.length=n)(hx:∀i v,P i v->∃x t,xs[i]?=some x/\v = .str x t)(hb:n+1<scanBound) :
  ∀(k i m:Nat) (s:Shared),n-i=k->i<=n->St i s->NdC xs i m->s.heap.SetOf (strKind prog w) a (fun y=>decide (y∈xs.take i)) m->
   (∀s',Moved (a::wr) G s s'->(∃S m,NdC xs n m/\s'.heap.SetOf (strKind prog w) a S m)->R (.ok (.ret .none)) s')->codeAny (model prog w) A (.builtin "set.update.loop" ⟨[.ref a,.ref I],[]⟩) R s:=by
 have aw:a∉wr:=fun z=>ha (W.sub _ z)
 have up:∀c∈wr,c∈a::wr:=fun c h=>mem_cons_of_mem _ h
 intro k
 induction k with
 | zero=>
  intro i m s e le st hm hS q;obtain rfl:i=n:=by omega
  refine codeAny_builtin F.entry_set_update_loop ?_;rw[Around.under_plainId F.plain_set_update_loop _];refine wpAny_bind (m:=pyNext (.ref I)) (W.done s _ _ st fun s' mv=>wpAny_pure (q s' (mv.mono up) ⟨fun y=>decide (y∈xs.take i),m,hm,?_⟩));obtain⟨o,es,ep,t,h1,h2⟩:=hS;exact⟨o,es,ep,t,mv.heap a _ aw h1,h2⟩
 | succ k ih=>
  intro i m s e le st hm hS q;have lt:i<n:=by omega
  refine codeAny_builtin F.entry_set_update_loop ?_;rw[Around.under_plainId F.plain_set_update_loop _];refine wpAny_bind (m:=pyNext (.ref I)) (W.item i s _ _ lt st fun v s' pv st' mv=>?_);obtain⟨x,t,ex,rfl⟩:=hx i v pv;have hS':s'.heap.SetOf (strKind prog w) a (fun y=>decide (y∈xs.take i)) m:=by
   obtain⟨o,es,ep,tb,h1,h2⟩:=hS;exact⟨o,es,ep,tb,mv.heap a _ aw h1,h2⟩
  refine wpAny_bind (m:=holding [Value.str x t] (setAdd a (.str x t))) (wpAny_holding ?_);unfold setAdd;refine wpAny_holding ?_;refine wpAny_bind ((strKind prog w).pyHash (k:=x) (strKind_is _ _ _ _) ?_);refine wpAny_setAddHashed_of (knd:=strKind prog w) (s:={s' with toks:=s'.toks+1}) (strKind_is _ _ _ _) rfl hS' (by have:=hm.1;omega) fun h' sb hS2=>?_
  have hS3:h'.SetOf (strKind prog w) a (fun y=>decide (y∈xs.take (i+1))) (if decide (x∈xs.take i)=true then m else m+1):=by
   refine SetOf_congr hS2 (fun y=>?_) rfl;have e2:xs.take (i+1)=xs.take i++[x]:=by
    rw[List.take_succ,ex];rfl
   rw[e2];by_cases c1:y∈xs.take i<;>by_cases c2:y=x<;>simp[c1,c2]
  refine wpAny_pure ⟨plainId_quiet F.plain_set_update_loop _,ih (i+1) _ _ (by omega) lt (W.frame _ s' _ _ st' (Nat.le_succ _) fun b hb o e=>?_) (hm.step ex) hS3 fun s'' mv2 hS''=>?_⟩
  ·rw[sb.2 b (fun z:b=a=>ha (by rw[<-z];exact hb))];exact e
  ·refine q s'' (Moved.trans W.gtrans ((mv.mono up).then_heap (Nat.le_succ _) fun b o hb e=>?_) mv2) hS'';rw[sb.2 b (fun z:b=a=>hb (by rw[z];exact mem_cons_self))];exact e
end
section
variable{prog:Program}{w:World}{A:Around}{E:Value->Shared->Prop}{s:Shared}
noncomputable abbrev emSD(led:Bool):Obj:={cls:=.type "set",dict:=none,data:=.set #[] 0 (.fresh 0 0 led)}
set_option maxRecDepth 100000 in
set_option maxHeartbeats 3200000 in
theorem j0T{l:Addr}{items:Array Value}{xs:List Str}{Q:Value->Shared->Prop}(hh:A.handled=none)(hl:s.heap.IsList l items)(hn:xs.length=items.size)(hx:∀(i:Nat) (v:Value),items[i]?=some v->∃(x:Str) (t:Tok),xs[i]?=some x/\v = .str x t)(hb:items.size+1<scanBound)
  (h:∀(h':Heap) (tk:Nat),(∃S m,NdC xs items.size m/\h'.SetOf (strKind prog w) s.heap.objs.size S m)->(∀b o,s.heap.get? b=some o->h'.get? b=some o)->Q (.ref s.heap.objs.size) {s with heap:=h',toks:=tk}) :
  wpAny (model prog w) A (call (.type "set") [.ref l]) Q E s:=by
 obtain⟨c,tl,mr⟩:=F.called_set.mro;have k1:=F.called_set.made;have k2:=F.called_set.sub;refine wpAny_call (codeAny_of_tree ?_);show wpAny _ _ (callAny (.type "set") _) _ _ _;refine wpAny_pure ⟨Code.quiet_builtin _ (by decide +kernel),codeAny_builtin F.entry_type_call ?_⟩;rw[Around.under_plain (weight_type_call_type "set" [.ref l] []) rfl];have k3:=F.called_set.notType;have k4:=F.called_set.canCreate;have k5:=F.typeCall_set_1 (.ref l)
 repeat (any_goals (first | assumption | wp_step))
 refine codeAny_mono (code_set_new_1 (.ref l) (E:=E) (Q₁:=fun obj s₁=>∃led:Bool,obj = .ref s.heap.objs.size/\s₁={s with heap:=s.heap.push (emSD led)}) fun led=>⟨led,rfl,rfl⟩) fun r s1 hr=>?_
 cases r with
 | error e=>exact hr
 | ok fl=>
  cases fl with
  | ret obj=>
   obtain⟨led,rfl,rfl⟩:=hr;have hS:(s.heap.push (emSD led)).get? s.heap.objs.size=some (emSD led):=Heap.get?_push_size _ rfl;have hT:Shared.TypeIs {s with heap:=s.heap.push (emSD led)} (.ref s.heap.objs.size) "set":=⟨_,hS,rfl⟩
   have k6:=F.called_set.init.lookup;have k7:=F.called_set.init.bind (.ref s.heap.objs.size)
   repeat (any_goals (first | assumption | wp_step))
   refine codeAny_mono (codeAny_call_builtin (R:=wants (fun r s₂=>r = .none/\∃h' tk,s₂={s with heap:=h',toks:=tk}/\(∃S m,NdC xs items.size m/\h'.SetOf (strKind prog w) s.heap.objs.size S m)/\(∀b o,s.heap.get? b=some o->h'.get? b=some o)) E) F.called_set.init.plain F.entry_set_init (check_set_init_1 hT ?_)) fun r2 s2 hr2=>?_
   ·obtain⟨ol,hol,hcl,nl,hdl⟩:=hl;obtain⟨oc,od,odt,osl⟩:=ol;simp only at hcl hdl;subst hcl hdl;have hol':(s.heap.push (emSD led)).get? l=some {cls:=.type "list",dict:=od,data:=.seq items nl,slots:=osl}:=Heap.get?_push_of_some _ hol;have j1:=F.sub_list_set;have j2:=F.sub_list_frozenset;have j3:(Value.type "list"== Value.type "dict")=false:=by decide
    have hl1:(s.heap.push (emSD led)).IsList l items:=⟨_,hol',rfl,nl,rfl⟩
    unfold Builtin.«set.__init__» noKeywords Builtin.Frozenset.updateFrom;generalize hPI:pyIter=PI
    wp_walk
    subst hPI;refine wpAny_pyIter_list hl1 ?_;refine wpAny_bind (wpAny_runValue ?_);have lS:l<s.heap.objs.size:=Heap.lt_size hol;have h3:A.in1.in1.in1.handled=none:=by simp[hh]
    have n1:l≠(s.heap.push (emSD led)).objs.size:=by rw[Heap.size_push];exact Nat.ne_of_lt (Nat.lt_succ_of_lt lS)
    have n2:s.heap.objs.size∉[(s.heap.push (emSD led)).objs.size,l]:=by
     rw[Heap.size_push];simp only[mem_cons,not_mem_nil,or_false,not_or];exact⟨Nat.ne_of_lt (Nat.lt_succ_self _),Nat.ne_of_gt lS⟩
    refine X5 ((Walks.list h3 _ l n1 items).toS) s.heap.objs.size n2 xs hn hx hb (items.size-0) 0 0 _ (by omega) (Nat.zero_le _) ⟨⟨_,Heap.get?_push_size _ rfl,rfl,rfl⟩,(hl1.push _)⟩ NdC.nil ?hS0 ?hR
    case hS0=>
     have hg:((s.heap.push (emSD led)).push {cls:=.type "list_iterator",data:=.fields #[.ref l,.int 0 0]}).get? s.heap.objs.size=some (emSD led):=Heap.get?_push_of_some _ hS;exact PyProof.Rows.SetOf_congr ((PyProof.Rows.setObjOf_fresh (knd:=strKind prog w) led).setOf hg (by unfold scanBound;omega)) (fun y=>by simp) rfl
    case hR=>
     intro s' hm hS';obtain⟨h',g',d',tk',os'⟩:=s';have eg:g'=s.gens:=hm.gens;have ed:d'=s.drawn:=hm.drawn;have eo:os'=s.os:=hm.os;subst eg ed eo;show wpAny _ _ _ _ _ _;refine wpAny_pure ?_;show wpAny _ _ (ret Value.none) _ _ _;refine wpAny_pure ⟨rfl,h',tk',rfl,hS',fun b o e=>?_⟩;have lb:=Heap.lt_size e;have b2:b≠(s.heap.push (emSD led)).objs.size:=by rw[Heap.size_push];exact Nat.ne_of_lt (Nat.lt_succ_of_lt lb)
     exact hm.heap b o (by simp only[mem_cons,not_mem_nil,or_false,not_or];exact⟨Nat.ne_of_lt lb,b2⟩) (Heap.get?_push_of_some _ (Heap.get?_push_of_some _ e))
   ·cases r2 with
    | error e=>exact hr2
    | ok fl2=>
     cases fl2 with
     | ret r=>
      obtain⟨rfl,h',tk,rfl,q1,q2⟩:=hr2
      repeat (any_goals (first | assumption | wp_step))
      exact h _ _ q1 q2
     | _=>exact hr2.elim
  | _=>exact hr.elim
end
section
variable{X:Cx}
def tLSD(K:Frg)(te:TE):TE:=fun σ H Q=>te σ H fun x H1=>∃(a:Addr) (xs:List Str),x = .ref a/\SqL K H1 a (xs.map V.str)/\xs.length<=200/\∀m:Nat,NdC xs xs.length m->Q (.int m) H1
theorem j4H{K:Frg}{te:TE}{σ:St}{H:Hp}{Q:VK}(h:te σ H fun x H1=>∃(a:Addr) (xs:List Str),x = .ref a/\SqL K H1 a (xs.map V.str)/\xs.length<=200/\∀m:Nat,NdC xs xs.length m->Q (.int m) H1):tLSD K te σ H Q:=h
theorem XV{e:Expr}{te:TE}{p p' pos pos':Pos}(hc:X.calm=true)(g1:Gl X "len")(m1:X.mg "len"= none)(g2:Gl X "set")(m2:X.mg "set"= none)(he:PE X e te)(b1:bootBuiltins "len"= some (.builtin "len"):=by decide +kernel)
  (hs0:starEach [.Call (.Name "set" p') [e] [] pos'] X.env=[(false,eval (.Call (.Name "set" p') [e] [] pos') X.env)]:=by rfl) (hs:starEach [e] X.env=[(false,eval e X.env)]:=by rfl) :
  PE X (.Call (.Name "len" p) [.Call (.Name "set" p') [e] [] pos'] [] pos) (tLSD X.K te):=by
 intro pins s σ H Q I h;refine wpAny_Call_Name_kw (QF I g1 m1 b1 ?_);refine PyProof.Rows.callWith_builtin1 ?_ hs0 rfl;rw[hs0];refine Calls.spliced_cons ?_;refine Call_ (QF I g2 m2 j49 (PyProof.Rows.callWith_type1 ?_ hs rfl));rw[hs];refine Calls.spliced_cons (thn (he pins s σ H _ I h) fun u s1 ⟨x,H1,I1,r1,a,xs,ex,hq,hz,q⟩=>Calls.spliced_nil ?_);subst ex;cases r1;obtain⟨its,rv,pl,_⟩:=I1.list hq;have lx:=rv.length;rw[length_map]at lx;refine j0T (xs:=xs) (I1.ok.hd hc) pl.isList (by rw[size_toArray];exact lx) (fun i v hv=>?_) (by rw[size_toArray,<-lx];unfold scanBound;omega) fun h' tk ⟨S,m,hm,hS⟩ hk=>?_
 ·have hi:i<its.length:=by
   have:=(Array.getElem?_eq_some_iff.mp hv).1;simpa using this
  have ex:xs[i]?=some (xs[i]'(by omega)):=List.getElem?_eq_getElem _;obtain⟨u,hu,ru⟩:=rv.get (i:=i) (x:=V.str (xs[i]'(by omega))) (by rw[List.getElem?_map,ex];rfl);obtain⟨t,rfl⟩:=ru;have:v=_:=Option.some.inj (hv.symm.trans (show its.toArray[i]?=some _ by simpa using hu));exact⟨_,t,ex,this⟩
 ·refine Calls.spliced_nil ?_;obtain⟨o,es,ep,t,ho,hex,hd,_,_,hlt,hf,hsz⟩:=hS;rw[size_toArray,<-lx]at hm;have hml:=hm.1;refine call_len_set ho hex hd hf (by rw[hsz];omega) ?_;have I2:Inv X pins σ H1 {s1 with heap:=h',toks:=tk}:=I1.kept hk;rw[hsz];exact⟨.int m,H1,(I2.tok _).tok _,⟨_,rfl⟩,q m hm⟩
end
theorem j1r(items:Array Value)(k:Nat):slicePick items (some (k:Int)) none (some 2)=(ev (items.toList.drop k)).toArray:=by
 by_cases hk:k<=items.size
 ·exact j2q items k hk
 have dn:items.toList.drop k=[]:=List.drop_eq_nil_of_le (by rw[Array.length_toList];omega);rw[dn];unfold slicePick;have b:sliceBounds (some (k:Int)) none (some 2) items.size=((items.size:Int),(items.size:Int),2):=by
  unfold sliceBounds;simp only[Option.getD_some];rw[if_neg (show¬((k:Int)<0) by omega),if_pos (show(2:Int)>0 by decide),if_pos (show(2:Int)>0 by decide)];congr 1;omega
 rw[b];show((sliceRange (items.size:Int) (items.size:Int) 2).filterMap (items[·]?)).toArray=_;unfold sliceRange;have c:((if(2:Int)>0 then(if(items.size:Int)<(items.size:Int)then((items.size:Int)-items.size+2-1)/2 else 0)else(if(items.size:Int)>(items.size:Int)then((items.size:Int)-items.size-2-1)/(-2)else 0):Int)).toNat=0:=by
  rw[if_pos (by decide),if_neg (by omega)];rfl
 show((List.map _ (List.range (Int.toNat _))).filterMap _).toArray=_;rw[c];rfl
section
variable{X:Cx}{e:Expr}{te:TE}
def tStepA(K:Frg)(te:TE)(tl ts:TO):TE:=fun σ H Q=>te σ H fun x H1=>tl σ H1 fun lo H2=>ts σ H2 fun st H3=>st=some 2/\∃(a:Addr) (xs:List V) (k:Nat),lo=some (k:Int)/\x = .ref a/\SqL K H3 a xs/\∀p,H3 p=none->Q (.ref p) (upd H3 p (.lst (ev (xs.drop k))))
theorem xI{lo st:Expr}{tl ts:TO}{p2 pos:Pos}(he:PE X e te)(hl:PO X (some lo) tl)(hs:PO X (some st) ts):PE X (.Subscript e (.Slice (some lo) none (some st) p2) pos) (tStepA X.K te tl ts):=by
 intro pins s σ H Q I h;refine Subscript_ (thn (he pins s σ H _ I h) fun v s1 ⟨x,H1,I1,r1,q1⟩=>?_);refine wpAny_Slice ?_;refine thn (hl pins s1 σ H1 _ I1 q1) fun vl s2 ⟨lo',H2,I2,plo,q2⟩=>?_
 rw[evalPart_none];refine wpAny_pure ?_;refine thn (hs pins s2 σ H2 _ I2 q2) fun vk s3 ⟨so,H3,I3,pk,est,a,xs,k,elo,ex,hx,q⟩=>?_
 subst est ex elo;cases r1;have I4:Inv X pins σ H3 {s3 with heap:=s3.heap.push {cls:=.type "slice",data:=.fields #[vl,.none,vk]}}:=I3.kept (t':=s3.toks) fun b ob q=>Heap.get?_push_of_some _ q
 obtain⟨its,r,ht,hz⟩:=I4.list hx;have hlen:=r.length;show wpAny (model X.prog X.w) X.A (subscriptTail e (.Slice (some lo) none (some st) p2) (.ref a) (.ref s3.heap.objs.size)) (EP X pins σ Q) X.xe {s3 with heap:=s3.heap.push {cls:=.type "slice",data:=.fields #[vl,.none,vk]}};refine tail_any (ops:=[.ref a,.ref s3.heap.objs.size]) ht.isList.typeIs slot_list_getitem.lookup ?_ (by with_unfolding_all rfl);refine wpAny_getItem_list_slice ht.isList (Heap.IsSliceOf.new ..) plo .none pk (by decide) ?_ (by rw[size_toArray]<;>omega);rw[j1r];refine⟨.ref (s3.heap.push {cls:=.type "slice",data:=.fields #[vl,.none,vk]}).objs.size,_,I4.laid (t':=s3.toks) (o:=.lst (ev (xs.drop k))) (fun b ob q=>Heap.get?_push_of_some _ q) (Nat.le_refl _) ?_,rfl,q _ (I4.hok.fresh (Nat.le_refl _))⟩;refine⟨?_,_,0,j0G (r.drop k),Heap.get?_push_size _ rfl⟩;have:=wW (xs.drop k);rw[length_drop]at this;omega
end
theorem xO{K:Frg}{te:TE}{tl ts:TO}{σ:St}{H:Hp}{Q:VK}(h:te σ H fun x H1=>tl σ H1 fun lo H2=>ts σ H2 fun st H3=>st=some 2/\∃(a:Addr) (xs:List V) (k:Nat),lo=some (k:Int)/\x = .ref a/\SqL K H3 a xs/\∀p,H3 p=none->Q (.ref p) (upd H3 p (.lst (ev (xs.drop k))))):tStepA K te tl ts σ H Q:=h
theorem XO{X:Cx}(hu:X.A.units+64<cLine):OpR X (compareOp .Eq) (fun x y H Q=>∃(a b:Addr) (xs:List V),x = .ref a/\y = .ref b/\SqL X.K H a xs/\SqL X.K H b []/\Q (.bl (decide (xs=[]))) H):=by
 intro pins s σ H x y v u Q I rx ry h;obtain⟨a,b,xs,rfl,rfl,ea,eb,q⟩:=h;cases rx;cases ry;obtain⟨its,r,pl,hz⟩:=I.list ea;obtain⟨its',r',pl',hz'⟩:=I.list eb;cases r';have l:=r.length;by_cases c:xs=[]
 ·subst c;cases r;exact SeqAt.eq_listAt (e:=fun _=>true) pl.isList pl'.isList rfl (by omega) (fun j h1=>absurd h1 (Nat.not_lt_zero _)) ⟨.bl _,H,I,rfl,q⟩
 ·rw[decide_eq_false c]at q;have:xs.length≠0:=fun z=>c (List.eq_nil_of_length_eq_zero z)
  exact SeqAt.eq_list_lengthsAt pl.isList pl'.isList (by rw[bne_iff_ne];intro z;have z:its.length=0:=z;omega) (by omega) ⟨.bl _,H,I,rfl,q⟩
open PySem PySem.Spec PySem.W PyProof.Rows
def It2s(n:Nat):It:=⟨fun i _=>i<n,fun i H x H'=>H'=H/\x = .int ((2*i+1:Nat):Int),fun i _=>n<=i⟩
theorem WI{P:Program}{w:World}{K:Frg}{tg:Expr}(it:Addr)(n:Nat):Turn P w K tg (It2s n) [it] it (fun i h=>IsRangeIter h it (1+(i:Nat)*2) ((n:Int)-(i:Nat)) 2) where
 mem:=by simp
 obj:=fun i h st b hb=>by
  have e:b=it:=by simpa using hb
  subst e;exact⟨_,st,fun v z=>by
   have z':Data.fields _=Data.cell v:=z;cases z'⟩
 keep:=fun i h h' st k=>k it (by simp) _ st
 item:=by
  intro X hP hw hK hc i pins s σ H E I hf st hg;subst hP hw hK;obtain⟨f0,f1,f2,f3,f4,f5⟩:=hf it (by simp);have W:=Walks.range (prog:=X.prog) (w:=X.w) (I.ok.hd hc) it 1 2 n;refine W.item i s _ _ hg st fun v h' tk hv st' kk=>?_
  obtain⟨t,rfl⟩:=hv;have I1:Inv X pins σ H {s with heap:=h',toks:=tk}:=I.turned (fun b o hb e=>kk b o (by simpa using hb) e) f0 f1 f3 f4 f5;refine⟨_,rfl,j0r (s:={s with heap:=h',toks:=tk}) (n:="range_iterator") st' rfl rfl (by decide) ⟨.int ((2*i+1:Nat):Int),H,I1,⟨t,?_⟩,⟨rfl,rfl⟩,st',fun b hb=>(hf b hb).1⟩⟩;rw[show 1+(i:Int)*2=((2*i+1:Nat):Int) by omega]
 done:=by
  intro X hP hw hK hc i pins s σ H E I hf st hg;subst hP hw hK;obtain⟨f0,f1,f2,f3,f4,f5⟩:=hf it (by simp);exact wpAny_pyNext_range_end (I.ok.hd hc) st (by have:n<=i:=hg;omega) fun h' eb=>⟨rfl,I.turned (t':=s.toks) (fun b o hb e=>eb b o hb e) f0 f1 f3 f4 f5⟩
 self:=fun _ _ _ _ _ st h=>wpAny_pyIter_rangeiter st h
section
variable{X:Cx}{tg:Expr}
theorem size2s(n:Nat):Builtin.Range.rangeSize 1 (n:Int) 2=(n/2:Nat):=by
 unfold Builtin.Range.rangeSize;simp only[show((2:Int)>0) by decide,if_true];split<;>omega
theorem small2s{n:Nat}(h:n<2^60):Builtin.Range.small 1 (n:Int) 2=true:=by
 have f:∀x:Int,-(2^62)<=x->x<2^62->Builtin.Range.rangeFitsLong x=true:=fun x h1 h2=>by
  unfold Builtin.Range.rangeFitsLong;simp;omega
 unfold Builtin.Range.small;rw[size2s,f 1 (by decide) (by decide),f n (by omega) (by omega),f 2 (by decide) (by decide),f _ (by omega) (by omega),if_pos (show((2:Int)>0) by decide),f _ (by omega) (by omega)];simp
def iRng2s(ta:TA):TI:=fun σ H R=>ta σ H fun vs H1=>∃n:Nat,vs=[.int 1,.int (n:Nat),.int 2]/\n<2^60/\R (It2s (n/2)) H1
theorem XZ{a b c:Expr}{ta:TA}{p pos:Pos}(hg:Gl X "range")(hm:X.mg "range"= none)(ha:PA X [a,b,c] ta)(hs:starEach [a,b,c] X.env=(false,eval a X.env)::starEach [b,c] X.env:=by rfl)(hs2:(backTo pos (starEach [b,c] X.env)).any (·.1)=false:=by rfl) :
  PI X tg (.Call (.Name "range" p) [a,b,c] [] pos) (iRng2s ta):=by
 intro pins s σ H R I h;refine Call_ (QF I hg hm boot_range (PyProof.Rows.callWith_type1 (thn (ha pos pins s σ H _ I h) fun us s1 ⟨vs,H1,I1,r1,q1⟩=>?_) hs hs2));obtain⟨n,e,hn,q⟩:=q1;subst e;cases r1 with
 | cons r rr=>
  cases rr with
  | cons r' rr=>
   cases rr with
   | cons r'' rr=>
    cases rr;obtain⟨t,rfl⟩:=r;obtain⟨t',rfl⟩:=r';obtain⟨t'',rfl⟩:=r'';refine call_range_3 (by decide) ?_ (.inl (PyProof.noPylong_small (by omega)));refine wpAny_pyIter_range (IsRange.new ..) (small2s hn) ?_;generalize hp:s1.heap.push _=h2;have k2:∀b o,s1.heap.get? b=some o->h2.get? b=some o:=fun b o e=>hp▸Heap.get?_push_of_some _ e
    clear hp;have I2:=I1.kept (t':=s1.toks) k2;refine⟨h2.objs.size,[h2.objs.size],_,_,H1,rfl,I2.kept (t':=s1.toks) fun b o e=>Heap.get?_push_of_some _ e,WI _ (n/2),?_,fun b hb=>?_,q⟩
    ·show IsRangeIter _ _ (1+((0:Nat):Int)*2) (((n/2:Nat):Int)-((0:Nat):Int)) 2;rw[<-size2s,show(1:Int)+((0:Nat):Int)*2=1 by simp,Int.natCast_zero,Int.sub_zero];exact Heap.get?_push_size _ rfl
    ·have e:b=h2.objs.size:=by simpa using hb
     subst e;exact I2.fpOk (Nat.le_refl _) (I2.hok.fresh (Nat.le_refl _))
end
theorem j2w{ta:TA}{σ:St}{H:Hp}{R:It->Hp->Prop}(h:ta σ H fun vs H1=>∃n:Nat,vs=[.int 1,.int (n:Nat),.int 2]/\n<2^60/\R (It2s (n/2)) H1):iRng2s ta σ H R:=h
theorem j35{n:Nat}{g:TG}{tb:TS}{D:Ends}{σ:St}{H:Hp}(Pv:Nat->St->Hp->Prop)(h0:Pv 0 σ H)(hs:∀i σ H,i<n->Pv i σ H->g (.int ((2*i+1:Nat):Int)) σ H fun σ2 H2=>tb {D with nx:=Pv (i+1),ct:=Pv (i+1),bk:=D.nx} σ2 H2)(hd:∀σ H,Pv n σ H->D.nx σ H) :
  ∃W:Nat->Nat->St->Hp->Prop,(∃m,W 0 m σ H)/\∀i m σ H,W i m σ H->
   ((It2s n).stop i H/\D.nx σ H)\/((It2s n).go i H/\∃N:St->Hp->Prop,(∀σ' H',N σ' H'->∃m',m'<m/\W (i+1) m' σ' H')/\∀x H',(It2s n).yld i H x H'->g x σ H' fun σ2 H2=>tb {D with nx:=N,ct:=N,bk:=D.nx} σ2 H2):=by
 refine⟨fun i m σ H=>m=n-i/\i<=n/\Pv i σ H,⟨n,by simp,Nat.zero_le _,h0⟩,?_⟩;rintro i m σ H ⟨rfl,hi,p⟩;by_cases hlt:i<n
 ·refine .inr ⟨hlt,Pv (i+1),fun σ' H' p'=>⟨n-(i+1),by omega,rfl,hlt,p'⟩,fun x H' y=>?_⟩;obtain⟨rfl,rfl⟩:=y;exact hs i σ _ hlt p
 ·have e:i=n:=by omega
  subst e;exact .inl ⟨Nat.le_refl _,hd σ H p⟩
end L2
namespace Rm
open PySem PySem.Spec PyProof.Rows L2
noncomputable def wds(c:Nat):List Nat->List (List Nat)
 | []=>[[]]
 | x::r=>if x=c then[]::wds c r else match wds c r with
  | w::ws=>(x::w)::ws
  | []=>[[x]]
theorem Y2(c:Nat):∀l,wds c l≠[]
 | []=>by simp[wds]
 | x::r=>by
  unfold wds;split
  ·simp
  ·split<;>simp
theorem WJ(c:Nat):∀l,Sp.glue c (wds c l)=l/\(∀w∈wds c l,c∉w)/\(wds c l).length<=l.length+1
 | []=>⟨rfl,fun w h=>by rw[mem_singleton.mp h];simp,Nat.le_refl _⟩
 | x::r=>by
  obtain⟨a,b,d⟩:=WJ c r;have ne:=Y2 c r;by_cases e:x=c
  ·have ew:wds c (x::r)=[]::wds c r:=by show(if x=c then _ else _)=_;rw[if_pos e]
   rw[ew];refine⟨?_,fun w h=>?_,by rw[length_cons,length_cons];omega⟩
   ·cases q:wds c r with
    | nil=>exact absurd q ne
    | cons v s=>
     rw[q]at a;show[]++c::Sp.glue c (v::s)=x::r;rw[a,e];rfl
   ·rcases mem_cons.mp h with rfl | h
    ·simp
    ·exact b w h
  ·cases q:wds c r with
   | nil=>exact absurd q ne
   | cons v s=>
    have ew:wds c (x::r)=(x::v)::s:=by show(if x=c then _ else _)=_;rw[if_neg e,q]
    rw[ew];rw[q]at a b d;refine⟨?_,fun w h=>?_,by rw[length_cons]at d|-;rw[length_cons];omega⟩
    ·rw[<-a];cases s<;>rfl
    ·rcases mem_cons.mp h with rfl | h
     ·intro z;rcases mem_cons.mp z with z | z
      ·exact e z.symm
      ·exact b v mem_cons_self z
     ·exact b w (mem_cons_of_mem _ h)
noncomputable def stS(u:List Nat):Str:=⟨u.toArray⟩
noncomputable def spW(z:Str):List Str:=(wds 32 z.cps.toList).map stS
theorem xY{c:Nat}:∀{ws:List (List Nat)},ws≠[]->(∀w∈ws,c∉w)->wds c (Sp.glue c ws)=ws:=by
 have one:∀(w r:List Nat),c∉w->wds c (w++r)=(match wds c r with | v::s=>(w++v)::s | []=>[w]):=fun w r=>by
  induction w with
  | nil=>
   intro _;cases q:wds c r with
   | nil=>exact absurd q (Y2 c r)
   | cons v s=>exact q
  | cons x w ih=>
   intro h;have hx:¬x=c:=fun e=>h (by rw[e];exact mem_cons_self)
   have ih:=ih fun z=>h (mem_cons_of_mem _ z)
   show(if x=c then[]::wds c (w++r)else match wds c (w++r)with | w::ws=>(x::w)::ws | []=>[[x]])=_;rw[if_neg hx,ih];cases q:wds c r with
   | nil=>exact absurd q (Y2 c r)
   | cons v s=>rfl
 intro ws
 induction ws with
 | nil=>intro h;exact absurd rfl h
 | cons w r ih=>
  intro _ hw;cases r with
  | nil=>
   have e:=one w [] (hw w mem_cons_self);rw[append_nil]at e;show wds c w=[w]
   rw[e];show[w++[]]=[w]
   rw[append_nil]
  | cons v s=>
   show wds c (w++c::Sp.glue c (v::s))=_;rw[one w _ (hw w mem_cons_self)];have e:wds c (c::Sp.glue c (v::s))=[]::wds c (Sp.glue c (v::s)):=by show(if c=c then _ else _)=_;rw[if_pos rfl]
   rw[e,ih (by simp) fun y hy=>hw y (mem_cons_of_mem _ hy)];show(w++[])::v::s=_;rw[append_nil]
noncomputable def numW(x:Str)(least:Int):Option Int:=match Ws.numV x 19 with
 | .int n=>if least<=n/\n<=10^18 then some n else none
 | _=>none
noncomputable def oI:Option Int->V
 | some n=>.int n
 | none=>.non
noncomputable def valW(wanted x:Str)(L P:List Str):V:=
 if wanted = "height" then oI (numW x 0)else if wanted = "beats"\/wanted = "times" then oI (numW x 1)else if wanted = "word" then(if Ws.isW x=true then .str x else .non)else if wanted = "limb" then(if x∈L then .str x else .non)else if x∈P then .str x else .non
inductive sp_boundedT(vs:List V)(H:Hp)(Q:VK)(xk:XK):Prop
 | mk (x:Str) (least:Int) (_:vs=[.str x,.int least]) (_:x.length<=200) (_:∀H',Same H H'->Q (oI (numW x least)) H'):sp_boundedT vs H Q xk
inductive sp_value_ofT(vs:List V)(H:Hp)(Q:VK)(xk:XK):Prop
 | mk (wanted x:Str) (d1 d2:Addr) (L P:List Str) (_:vs=[.str wanted,.str x,.ref d1,.ref d2]) (_:x.length<=200) (_:H d1=some (.dK (numK L))) (_:H d2=some (.dK (tabB P))) (_:(wanted = "height"\/wanted = "beats"\/wanted = "times"\/wanted = "word"\/wanted = "limb"\/wanted = "part")) (_:∀H',Same H H'->Q (valW wanted x L P) H'):sp_value_ofT vs H Q xk
theorem j3n{L:List Str}{x:Str}:(valV (numK L) (Sum.inr x)).isSome=decide (x∈L):=by
 rw[<-Kr];refine Bool.eq_iff_iff.mpr ?_;rw[List.any_eq_true,decide_eq_true_iff];have hk:=wf L;constructor
 ·rintro⟨p,hp,e⟩;have h1:p.1∈(numK L).map (·.1):=mem_map.mpr ⟨p,hp,rfl⟩;rw[hk,of_decide_eq_true e]at h1;obtain⟨y,hy,e'⟩:=mem_map.mp h1;exact Sum.inr.inj e'▸hy
 ·intro h;have h1:(Sum.inr x:Key)∈(numK L).map (·.1):=by rw[hk];exact mem_map.mpr ⟨x,h,rfl⟩
  obtain⟨p,hp,e⟩:=mem_map.mp h1;exact⟨p,hp,decide_eq_true e⟩
theorem WH{P:List Str}{x:Str}:(valV (tabB P) (Sum.inr x)).isSome=decide (x∈P):=by
 by_cases h:x∈P
 ·rw[wu h,decide_eq_true h]
 ·rw[wt h,decide_eq_false h];rfl
noncomputable def namsW(kind:Str)(ws P:List Str):Option Fm:=
 if kind = "row" then(if(1<=ws.length/\ws.length<=8)/\∀w∈ws,w∈P then some (.row ws)else none)
 else(if(2<=ws.length/\ws.length<=4)/\∀w∈ws,w∈P then some (.side ws)else none)
noncomputable def formW(kind:Str)(ws L P:List Str):Option Fm:=
 if kind = "row"\/kind = "side" then namsW kind ws P
 else if kind = "raise" then(match ws with
  | [l,h,b]=>(match numW h 0,numW b 1 with
   | some hh,some n=>if l∈L then some (.rise l hh n)else none
   | _,_=>none)
  | _=>none)
 else if kind = "hold" then(match ws with
  | [b]=>(numW b 1).map Fm.hold
  | _=>none)
 else if kind = "ring" then(match ws with
  | [x,b]=>(match numW b 1 with
   | some n=>if Ws.isW x=true then some (.ring x n)else none
   | none=>none)
  | _=>none)
 else if kind = "again" then(match ws with
  | [k,p]=>(match numW k 1 with
   | some n=>if p∈P then some (.again n p)else none
   | none=>none)
  | _=>none)
 else none
noncomputable def partW(ws L P:List Str):Option (Str×Fm):=match ws with
 | k::x::kind::r=>if k = "part"/\Ws.isW x=true/\x∉P then(formW kind r L P).map fun f=>(x,f)else none
 | _=>none
def FormR(H:Hp)(Q:VK)(o:Option Fm):Prop:=(o=none->∀H',Same H H'->Q .non H')/\∀f,o=some f->∀(p:Addr) (H':Hp),Same H H'->FormAt H' p f->Q (.ref p) H'
inductive sp_names_formT(vs:List V)(H:Hp)(Q:VK)(xk:XK):Prop
 | mk (kind:Str) (l d:Addr) (ws P:List Str) (_:vs=[.str kind,.ref l,.ref d]) (_:(kind = "row"\/kind = "side")) (_:H l=some (.lst (ws.map V.str))) (_:ws.length<=5000) (_:H d=some (.dK (tabB P))) (_:FormR H Q (namsW kind ws P)):sp_names_formT vs H Q xk
inductive sp_form_ofT(vs:List V)(H:Hp)(Q:VK)(xk:XK):Prop
 | mk (kind:Str) (l d1 d2:Addr) (ws L P:List Str) (_:vs=[.str kind,.ref l,.ref d1,.ref d2]) (_:H l=some (.lst (ws.map V.str))) (_:ws.length<=5000) (_:(∀w∈ws,w.length<=200)) (_:H d1=some (.dK (numK L))) (_:H d2=some (.dK (tabB P))) (_:FormR H Q (formW kind ws L P)):sp_form_ofT vs H Q xk
inductive sp_part_ofT(vs:List V)(H:Hp)(Q:VK)(xk:XK):Prop
 | mk (l d1 d2:Addr) (ws L P:List Str) (_:vs=[.ref l,.ref d1,.ref d2]) (_:H l=some (.lst (ws.map V.str))) (_:ws.length<=5000) (_:(∀w∈ws,w.length<=200)) (_:H d1=some (.dK (numK L))) (_:H d2=some (.dK (tabB P))) (_:(partW ws L P=none->∀H',Same H H'->Q .non H')) (_:∀p,partW ws L P=some p->∀(a:Addr) (H':Hp),Same H H'->PartAt H' a p->Q (.ref a) H'):sp_part_ofT vs H Q xk
noncomputable def prsW:List Str->Option (List (Str×Int))
 | []=>some []
 | [_]=>none
 | x::h::r=>match numW h 0,prsW r with
  | some n,some ls=>if Ws.isW x=true then some ((x,n)::ls)else none
  | _,_=>none
noncomputable def limbsW:List Str->Option (List (Str×Int))
 | []=>none
 | k::r=>match prsW r with
  | some ls=>if k = "limbs"/\(1<=ls.length/\ls.length<=8)/\(ls.map (·.1)).Nodup then some ls else none
  | none=>none
inductive sp_limbs_ofT(vs:List V)(H:Hp)(Q:VK)(xk:XK):Prop
 | mk (l:Addr) (ws:List Str) (_:vs=[.ref l]) (_:H l=some (.lst (ws.map V.str))) (_:ws≠[]) (_:ws.length<=5000) (_:(∀w∈ws,w.length<=200)) (_:(limbsW ws=none->∀H',Same H H'->Q .non H')) (_:∀ls,limbsW ws=some ls->∀(c:Addr) (as:List Addr) (H':Hp),Same H H'->H c=none->H' c=some (.lst (as.map V.ref))->All2 (LimbAt H') as ls->Q (.ref c) H'):sp_limbs_ofT vs H Q xk
def RowOk(r:Str):Prop:=(∀w∈spW r,w.length<=200)/\r.length<=4000/\10∉r.cps.toList
structure RowsOk(rows:List Str):Prop where
 n1:1<=rows.length
 n2:rows.length<=1000
 r:∀r∈rows,RowOk r
def PartsAt(rows:List Str)(ls:List (Str×Int))(ps:List (Str×Fm)):Prop:=ps.length<=60/\∀(i:Nat) (p:Str×Fm),ps[i]?=some p->partW (spW (rows.getD (i+1) ⟨#[]⟩)) (nmsOf ls) (nmsOf (ps.take i))=some p
structure RdT(rows:List Str)(ls:List (Str×Int))(ps:List (Str×Fm)):Prop where
 l:limbsW (spW (rows.getD 0 ⟨#[]⟩))=some ls
 n:2<=rows.length
 pl:ps.length+1=rows.length
 p:PartsAt rows ls ps
def RefT(rows:List Str)(k:Nat):Prop:=(k=0/\limbsW (spW (rows.getD 0 ⟨#[]⟩))=none)\/(k=1/\rows.length=1/\∃ls,limbsW (spW (rows.getD 0 ⟨#[]⟩))=some ls)\/
 (1<=k/\k<rows.length/\∃ls ps,limbsW (spW (rows.getD 0 ⟨#[]⟩))=some ls/\ps.length+1=k/\PartsAt rows ls ps/\(partW (spW (rows.getD k ⟨#[]⟩)) (nmsOf ls) (nmsOf ps)=none\/60<k))
inductive sp_readT(vs:List V)(H:Hp)(Q:VK)(xk:XK):Prop
 | mk (rows:List Str) (ls:List (Str×Int)) (ps:List (Str×Fm)) (_:vs=[.str (Txt.join "\n" rows)]) (_:RowsOk rows) (_:RdT rows ls ps) (_:∀(b pl pp:Addr) (las pas:List Addr) (H':Hp),Same H H'->H pl=none->H pp=none->pl≠pp->BookAt H' b pl pp las pas ls ps->Q (.ref b) H'):sp_readT vs H Q xk
def xT(cN:Addr):Sp:=fun vs H Q xk=>∃(rows:List Str) (k:Nat),vs=[.str (Txt.join "\n" rows)]/\RowsOk rows/\RefT rows k/\XE H cN [("row",.int (k:Nat))] xk
open PyProof.Rows.KTD (inKeys Dat datumAt)
theorem j1i{kind:Str}{ws P:List Str}(h:kind = "row"\/kind = "side"):∃lo hi:Int,KTD.datumAt kind [(("row" : Str),KTD.Dat.flat (.int 1)),("side",.flat (.int 2))]=some (.flat (.int lo))/\KTD.datumAt kind [(("row" : Str),KTD.Dat.flat (.int 8)),("side",.flat (.int 4))]=some (.flat (.int hi))/\
  namsW kind ws P=if(lo<=(ws.length:Int)/\(ws.length:Int)<=hi)/\∀w∈ws,w∈P then some (if kind = "row" then .row ws else .side ws)else none:=by
 have r:decide (("row" : Str) = "row")=true:=by decide +kernel
 have s1:decide (("side" : Str) = "row")=false:=by decide +kernel
 have s2:decide (("side" : Str) = "side")=true:=by decide +kernel
 have n:¬("side" : Str) = "row":=of_decide_eq_false s1;unfold namsW;rcases h with rfl | rfl
 ·refine⟨1,8,by rw[KTD.datumAt,if_pos r],by rw[KTD.datumAt,if_pos r],?_⟩;rw[if_pos rfl,if_pos rfl];by_cases c:(1<=ws.length/\ws.length<=8)/\∀w∈ws,w∈P
  ·rw[if_pos c,if_pos ⟨⟨by have:=c.1.1;omega,by have:=c.1.2;omega⟩,c.2⟩]
  ·rw[if_neg c,if_neg fun z=>c ⟨⟨by have:=z.1.1;omega,by have:=z.1.2;omega⟩,z.2⟩]
 ·refine⟨2,4,by rw[KTD.datumAt,if_neg (by rw[s1];decide),KTD.datumAt,if_pos s2],by rw[KTD.datumAt,if_neg (by rw[s1];decide),KTD.datumAt,if_pos s2],?_⟩;rw[if_neg n,if_neg n];by_cases c:(2<=ws.length/\ws.length<=4)/\∀w∈ws,w∈P
  ·rw[if_pos c,if_pos ⟨⟨by have:=c.1.1;omega,by have:=c.1.2;omega⟩,c.2⟩]
  ·rw[if_neg c,if_neg fun z=>c ⟨⟨by have:=z.1.1;omega,by have:=z.1.2;omega⟩,z.2⟩]
structure OneT(kind:Str)(wants:List Str)(ws L P:List Str):Prop where
 k:inKeys kind FT=true
 d:datumAt kind FT=some (.tup (wants.map PyData.str))
 n:1<=wants.length/\wants.length<=3
 w:∀x∈wants,x = "height"\/x = "beats"\/x = "times"\/x = "word"\/x = "limb"\/x = "part"
 o:ws.length≠wants.length->formW kind ws L P=none
 v:ws.length=wants.length->(inV .non ((wants.zip ws).map fun p=>valW p.1 p.2 L P)=true->formW kind ws L P=none)/\
  (inV .non ((wants.zip ws).map fun p=>valW p.1 p.2 L P)=false->∃f,formW kind ws L P=some f/\∀(H:Hp) (p:Addr),H p=some (.tup (.str kind::(wants.zip ws).map fun p=>valW p.1 p.2 L P))->FormAt H p f)
theorem j55{x:Str}{L P:List Str}:valW "height" x L P=oI (numW x 0):=if_pos rfl
theorem j2J{x:Str}{L P:List Str}:valW "beats" x L P=oI (numW x 1):=by
 unfold valW;rw[if_neg (by decide +kernel),if_pos (.inl rfl)]
theorem j58{x:Str}{L P:List Str}:valW "times" x L P=oI (numW x 1):=by
 unfold valW;rw[if_neg (by decide +kernel),if_pos (.inr rfl)]
theorem j59{x:Str}{L P:List Str}:valW "word" x L P=if Ws.isW x=true then .str x else .non:=by
 unfold valW;rw[if_neg (by decide +kernel),if_neg (by decide +kernel),if_pos rfl]
theorem j56{x:Str}{L P:List Str}:valW "limb" x L P=if x∈L then .str x else .non:=by
 unfold valW;rw[if_neg (by decide +kernel),if_neg (by decide +kernel),if_neg (by decide +kernel),if_pos rfl]
theorem j57{x:Str}{L P:List Str}:valW "part" x L P=if x∈P then .str x else .non:=by
 unfold valW;rw[if_neg (by decide +kernel),if_neg (by decide +kernel),if_neg (by decide +kernel),if_neg (by decide +kernel)]
theorem j12{kind:Str}{ws L P:List Str}(h:¬(kind = "row"\/kind = "side")):inKeys kind MN=false/\((inKeys kind FT=false/\formW kind ws L P=none)\/∃wants,OneT kind wants ws L P):=by
 have h1:kind≠"row":=fun e=>h (.inl e)
 have h2:kind≠"side":=fun e=>h (.inr e)
 refine⟨by unfold MN;simp[inKeys,h1,h2],?_⟩;by_cases c1:kind = "raise"
 ·subst c1;have ef:formW "raise" ws L P=(match ws with
   | [l,h,b]=>(match numW h 0,numW b 1 with
    | some hh,some n=>if l∈L then some (.rise l hh n)else none
    | _,_=>none)
   | _=>none):=by
   unfold formW;rw[if_neg h,if_pos rfl]
   try rfl
  refine .inr ⟨[("limb" : Str),"height","beats"],by decide +kernel,wT (by decide +kernel),by decide,?_,fun hl=>?_,fun hl=>?_⟩
  ·intro x hx;simp only[mem_cons,not_mem_nil,or_false]at hx;rcases hx with rfl | rfl | rfl<;>simp
  ·rw[ef]
   match ws,hl with
   | [],_=>rfl
   | [_],_=>rfl
   | [_,_],_=>rfl
   | [_,_,_],hl=>exact absurd rfl hl
   | _::_::_::_::_,_=>rfl
  ·match ws,hl,ef with
   | [l,h,b],_,ef=>
    show(inV .non [valW "limb" l L P,valW "height" h L P,valW "beats" b L P]=true->_)/\(inV .non [valW "limb" l L P,valW "height" h L P,valW "beats" b L P]=false->∃f,_/\∀(H:Hp) (p:Addr),H p=some (.tup [.str "raise",valW "limb" l L P,valW "height" h L P,valW "beats" b L P])->_);rw[ef,j56,j55,j2J];dsimp only;cases numW h 0 with
    | none=>exact⟨fun _=>rfl,fun z=>by by_cases c:l∈L<;>simp[c,oI,inV,eqV]at z⟩
    | some hh=>
     cases numW b 1 with
     | none=>exact⟨fun _=>rfl,fun z=>by by_cases c:l∈L<;>simp[c,oI,inV,eqV]at z⟩
     | some n=>
      dsimp only;by_cases c:l∈L
      ·rw[if_pos c,if_pos c];exact⟨fun z=>by simp[oI,inV,eqV]at z,fun _=>⟨_,rfl,fun H p q=>q⟩⟩
      ·rw[if_neg c,if_neg c];exact⟨fun _=>rfl,fun z=>by simp[oI,inV,eqV]at z⟩
 by_cases c2:kind = "hold"
 ·subst c2;have ef:formW "hold" ws L P=(match ws with
   | [b]=>(numW b 1).map Fm.hold
   | _=>none):=by
   unfold formW;rw[if_neg h,if_neg c1,if_pos rfl]
   try rfl
  refine .inr ⟨[("beats" : Str)],by decide +kernel,(YF (by decide +kernel)).trans (wT (by decide +kernel)),by decide,?_,fun hl=>?_,fun hl=>?_⟩
  ·intro x hx;rw[mem_singleton.mp hx];simp
  ·rw[ef]
   match ws,hl with
   | [],_=>rfl
   | [_],hl=>exact absurd rfl hl
   | _::_::_,_=>rfl
  ·match ws,hl,ef with
   | [b],_,ef=>
    show(inV .non [valW "beats" b L P]=true->_)/\(inV .non [valW "beats" b L P]=false->∃f,_/\∀(H:Hp) (p:Addr),H p=some (.tup [.str "hold",valW "beats" b L P])->_);rw[ef,j2J];dsimp only;cases numW b 1 with
    | none=>exact⟨fun _=>rfl,fun z=>by simp[oI,inV,eqV]at z⟩
    | some n=>exact⟨fun z=>by simp[oI,inV,eqV]at z,fun _=>⟨_,rfl,fun H p q=>q⟩⟩
 by_cases c3:kind = "ring"
 ·subst c3;have ef:formW "ring" ws L P=(match ws with
   | [x,b]=>(match numW b 1 with
    | some n=>if Ws.isW x=true then some (.ring x n)else none
    | none=>none)
   | _=>none):=by
   unfold formW;rw[if_neg h,if_neg c1,if_neg c2,if_pos rfl]
   try rfl
  refine .inr ⟨[("word" : Str),"beats"],by decide +kernel,(YF (by decide +kernel)).trans ((YF (by decide +kernel)).trans (wT (by decide +kernel))),by decide,?_,fun hl=>?_,fun hl=>?_⟩
  ·intro x hx;simp only[mem_cons,not_mem_nil,or_false]at hx;rcases hx with rfl | rfl<;>simp
  ·rw[ef]
   match ws,hl with
   | [],_=>rfl
   | [_],_=>rfl
   | [_,_],hl=>exact absurd rfl hl
   | _::_::_::_,_=>rfl
  ·match ws,hl,ef with
   | [x,b],_,ef=>
    show(inV .non [valW "word" x L P,valW "beats" b L P]=true->_)/\(inV .non [valW "word" x L P,valW "beats" b L P]=false->∃f,_/\∀(H:Hp) (p:Addr),H p=some (.tup [.str "ring",valW "word" x L P,valW "beats" b L P])->_);rw[ef,j59,j2J];dsimp only;cases numW b 1 with
    | none=>exact⟨fun _=>rfl,fun z=>by by_cases c:Ws.isW x=true<;>simp[c,oI,inV,eqV]at z⟩
    | some n=>
     dsimp only;by_cases c:Ws.isW x=true
     ·rw[if_pos c,if_pos c];exact⟨fun z=>by simp[oI,inV,eqV]at z,fun _=>⟨_,rfl,fun H p q=>q⟩⟩
     ·rw[if_neg c,if_neg c];exact⟨fun _=>rfl,fun z=>by simp[oI,inV,eqV]at z⟩
 by_cases c4:kind = "again"
 ·subst c4;have ef:formW "again" ws L P=(match ws with
   | [k,p]=>(match numW k 1 with
    | some n=>if p∈P then some (.again n p)else none
    | none=>none)
   | _=>none):=by
   unfold formW;rw[if_neg h,if_neg c1,if_neg c2,if_neg c3,if_pos rfl]
   try rfl
  refine .inr ⟨[("times" : Str),"part"],by decide +kernel,(YF (by decide +kernel)).trans ((YF (by decide +kernel)).trans ((YF (by decide +kernel)).trans (wT (by decide +kernel)))),by decide,?_,fun hl=>?_,fun hl=>?_⟩
  ·intro x hx;simp only[mem_cons,not_mem_nil,or_false]at hx;rcases hx with rfl | rfl<;>simp
  ·rw[ef]
   match ws,hl with
   | [],_=>rfl
   | [_],_=>rfl
   | [_,_],hl=>exact absurd rfl hl
   | _::_::_::_,_=>rfl
  ·match ws,hl,ef with
   | [k,q],_,ef=>
    show(inV .non [valW "times" k L P,valW "part" q L P]=true->_)/\(inV .non [valW "times" k L P,valW "part" q L P]=false->∃f,_/\∀(H:Hp) (p:Addr),H p=some (.tup [.str "again",valW "times" k L P,valW "part" q L P])->_);rw[ef,j58,j57];dsimp only;cases numW k 1 with
    | none=>exact⟨fun _=>rfl,fun z=>by by_cases c:q∈P<;>simp[c,oI,inV,eqV]at z⟩
    | some n=>
     dsimp only;by_cases c:q∈P
     ·rw[if_pos c,if_pos c];exact⟨fun z=>by simp[oI,inV,eqV]at z,fun _=>⟨_,rfl,fun H p q=>q⟩⟩
     ·rw[if_neg c,if_neg c];exact⟨fun _=>rfl,fun z=>by simp[oI,inV,eqV]at z⟩
 refine .inl ⟨by unfold FT;simp[inKeys,c1,c2,c3,c4],?_⟩;unfold formW;rw[if_neg h,if_neg c1,if_neg c2,if_neg c3,if_neg c4]
theorem Wj:∀o,flatV (oI o)=true
 | some _=>rfl
 | none=>rfl
theorem j2K{a x:Str}{L P:List Str}:flatV (valW a x L P)=true:=by
 unfold valW;split
 ·exact Wj _
 split
 ·exact Wj _
 split
 ·split<;>rfl
 split
 ·split<;>rfl
 ·split<;>rfl
theorem XR{ws L P:List Str}(h:ws.length<3):partW ws L P=none:=by
 match ws,h with
 | [],_=>rfl
 | [_],_=>rfl
 | [_,_],_=>rfl
theorem three{ws:List Str}(h:3<=ws.length):∃k x kind r,ws=k::x::kind::r:=by
 match ws,h with
 | k::x::kind::r,_=>exact⟨k,x,kind,r,rfl⟩
theorem Xo{α β:Type}(f:α->β):∀l:List α,ev (l.map f)=(ev l).map f
 | []=>rfl
 | [_]=>rfl
 | a::b::r=>by
  rw[map_cons,map_cons,Yb,Yb,map_cons];show f a::ev (r.map f)=f a::(ev r).map f;rw[Xo f r]
theorem Xp{α:Type}{x:α}:∀{l:List α},x∈ev l->x∈l
 | [],h=>h
 | [_],h=>h
 | a::b::r,h=>by
  rw[Yb]at h;rcases mem_cons.mp h with rfl | h
  ·exact mem_cons_self
  ·exact mem_cons_of_mem _ (mem_cons_of_mem _ (Xp h))
theorem Wx:∀r:List Str,(prsW r=none/\¬((ev (r.drop 1)).length=(ev r).length/\(∀h∈ev (r.drop 1),numW h 0≠none)/\∀x∈ev r,Ws.isW x=true))\/
  ∃ls,prsW r=some ls/\ls.map (·.1)=ev r/\(ev (r.drop 1)).map (fun h=>numW h 0)=ls.map (fun p=>some p.2)/\∀x∈ev r,Ws.isW x=true
 | []=>.inr ⟨[],rfl,rfl,rfl,fun _ h=>nomatch h⟩
 | [x]=>.inl ⟨rfl,fun z=>by have:=z.1;simp[ev]at this⟩
 | x::h::r=>by
  have e1:ev (x::h::r)=x::ev r:=Yb _ _;have e2:ev ((x::h::r).drop 1)=h::ev (r.drop 1):=Yb _ _;rw[e1,e2];cases en:numW h 0 with
  | none=>exact .inl ⟨by simp[prsW,en],fun z=>z.2.1 h mem_cons_self en⟩
  | some n=>
   by_cases cw:Ws.isW x=true
   ·rcases Wx r with⟨p1,p2⟩ | ⟨ls,p1,p2,p3,p4⟩
    ·refine .inl ⟨by simp[prsW,en,p1],fun z=>p2 ⟨?_,fun y hy=>z.2.1 y (mem_cons_of_mem _ hy),fun y hy=>z.2.2 y (mem_cons_of_mem _ hy)⟩⟩;have:=z.1;rw[length_cons,length_cons]at this;omega
    ·refine .inr ⟨(x,n)::ls,by simp[prsW,en,p1,cw],by rw[map_cons,p2],by rw[map_cons,map_cons,en,p3],fun y hy=>?_⟩;rcases mem_cons.mp hy with rfl | hy
     ·exact cw
     ·exact p4 y hy
   ·refine .inl ⟨?_,fun z=>cw (z.2.2 x mem_cons_self)⟩;have:Ws.isW x=false:=by simpa using cw
    cases ep:prsW r<;>simp[prsW,en,this,ep]
theorem Xv{k:Str}{r:List Str}(h:¬((ev (r.drop 1)).length=(ev r).length/\(∀h∈ev (r.drop 1),numW h 0≠none)/\∀x∈ev r,Ws.isW x=true)):limbsW (k::r)=none:=by
 rcases Wx r with⟨p1,_⟩ | ⟨ls,_,p2,p3,p4⟩
 ·simp[limbsW,p1]
 ·refine absurd ⟨?_,fun y hy e=>?_,p4⟩ h
  ·have:=congrArg List.length p3;rw[length_map,length_map]at this;rw[<-p2,length_map];exact this
  ·have:=(mem_map (f:=fun h=>numW h 0)).mpr ⟨y,hy,e⟩;rw[p3]at this;obtain⟨q,_,e'⟩:=mem_map.mp this;cases e'
theorem j18{k:Str}{r:List Str}(h:¬(k = "limbs"/\(1<=(ev r).length/\(ev r).length<=8)/\(ev r).Nodup)):limbsW (k::r)=none:=by
 rcases Wx r with⟨p1,_⟩ | ⟨ls,p1,p2,_⟩
 ·simp[limbsW,p1]
 ·have:limbsW (k::r)=if k = "limbs"/\(1<=ls.length/\ls.length<=8)/\(ls.map (·.1)).Nodup then some ls else none:=by
   show(match prsW r with | some ls=>_ | none=>none)=_;rw[p1]
  rw[this,if_neg];rw[p2,<-length_map (f:=(·.1)) (as:=ls),p2];exact h
theorem Xw{k:Str}{r:List Str}(h:k = "limbs"/\(1<=(ev r).length/\(ev r).length<=8)/\(ev r).Nodup)(h':(ev (r.drop 1)).length=(ev r).length/\(∀h∈ev (r.drop 1),numW h 0≠none)/\∀x∈ev r,Ws.isW x=true) :
  ∃ls,limbsW (k::r)=some ls/\ls.map (·.1)=ev r/\(ev (r.drop 1)).map (fun h=>numW h 0)=ls.map (fun p=>some p.2):=by
 rcases Wx r with⟨_,p1⟩ | ⟨ls,p1,p2,p3,_⟩
 ·exact absurd h' p1
 ·refine⟨ls,?_,p2,p3⟩;have:limbsW (k::r)=if k = "limbs"/\(1<=ls.length/\ls.length<=8)/\(ls.map (·.1)).Nodup then some ls else none:=by
   show(match prsW r with | some ls=>_ | none=>none)=_;rw[p1]
  rw[this,if_pos];rw[p2,<-length_map (f:=(·.1)) (as:=ls),p2];exact h
theorem j51{hs:List Str}(h:inV .non (hs.map fun h=>oI (numW h 0))=true):¬∀y∈hs,numW y 0≠none:=fun z=>by
 obtain⟨v,hv,e⟩:=List.any_eq_true.mp h;obtain⟨y,hy,rfl⟩:=mem_map.mp hv;cases en:numW y 0 with
 | none=>exact z y hy en
 | some n=>rw[en]at e;cases e
theorem j4s{hs:List Str}(h:inV .non (hs.map fun h=>oI (numW h 0))=false):∀y∈hs,numW y 0≠none:=fun y hy e=>by
 have:=List.any_eq_false.mp h (oI (numW y 0)) (mem_map.mpr ⟨y,hy,rfl⟩);rw[e]at this;exact this rfl
theorem qH{r:Str}(h:RowOk r):wds 32 r.cps.toList≠[]/\(∀u∈wds 32 r.cps.toList,32∉u)/\r.cps.toList=Sp.glue 32 (wds 32 r.cps.toList)/\(wds 32 r.cps.toList).length<=sizeLine/\r.length<=sizeLine/\(spW r).length<=5000/\spW r≠[]:=by
 obtain⟨a,b,c⟩:=WJ 32 r.cps.toList;have sz:(20000:Nat)<sizeLine:=by decide
 have l:=h.2.1;have e:r.cps.toList.length=r.length:=rfl;have ne:=Y2 32 r.cps.toList;refine⟨ne,b,a.symm,by omega,by omega,by unfold spW;rw[length_map];omega,fun z=>ne (by unfold spW at z;exact map_eq_nil_iff.mp z)⟩
theorem Kj{rows:List Str}(h:RowsOk rows):(rows.map fun y=>y.cps.toList)≠[]/\(∀u∈rows.map (fun y=>y.cps.toList),10∉u)/\(Txt.join "\n" rows).cps.toList=Sp.glue 10 (rows.map fun y=>y.cps.toList)/\(rows.map fun y=>y.cps.toList).length<=sizeLine/\(Txt.join "\n" rows).length<=sizeLine/\((rows.map fun y=>y.cps.toList).map fun u=>(⟨u.toArray⟩:Str))=rows:=by
 have nlE:(Str.ofString "\n")=⟨#[10]⟩:=by decide +kernel
 have sz:(5000000:Nat)<sizeLine:=by decide
 have n1:=h.n1;have n2:=h.n2;refine⟨fun z=>?_,fun u hu=>?_,?_,by rw[length_map];omega,?_,?_⟩
 ·rw[map_eq_nil_iff]at z;rw[z]at n1;simp at n1
 ·obtain⟨r,hr,rfl⟩:=mem_map.mp hu;exact(h.r r hr).2.2
 ·rw[zH,nlE];exact yf rows
 ·rw[zH];refine Nat.le_trans (Yg _ _) ?_;have e1:(Str.ofString "\n").length=1:=by decide +kernel
  rw[e1];have:∀l:List Str,(∀r∈l,r.length<=4000)->(l.map (·.length)).sum<=l.length*4000:=fun l=>by
   induction l with
   | nil=>intro _;simp
   | cons a l ih=>
    intro hl;have h1:=ih fun r hr=>hl r (mem_cons_of_mem _ hr)
    have h2:=hl a mem_cons_self;rw[map_cons,sum_cons,length_cons];omega
  have:=this rows fun r hr=>(h.r r hr).2.1
  omega
 ·rw[map_map];exact(map_congr_left fun y _=>rfl).trans (map_id _)
theorem Yh{ws:List Str}{ls:List (Str×Int)}(h:limbsW ws=some ls):(1<=ls.length/\ls.length<=8)/\(ls.map (·.1)).Nodup:=by
 cases ws with
 | nil=>cases h
 | cons k r=>
  unfold limbsW at h;dsimp only at h;cases e:prsW r with
  | none=>rw[e]at h;cases h
  | some ls'=>
   rw[e]at h;dsimp only at h;split at h
   ·rename_i c;cases h;exact c.2
   ·cases h
theorem Ke{ws L P:List Str}{p:Str×Fm}(h:partW ws L P=some p):p.1∉P:=by
 match ws,h with
 | k::x::kind::r,h=>
  have e:partW (k::x::kind::r) L P=if k = "part"/\Ws.isW x=true/\x∉P then(formW kind r L P).map fun f=>(x,f)else none:=rfl
  rw[e]at h;split at h
  ·rename_i c;obtain⟨f,_,rfl⟩:=Option.map_eq_some_iff.mp h;exact c.2.2
  ·cases h
theorem j2z{rows:List Str}{i:Nat}{v:V}(h:((rows.drop 1).map V.str)[i]?=some v):∃r,v = .str r/\rows.getD (i+1) ⟨#[]⟩=r/\r∈rows/\i+1<rows.length:=by
 rw[List.getElem?_map,List.getElem?_drop]at h;obtain⟨r,hr,rfl⟩:=Option.map_eq_some_iff.mp h;rw[Nat.add_comm]at hr;exact⟨r,rfl,by rw[getD_eq_getElem?_getD,hr];rfl,mem_of_getElem? hr,(List.getElem?_eq_some_iff.mp hr).1⟩
theorem xP{rows:List Str}(h:1<=rows.length):cutV (rows.map V.str) (some 1) none=(rows.drop 1).map V.str:=by
 cases rows with
 | nil=>simp at h
 | cons r rs=>exact y9
theorem j2y{rows:List Str}(h:1<=rows.length):(rows.map V.str)[0]?=some (.str (rows.getD 0 ⟨#[]⟩))/\rows.getD 0 ⟨#[]⟩∈rows:=by
 cases rows with
 | nil=>simp at h
 | cons r rs=>exact⟨rfl,mem_cons_self⟩
open PySem PySem.Spec PySem.NumText PyProof.Rows L2
theorem j0D{x y:Str}(h:x.cps.toList=y.cps.toList):x=y:=by
 cases x;cases y;congr 1;exact Array.toList_inj.mp h
theorem j0j(l:List Nat)(c:Nat):digitsVal (l++[c])=digitsVal l*10+(c-48):=by
 unfold digitsVal;rw[List.foldl_append];rfl
theorem j1W:∀(n:Nat) (l:List Nat),l.length=n+1->AllDigits l->(l.head?=some 48->l.length=1)->(Nat.toDigits 10 (digitsVal l)).map Char.toNat=l/\(l.head?≠some 48->1<=digitsVal l):=by
 have dc:∀k:Nat,k<10->(Nat.digitChar k).toNat=k+48:=by decide
 intro n
 induction n with
 | zero=>
  intro l hl ad _;obtain⟨c,rfl⟩:=List.length_eq_one_iff.mp hl;have hc:=ad c mem_cons_self;have e:digitsVal [c]=c-48:=by unfold digitsVal;simp
  rw[e,Nat.toDigits_eq_if (by decide),if_pos (by omega)];refine⟨?_,fun h=>?_⟩
  ·show[(Nat.digitChar (c-48)).toNat]=[c]
   rw[dc _ (by omega)];congr 1;omega
  ·have:c≠48:=fun z=>h (by rw[z];rfl)
   omega
 | succ n ih=>
  intro l hl ad hh;have ne:l≠[]:=fun z=>by rw[z]at hl;simp at hl
  obtain⟨l',c,rfl⟩:∃l' c,l=l'++[c]:=⟨l.dropLast,l.getLast ne,(List.dropLast_concat_getLast ne).symm⟩
  rw[List.length_append]at hl;have hl':l'.length=n+1:=by
   have:l'.length+1=n+1+1:=hl;omega
  have hc:=ad c (mem_append_right _ mem_cons_self);have h48:l'.head?≠some 48:=fun z=>by
   have h1:(l'++[c]).head?=some 48:=by rw[List.head?_append,z];rfl
   have:=hh h1;rw[List.length_append]at this;have:l'.length+1=1:=this;omega
  obtain⟨i1,i2⟩:=ih l' hl' (fun d hd=>ad d (mem_append_left _ hd)) (fun z=>absurd z h48);have p:=i2 h48;rw[j0j,Nat.toDigits_eq_if (by decide),if_neg (by omega)];refine⟨?_,fun _=>by omega⟩;rw[show(digitsVal l'*10+(c-48))/10=digitsVal l' by omega,show(digitsVal l'*10+(c-48))%10=c-48 by omega,map_append,i1];congr 1;show[(Nat.digitChar (c-48)).toNat]=[c]
  rw[dc _ (by omega)];congr 1;omega
theorem yi{x:Str}{least n:Int}(h:numW x least=some n):tI n=x/\0<=n/\least<=n/\n<=10^18:=by
 unfold numW at h;cases e:Ws.numV x 19 with
 | int m=>
  rw[e]at h;dsimp only at h;split at h
  ·rename_i c;cases h;unfold Ws.numV at e;split at e
   ·rename_i q;injection e with e;subst e;refine⟨?_,by omega,c⟩;have sg:(tI ((digitsVal x.cps.toList:Nat):Int)).cps.toList=(Nat.toDigits 10 (digitsVal x.cps.toList)).map Char.toNat:=PySem.W.KIN.signs_num _;have lx:=Ws.QG x;have:=(j1W (x.length-1) x.cps.toList (by omega) (Ws.Q9 q.2.1) (fun z=>by
     by_cases c1:x.length=1
     ·omega
     ·exact absurd ⟨z,c1⟩ q.2.2)).1
    rw[this]at sg;exact j0D sg
   ·cases e
  ·cases h
 | _=>rw[e]at h;cases h
theorem xK:∀{r:List Str} {ls:List (Str×Int)},prsW r=some ls->ls.flatMap limbW=r/\∀p∈ls,Ws.isW p.1=true/\0<=p.2/\p.2<=10^18
 | [],_,h=>by cases h;exact⟨rfl,fun _ h=>nomatch h⟩
 | [_],_,h=>by cases h
 | x::y::r,ls,h=>by
  unfold prsW at h;cases en:numW y 0 with
  | none=>rw[en]at h;cases h
  | some n=>
   cases ep:prsW r with
   | none=>rw[en,ep]at h;cases h
   | some ls'=>
    rw[en,ep]at h;dsimp only at h;split at h
    ·rename_i c;cases h;obtain⟨i1,i2⟩:=xK ep;obtain⟨j1,j2,_,j3⟩:=yi en;refine⟨?_,fun p hp=>?_⟩
     ·rw[List.flatMap_cons,i1];show x::tI n::r=_;rw[j1]
     ·rcases mem_cons.mp hp with rfl | hp
      ·exact⟨c,j2,j3⟩
      ·exact i2 p hp
    ·cases h
theorem Xu{ws:List Str}{ls:List (Str×Int)}(h:limbsW ws=some ls):ws=("limbs" : Str)::ls.flatMap limbW/\∀p∈ls,Ws.isW p.1=true/\0<=p.2/\p.2<=10^18:=by
 cases ws with
 | nil=>cases h
 | cons k r=>
  unfold limbsW at h;dsimp only at h;cases e:prsW r with
  | none=>rw[e]at h;cases h
  | some ls'=>
   rw[e]at h;dsimp only at h;split at h
   ·rename_i c;cases h;obtain⟨i1,i2⟩:=xK e;exact⟨by rw[i1,c.1],i2⟩
   ·cases h
theorem j1h{kind:Str}{ws P:List Str}{f:Fm}(hk:kind = "row"\/kind = "side")(hP:∀x∈P,Ws.isW x=true)(h:namsW kind ws P=some f):fmW f=kind::ws/\FmWs f:=by
 unfold namsW at h;split at h
 ·rename_i c;split at h
  ·rename_i d;cases h;exact⟨by rw[c];rfl,d.1.2,fun x hx=>hP x (d.2 x hx)⟩
  ·cases h
 ·rename_i c;split at h
  ·rename_i d;cases h;exact⟨by rw[hk.resolve_left c];rfl,by omega,fun x hx=>hP x (d.2 x hx)⟩
  ·cases h
theorem j11{kind:Str}{ws L P:List Str}{f:Fm}(hL:∀x∈L,Ws.isW x=true)(hP:∀x∈P,Ws.isW x=true)(h:formW kind ws L P=some f):fmW f=kind::ws/\FmWs f:=by
 unfold formW at h;split at h
 ·rename_i c;exact j1h c hP h
 split at h
 ·rename_i c;subst c;split at h
  ·rename_i l y b;split at h
   ·rename_i hh n e1 e2;split at h
    ·rename_i d;cases h;obtain⟨a1,a2,_,a3⟩:=yi e1;obtain⟨b1,b2,_,b3⟩:=yi e2;exact⟨by show[_,l,tI hh,tI n]=_;rw[a1,b1],hL l d,a2,a3,b2,b3⟩
    ·cases h
   ·cases h
  ·cases h
 split at h
 ·rename_i c;subst c;split at h
  ·obtain⟨n,e,rfl⟩:=Option.map_eq_some_iff.mp h;obtain⟨a1,a2,_,a3⟩:=yi e;exact⟨by show[_,tI n]=_;rw[a1],a2,a3⟩
  ·cases h
 split at h
 ·rename_i c;subst c;split at h
  ·rename_i x b;split at h
   ·rename_i n e;split at h
    ·rename_i d;cases h;obtain⟨a1,a2,_,a3⟩:=yi e;exact⟨by show[_,x,tI n]=_;rw[a1],d,a2,a3⟩
    ·cases h
   ·cases h
  ·cases h
 split at h
 ·rename_i c;subst c;split at h
  ·rename_i y p;split at h
   ·rename_i n e;split at h
    ·rename_i d;cases h;obtain⟨a1,a2,_,a3⟩:=yi e;exact⟨by show[_,tI n,p]=_;rw[a1],a2,a3,hP p d⟩
    ·cases h
   ·cases h
  ·cases h
 ·cases h
theorem wg{ws L P:List Str}{p:Str×Fm}(hL:∀x∈L,Ws.isW x=true)(hP:∀x∈P,Ws.isW x=true)(h:partW ws L P=some p):ws=("part" : Str)::p.1::fmW p.2/\Ws.isW p.1=true/\FmWs p.2:=by
 match ws,h with
 | k::x::kind::r,h=>
  have e:partW (k::x::kind::r) L P=if k = "part"/\Ws.isW x=true/\x∉P then(formW kind r L P).map fun f=>(x,f)else none:=rfl
  rw[e]at h;split at h
  ·rename_i c;obtain⟨f,ef,rfl⟩:=Option.map_eq_some_iff.mp h;obtain⟨i1,i2⟩:=j11 hL hP ef;exact⟨by rw[i1,c.1],c.2.1,i2⟩
  ·cases h
theorem W7{r:Str}{ws:List Str}(h:spW r=ws):r=Txt.join bl ws:=by
 have blE:bl=⟨#[32]⟩:=by decide +kernel
 obtain⟨a,b,c⟩:=WJ 32 r.cps.toList;rw[<-h,zH,blE];refine j0D ?_;rw[yf];unfold spW;rw[map_map];exact(a.symm.trans (congrArg (Sp.glue 32) ((map_congr_left fun y _=>rfl).trans (map_id _)).symm))
theorem j3C{rows:List Str}{ls:List (Str×Int)}{ps:List (Str×Fm)}(D:RdT rows ls ps):BkOk ls ps/\rowsOf ls ps=rows:=by
 obtain⟨l1,l2⟩:=Xu D.l;have l8:=(Yh D.l).1.2;have hL:∀x∈nmsOf ls,Ws.isW x=true:=fun x hx=>by
  obtain⟨p,hp,rfl⟩:=mem_map.mp hx;exact(l2 p hp).1
 have go:∀i,i<=ps.length->∀p∈ps.take i,Ws.isW p.1=true/\FmWs p.2:=fun i=>by
  induction i with
  | zero=>exact fun _ p hp=>by simp at hp
  | succ i ih=>
   intro hi p hp;obtain⟨q,hq⟩:∃q,ps[i]?=some q:=⟨_,List.getElem?_eq_getElem (by omega)⟩
   rw[take_snoc hq]at hp;rcases mem_append.mp hp with hp | hp
   ·exact ih (by omega) p hp
   ·rw[mem_singleton.mp hp];refine(wg hL (fun x hx=>?_) (D.p.2 i q hq)).2;obtain⟨y,hy,rfl⟩:=mem_map.mp hx;exact(ih (by omega) y hy).1
 have gp:∀p∈ps,Ws.isW p.1=true/\FmWs p.2:=fun p hp=>go ps.length (Nat.le_refl _) p (by rw[take_length];exact hp)
 refine⟨⟨l8,l2,by have:=D.p.1;omega,gp⟩,?_⟩;have dpl:=D.pl;refine List.ext_getElem? fun i=>?_
 cases i with
 | zero=>
  have:=W7 l1;show some (rowL ls)=_;unfold rowL;rw[<-this];cases rows with
  | nil=>simp at dpl
  | cons r rs=>rfl
 | succ i=>
  show(ps.map rowP)[i]?=_;rw[List.getElem?_map];by_cases hi:i<ps.length
  ·obtain⟨q,hq⟩:∃q,ps[i]?=some q:=⟨_,List.getElem?_eq_getElem hi⟩
   have pb:=(wg hL (fun x hx=>by
    obtain⟨y,hy,rfl⟩:=mem_map.mp hx;exact(gp y (mem_of_mem_take hy)).1) (D.p.2 i q hq)).1
   have:=W7 pb;rw[hq];show some (rowP q)=_;unfold rowP;rw[<-this,getD_eq_getElem?_getD,List.getElem?_eq_getElem (by omega)];rfl
  ·rw[List.getElem?_eq_none (by omega),List.getElem?_eq_none (by omega)];rfl
structure WordK(x:Str):Prop where
 n:x.length<=30
 b:32∉x.cps.toList
 e:10∉x.cps.toList
structure RowK(N:Nat)(r:Str):Prop where
 n:r.length<=N
 c:10∉r.cps.toList
 w:∀w∈spW r,w.length<=30
theorem RowK.ok{N:Nat}{r:Str}(h:RowK N r)(hN:N<=4000):RowOk r:=⟨fun w hw=>Nat.le_trans (h.w w hw) (by decide),Nat.le_trans h.n hN,h.c⟩
theorem j3R{c d:Nat}{l w:List Nat}(hw:w∈wds c l)(hd:d∈w):d∈l:=by
 induction l generalizing w with
 | nil=>
  rw[mem_singleton.mp hw]at hd;cases hd
 | cons x r ih=>
  by_cases e:x=c
  ·have ew:wds c (x::r)=[]::wds c r:=by show(if x=c then _ else _)=_;rw[if_pos e]
   rw[ew]at hw;rcases mem_cons.mp hw with rfl | hw
   ·cases hd
   ·exact mem_cons_of_mem _ (ih hw hd)
  ·cases q:wds c r with
   | nil=>exact absurd q (Y2 c r)
   | cons v s=>
    have ew:wds c (x::r)=(x::v)::s:=by show(if x=c then _ else _)=_;rw[if_neg e,q]
    rw[ew]at hw;rcases mem_cons.mp hw with rfl | hw
    ·rcases mem_cons.mp hd with rfl | hd
     ·exact mem_cons_self
     ·exact mem_cons_of_mem _ (ih (by rw[q];exact mem_cons_self) hd)
    ·exact mem_cons_of_mem _ (ih (by rw[q];exact mem_cons_of_mem _ hw) hd)
theorem RowK.word{N:Nat}{r x:Str}(h:RowK N r)(hx:x∈spW r):WordK x:=by
 refine⟨h.w x hx,?_,?_⟩
 ·obtain⟨u,hu,rfl⟩:=mem_map.mp hx;exact(WJ 32 _).2.1 u hu
 ·obtain⟨u,hu,rfl⟩:=mem_map.mp hx;exact fun z=>h.c (j3R hu z)
theorem j0H(c:Nat):∀(l m:List Nat),wds c (l++c::m)=wds c l++wds c m
 | [],m=>by
  show(if c=c then _ else _)=_;rw[if_pos rfl];rfl
 | x::l,m=>by
  have ih:=j0H c l m;by_cases e:x=c
  ·have e1:wds c (x::(l++c::m))=[]::wds c (l++c::m):=by show(if x=c then _ else _)=_;rw[if_pos e]
   have e2:wds c (x::l)=[]::wds c l:=by show(if x=c then _ else _)=_;rw[if_pos e]
   show wds c (x::(l++c::m))=_;rw[e1,e2,ih];rfl
  ·cases q:wds c l with
   | nil=>exact absurd q (Y2 c l)
   | cons v s=>
    have e1:wds c (x::(l++c::m))=(x::v)::(s++wds c m):=by
     show(if x=c then _ else _)=_;rw[if_neg e,ih,q];rfl
    have e2:wds c (x::l)=(x::v)::s:=by show(if x=c then _ else _)=_;rw[if_neg e,q]
    show wds c (x::(l++c::m))=_;rw[e1,e2];rfl
theorem j3S{c:Nat}{l:List Nat}(h:c∉l):wds c l=[l]:=by
 have:=xY (c:=c) (ws:=[l]) (by simp) (fun w hw=>by rw[mem_singleton.mp hw];exact h);exact this
theorem kM{ws:List Str}(h:∀w∈ws,WordK w)(n:ws.length<=22):RowK 700 (Txt.join bl ws)/\(ws≠[]->spW (Txt.join bl ws)=ws):=by
 have blE:bl=⟨#[32]⟩:=by decide +kernel
 have l1:bl.length=1:=by decide +kernel
 have g:(Txt.join bl ws).cps.toList=Sp.glue 32 (ws.map fun y=>y.cps.toList):=by
  rw[zH,blE];exact yf ws
 have sp:ws≠[]->spW (Txt.join bl ws)=ws:=fun ne=>by
  unfold spW;rw[g,xY (fun z=>ne (map_eq_nil_iff.mp z)) (fun u hu=>by obtain⟨y,hy,rfl⟩:=mem_map.mp hu;exact(h y hy).b),map_map];exact(map_congr_left fun y _=>rfl).trans (map_id _)
 refine⟨⟨?_,fun z=>?_,fun w hw=>?_⟩,sp⟩
 ·rw[zH];refine Nat.le_trans (Yg _ _) ?_;rw[l1];have:∀l:List Str,(∀r∈l,r.length<=30)->(l.map (·.length)).sum<=l.length*30:=fun l=>by
   induction l with
   | nil=>intro _;simp
   | cons a l ih=>
    intro hl;have h1:=ih fun r hr=>hl r (mem_cons_of_mem _ hr)
    have h2:=hl a mem_cons_self;rw[map_cons,sum_cons,length_cons];omega
  have:=this ws fun r hr=>(h r hr).n
  omega
 ·rw[g]at z;rcases W6 z with z | ⟨u,hu,z⟩
  ·cases z
  ·obtain⟨y,hy,rfl⟩:=mem_map.mp hu;exact(h y hy).e z
 ·by_cases ne:ws=[]
  ·subst ne;have:spW (Txt.join bl [])=[⟨#[]⟩]:=by
    unfold spW;rw[g];rfl
   rw[this]at hw;rw[mem_singleton.mp hw];decide
  ·rw[sp ne]at hw;exact(h w hw).n
theorem RowK.more{N M:Nat}{r x z:Str}(h:RowK N r)(hx:RowK M x)(e:z.cps.toList=r.cps.toList++32::x.cps.toList):RowK (N+M+1) z:=by
 have zl:z.length=r.length+x.length+1:=by
  have:=congrArg List.length e;rw[List.length_append,length_cons]at this;have a1:z.cps.toList.length=z.length:=rfl;have a2:r.cps.toList.length=r.length:=rfl;have a3:x.cps.toList.length=x.length:=rfl;omega
 have sp:spW z=spW r++spW x:=by
  unfold spW;rw[e,j0H,map_append]
 refine⟨by have:=h.n;have:=hx.n;omega,fun m=>?_,fun w hw=>?_⟩
 ·rw[e]at m;rcases mem_append.mp m with m | m
  ·exact h.c m
  ·rcases mem_cons.mp m with m | m
   ·cases m
   ·exact hx.c m
 ·rw[sp]at hw;rcases mem_append.mp hw with hw | hw
  ·exact h.w w hw
  ·exact hx.w w hw
theorem WordK.row{x:Str}(h:WordK x):RowK 30 x:=⟨h.n,h.e,fun w hw=>by
 unfold spW at hw;rw[j3S h.b]at hw;rw[mem_singleton.mp hw];exact h.n⟩
structure RowD(r:Str):Prop where
 k:RowK 700 r
 l:2<=(spW r).length
 m:(spW r).length<=20
inductive sp_odd(vs:List V)(H:Hp)(Q:VK)(xk:XK):Prop
 | mk (l s:Addr) (rows:List Str) (ss:List Int) (_:vs=[.ref l,.ref s]) (_:H l=some (.lst (rows.map V.str))) (_:1<=rows.length) (_:rows.length<=100) (_:(∀r∈rows,RowD r)) (_:H s=some (.lst (ss.map V.int))) (_:ss.length=8) (_:(∀n∈ss,0<=n)) (_:∀(x:Str) (H':Hp),Same H H'->WordK x->Q (.str x) H'):sp_odd vs H Q xk
inductive sp_put_on(vs:List V)(H:Hp)(Q:VK)(xk:XK):Prop
 | mk (l s:Addr) (way:Int) (rows:List Str) (ss:List Int) (_:vs=[.ref l,.int way,.ref s]) (_:H l=some (.lst (rows.map V.str))) (_:1<=rows.length) (_:rows.length<=100) (_:(∀r∈rows,RowK 700 r)) (_:H s=some (.lst (ss.map V.int))) (_:ss.length=8) (_:(∀n∈ss,0<=n)) (_:(way=13->2<=(spW (rows.getD 0 ⟨#[]⟩)).length)) (_:∀(p:Addr) (rows':List Str) (H':Hp),Same H H'->H' p=some (.lst (rows'.map V.str))->1<=rows'.length->rows'.length<=200->(∀r∈rows',RowOk r)->Q (.ref p) H'):sp_put_on vs H Q xk
inductive sp_changed(vs:List V)(H:Hp)(Q:VK)(xk:XK):Prop
 | mk (l:Addr) (c:Int) (rows:List Str) (_:vs=[.ref l,.int c]) (_:H l=some (.lst (rows.map V.str))) (_:2<=rows.length) (_:rows.length<=62) (_:(∀r∈rows,RowD r)) (_:∀(p:Addr) (rows':List Str) (H':Hp),Same H H'->H' p=some (.lst (rows'.map V.str))->1<=rows'.length->rows'.length<=200->(∀r∈rows',RowOk r)->Q (.ref p) H'):sp_changed vs H Q xk
theorem X6{rows:List Str}{n:Int}(h:1<=rows.length):∃r,atI (rows.map V.str) (n%(rows.length:Int))=some (.str r)/\r∈rows:=by
 have a0:=Int.emod_nonneg n (show(rows.length:Int)≠0 by omega);have a1:=Int.emod_lt_of_pos n (show 0<(rows.length:Int) by omega);obtain⟨j,hj⟩:=Int.eq_ofNat_of_zero_le a0;rw[hj]at a1|-;have jl:j<rows.length:=by omega
 refine⟨rows[j],?_,List.getElem_mem jl⟩;have:(rows.map V.str)[j]?=some (V.str rows[j]):=by rw[List.getElem?_map,List.getElem?_eq_getElem jl];rfl
 have z:=jB this;rw[Int.zero_add]at z;exact z
noncomputable def wordB(x:Str):Bool:=decide (x.length<=30)&&(!x.cps.toList.contains 32 && !x.cps.toList.contains 10)
theorem WordK.of{x:Str}(h:wordB x=true):WordK x:=by
 unfold wordB at h;rw[Bool.and_eq_true,Bool.and_eq_true]at h;exact⟨of_decide_eq_true h.1,by simpa using h.2.1,by simpa using h.2.2⟩
theorem nines{n:Int}(h0:0<=n)(h1:n<22):MulOk "9" n/\WordK (Txt.mul "9" n):=by
 refine⟨mulOk_of 16 1048576 (by decide +kernel) (by omega) (by omega) (by decide) (by decide),WordK.of ?_⟩;obtain⟨m,rfl⟩:=Int.eq_ofNat_of_zero_le h0;have:∀m:Nat,m<22->wordB (Txt.mul "9" (m:Int))=true:=by decide +kernel
 exact this m (by omega)
theorem j1l{z:Str}(h:WordK z):∀x∈([("" : Str),"0","1","00","01",z,("1" : Str)++Txt.mul "0" 18,("1" : Str)++Txt.mul "0" 17++"1","Abc","abcdefghi","part","limbs","a\tb"]:List Str),WordK x:=by
 intro x hx;simp only[mem_cons,not_mem_nil,or_false]at hx;rcases hx with rfl | rfl | rfl | rfl | rfl | rfl | rfl | rfl | rfl | rfl | rfl | rfl | rfl<;>first | exact h | exact WordK.of (by decide +kernel)
theorem zG(a b:Str):(a++b).cps.toList=a.cps.toList++b.cps.toList:=by
 show(a.cps++b.cps).toList=_;rw[Array.toList_append]
theorem Qi(a b:Str):(a++b).length=a.length+b.length:=Str.length_append a b
theorem kO{x:Str}{c:Nat}(hx:x.length<=20)(hb:32∉x.cps.toList)(he:10∉x.cps.toList)(hc:97<=c/\c<=122):(x++(⟨#[c]⟩:Str)).length=x.length+1/\32∉(x++(⟨#[c]⟩:Str)).cps.toList/\10∉(x++(⟨#[c]⟩:Str)).cps.toList:=by
 refine⟨Qi _ _,fun z=>?_,fun z=>?_⟩
 ·rw[zG]at z;rcases mem_append.mp z with z | z
  ·exact hb z
  ·have:32=c:=by simpa using z
   omega
 ·rw[zG]at z;rcases mem_append.mp z with z | z
  ·exact he z
  ·have:10=c:=by simpa using z
   omega
theorem j2m{k:Int}(h0:0<=k)(h1:k<=10^18):WordK (tI k):=by
 obtain⟨m,rfl⟩:=Int.eq_ofNat_of_zero_le h0;have sg:(tI (m:Int)).cps.toList=(Nat.toDigits 10 m).map Char.toNat:=PySem.W.KIN.signs_num m;have g:∀d∈(tI (m:Int)).cps.toList,48<=d:=fun d hd=>by
  rw[sg]at hd;obtain⟨c,hc,rfl⟩:=mem_map.mp hd;exact(Nm.j07 m c hc).1
 exact⟨Nat.le_trans (zY h0 h1) (by decide),fun z=>absurd (g _ z) (by decide),fun z=>absurd (g _ z) (by decide)⟩
theorem RowK.word1{N:Nat}{r x z:Str}(h:RowK N r)(hx:WordK x)(e:z.cps.toList=r.cps.toList++32::x.cps.toList):RowK (N+31) z:=h.more hx.row e
theorem j1f{N:Nat}{r:Str}{c:Nat}{k:Int}(h:RowK N r)(hc:97<=c/\c<=122)(h0:0<=k)(h1:k<=10^18):RowK (N+62) (r++Str.ofString " zzzzzzz"++(⟨#[c]⟩:Str)++Str.ofString " "++tI k):=by
 obtain⟨w1,w2,w3⟩:=kO (x:=Str.ofString "zzzzzzz") (c:=c) (by decide +kernel) (by decide +kernel) (by decide +kernel) hc;have l7:(Str.ofString "zzzzzzz").length=7:=by decide +kernel
 have e1:(Str.ofString " zzzzzzz").cps.toList=32::(Str.ofString "zzzzzzz").cps.toList:=by decide +kernel
 have e2:(Str.ofString " ").cps.toList=[32]:=by decide +kernel
 have a:=h.word1 (x:=Str.ofString "zzzzzzz"++(⟨#[c]⟩:Str)) (z:=r++Str.ofString " zzzzzzz"++(⟨#[c]⟩:Str)) ⟨by omega,w2,w3⟩ (by simp only[zG,e1,List.append_assoc,cons_append]);exact a.word1 (j2m h0 h1) (by rw[zG,zG (r++_++_) _,e2,List.append_assoc];rfl)
theorem xF{w z:Str}(hw:WordK w)(e:z.cps.toList=(Str.ofString "part").cps.toList++32::(w.cps.toList++(Str.ofString " hold 1").cps.toList)):RowK 700 z:=by
 have a:RowK 30 (Str.ofString "part"):=(WordK.of (by decide +kernel)).row;have eh:(Str.ofString " hold 1").cps.toList=32::((Str.ofString "hold").cps.toList++32::(Str.ofString "1").cps.toList):=by decide +kernel
 have h:RowK 61 (Str.ofString "hold 1"):=((WordK.of (x:=Str.ofString "hold") (by decide +kernel)).row).word1 (WordK.of (x:=Str.ofString "1") (by decide +kernel)) (by decide +kernel);have b:RowK (30+61+1) (⟨(w.cps.toList++(Str.ofString " hold 1").cps.toList).toArray⟩:Str):=hw.row.more h (by rw[eh];rfl);have c:=a.more b (z:=z) (by rw[e]);exact⟨Nat.le_trans c.n (by decide),c.c,c.w⟩
theorem j4E{w:Str}(hw:WordK w):RowK 700 (Str.ofString "part "++w++Str.ofString " hold 1"):=by
 have e1:(Str.ofString "part ").cps.toList=(Str.ofString "part").cps.toList++[32]:=by decide +kernel
 exact xF hw (by rw[zG,zG,e1,List.append_assoc,List.append_assoc];rfl)
theorem j4U{c d:Nat}(hc:97<=c/\c<=122)(hd:97<=d/\d<=122):RowK 700 (Str.ofString "part yyyyyy"++(⟨#[c]⟩:Str)++(⟨#[d]⟩:Str)++Str.ofString " hold 1"):=by
 have l6:(Str.ofString "yyyyyy").length=6:=by decide +kernel
 obtain⟨w1,w2,w3⟩:=kO (x:=Str.ofString "yyyyyy") (c:=c) (by decide +kernel) (by decide +kernel) (by decide +kernel) hc;obtain⟨v1,v2,v3⟩:=kO (x:=Str.ofString "yyyyyy"++(⟨#[c]⟩:Str)) (c:=d) (by omega) w2 w3 hd;have e1:(Str.ofString "part yyyyyy").cps.toList=(Str.ofString "part").cps.toList++32::(Str.ofString "yyyyyy").cps.toList:=by decide +kernel
 exact xF ⟨by omega,v2,v3⟩ (by simp only[zG,e1,List.append_assoc,cons_append])
theorem K7{xs:List V}{i:Int}(h:0<=i):cutV xs none (some i)=xs.take i.toNat:=by
 obtain⟨m,rfl⟩:=Int.eq_ofNat_of_zero_le h;unfold cutV;rw[show HT.sIx xs.length xs.length (some (m:Int))=min m xs.length from HT.zJ _ _ m,show HT.sIx xs.length 0 none=0 from rfl,Nat.sub_zero,List.drop_zero,Int.toNat_natCast];by_cases c:m<=xs.length
 ·rw[Nat.min_eq_left c]
 ·rw[Nat.min_eq_right (by omega),take_length,take_of_length_le (by omega)]
theorem K6{xs:List V}{i:Int}(h:0<=i):cutV xs (some i) none=xs.drop i.toNat:=by
 obtain⟨m,rfl⟩:=Int.eq_ofNat_of_zero_le h;unfold cutV;rw[show HT.sIx xs.length 0 (some (m:Int))=min m xs.length from HT.zJ _ _ m,show HT.sIx xs.length xs.length none=xs.length from rfl,Int.toNat_natCast];by_cases c:m<=xs.length
 ·rw[Nat.min_eq_left c];exact take_of_length_le (by rw[length_drop];omega)
 ·rw[Nat.min_eq_right (by omega),List.drop_eq_nil_of_le (i:=m) (by omega),List.drop_length,List.take_nil]
theorem WG{rows:List Str}{n:Int}(h:1<=rows.length):∃(j:Nat) (r:Str),n%(rows.length:Int)=(j:Int)/\j<rows.length/\atI (rows.map V.str) (j:Int)=some (.str r)/\rows[j]?=some r/\ixN (rows.map V.str).length (j:Int)=some j:=by
 have a0:=Int.emod_nonneg n (show(rows.length:Int)≠0 by omega);have a1:=Int.emod_lt_of_pos n (show 0<(rows.length:Int) by omega);obtain⟨j,hj⟩:=Int.eq_ofNat_of_zero_le a0;rw[hj]at a1;have jl:j<rows.length:=by omega
 have:(rows.map V.str)[j]?=some (V.str rows[j]):=by rw[List.getElem?_map,List.getElem?_eq_getElem jl];rfl
 have z:=jB this;rw[Int.zero_add]at z;refine⟨j,rows[j],hj,jl,z,List.getElem?_eq_getElem jl,?_⟩;unfold ixN;rw[length_map];simp[jl]
theorem j2G:∀{l:List Str},(∀r∈l,r.length<=30)->(l.map (·.length)).sum<=l.length*30
 | [],_=>by simp
 | a::l,hl=>by
  have h1:=j2G (l:=l) fun r hr=>hl r (mem_cons_of_mem _ hr)
  have h2:=hl a mem_cons_self;rw[map_cons,sum_cons,length_cons];omega
theorem j3d{rows:List Str}{j:Nat}{z:Str}(hj:j<rows.length)(rd:∀r∈rows,RowD r)(hz:RowK 700 z):(rows.take j++[z]++rows.drop (j+1)).length=rows.length/\(∀r∈rows.take j++[z]++rows.drop (j+1),RowK 700 r)/\(2<=(spW z).length->2<=(spW ((rows.take j++[z]++rows.drop (j+1)).getD 0 ⟨#[]⟩)).length):=by
 refine⟨?_,fun r hr=>?_,fun h2=>?_⟩
 ·rw[List.length_append,List.length_append,length_take,length_drop];show _+1+_=_;omega
 ·rcases mem_append.mp hr with hr | hr
  ·rcases mem_append.mp hr with hr | hr
   ·exact(rd r (mem_of_mem_take hr)).k
   ·rw[mem_singleton.mp hr];exact hz
  ·exact(rd r (mem_of_mem_drop hr)).k
 ·cases j with
  | zero=>exact h2
  | succ j=>
   cases rows with
   | nil=>simp at hj
   | cons r rs=>exact(rd r mem_cons_self).l
theorem j45{rows:List Str}{j:Nat}{z:Str}(h:∀r∈rows,RowK 700 r)(hz:RowK 700 z):∀r∈rows.set j z,RowK 700 r:=fun r hr=>by
 rcases List.mem_or_eq_of_mem_set hr with hr | rfl
 ·exact h r hr
 ·exact hz
theorem j2c{rows:List Str}{j:Nat}(h:j<rows.length):ixN (rows.map V.str).length (j:Int)=some j:=by
 unfold ixN;rw[length_map];simp[h]
theorem j2A{rows:List Str}(R:RowsOk rows):(rows.map (·.length)).sum+rows.length*1<=16777216:=by
 have:∀l:List Str,(∀r∈l,r.length<=4000)->(l.map (·.length)).sum<=l.length*4000:=fun l=>by
  induction l with
  | nil=>intro _;simp
  | cons a l ih=>
   intro hl;have h1:=ih fun r hr=>hl r (mem_cons_of_mem _ hr)
   have h2:=hl a mem_cons_self;rw[map_cons,sum_cons,length_cons];omega
 have:=this rows fun r hr=>(R.r r hr).2.1
 have:=R.n2;omega
theorem j4R{y:Str}(h:Cln y)(n:y.length<=19):WordK y:=⟨Nat.le_trans n (by decide),fun z=>absurd (h _ z) (by decide),fun z=>absurd (h _ z) (by decide)⟩
theorem j44{ws:List Str}(h:∀y∈ws,Cln y)(n:∀y∈ws,y.length<=19)(l2:2<=ws.length)(l20:ws.length<=20):RowD (Txt.join bl ws):=by
 obtain⟨a,b⟩:=kM (ws:=ws) (fun w hw=>j4R (h w hw) (n w hw)) (by omega);have e:=b (fun z=>by rw[z]at l2;simp at l2);exact⟨a,by rw[e];exact l2,by rw[e];exact l20⟩
theorem j4J{ls:List (Str×Int)}{ps:List (Str×Fm)}(O:BkOk ls ps)(l1:1<=ls.length):∀r∈rowsOf ls ps,RowD r:=fun r hr=>by
 rcases mem_cons.mp hr with rfl | hr
 ·obtain⟨f1,f2⟩:=xj O.ln;have l8:=O.l8;refine j44 (j1Q O.ln) (fun y hy=>?_) (by rw[length_cons,f1];omega) (by rw[length_cons,f1];omega);rcases mem_cons.mp hy with rfl | hy
  ·decide +kernel
  ·exact f2 y hy
 ·obtain⟨p,hp,rfl⟩:=mem_map.mp hr;obtain⟨h1,h2⟩:=O.pn p hp;obtain⟨f1,f2⟩:=j23 h2;refine j44 (j1R h1 h2) (fun y hy=>?_) (by rw[length_cons,length_cons];omega) (by rw[length_cons,length_cons];omega);rcases mem_cons.mp hy with rfl | hy
  ·decide +kernel
  rcases mem_cons.mp hy with rfl | hy
  ·exact Nat.le_trans (xi h1) (by decide)
  ·exact f2 y hy
theorem j4K(ls:List (Str×Int))(ps:List (Str×Fm)):(rowsOf ls ps).length=ps.length+1:=by
 unfold rowsOf;rw[length_cons,length_map]
theorem j4c:∀(n:Nat) (l:List Nat),l.length=n+1->AllDigits l->l.head?≠some 48->10^n<=digitsVal l:=by
 intro n
 induction n with
 | zero=>
  intro l hl ad h;obtain⟨c,rfl⟩:=List.length_eq_one_iff.mp hl;have hc:=ad c mem_cons_self;have e:digitsVal [c]=c-48:=by unfold digitsVal;simp
  have:c≠48:=fun z=>h (by rw[z];rfl)
  rw[e];show 1<=_;omega
 | succ n ih=>
  intro l hl ad hh;have ne:l≠[]:=fun z=>by rw[z]at hl;simp at hl
  obtain⟨l',c,rfl⟩:∃l' c,l=l'++[c]:=⟨l.dropLast,l.getLast ne,(List.dropLast_concat_getLast ne).symm⟩
  rw[List.length_append]at hl;have hl':l'.length=n+1:=by
   have:l'.length+1=n+1+1:=hl;omega
  have i1:=ih l' hl' (fun d hd=>ad d (mem_append_left _ hd)) (fun z=>hh (by rw[List.head?_append,z];rfl));rw[j0j,Nat.pow_succ];omega
theorem j0z{x:Str}{least:Int}(h1:1<=x.length)(ha:Ws.among x Ws.figs=true)(h0:¬(x.cps.toList.head?=some 48/\x.length≠1)):numW x least=if least<=(digitsVal x.cps.toList:Nat)/\((digitsVal x.cps.toList:Nat):Int)<=10^18 then some ((digitsVal x.cps.toList:Nat):Int)else none:=by
 unfold numW;by_cases c:x.length<=19
 ·rw[Ws.xz ⟨⟨h1,by omega⟩,ha,h0⟩]
 ·rw[Ws.Wi (fun h=>c (by have:=h.1.2;omega))];have b:=j4c (x.length-1) x.cps.toList (by rw[Ws.QG];omega) (Ws.Q9 ha) (fun z=>h0 ⟨z,by omega⟩);have p:(10:Nat)^19<=10^(x.length-1):=Nat.pow_le_pow_right (by decide) (by omega);rw[if_neg (by omega)]
theorem j3p{x:Str}{least:Int}(h:¬(1<=x.length/\Ws.among x Ws.figs=true/\¬(x.cps.toList.head?=some 48/\x.length≠1))):numW x least=none:=by
 unfold numW;rw[Ws.Wi (fun z=>h ⟨z.1.1,z.2⟩)]
inductive sp_worthL(vs:List V)(H:Hp)(Q:VK)(xk:XK):Prop
 | mk (x:Str) (least:Int) (_:vs=[.str x,.int least]) (_:x.length<=200) (_:∀H',Same H H'->Q (oI (numW x least)) H'):sp_worthL vs H Q xk
inductive sp_limbsL(vs:List V)(H:Hp)(Q:VK)(xk:XK):Prop
 | mk (l:Addr) (ws:List Str) (_:vs=[.ref l]) (_:H l=some (.lst (ws.map V.str))) (_:ws≠[]) (_:ws.length<=5000) (_:(∀w∈ws,w.length<=200)) (_:(limbsW ws=none->∀H',Same H H'->Q .non H')) (_:∀ls,limbsW ws=some ls->∀(c:Addr) (as:List Addr) (H':Hp),Same H H'->H' c=some (.lst (as.map V.ref))->All2 (LimbAt H') as ls->Q (.ref c) H'):sp_limbsL vs H Q xk
inductive sp_formL(vs:List V)(H:Hp)(Q:VK)(xk:XK):Prop
 | mk (l c n:Addr) (kind:Str) (ws:List Str) (as:List Addr) (ls:List (Str×Int)) (P:List Str) (_:vs=[.ref l,.ref c,.ref n]) (_:H l=some (.lst ((kind::ws).map V.str))) (_:ws.length<=5000) (_:(∀w∈ws,w.length<=200)) (_:H c=some (.lst (as.map V.ref))) (_:All2 (LimbAt H) as ls) (_:ls.length<=8) (_:H n=some (.lst (P.map V.str))) (_:P.length<=100) (_:FormR H Q (formW kind ws (nmsOf ls) P)):sp_formL vs H Q xk
inductive sp_readL(vs:List V)(H:Hp)(Q:VK)(xk:XK):Prop
 | mk (l:Addr) (rows:List Str) (_:vs=[.ref l]) (_:H l=some (.lst (rows.map V.str))) (_:RowsOk rows) (_:(∀ls ps,RdT rows ls ps->∀(p b pl pp:Addr) (las pas:List Addr) (H':Hp),Same H H'->H' p=some (.tup [.ref b,.non])->BookAt H' b pl pp las pas ls ps->Q (.ref p) H')) (_:∀k,RefT rows k->∀(p:Addr) (H':Hp),Same H H'->H' p=some (.tup [.non,.int (k:Nat)])->Q (.ref p) H'):sp_readL vs H Q xk
theorem w6(n:Str):∀hs:List Str,inV (.str n) (hs.map V.str)=decide (n∈hs)
 | []=>by simp[inV]
 | h::r=>by
  have ih:=w6 n r;unfold inV at ih|-;rw[map_cons,any_cons,ih];have e:eqV (.str h) (.str n)=decide (h=n):=by
   show(h==n)=_;by_cases c:h=n
   ·subst c;simp
   ·rw[decide_eq_false c];exact beq_eq_false_iff_ne.mpr c
  rw[e,Bool.eq_iff_iff];simp only[Bool.or_eq_true,decide_eq_true_eq,mem_cons];constructor
  ·rintro(x | x)
   ·exact .inl x.symm
   ·exact .inr x
  ·rintro(x | x)
   ·exact .inl x.symm
   ·exact .inr x
theorem flatT:∀hs:List Str,(hs.map V.str).all flatV=true
 | []=>rfl
 | _::r=>flatT r
theorem inT(n:Str)(hs:List Str):(if false=true then !inV (.str n) (hs.map V.str)else inV (.str n) (hs.map V.str))=decide (n∈hs):=by rw[if_neg (by decide),w6]
theorem notInT(n:Str)(hs:List Str):(if true=true then !inV (.str n) (hs.map V.str)else inV (.str n) (hs.map V.str)) = !decide (n∈hs):=by rw[if_pos rfl,w6]
theorem Zv:∀(a b:List Str),a.length%2=0->prsW (a++b)=(match prsW a,prsW b with | some u,some v=>some (u++v) | _,_=>none)
 | [],b,_=>by
  show prsW b=_;cases prsW b<;>rfl
 | [_],_,h=>by simp at h
 | x::y::a,b,h=>by
  have ih:=Zv a b (by rw[length_cons,length_cons]at h;omega);have e1:∀l:List Str,prsW (x::y::l)=(match numW y 0,prsW l with | some n,some ls=>if Ws.isW x=true then some ((x,n)::ls)else none | _,_=>none):=fun l=>rfl
  show prsW (x::y::(a++b))=_;rw[e1,e1,ih];cases numW y 0 with
  | none=>rfl
  | some n=>
   cases prsW a with
   | none=>rfl
   | some u=>
    cases prsW b with
    | none=>by_cases c:Ws.isW x=true<;>simp[c]
    | some v=>by_cases c:Ws.isW x=true<;>simp[c]
theorem j02{r:List Str}{i:Nat}{x h:Str}(hx:r[2*i]?=some x)(hh:r[2*i+1]?=some h):r.take (2*(i+1))=r.take (2*i)++[x,h]/\r=r.take (2*i)++([x,h]++r.drop (2*(i+1)))/\(r.take (2*i)).length%2=0:=by
 have l:=(List.getElem?_eq_some_iff.mp hh).1;have e:r.take (2*(i+1))=r.take (2*i)++[x,h]:=by
  show r.take (2*i+1+1)=_;rw[take_snoc hh,take_snoc hx,List.append_assoc];rfl
 refine⟨e,?_,by rw[length_take];omega⟩;rw[<-List.append_assoc,<-e,List.take_append_drop]
theorem Wy(x h:Str):prsW [x,h]=(match numW h 0 with | some n=>if Ws.isW x=true then some [(x,n)]else none | none=>none):=by
 unfold prsW;cases numW h 0<;>rfl
theorem j2f{k:Str}{r:List Str}{i:Nat}{x h:Str}(hx:r[2*i]?=some x)(hh:r[2*i+1]?=some h)(bad:Ws.isW x=false\/numW h 0=none):limbsW (k::r)=none:=by
 obtain⟨_,e,ev⟩:=j02 hx hh;have b:prsW [x,h]=none:=by
  rw[Wy];rcases bad with c | c
  ·cases numW h 0 with
   | none=>rfl
   | some n=>show(if _ then _ else _)=_;rw[if_neg (by rw[c];decide)]
  ·rw[c]
 have:prsW r=none:=by
  rw[e,Zv _ _ ev,Zv [x,h] _ (by show 2%2=0;rfl),b];cases prsW (List.take (2*i) r)<;>rfl
 unfold limbsW;dsimp only;rw[this]
theorem j3a{r:List Str}{i:Nat}{x h:Str}{ls:List (Str×Int)}{n:Int}(e:prsW (r.take (2*i))=some ls)(hx:r[2*i]?=some x)(hh:r[2*i+1]?=some h)(w:Ws.isW x=true)(hn:numW h 0=some n):prsW (r.take (2*(i+1)))=some (ls++[(x,n)]):=by
 obtain⟨e1,_,ev⟩:=j02 hx hh;rw[e1,Zv _ _ ev,e,Wy,hn];show(match some ls,(if Ws.isW x=true then some [(x,n)]else none)with | some u,some v=>some (u++v) | _,_=>none)=_;rw[if_pos w]
theorem j4m{k:Str}{r:List Str}{i:Nat}{x h:Str}{ls:List (Str×Int)}(e:prsW (r.take (2*i))=some ls)(hx:r[2*i]?=some x)(hh:r[2*i+1]?=some h)(m:x∈nmsOf ls):limbsW (k::r)=none:=by
 obtain⟨_,e1,ev⟩:=j02 hx hh;unfold limbsW;dsimp only;cases q:prsW r with
 | none=>rfl
 | some l'=>
  rw[e1,Zv _ _ ev,e,Zv [x,h] _ (by show 2%2=0;rfl),Wy]at q;dsimp only;refine if_neg fun z=>?_
  cases hn:numW h 0 with
  | none=>rw[hn]at q;cases q
  | some n=>
   rw[hn]at q;dsimp only at q;by_cases w:Ws.isW x=true
   ·rw[if_pos w]at q;cases q2:prsW (r.drop (2*(i+1)))with
    | none=>rw[q2]at q;cases q
    | some v=>
     rw[q2]at q;cases q;have nd:=z.2.2;rw[map_append,nodup_append]at nd;exact nd.2.2 x m x (by simp) rfl
   ·rw[if_neg w]at q;cases q
theorem j4n{k:Str}{r:List Str}{ls:List (Str×Int)}(e:prsW (r.take (2*(r.length/2)))=some ls)(nd:(nmsOf ls).Nodup):limbsW (k::r)=if k = "limbs"/\r.length%2=0/\(1<=ls.length/\ls.length<=8)then some ls else none:=by
 unfold limbsW;dsimp only;by_cases c:r.length%2=0
 ·rw[take_of_length_le (by omega)]at e;rw[e];dsimp only;by_cases c2:k = "limbs"/\(1<=ls.length/\ls.length<=8)
  ·rw[if_pos ⟨c2.1,c2.2,nd⟩,if_pos ⟨c2.1,c,c2.2⟩]
  ·rw[if_neg (fun z=>c2 ⟨z.1,z.2.1⟩),if_neg (fun z=>c2 ⟨z.1,z.2.2⟩)]
 ·have:prsW r=none:=by
   have d1:(r.drop (2*(r.length/2))).length=1:=by rw[length_drop];omega
   obtain⟨y,hy⟩:=List.length_eq_one_iff.mp d1;have ee:prsW r=prsW (r.take (2*(r.length/2))++[y]):=by rw[<-hy,List.take_append_drop]
   rw[ee,Zv _ _ (by rw[length_take];omega),e];rfl
  rw[this];dsimp only;rw[if_neg (fun z=>c z.2.1)]
theorem kU{α:Type}(ls:List (Str×α))(p:Str×α):nmsOf (ls++[p])=nmsOf ls++[p.1]:=by
 unfold nmsOf;rw[map_append];rfl
theorem W5{ws L P:List Str}:formW "raise" ws L P=(match ws with
  | [l,h,b]=>(match numW h 0,numW b 1 with
   | some hh,some n=>if l∈L then some (.rise l hh n)else none
   | _,_=>none)
  | _=>none):=by
 unfold formW;rw[if_neg (by decide +kernel),if_pos rfl]
theorem j0o{ws L P:List Str}:formW "hold" ws L P=(match ws with
  | [b]=>(numW b 1).map Fm.hold
  | _=>none):=by
 unfold formW;rw[if_neg (by decide +kernel),if_neg (by decide +kernel),if_pos rfl]
theorem j0p{ws L P:List Str}:formW "ring" ws L P=(match ws with
  | [x,b]=>(match numW b 1 with
   | some n=>if Ws.isW x=true then some (.ring x n)else none
   | none=>none)
  | _=>none):=by
 unfold formW;rw[if_neg (by decide +kernel),if_neg (by decide +kernel),if_neg (by decide +kernel),if_pos rfl]
theorem W4{ws L P:List Str}:formW "again" ws L P=(match ws with
  | [k,p]=>(match numW k 1 with
   | some n=>if p∈P then some (.again n p)else none
   | none=>none)
  | _=>none):=by
 unfold formW;rw[if_neg (by decide +kernel),if_neg (by decide +kernel),if_neg (by decide +kernel),if_neg (by decide +kernel),if_pos rfl]
theorem j27{ws L P:List Str}:formW "row" ws L P=if(1<=ws.length/\ws.length<=8)/\∀w∈ws,w∈P then some (.row ws)else none:=by
 unfold formW namsW;rw[if_pos (.inl rfl),if_pos rfl]
theorem j0q{ws L P:List Str}:formW "side" ws L P=if(2<=ws.length/\ws.length<=4)/\∀w∈ws,w∈P then some (.side ws)else none:=by
 unfold formW namsW;rw[if_pos (.inr rfl),if_neg (by decide +kernel)]
theorem j4X{kind:Str}{ws L P:List Str}(h:kind≠"raise"/\kind≠"hold"/\kind≠"ring"/\kind≠"again"/\kind≠"row"/\kind≠"side"):formW kind ws L P=none:=by
 obtain⟨h1,h2,h3,h4,h5,h6⟩:=h;unfold formW;rw[if_neg (fun z=>z.elim h5 h6),if_neg h1,if_neg h2,if_neg h3,if_neg h4]
theorem wY{kind:Str}{ws L P:List Str}(h:(kind = "raise"/\ws.length≠3)\/(kind = "hold"/\ws.length≠1)\/((kind = "ring"\/kind = "again")/\ws.length≠2)):formW kind ws L P=none:=by
 rcases h with⟨rfl,h⟩ | ⟨rfl,h⟩ | ⟨rfl | rfl,h⟩
 ·rw[W5];split
  ·exact absurd rfl h
  ·rfl
 ·rw[j0o];split
  ·exact absurd rfl h
  ·rfl
 ·rw[j0p];split
  ·exact absurd rfl h
  ·rfl
 ·rw[W4];split
  ·exact absurd rfl h
  ·rfl
theorem j2t{ws L P:List Str}(h:ws.length<3):partW ws L P=none:=by
 match ws,h with
 | [],_=>rfl
 | [_],_=>rfl
 | [_,_],_=>rfl
 | _::_::_::r,h=>rw[length_cons,length_cons,length_cons]at h;omega
theorem j53{k x kind:Str}{r L P:List Str}:partW (k::x::kind::r) L P=if k = "part"/\Ws.isW x=true/\x∉P then(formW kind r L P).map fun f=>(x,f)else none:=rfl
theorem XT{rows:List Str}{ls:List (Str×Int)}{ps:List (Str×Fm)}{p:Str×Fm}(hp:PartsAt rows ls ps)(l:ps.length+1<=60)(e:partW (spW (rows.getD (ps.length+1) ⟨#[]⟩)) (nmsOf ls) (nmsOf ps)=some p):PartsAt rows ls (ps++[p]):=by
 refine⟨by rw[List.length_append];exact l,fun i q hq=>?_⟩;by_cases hi:i<ps.length
 ·rw[List.getElem?_append_left hi]at hq;rw[List.take_append_of_le_length (by omega)];exact hp.2 i q hq
 ·have il:=(List.getElem?_eq_some_iff.mp hq).1;rw[List.length_append]at il;have ei:i=ps.length:=by have:i<ps.length+1:=il;omega
  subst ei;rw[List.getElem?_append_right (Nat.le_refl _),Nat.sub_self]at hq;cases hq;rw[List.take_append_of_le_length (Nat.le_refl _),take_length];exact e
theorem three9{ws:List Str}(h:¬(ws.length:Int)<3):∃k x kind r,ws=k::x::kind::r:=by
 match ws,h with
 | [],h=>simp at h
 | [_],h=>simp at h
 | [_,_],h=>simp at h
 | k::x::kind::r,_=>exact⟨k,x,kind,r,rfl⟩
theorem FormAt.keepT{H H':Hp}{a:Addr}{f:Fm}(k:∀c xs,H c=some (.tup xs)->H' c=some (.tup xs))(h:FormAt H a f):FormAt H' a f:=by
 cases f with
 | row ps=>obtain⟨c,h1,h2⟩:=h;exact⟨c,k _ _ h1,k _ _ h2⟩
 | side ps=>obtain⟨c,h1,h2⟩:=h;exact⟨c,k _ _ h1,k _ _ h2⟩
 | hold n=>exact k _ _ h
 | ring x n=>exact k _ _ h
 | rise x g n=>exact k _ _ h
 | again x n=>exact k _ _ h
theorem PartAt.keepT{H H':Hp}{a:Addr}{p:Str×Fm}(k:∀c xs,H c=some (.tup xs)->H' c=some (.tup xs))(h:PartAt H a p):PartAt H' a p:=by
 obtain⟨b,h1,h2⟩:=h;exact⟨b,k _ _ h1,FormAt.keepT k h2⟩
inductive sp_otherL(cN:Addr)(vs:List V)(H:Hp)(Q:VK)(xk:XK):Prop
 | mk (a:Addr) (dd:Option Addr) (_:vs=[.ref a]) (_:H a=some (XcF (.ref cN) a dd)) (_:∀H',Same H H'->Q (.bl false) H'):sp_otherL cN vs H Q xk
end Rm
theorem L2.fsc{N P:List PySem.Str}{sc:PySem.Scope}(a:sc.kind = .function:=by rfl)(b:sc.isCoroutine=false:=by rfl)(c:sc.isGenerator=false:=by rfl)(d:N.Nodup:=by decide +kernel)(e:N.take P.length=P:=by rfl)(f:∀x∈P,sc.names.lookup x=some .local\/sc.names.lookup x=some .cell:=by decide +kernel)(g:∀y∈sc.names,y.2≠.free:=by decide +kernel):L2.FnScope N P sc:=⟨a,b,c,d,e,f,g⟩
structure PySem.W.Fast:Prop where
  (tw13895913430457117758 tw6657148173539042629 tw1601355181958508879 tw17702501931696710336 tw9261977726293095165 tw11455452157495510243 tw4969340904999627696 tw16992999523943257062 tw16162883282703907661 tw14690526474848967496 tw3677555416438217967 tw13881969732359842058 tw656092194742807362 tw9831160598554558258 tw7958577066431669621 tw12869504630337353007 tw2645223143616546338 tw168093655361445837 tw6368648568505778619 tw1269671949217385362 tw4184490657126803721 tw17909207524351604069 tw11667820085896458480 tw17346340966923455054 tw9422131942118899623 tw9967614860682010977 tw1332200030971224504 tw13709334215897145796 tw12294232233637267894 tw561184081785526776 tw6295098397716696582 tw16715465080652292435 tw6994579820862637055 tw7557113269602528572 tw17073404042421219895 tw16666581016696153343 tw2555602914483395049 tw7745117597362985783 tw1567079282508598402 tw10630394594492288305 tw11992297233713279043 tw9074537192111636043 tw464916705608908818 tw8362622100076671239 tw16628104482770398582 tw10859140889777741412 tw10351660905318957714 tw1710583143251261781 tw272461720559575529 tw10374140390202403287 tw9202386705199833028 tw14308976503493757232 tw14491696450106345267 tw13378440195651970203 tw5548130240730580919 tw6238117887717007185 tw8365009815400636378 tw748155321764632000 tw13906548556521408316 tw16020640563392214642 tw8106988820534587047 tw15639278885553325504 tw7469963800642165962 tw8383036134079658265 tw9612480038700804895 tw11619104102696674933 tw14231970142557734620 tw1874041060074104169 tw11863898913990724453 tw14151081358860823889 tw17967835712861426461 tw5339289595337639876 tw9409470456027847518 tw10996342578803753336 tw15255654968588269238 tw5684038893349553287 tw10911400632316979513 tw5524891948143978245 tw6726892579649510294 tw15175235773304109858 tw17474727173191056349 tw6849003600656250764 tw437509641662002512 tw3356749479992052124 tw8444715125801302536 tw10102890752879888528 tw5992952066419670488 tw15194841990992317384 tw1821771739919011240 tw15765559500186111717 tw2606656521145205209 tw12701026683685042462 tw3080673178129832737 tw12001618481088777764 tw15054174858246989697 tw12182675423441132365 tw4641252499820992867 tw16285914449351814306 tw18376996147043868873 tw12900045468344708329 tw244517536602620881 tw2155159095118043797 tw11059648784140121552 tw9502231402067288740 tw14930914104953945117 tw1450876654295537413 tw13236632527190824133 tw10643782989824179570 tw14175803435289447506 tw297835722316040926 tw17403679494897375534 tw10857117313839272627 tw1979901114074393140 tw1319602417412291910 tw17216715123025592716 tw1480979816323797808 tw15457871641716815221 tw6751611116383133466 tw2584427064635210039 tw2668417301576809435 tw8697330705388024217 tw9607830095685420507 tw4878463223348469333 tw17049117783355914881 tw3861455860327585225 tw17069743112143925031 tw12331145867943277464 tw11485434157394799641 tw6977050943713641118 tw10440750262319787721 tw2037090283789146510 tw14352408324754639911 tw14314259131259559019 tw1375668898010973499 tw3206411514768083185 tw7100342253049621924 tw11808032137346449767 tw16514445094469614508 tw11356156963078439894 tw9522983979241061951 tw14224301102133404612 tw18133789848101767621 tw8189047982732213175 tw17411953295305234041 tw14714504802706975925 tw5780294426363538254 tw5280199037072678192 tw14685933661797251734 tw9642006507230605670 tw15677703802362199711 tw12113634450014166275 tw13526448334656757366 tw13735555010241023263 tw7958745811728006323 tw751693881679295757 tw14107191970010904964 tw5742389399292480734 tw9465459450271700402 tw2991272779053280763 tw628737945155527383 tw7648668100582671093 tw3971097233964899505 tw51291975857562992 tw10469246854076720152 tw16236037081433289312 tw9553417478344975409 tw7010998164231102921 tw3211449269643649774 tw12195933097760567396 tw489458342577606109 tw3187015188722211149 tw18444463041357286201 tw3302976282013512211 tw18123436569750977488 tw11143801480559204773 tw6596948198824696926 tw16201866388722091244 tw9723714658101883793 tw9445591353913199405 tw7062782881629547214 tw7023008202072578228 tw11570281408088356229 tw8366729425888277252 tw578354424795392078 tw10526978230591148757 tw1850574197268383902 tw4403193948350775339 tw9833184180316293584 tw7550962961331993309 tw10681292865819435038 tw3438308524821942371 tw4102209669747441181 tw14560752296333979590 tw5824049402981180243 tw5541683120690027125 tw3534045409859847449 tw15695647416178257056 tw4928254002916794650 tw3658417383041904997 tw4448696889931106900 tw11214132741858171095 tw12210812349967193651 tw11540110537310367044 tw12176937380890765137 tw65893441534181753 tw7143162775566161225 tw16209643983468623520 tw15417485488865480710 tw3465483746673744332 tw2449000395135777285 tw15981550192896132169 tw16297198980557778106 tw15330599668325905599 tw10581718979555078769 tw13914691587854895036 tw6677010426702547154 tw16408802348185199649 tw7158217435987099754 tw15923557812938556650 tw7271920005070680908 tw13273682729824885640 tw2783182900321737653 tw8831852391049753283 tw4655842455577255108 tw8737655210250959570 tw591216287211625317 tw5188001971100238098 tw1066521097915745554 tw12822766307580888487 tw7132087913116518883 tw1632292114006903088 tw8418290174258135166 tw9296878774549292834 tw18166726416546727410 tw8051101732696814122 tw12764932710938207962 tw10570963656771779707 tw3970113861518251144 tw6619890470754796237 tw1800650893718228696 tw9121476567778675853:True)
theorem Rm.iteE0{b:Bool}{A B:Prop}(h:B)(e:b=false:=by decide +kernel):if b=true then A else B:=Rm.iteB0 e h
theorem Rm.iteE1{b:Bool}{A B:Prop}(h:A)(e:b=true:=by decide +kernel):if b=true then A else B:=Rm.iteB1 e h
namespace K09
open PySem L2 Rm
noncomputable def top(i:Nat):Stmt:=PySem.Challenge.pw_camplay_k09_whole_rows_refused.main.body.getD i (.Pass ⟨0,0,0,0⟩)
noncomputable abbrev Qt:Stmt:=(inClass (top 2) 0)
theorem yH:FnScope ["self","row"] ["self","row"] (defScope Qt):=fsc
noncomputable abbrev zK:Stmt:=top 17
theorem WC:FnScope ["text","signs"] ["text","signs"] (defScope zK):=fsc
noncomputable abbrev YZ:Stmt:=top 18
theorem X4:FnScope ["text"] ["text"] (defScope YZ):=fsc
noncomputable abbrev q0:Stmt:=top 19
theorem WD:FnScope ["text","most"] ["text","most"] (defScope q0):=fsc
noncomputable abbrev ZB:Stmt:=top 24
theorem QT:FnScope ["named","numbers","number","one"] ["named"] (defScope ZB):=fsc
noncomputable abbrev YY:Stmt:=top 25
theorem Kk:FnScope ["text","least","number"] ["text","least"] (defScope YY):=fsc
noncomputable abbrev yG:Stmt:=top 26
theorem ke:FnScope ["wanted","text","limbs","parts","known"] ["wanted","text","limbs","parts"] (defScope yG):=fsc
noncomputable abbrev ze:Stmt:=top 27
theorem KK:FnScope ["kind","words","parts"] ["kind","words","parts"] (defScope ze):=fsc
noncomputable abbrev yl:Stmt:=top 28
theorem Kl:FnScope ["kind","words","limbs","parts","values"] ["kind","words","limbs","parts"] (defScope yl):=fsc
noncomputable abbrev Y0:Stmt:=top 29
theorem Km:FnScope ["words","limbs","parts","form"] ["words","limbs","parts"] (defScope Y0):=fsc
noncomputable abbrev zC:Stmt:=top 30
theorem Z7:FnScope ["words","names","heights"] ["words"] (defScope zC):=fsc
noncomputable abbrev X3:Stmt:=top 31
theorem Jr:FnScope ["text","rows","limbs","limb_names","part_names","parts","row","line","part"] ["text"] (defScope X3):=fsc
noncomputable abbrev zy:Stmt:=top 33
theorem km:FnScope ["_law_script","_law_k"] ["_law_script","_law_k"] (defScope zy):=fsc
noncomputable abbrev zX:Stmt:=top 34
theorem zE:FnScope ["_law_cell","_law_turn","_law_k"] ["_law_cell","_law_turn"] (defScope zX):=fsc
noncomputable abbrev zW:Stmt:=top 35
theorem Jf:FnScope ["_law_cell","_law_many","_law_found","_law_number_here","_law_k"] ["_law_cell","_law_many"] (defScope zW):=fsc
noncomputable abbrev zc:Stmt:=top 36
theorem Jv:FnScope ["_law_cell","_law_many","_law_letters","_law_some","_law_base","_law_at","_law_names_here","_law_k","_law_two"] ["_law_cell","_law_many"] (defScope zc):=fsc
noncomputable abbrev zT:Stmt:=top 37
theorem zD:FnScope ["_law_cell","_law_mixed","_law_least","_law_way","_law_power"] ["_law_cell","_law_mixed","_law_least"] (defScope zT):=fsc
noncomputable abbrev yE:Stmt:=top 38
theorem xQ:FnScope ["_law_room_here","_law_form_here","_law_hands","_law_long"] ["_law_room_here","_law_form_here","_law_hands","_law_long"] (defScope yE):=fsc
noncomputable abbrev zV:Stmt:=top 39
theorem Qu:FnScope ["_law_room_here","_law_cell","_law_some","_law_beats","_law_limb","_law_high"] ["_law_room_here","_law_cell","_law_some"] (defScope zV):=fsc
noncomputable abbrev Zy:Stmt:=top 40
theorem yw:FnScope ["_law_room_here","_law_number_here","_law_many"] ["_law_room_here","_law_number_here"] (defScope Zy):=fsc
noncomputable abbrev zb:Stmt:=top 41
theorem Ji:FnScope ["_law_room_here","_law_some","_law_there_here","_law_hands","_law_k","_law_first","_law_step","_law_one","_law_here"] ["_law_room_here","_law_some"] (defScope zb):=fsc
noncomputable abbrev JO:Stmt:=top 42
theorem jR:FnScope ["_law_room_here","_law_cell","_law_some","_law_there_here","_law_long","_law_hands","_law_one","_law_names_here","_law_times"] ["_law_room_here","_law_cell","_law_some"] (defScope JO):=fsc
noncomputable abbrev Z5:Stmt:=top 43
theorem Jj:FnScope ["_law_script","_law_first","_law_names_here","_law_limbs_here","_law_k","_law_at","_law_high","_law_room_here","_law_cell","_law_some"] ["_law_script"] (defScope Z5):=fsc
noncomputable abbrev Z6:Stmt:=top 44
theorem Jq:FnScope ["_law_book","_law_rows_here","_law_name","_law_high","_law_form_here","_law_words","_law_one"] ["_law_book"] (defScope Z6):=fsc
noncomputable abbrev yF:Stmt:=top 45
theorem zL:FnScope ["_law_rows_here","_law_some","_law_words","_law_long","_law_odd_here"] ["_law_rows_here","_law_some"] (defScope yF):=fsc
noncomputable abbrev zU:Stmt:=top 46
theorem qq:FnScope ["_law_rows_here","_law_way","_law_some","_law_letters","_law_made","_law_k"] ["_law_rows_here","_law_way","_law_some"] (defScope zU):=fsc
noncomputable abbrev zA:Stmt:=top 47
theorem jI:FnScope ["_law_rows_here","_law_cell","_law_some","_law_way","_law_at","_law_other_here","_law_words","_law_place","_law_made"] ["_law_rows_here","_law_cell"] (defScope zA):=fsc
noncomputable abbrev zB:Stmt:=top 48
theorem ZG:FnScope ["_law_text","_law_sign"] ["_law_text"] (defScope zB):=fsc
noncomputable abbrev Zz:Stmt:=top 49
theorem qR:FnScope ["_law_text","_law_least","_law_worth_here","_law_sign","_law_at"] ["_law_text","_law_least"] (defScope Zz):=fsc
noncomputable abbrev Zw:Stmt:=top 50
theorem QS:FnScope ["_law_words","_law_limbs_here","_law_names_here","_law_k"] ["_law_words"] (defScope Zw):=fsc
noncomputable abbrev Q4:Stmt:=top 51
theorem ZC:FnScope ["_law_words","_law_limbs_here","_law_names_here","_law_many","_law_first"] ["_law_words","_law_limbs_here","_law_names_here"] (defScope Q4):=fsc
noncomputable abbrev Z4:Stmt:=top 52
theorem qa:FnScope ["_law_rows_here","_law_limbs_here","_law_parts","_law_names_here","_law_k","_law_words","_law_form_here"] ["_law_rows_here"] (defScope Z4):=fsc
noncomputable abbrev Zx:Stmt:=top 53
theorem KJ:FnScope ["_law_error"] ["_law_error"] (defScope Zx):=fsc
noncomputable abbrev j2D:Stmt:=top 54
theorem zF:FnScope ["_law_script","_law_room_here","_law_rows_here","_law_due","_law_row","_law_error","_law_found","e"] ["_law_script"] (defScope j2D):=fsc
set_option genInjectivity false in
set_option genSizeOf false in
structure Ad where
 Jd:Addr
 Jm:FuncData
 qX:Addr
 qY:FuncData
 QA:Addr
 QD:FuncData
 QY:Addr
 Q3:FuncData
 xV:Addr
 qC:Addr
 qF:FuncData
 zf:Addr
 zh:FuncData
 zn:Addr
 zq:FuncData
 Qh:Addr
 Qp:FuncData
 zZ:Addr
 Zb:FuncData
 zg:Addr
 zi:FuncData
 QB:Addr
 QE:FuncData
 ZP:Addr
 ZS:FuncData
 JQ:Addr
 JS:FuncData
 Js:Addr
 Ju:FuncData
 JL:Addr
 JN:FuncData
 Qf:Addr
 Qn:FuncData
 JK:Addr
 JM:FuncData
 Qz:Addr
 QC:FuncData
 qg:Addr
 qh:FuncData
 qA:Addr
 qD:FuncData
 Qd:Addr
 Ql:FuncData
 qL:Addr
 qN:FuncData
 QW:Addr
 Q1:FuncData
 QX:Addr
 Q2:FuncData
 zm:Addr
 zo:FuncData
 qM:Addr
 qO:FuncData
 qo:Addr
 qp:FuncData
 Jz:Addr
 JA:FuncData
 qB:Addr
 qE:FuncData
 Qe:Addr
 Qm:FuncData
 QU:Addr
 QZ:FuncData
 QV:Addr
 Q0:FuncData
 Qg:Addr
 Qo:FuncData
 j06:Addr
 WX:FuncData
 jC:Addr
 ZR:Addr
 wN:Addr
 yU:Addr
 wQ:Addr
 ye:Addr
 Zp:Addr
 wP:Addr
 yV:Addr
 yW:Addr
 ko:Addr
 kn:Addr
 yX:Addr
 JW:Addr
 ww:Value
 zM:Addr
 wy:Value
 qc:Addr
structure Txt(K:Frg)(mg:Str->Option Value)(t:Ad):Prop where
 yK:Fun K "__init__" "NoBook.__init__" Qt t.Jd t.Jm
 XC:Meth K t.jC "__init__" t.Jd
 Qa:Binds K t.Jm ["self","row"] []
 ZJ:Fun K "all_among" "all_among" zK t.qX t.qY
 kc:mg "all_among"= some (.ref t.qX)
 Y3:Binds K t.qY ["text","signs"] []
 ya:Fun K "is_word" "is_word" YZ t.QA t.QD
 YR:mg "is_word"= some (.ref t.QA)
 Yx:Binds K t.QD ["text"] []
 Y8:FunD K "number_of" "number_of" q0 t.xV t.QY t.Q3
 xt:mg "number_of"= some (.ref t.QY)
 WP:Binds K t.Q3 ["text","most"] []
 Zi:Fun K "numbers_of" "numbers_of" ZB t.qC t.qF
 Yj:mg "numbers_of"= some (.ref t.qC)
 yJ:Binds K t.qF ["named"] []
 Z9:Fun K "bounded" "bounded" YY t.zf t.zh
 YQ:mg "bounded"= some (.ref t.zf)
 Yv:Binds K t.zh ["text","least"] []
 kA:Fun K "value_of" "value_of" yG t.zn t.zq
 Xy:mg "value_of"= some (.ref t.zn)
 x9:Binds K t.zq ["wanted","text","limbs","parts"] []
 yP:Fun K "names_form" "names_form" ze t.Qh t.Qp
 Wh:mg "names_form"= some (.ref t.Qh)
 wF:Binds K t.Qp ["kind","words","parts"] []
 KO:Fun K "form_of" "form_of" yl t.zZ t.Zb
 j1a:mg "form_of"= some (.ref t.zZ)
 j0J:Binds K t.Zb ["kind","words","limbs","parts"] []
 yb:Fun K "part_of" "part_of" Y0 t.zg t.zi
 YS:mg "part_of"= some (.ref t.zg)
 Yy:Binds K t.zi ["words","limbs","parts"] []
 yy:Fun K "limbs_of" "limbs_of" zC t.QB t.QE
 kR:mg "limbs_of"= some (.ref t.QB)
 kz:Binds K t.QE ["words"] []
 wG:Fun K "read" "read" X3 t.ZP t.ZS
 j2h:mg "read"= some (.ref t.ZP)
 j1G:Binds K t.ZS ["text"] []
 qm:Fun K "_law_cell_at" "_law_cell_at" zy t.JQ t.JS
 Qr:mg "_law_cell_at"= some (.ref t.JQ)
 Qb:Binds K t.JS ["_law_script","_law_k"] []
 qf:Fun K "_law_window" "_law_window" zX t.Js t.Ju
 qP:mg "_law_window"= some (.ref t.Js)
 qI:Binds K t.Ju ["_law_cell","_law_turn"] []
 qK:Fun K "_law_stream" "_law_stream" zW t.JL t.JN
 QQ:mg "_law_stream"= some (.ref t.JL)
 QM:Binds K t.JN ["_law_cell","_law_many"] []
 yN:Fun K "_law_names" "_law_names" zc t.Qf t.Qn
 Wf:mg "_law_names"= some (.ref t.Qf)
 wD:Binds K t.Qn ["_law_cell","_law_many"] []
 qJ:Fun K "_law_number" "_law_number" zT t.JK t.JM
 QP:mg "_law_number"= some (.ref t.JK)
 QL:Binds K t.JM ["_law_cell","_law_mixed","_law_least"] []
 qU:Fun K "_law_add" "_law_add" yE t.Qz t.QC
 QH:mg "_law_add"= some (.ref t.Qz)
 Qv:Binds K t.QC ["_law_room_here","_law_form_here","_law_hands","_law_long"] []
 QN:Fun K "_law_simple" "_law_simple" zV t.qg t.qh
 zQ:mg "_law_simple"= some (.ref t.qg)
 zN:Binds K t.qh ["_law_room_here","_law_cell","_law_some"] []
 Zh:Fun K "_law_there" "_law_there" Zy t.qA t.qD
 Yi:mg "_law_there"= some (.ref t.qA)
 yI:Binds K t.qD ["_law_room_here","_law_number_here"] []
 yL:Fun K "_law_apart" "_law_apart" zb t.Qd t.Ql
 Wd:mg "_law_apart"= some (.ref t.Qd)
 wB:Binds K t.Ql ["_law_room_here","_law_some"] []
 yq:Fun K "_law_naming" "_law_naming" JO t.qL t.qN
 Ky:mg "_law_naming"= some (.ref t.qL)
 Ku:Binds K t.qN ["_law_room_here","_law_cell","_law_some"] []
 Y6:Fun K "_law_room" "_law_room" Z5 t.QW t.Q1
 xq:mg "_law_room"= some (.ref t.QW)
 WN:Binds K t.Q1 ["_law_script"] []
 Y7:Fun K "_law_rows" "_law_rows" Z6 t.QX t.Q2
 xr:mg "_law_rows"= some (.ref t.QX)
 WO:Binds K t.Q2 ["_law_book"] []
 yx:Fun K "_law_odd" "_law_odd" yF t.zm t.zo
 kQ:mg "_law_odd"= some (.ref t.zm)
 ky:Binds K t.zo ["_law_rows_here","_law_some"] []
 yr:Fun K "_law_put_on" "_law_put_on" zU t.qM t.qO
 Kz:mg "_law_put_on"= some (.ref t.qM)
 Kv:Binds K t.qO ["_law_rows_here","_law_way","_law_some"] []
 ZI:Fun K "_law_changed" "_law_changed" zA t.qo t.qp
 kP:mg "_law_changed"= some (.ref t.qo)
 kx:Binds K t.qp ["_law_rows_here","_law_cell"] []
 Qc:Fun K "_law_is_word" "_law_is_word" zB t.Jz t.JA
 zu:mg "_law_is_word"= some (.ref t.Jz)
 zj:Binds K t.JA ["_law_text"] []
 jV:Fun K "_law_worth" "_law_worth" Zz t.qB t.qE
 j5:mg "_law_worth"= some (.ref t.qB)
 j4:Binds K t.qE ["_law_text","_law_least"] []
 yM:Fun K "_law_limbs" "_law_limbs" Zw t.Qe t.Qm
 We:mg "_law_limbs"= some (.ref t.Qe)
 wC:Binds K t.Qm ["_law_words"] []
 Y4:Fun K "_law_form" "_law_form" Q4 t.QU t.QZ
 xn:mg "_law_form"= some (.ref t.QU)
 WL:Binds K t.QZ ["_law_words","_law_limbs_here","_law_names_here"] []
 Y5:Fun K "_law_read" "_law_read" Z4 t.QV t.Q0
 xo:mg "_law_read"= some (.ref t.QV)
 WM:Binds K t.Q0 ["_law_rows_here"] []
 yO:Fun K "_law_other" "_law_other" Zx t.Qg t.Qo
 Wg:mg "_law_other"= some (.ref t.Qg)
 wE:Binds K t.Qo ["_law_error"] []
 j3U:Fun K "law" "law" j2D t.j06 t.WX
 j4Z:mg "law"= some (.ref t.j06)
 j5f:Binds K t.WX ["_law_script"] []
 yh:mg "NoBook"= some (.ref t.jC)
 Yk:mg "PlayError"= some (.ref t.ZR)
 j3f:mg "Done"= some (.ref t.wN)
 j1b:mg "NoBeat"= some (.ref t.yU)
 j3h:mg "Long"= some (.ref t.wQ)
 XF:mg "TooLong"= some (.ref t.ye)
 xw:mg "TwoHands"= some (.ref t.Zp)
 j3g:mg "Idle"= some (.ref t.wP)
 j1c:mg "NoLimb"= some (.ref t.yV)
 j1d:mg "NoName"= some (.ref t.yW)
 j2j:mg "NoRow"= some (.ref t.ko)
 j2i:mg "Broad"= some (.ref t.kn)
 j1e:mg "NoPins"= some (.ref t.yX)
 WK:ExcP K t.ZR "ValueError.__init__"
 Jy:ExcM K t.jC t.Jd
 Jw:W.findIn K (.ref t.jC) "row"= some none
 Jo:W.exmOne K (.ref t.jC) (.ref t.ZR)=some true
 qu:W.kitOne K (.ref t.jC) (.ref t.wN)=some false
 JX:W.kitOne K (.ref t.jC) (.ref t.yU)=some false
 qw:W.kitOne K (.ref t.jC) (.ref t.wQ)=some false
 JH:W.kitOne K (.ref t.jC) (.ref t.ye)=some false
 JB:W.kitOne K (.ref t.jC) (.ref t.Zp)=some false
 qv:W.kitOne K (.ref t.jC) (.ref t.wP)=some false
 JZ:W.kitOne K (.ref t.jC) (.ref t.yV)=some false
 J0:W.kitOne K (.ref t.jC) (.ref t.yW)=some false
 qe:W.kitOne K (.ref t.jC) (.ref t.ko)=some false
 qd:W.kitOne K (.ref t.jC) (.ref t.kn)=some false
 J1:W.kitOne K (.ref t.jC) (.ref t.yX)=some false
 Jl:W.kitOne K (.ref t.jC) (.type "ValueError")=some true
 JY:W.kitOne K (.ref t.jC) (.ref t.jC)=some true
 wK:mg "ValueError"= none
 j1J:mg "all"= none
 j47:mg "bool"= none
 ZQ:mg "enumerate"= none
 j09:mg "int"= none
 JD:mg "isinstance"= none
 j7:mg "len"= none
 Xd:mg "list"= none
 j3V:mg "max"= none
 j3W:mg "min"= none
 Qj:mg "range"= none
 j4V:mg "set"= none
 WT:mg "sorted"= none
 j1K:mg "str"= none
 j3X:mg "sum"= none
 yd:mg "tuple"= none
 j3Y:mg "zip"= none
 kC:mg "FEWEST_NAMES"= some (.ref t.JW)
 kN:TabK K t.JW [("row",.flat (.int 1)),("side",.flat (.int 2))]
 j0O:mg "FIGURES"= some t.ww
 j1t:RelV (.str "0123456789") t.ww
 wO:mg "FORMS"= some (.ref t.zM)
 w8:TabK K t.zM [("raise",.tup [.str "limb",.str "height",.str "beats"]),("hold",.tup [.str "beats"]),("ring",.tup [.str "word",.str "beats"]),("again",.tup [.str "times",.str "part"])]
 j0P:mg "LETTERS"= some t.wy
 j1u:RelV (.str "abcdefghijklmnopqrstuvwxyz") t.wy
 yT:mg "MOST_NAMES"= some (.ref t.qc)
 Zr:TabK K t.qc [("row",.flat (.int 8)),("side",.flat (.int 4))]
section
variable{P:Program}{w:World}{K:Frg}{mg:Str->Option Value}{base:Heap}{t:Ad}
theorem yB(T:Txt K mg t):FnOk P w K mg base CX0 1 t.Jd t.Jm ["self","row"] (sp_xi1 t.jC):=by
 refine T.yK.ok yH (fun vs H Q E h=>?_) (fun cdv A outer s H vs Q E hr h=>?_)
 ·cases h;subst_vars;rfl
 obtain⟨e,r,rfl,r0,r1,he,q⟩:=h;refine⟨_,(jf (jN (j2o PySem.F.excBase_ValueError T.WK (by rfl) T.Yk (jc (pv 0) (jc (j3v (Wv jr (Wv (j4y (pv 1)) (Wv jr j4C)))) je))))
  (jg (j3B (pv 0) (pv 1)))),?_⟩
 refine jD (σ':=[some _,some _]) rfl ?_;have sz:(200:Nat)<sizeLine:=by decide
 have tl:=zY r0 r1;unfold tI at tl;have e1:(Str.empty++Str.ofString "row ").length<=60:=by decide +kernel
 have e2:(Str.ofString " can't stand where it does").length<=60:=by decide +kernel
 exists j4F ?_;exists j3F (xN (by omega) (j2u (j4G ?_)));exists .inl ⟨r,rfl,Wc r0 r1,_,rfl,by rw[Str.length_append];omega,xN (by rw[Str.length_append,Str.length_append];omega) (j3E ⟨by rw[Str.length_append,Str.length_append];omega,?_⟩)⟩;exists⟨e,t.jC,none,_,rfl,he,T.Jy.F,T.Jy.ve,?_⟩;dsimp only;refine j4I ?_;exists⟨e,t.jC,rfl,T.Jy.F,T.Jw,.inl ⟨he,fun dx hd=>?_⟩⟩;have ne:dx≠e:=fun z=>by rw[z,he]at hd;cases hd
 exact q dx _ (fun b u nb h=>(jq (ji h hd)).trans ((jq nb).trans h)) hd ne ((jq (Ne.symm ne)).trans jn) jn
theorem KH(T:Txt K mg t):FnOk P w K mg base CX0 1 t.qC t.qF ["named"] (sp_numbers_of):=by
 refine T.Zi.ok QT (fun vs H Q E h=>?_) (fun cdv A outer s H vs Q E hr h=>?_)
 ·cases h;subst_vars;rfl
 obtain⟨l,as,xs,rfl,el,hl,ha,nd,h100,q⟩:=h;refine⟨_,(jf (jt (i:=1) QT.nd rfl (.inl rfl) Kh)
  (jf (JV PassesOwn.never rfl (j3w (by rfl) T.ZQ (jc (pv 0) je)) (yC rfl (JG (jF (i:=2) QT.nd rfl (.inl rfl)) (JG (jF (i:=3) QT.nd rfl (.inl rfl)) Zu)))
   (jg (Wz (JT hr) (pv 1) (jv Zq (pv 3) jd) (pv 2) rfl)))
  (jg (jz (pv 1))))),?_⟩
 refine jD (σ':=[some _,none,none,none]) rfl ?_;have sz:(200:Nat)<sizeLine:=by decide
 walk_at"g";walk_at"f d hd H1 s1 t1";exists⟨l,_,rfl,SqL.of (s1 _ _ el),?_⟩;refine j26 (xs:=as.map V.ref) (fun i σ H'=>∃o2 o3:Option V,σ=[some (.ref l),some (.ref d),o2,o3]/\Same H H'/\H' d=some (.dK (numK (xs.take i)))) ⟨_,_,rfl,s1,t1⟩ ?_ ?_ ?_
 ·rintro i σ H' _ ⟨o2,o3,rfl,sm,ed⟩;exact SqL.of (sm _ _ el)
 ·rintro i v σ H' P H'' hx ⟨o2,o3,rfl,sm,ed⟩ sP tP;rw[List.getElem?_map]at hx;obtain⟨a,ea,rfl⟩:=Option.map_eq_some_iff.mp hx;have hi:=(List.getElem?_eq_some_iff.mp ea).1;have ex:xs[i]?=some xs[i]:=List.getElem?_eq_getElem (by omega);obtain⟨r,er⟩:=ha i a _ ea ex;have s2:=sm.trans sP;have tl:(xs.take i).length=i:=by rw[length_take];omega
  refine Z3 (SqT.of tP) ?_;exists ixTm (SqT.of (s2 _ _ er)) rfl ?_;refine⟨d,_,rfl,DPut.k (k:=Sum.inr xs[i]) (sP _ _ ed) (by rw[j2l,tl];omega),?_⟩;have hk:(Sum.inr xs[i]:Key)∉(numK (xs.take i)).map (·.1):=fun z=>by
   rw[wf]at z;obtain⟨y,hy,e⟩:=mem_map.mp z;have e':y=xs[i]:=Sum.inr.inj e;subst e';obtain⟨j,hj,e⟩:=mem_iff_getElem.mp hy;rw[List.getElem_take]at e;rw[tl]at hj;exact absurd e (List.pairwise_iff_getElem.mp nd j i (by omega) (by omega) hj)
  refine⟨_,_,rfl,fun b u h=>(jq (ji h hd)).trans (s2 _ _ h),?_⟩;rw[jn,xL hk,take_snoc ex,j1k,tl]
 rintro σ' H' ⟨o2,o3,rfl,sm,ed⟩;rw[length_map,hl,take_length]at ed;walk_at"g";exact q d H' sm hd ed
theorem Wp(T:Txt K mg t):FnOk P w K mg base CX0 1 t.qX t.qY ["text","signs"] (Ws.ZD):=by
 refine T.ZJ.ok WC (fun vs H Q E h=>?_) (fun cdv A outer s H vs Q E hr h=>?_)
 ·obtain⟨x,z,rfl,hx,q⟩:=h;rfl
 obtain⟨x,z,rfl,hx,q⟩:=h;refine⟨_,(jg (jz (jx (YB rfl) (by rfl) T.j1J Xe (jc (za (ow:=["sign"]) (ci:=[1]) rfl (CompScope.of (defScope zK) ["text","signs"] rfl rfl (by decide +kernel)) (qS (by decide)) (X0 (pv 0)) (fun _ _ _ _ _=>⟨(jF (i:=0) (Qk ["text","signs"] rfl (by decide +kernel)) rfl (.inl rfl)),zR,(Yo j4u (pv 0) (pv 1) (by with_unfolding_all rfl))⟩)) je)))),?_⟩;refine jD (σ':=[some _,some _]) rfl ?_;have sz:(200:Nat)<sizeLine:=by decide
 have hlen:=Ws.QG x;have hsz:x.cps.size=x.length:=rfl;exists j1S (fun i ys H'=>ys=((x.cps.toList.take i).map fun c=>V.bl (decide (c∈z.cps.toList)))/\H=H') ⟨rfl,rfl⟩ ?_ ?_
 ·rintro i c ys H' hc ⟨rfl,rfl⟩;have hc':x.cps.toList[i]?=some c:=by rw[Array.getElem?_toList];exact hc
  refine QK (σ':=[none,some _]) rfl ?_;exists iteT ?_;exists⟨_,_,rfl,rfl,?_⟩;refine⟨by rw[length_map,length_take];omega,?_,rfl⟩;rw[take_add_one,hc',map_append];rfl
 ·rintro ys H' ⟨rfl,rfl⟩;have e:x.cps.toList.take x.cps.size=x.cps.toList:=take_of_length_le (by omega);rw[e];refine⟨by rw[length_map];omega,fun p hp=>?_⟩;exists⟨p,x.cps.toList.map fun c=>decide (c∈z.cps.toList),rfl,SqL.of (by rw[jn,map_map];rfl),?_⟩;have e2:(x.cps.toList.map fun c=>decide (c∈z.cps.toList)).all id=Ws.among x z:=by
   unfold Ws.among;rw[Bool.eq_iff_iff,all_eq_true,decide_eq_true_iff];constructor
   ·intro h c hc;exact of_decide_eq_true (h _ (mem_map.mpr ⟨c,hc,rfl⟩))
   ·intro h b hb;obtain⟨c,hc,rfl⟩:=mem_map.mp hb;exact decide_eq_true (h c hc)
  rw[e2];exact q _ (Pr.jE hp _)
theorem XL(T:Txt K mg t)(qW:FnOk P w K mg base CX0 1 t.qX t.qY ["text","signs"] (Ws.ZD)):FnOk P w K mg base CX0 2 t.QA t.QD ["text"] (Ws.qt):=by
 refine T.ya.ok X4 (fun vs H Q E h=>?_) (fun cdv A outer s H vs Q E hr h=>?_)
 ·obtain⟨x,rfl,hx,q⟩:=h;rfl
 obtain⟨x,rfl,hx,q⟩:=h;refine⟨_,(jg (jz (Kg (xH Q8 Q8 jd (jx jA (by rfl) T.j7 jP (jc (pv 0) je)) jd) (XX (ju (qW.mono (by decide)) hr (by rfl) T.kc T.ZJ.kp T.Y3 .nil pass0 (jc (pv 0) (jc (Jn (by rfl) T.j0P T.j1u) je))))))),?_⟩;refine jD (σ':=[some _]) rfl ?_;have sz:(200:Nat)<sizeLine:=by decide
 exists⟨_,_,rfl,⟨by omega,rfl⟩,?_⟩;exists iteD (fun c1=>?_) (fun c1=>?_)
 ·exists iteD (fun c2=>?_) (fun c2=>?_)
  ·exists⟨_,_,rfl,hx,fun H' g=>?_⟩;have e:Ws.isW x=Ws.among x Ws.lets:=by
    unfold Ws.isW;rw[decide_eq_true (show 1<=x.length/\x.length<=8 by omega),Bool.true_and]
   have q':=q H' g;rw[e]at q';exact q'
  ·have e:Ws.isW x=false:=by
    unfold Ws.isW;rw[decide_eq_false (show¬(1<=x.length/\x.length<=8) by omega),Bool.false_and]
   have q':=q H (Same.refl _);rw[e]at q';exact q'
 ·exists iteF ?_;have e:Ws.isW x=false:=by
   unfold Ws.isW;rw[decide_eq_false (show¬(1<=x.length/\x.length<=8) by omega),Bool.false_and]
  have q':=q H (Same.refl _);rw[e]at q';exact q'
theorem Wq(T:Txt K mg t)(qW:FnOk P w K mg base CX0 1 t.qX t.qY ["text","signs"] (Ws.ZD)):FnOk P w K mg base CX0 2 t.QY t.Q3 ["text","most"] (Ws.sp_number_of):=by
 refine T.Y8.ok WD (fun vs H Q E h=>?_) (fun cdv A outer s H vs Q E hr h=>?_)
 ·cases h;subst_vars;rfl
 obtain⟨x,m,rfl,hx,q⟩:=h;refine⟨_,(jf (jT (PW.pt (JP (Q7 (Ze Q8 Q8 jd (jx jA (by rfl) T.j7 jP (jc (pv 0) je)) (pv 1))) (qV (Q7 (QJ (ju (qW.mono (by decide)) hr (by rfl) T.kc T.ZJ.kp T.Y3 .nil pass0 (jc (pv 0) (jc (Jn (by rfl) T.j0O T.j1t) je))))))))
   (jg (jz jH))
   jy)
  (jf (jT (PW.pt (qk (jh jU (jv ZX (pv 0) jd) jr (nomark _)) (qT (jh kd (pv 0) jr (nomark _)))))
   (jg (jz jH))
   jy)
  (jg (jz (JC KW (by rfl) T.j09 wL (jc (pv 0) je)))))),?_⟩
 refine jD (σ':=[some _,some _]) rfl ?_;have sz:(200:Nat)<sizeLine:=by decide
 have no:∀H',Same H H'->¬((1<=x.length/\(x.length:Int)<=m)/\Ws.among x Ws.figs=true/\¬(x.cps.toList.head?=some 48/\x.length≠1))->Q .non H':=fun H' g h=>by
  have q':=q H' g;rw[Ws.Wi h]at q';exact q'
 exists⟨_,_,rfl,⟨by omega,rfl⟩,?_⟩;exists iteD (fun c1=>?_) (fun c1=>?_)
 ·exists iteN (fun c2=>?_) (fun c2=>?_)
  ·walk_at"g";exact no _ (Same.refl _) (fun h=>by omega)
  exists⟨_,_,rfl,hx,fun H' g=>?_⟩;walk_at"g";cases ha:Ws.among x Ws.figs with
  | false=>
   have ha':Ws.among x "0123456789"= false:=ha;rw[ha'];refine iteT ?_;walk_at"g";exact no _ g (fun h=>by rw[ha]at h;exact absurd h.2.1 Bool.false_ne_true)
  | true=>
   have ha':Ws.among x "0123456789"= true:=ha;rw[ha'];refine iteF ?_;walk_at"g";obtain⟨c,r,er,e0⟩:=Ws.j0s (x:=x) (by omega);have eh:x.cps.toList.head?=some c:=by rw[er];rfl
   refine⟨x,0,c,rfl,rfl,by omega,e0,?_⟩;walk_at"g";have last:¬(x.cps.toList.head?=some 48/\x.length≠1)->Q (.int (NumText.digitsVal x.cps.toList:Nat)) H':=fun h=>by
    have q':=q H' g;rw[Ws.xz ⟨by omega,ha,h⟩]at q';exact q'
   refine iteD (fun c3=>?_) (fun c3=>?_)
   ·have c48:=Ws.ku.mp c3;subst c48;exists iteN (fun c4=>?_) (fun c4=>?_)
    ·walk_at"g";exact no _ g (fun h=>h.2.2 ⟨eh,fun z=>c4 ((Ws.j0I eh).mpr z)⟩)
    ·walk_at"g";exact⟨_,_,rfl,Ws.intText ha (by omega) hx,by omega,last (fun h=>h.2 ((Ws.j0I eh).mp c4))⟩
   ·refine iteF ?_;walk_at"g";exact⟨_,_,rfl,Ws.intText ha (by omega) hx,by omega,last (fun h=>c3 (Ws.ku.mpr (by rw[eh]at h;exact Option.some.inj h.1)))⟩
 ·exists iteT ?_;walk_at"g";exact no _ (Same.refl _) (fun h=>by omega)
theorem XI(T:Txt K mg t)(ZO:FnOk P w K mg base CX0 2 t.QY t.Q3 ["text","most"] (Ws.sp_number_of)):FnOk P w K mg base CX0 3 t.zf t.zh ["text","least"] (sp_boundedT):=by
 refine T.Z9.ok Kk (fun vs H Q E h=>?_) (fun cdv A outer s H vs Q E hr h=>?_)
 ·cases h;subst_vars;rfl
 obtain⟨x,least,rfl,xl,q⟩:=h;refine⟨_,(jf (jt (i:=2) Kk.nd rfl (.inl rfl) (ju (ZO.mono (by decide)) hr (by rfl) T.xt T.Y8.kp T.WP .nil pass0 (jc (pv 0) (jc jd je))))
  (jf (jT (PW.pt (JP (jh Q5 (pv 2) jH (nomark _)) (qV (Q7 (Ze Q8 Q8 (pv 1) (pv 2) (jm Q6 jd jd))))))
   (jg (jz jH))
   jy)
  (jg (jz (pv 2))))),?_⟩
 refine jD (σ':=[some _,some _,none]) rfl ?_;exists⟨x,19,rfl,xl,fun H1 s1=>?_⟩;have q1:=q _ s1;unfold numW at q1;rcases Ws.j3o x 19 with e | ⟨n,e⟩
 ·rw[e]at q1|-;exists⟨rfl,_,rfl,?_⟩;refine iteB1 (decide_eq_true rfl) ?_;walk_at"g";exact q1
 ·rw[e]at q1|-;dsimp only at q1;exists⟨rfl,_,rfl,?_⟩;refine iteB0 (by simp) ?_;exists iteD (fun c1=>?_) (fun c1=>?_)
  ·exists iteN (fun c2=>?_) (fun c2=>?_)
   ·walk_at"g";rw[if_neg (fun z=>c2 z.2)]at q1;exact q1
   ·walk_at"g";rw[if_pos ⟨c1,c2⟩]at q1;exact q1
  ·walk_at"g";rw[if_neg (fun z=>c1 z.1)]at q1;exact q1
theorem xE(T:Txt K mg t)(qy:FnOk P w K mg base CX0 2 t.QA t.QD ["text"] (Ws.qt))(Qw:FnOk P w K mg base CX0 3 t.zf t.zh ["text","least"] (sp_boundedT)):FnOk P w K mg base CX0 4 t.zn t.zq ["wanted","text","limbs","parts"] (sp_value_ofT):=by
 refine T.kA.ok ke (fun vs H Q E h=>?_) (fun cdv A outer s H vs Q E hr h=>?_)
 ·cases h;subst_vars;rfl
 obtain⟨wanted,x,d1,d2,L,P,rfl,xl,e1,e2,hw,q⟩:=h;refine⟨_,(jf (jT (jh jU (pv 0) jr (nomark _))
   (jg (jz (ju (Qw.mono (by decide)) hr (by rfl) T.YQ T.Z9.kp T.Yv .nil pass0 (jc (pv 1) (jc jd je)))))
   jy)
  (jf (jT (jh qZ (pv 0) (Je (jc jr (jc jr je))) (by with_unfolding_all rfl))
   (jg (jz (ju (Qw.mono (by decide)) hr (by rfl) T.YQ T.Z9.kp T.Yv .nil pass0 (jc (pv 1) (jc jd je)))))
   jy)
  (jf (jT (jh jU (pv 0) jr (nomark _))
   (jg (jz (Z1 (QJ (ju (qy.mono (by decide)) hr (by rfl) T.YR T.ya.kp T.Yx .nil pass0 (jc (pv 1) je))) (pv 1) jH)))
   jy)
  (jf (jt (i:=4) ke.nd rfl (.inl rfl) (Z1 (jh jU (pv 0) jr (nomark _)) (pv 2) (pv 3)))
  (jg (jz (Z1 (j2s (XU (JT hr) (pv 1) (pv 4))) (pv 1) jH))))))),?_⟩
 refine jD (σ':=[some _,some _,some _,some _,none]) rfl ?_;have sz:(200:Nat)<sizeLine:=by decide
 have q1:=fun H' s=>q H' s
 unfold valW at q1;by_cases c1:wanted = "height"
 ·rw[if_pos c1]at q1;exists iteB1 (decide_eq_true c1) ?_;walk_at"g";exact⟨x,0,rfl,xl,fun H1 s1=>q1 _ s1⟩
 rw[if_neg c1]at q1;exists iteB0 (decide_eq_false c1) ?_;exists⟨(by show 2<=sizeLine;omega),?_⟩;walk_at"f p hp H1 s1 t1";refine⟨p,_,rfl,.inr (SqT.of t1),rfl,rfl,?_⟩;have iv:inV (.str wanted) [.str "beats",.str "times"]=decide (wanted = "beats"\/wanted = "times"):=by
  rcases hw with rfl | rfl | rfl | rfl | rfl | rfl<;>decide +kernel
 rw[iv];by_cases c2:wanted = "beats"\/wanted = "times"
 ·rw[if_pos c2]at q1;exists iteB1 (decide_eq_true c2) ?_;walk_at"g";exact⟨x,1,rfl,xl,fun H2 s2=>q1 _ (s1.trans s2)⟩
 rw[if_neg c2]at q1;exists iteB0 (decide_eq_false c2) ?_;walk_at"g";by_cases c3:wanted = "word"
 ·rw[if_pos c3]at q1;refine iteB1 (decide_eq_true c3) ?_;exists⟨x,rfl,xl,fun H2 s2=>?_⟩;have q2:=q1 _ (s1.trans s2);cases e:Ws.isW x with
  | true=>
   rw[e,if_pos rfl]at q2;exists iteT ?_;walk_at"g";exact q2
  | false=>
   rw[e,if_neg (by simp)]at q2;exists iteF ?_;walk_at"g";exact q2
 rw[if_neg c3]at q1;refine iteB0 (decide_eq_false c3) ?_;walk_at"g";by_cases c4:wanted = "limb"
 ·rw[if_pos c4]at q1;refine iteB1 (decide_eq_true c4) ?_;exists⟨d1,_,rfl,DGet.k (k:=Sum.inr x) (s1 _ _ e1),?_⟩;rw[j3n];walk_at"g";have q2:=q1 _ s1;refine iteD (fun d=>?_) (fun d=>?_)
  ·rw[if_pos d]at q2;walk_at"g";exact q2
  ·rw[if_neg d]at q2;walk_at"g";exact q2
 ·rw[if_neg c4]at q1;refine iteB0 (decide_eq_false c4) ?_;exists⟨d2,_,rfl,DGet.k (k:=Sum.inr x) (s1 _ _ e2),?_⟩;rw[WH];walk_at"g";have q2:=q1 _ s1;refine iteD (fun d=>?_) (fun d=>?_)
  ·rw[if_pos d]at q2;walk_at"g";exact q2
  ·rw[if_neg d]at q2;walk_at"g";exact q2
theorem KG(T:Txt K mg t):FnOk P w K mg base CX0 1 t.Qh t.Qp ["kind","words","parts"] (sp_names_formT):=by
 refine T.yP.ok KK (fun vs H Q E h=>?_) (fun cdv A outer s H vs Q E hr h=>?_)
 ·cases h;subst_vars;rfl
 obtain⟨kind,l,d,ws,P,rfl,hk,el,wl,ed,q⟩:=h;refine⟨_,(jf (jT (Q7 (Ze Q8 Q8 (jv j0v (Jn (v:=.ref t.JW) (by rfl) T.kC rfl) (pv 0)) (jx jA (by rfl) T.j7 jP (jc (pv 1) je)) (jv j0v (Jn (v:=.ref t.qc) (by rfl) T.yT rfl) (pv 0))))
   (jg (jz jH))
   jy)
  (jf (jT (Q7 (QJ (jx (YB rfl) (by rfl) T.j1J Xe (jc (za (ow:=["word"]) (ci:=[2]) rfl (CompScope.of (defScope ze) ["kind","words","parts"] rfl rfl (by decide +kernel)) (qS (by decide)) (J3 (pv 1)) (fun _ _ _ _ _=>⟨(jF (i:=0) (Qk ["kind","words","parts"] rfl (by decide +kernel)) rfl (.inl rfl)),zR,(j4x (XU (JT hr) (pv 0) (pv 1)))⟩)) je))))
   (jg (jz jH))
   jy)
  (jg (jz (Je (jc (pv 0) (jc (JC QO (by rfl) T.yd Za (jc (pv 1) je)) je))))))),?_⟩
 refine jD (σ':=[some _,some _,some _]) rfl ?_;have sz:(20000:Nat)<sizeLine:=by decide
 obtain⟨lo,hi,t1,t2,nf⟩:=j1i (ws:=ws) (P:=P) hk;rw[nf]at q;obtain⟨qn,qs⟩:=q;exists⟨_,kind,_,lo,rfl,rfl,T.kN,t1,?_⟩;exists⟨_,_,rfl,.inl ⟨_,SqL.of el,rfl⟩,?_⟩;rw[length_map];exists iteD (fun c1=>?_) (fun c1=>?_)
 rotate_left
 ·walk_at"g";exact qn (if_neg (fun z=>c1 z.1.1)) _ (Same.refl _)
 exists⟨_,kind,_,hi,rfl,rfl,T.Zr,t2,?_⟩;exists iteN (fun c2=>?_) (fun c2=>?_)
 ·walk_at"g";exact qn (if_neg (fun z=>c2 z.1.2)) _ (Same.refl _)
 exists⟨l,rfl,⟨_,SqL.of el⟩,?_⟩;refine JR (xs:=ws.map V.str) (fun i ys H'=>ys=((ws.take i).map fun w=>decide (w∈P)).map V.bl/\H=H') ⟨rfl,rfl⟩ ?_ ?_ ?_
 ·rintro i ys H' _ ⟨rfl,rfl⟩;exact SqL.of el
 ·rintro i v ys H' hv ⟨rfl,rfl⟩;rw[List.getElem?_map]at hv;obtain⟨x,hx,rfl⟩:=Option.map_eq_some_iff.mp hv;have hi:=(List.getElem?_eq_some_iff.mp hx).1;refine QK (σ':=[none,some _]) rfl ?_;exists iteT ?_;exists⟨d,_,rfl,DGet.k (k:=Sum.inr x) ed,?_⟩;rw[WH];refine⟨by rw[length_map,length_map,length_take];omega,?_,rfl⟩;rw[take_snoc hx,map_append,map_append];rfl
 rintro ys H' ⟨rfl,rfl⟩;rw[show(ws.map V.str).length=ws.length from length_map _,take_length];refine⟨by rw[length_map,length_map];omega,?_⟩;walk_at"f p hp H1 s1 e1";exists⟨p,_,rfl,SqL.of e1,?_⟩;have al:((ws.map fun w=>decide (w∈P)).all id=true)↔∀w∈ws,w∈P:=by
  rw[all_eq_true];constructor
  ·intro h w hw;exact of_decide_eq_true (h _ (mem_map.mpr ⟨w,hw,rfl⟩))
  ·intro h b hb;obtain⟨w,hw,rfl⟩:=mem_map.mp hb;exact decide_eq_true (h w hw)
 cases ea:(ws.map fun w=>decide (w∈P)).all id with
 | false=>
  exists iteT ?_;walk_at"g";exact qn (if_neg (fun z=>by rw[al.mpr z.2]at ea;cases ea)) _ s1
 | true=>
  exists iteF ?_;exists⟨l,_,rfl,.inl ⟨SqL.of (s1 _ _ el),?_⟩⟩;walk_at"f 2 e";exists⟨(by show 2<=sizeLine;omega),?_⟩;walk_at"f 3 e";refine qs _ (if_pos ⟨⟨c1,c2⟩,al.mp ea⟩) p3 H3 (s1.trans (s2.trans s3)) ?_;rcases hk with rfl | rfl
  ·exact⟨p2,e3,s3 _ _ e2⟩
  ·exact⟨p2,e3,s3 _ _ e2⟩
theorem XJ(T:Txt K mg t)(yz:FnOk P w K mg base CX0 4 t.zn t.zq ["wanted","text","limbs","parts"] (sp_value_ofT))(Zo:FnOk P w K mg base CX0 1 t.Qh t.Qp ["kind","words","parts"] (sp_names_formT)):FnOk P w K mg base CX0 5 t.zZ t.Zb ["kind","words","limbs","parts"] (sp_form_ofT):=by
 refine T.KO.ok Kl (fun vs H Q E h=>?_) (fun cdv A outer s H vs Q E hr h=>?_)
 ·cases h;subst_vars;rfl
 obtain⟨kind,l,d1,d2,ws,L,P,rfl,el,wl,wc,e1,e2,qn,qs⟩:=h;refine⟨_,(jf (jT (jh j4v (pv 0) (Jn (v:=.ref t.qc) (by rfl) T.yT rfl) (by with_unfolding_all rfl))
   (jg (jz (ju (Zo.mono (by decide)) hr (by rfl) T.Wh T.yP.kp T.wF .nil pass0 (jc (pv 0) (jc (pv 1) (jc (pv 3) je))))))
   jy)
  (jf (jT (PW.pt (JP (jh j1o (pv 0) (Jn (v:=.ref t.zM) (by rfl) T.wO rfl) (by with_unfolding_all rfl)) (qV (jh kd (jx jA (by rfl) T.j7 jP (jc (pv 1) je)) (jx jA (by rfl) T.j7 jP (jc (jv j0w (Jn (v:=.ref t.zM) (by rfl) T.wO rfl) (pv 0)) je)) (nomark _)))))
   (jg (jz jH))
   jy)
  (jf (kr (i:=4) (ow:=["wanted","word"]) (ci:=[2,3]) rfl (CompScope.of (defScope yl) ["kind","words","limbs","parts","values"] rfl rfl (by decide +kernel)) (j38 (by decide) (by decide)) Kl.nd rfl (.inl rfl) (j3x (by rfl) T.j3Y (jc (jv j0w (Jn (v:=.ref t.zM) (by rfl) T.wO rfl) (pv 0)) (jc (pv 1) je))) (fun _ _ _ _ _=>⟨(yC rfl (JG (jF (i:=0) (Qk ["kind","words","limbs","parts","values"] rfl (by decide +kernel)) rfl (.inl rfl)) (JG (jF (i:=1) (Qk ["kind","words","limbs","parts","values"] rfl (by decide +kernel)) rfl (.inl rfl)) Zu))),zR,(ju (yz.mono (by decide)) hr (by rfl) T.Xy T.kA.kp T.x9 .nil pass0 (jc (pv 0) (jc (pv 1) (jc (pv 2) (jc (pv 3) je)))))⟩))
  (jg (jz (Z1 (jh qZ jH (pv 4) (by with_unfolding_all rfl)) jH (jm j3t (Je (jc (pv 0) je)) (JC QO (by rfl) T.yd Za (jc (pv 4) je))))))))),?_⟩
 refine jD (σ':=[some _,some _,some _,some _,none]) rfl ?_;have sz:(20000:Nat)<sizeLine:=by decide
 by_cases hrs:kind = "row"\/kind = "side"
 ·have hk:PyProof.Rows.KTD.inKeys kind MN=true:=by
   rcases hrs with rfl | rfl<;>decide +kernel
  have ef:formW kind ws L P=namsW kind ws P:=if_pos hrs;rw[ef]at qn qs;exists⟨_,_,_,rfl,rfl,T.Zr,?_⟩;exists iteB1 hk ?_;walk_at"g";exact⟨kind,l,d2,ws,P,rfl,hrs,el,wl,e2,qn,qs⟩
 obtain⟨hk,O⟩:=j12 (ws:=ws) (L:=L) (P:=P) hrs;exists⟨_,_,_,rfl,rfl,T.Zr,?_⟩;exists iteB0 hk ?_;exists⟨_,_,_,rfl,rfl,T.w8,?_⟩;walk_at"g";rcases O with⟨hk2,fn⟩ | ⟨wants,O⟩
 ·refine iteB1 (by show(!PyProof.Rows.KTD.inKeys kind FT)=true;rw[hk2];rfl) ?_;walk_at"g";exact qn fn _ (Same.refl _)
 have l3:=O.n;refine iteB0 (by show(!PyProof.Rows.KTD.inKeys kind FT)=false;rw[O.k];rfl) ?_;exists⟨_,_,rfl,.inl ⟨_,SqL.of el,rfl⟩,?_⟩;exists⟨_,kind,_,wants,rfl,rfl,T.w8,O.d,by omega,fun b hb=>?_⟩;exists⟨_,_,rfl,.inr ⟨_,hb _,rfl⟩,?_⟩;rw[length_map,length_map];exists iteN (fun z=>?_) (fun la=>?_)
 ·walk_at"g";exact qn (O.o (fun z'=>z (by omega))) _ (Same.refl _)
 have la:ws.length=wants.length:=by omega
 obtain⟨vn,vs⟩:=O.v la;exists⟨_,kind,_,wants,rfl,rfl,T.w8,O.d,by omega,fun b hb=>?_⟩;exists⟨b,l,_,_,rfl,hb _,SqL.of el,?_⟩;have rl:((wants.zip ws).map fun p=>valW p.1 p.2 L P).length=wants.length:=by rw[length_map,List.length_zip];omega
 generalize er:((wants.zip ws).map fun p=>valW p.1 p.2 L P)=rs at vn vs rl;have rat:∀i a w,wants[i]?=some a->ws[i]?=some w->rs[i]?=some (valW a w L P):=fun i a w ha hw=>by
  rw[<-er,List.getElem?_map,(List.getElem?_zip_eq_some (z:=(a,w))).mpr ⟨ha,hw⟩];rfl
 have fl:rs.all flatV=true:=by
  rw[all_eq_true];intro x hx;rw[<-er]at hx;obtain⟨p,_,rfl⟩:=mem_map.mp hx;exact j2K
 refine j0V (xs:=wants.map V.str) (zs:=ws.map V.str) (fun i ys H'=>ys=rs.take i/\Same H H') (by rw[length_map,length_map];omega) ⟨rfl,Same.refl _⟩ ?_ ?_ ?_
 ·rintro i ys H' _ ⟨rfl,s1⟩;exact⟨hb _,SqL.of (s1 _ _ el)⟩
 ·rintro i u v ys H' P' H'' hu hv ⟨rfl,s1⟩ s2 tP;rw[List.getElem?_map]at hu hv;obtain⟨a,ha,rfl⟩:=Option.map_eq_some_iff.mp hu;obtain⟨w,hw,rfl⟩:=Option.map_eq_some_iff.mp hv;have hr':=rat i a w ha hw;have hi:=(List.getElem?_eq_some_iff.mp hr').1;have s12:=s1.trans s2;refine QK (σ':=[none,none,some _,some _]) rfl ?_;refine Z3 (SqT.of tP) ?_;exists iteT ?_;exists⟨a,w,d1,d2,L,P,rfl,wc w (mem_of_getElem? hw),s12 _ _ e1,s12 _ _ e2,O.w a (mem_of_getElem? ha),fun H3 s3=>?_⟩;exact⟨by rw[length_take];omega,(take_snoc hr').symm,s12.trans s3⟩
 rintro ys H1 ⟨rfl,s1⟩;rw[length_map,show wants.length=rs.length by omega,take_length];refine⟨by omega,?_⟩;walk_at"f p hp H2 s2 t2";exists⟨p,_,rfl,.inl (SqL.of t2),rfl,fl,?_⟩;walk_at"g";cases ei:inV .non rs with
 | true=>
  refine iteB1 rfl ?_;walk_at"g";exact qn (vn ei) _ (s1.trans s2)
 | false=>
  refine iteB0 rfl ?_;exists⟨(by show 1<=sizeLine;omega),?_⟩;walk_at"f 3 t";exists⟨p,_,rfl,.inl ⟨SqL.of (s3 _ _ t2),?_⟩⟩;walk_at"f 4 t";exists⟨p3,p4,_,_,rfl,rfl,SqT.of (s4 _ _ t3),SqT.of t4,by simp,by show 1+rs.length<=sizeLine;omega,fun z=>absurd z (fun z=>by rw[z]at rl;simp at rl;omega),fun _=>?_⟩;walk_at"f 5 t";obtain⟨f,ef,at'⟩:=vs ei;exact qs f ef p5 H5 (s1.trans (s2.trans (s3.trans (s4.trans s5)))) (at' _ _ t5)
theorem XM(T:Txt K mg t)(qy:FnOk P w K mg base CX0 2 t.QA t.QD ["text"] (Ws.qt))(Yz:FnOk P w K mg base CX0 5 t.zZ t.Zb ["kind","words","limbs","parts"] (sp_form_ofT)):FnOk P w K mg base CX0 6 t.zg t.zi ["words","limbs","parts"] (sp_part_ofT):=by
 refine T.yb.ok Km (fun vs H Q E h=>?_) (fun cdv A outer s H vs Q E hr h=>?_)
 ·cases h;subst_vars;rfl
 obtain⟨l,d1,d2,ws,L,P,rfl,el,wl,wc,e1,e2,qn,qs⟩:=h;refine⟨_,(jf (jT (PW.pt (JP (jh Ym (jx jA (by rfl) T.j7 jP (jc (pv 0) je)) jd (nomark _)) (JP (jh kd (jv jj (pv 0) jd) jr (nomark _)) (JP (Q7 (QJ (ju (qy.mono (by decide)) hr (by rfl) T.YR T.ya.kp T.Yx .nil pass0 (jc (jv jj (pv 0) jd) je)))) (qV (j2s (XU (JT hr) (jv jj (pv 0) jd) (pv 2))))))))
   (jg (jz jH))
   jy)
  (jf (jt (i:=3) Km.nd rfl (.inl rfl) (ju (Yz.mono (by decide)) hr (by rfl) T.j1a T.KO.kp T.j0J .nil pass0 (jc (jv jj (pv 0) jd) (jc (jO Jg (pv 0) (jM jd) j6) (jc (pv 1) (jc (pv 2) je))))))
  (jg (jz (Z1 (jh Q5 (pv 3) jH (nomark _)) jH (Je (jc (jv jj (pv 0) jd) (jc (pv 3) je)))))))),?_⟩
 refine jD (σ':=[some _,some _,some _,none]) rfl ?_;have sz:(20000:Nat)<sizeLine:=by decide
 exists⟨_,_,rfl,.inl ⟨_,SqL.of el,rfl⟩,?_⟩;rw[length_map];exists iteD (fun c=>?_) (fun c=>?_)
 ·walk_at"g";exact qn (XR (by omega)) _ (Same.refl _)
 obtain⟨k,x,kind,r,rfl⟩:∃k x kind r,ws=k::x::kind::r:=three (by omega);have pw:partW (k::x::kind::r) L P=if k = "part"/\Ws.isW x=true/\x∉P then(formW kind r L P).map fun f=>(x,f)else none:=rfl
 rw[pw]at qn qs;exists ixLm (SqL.of el) (jB (j:=0) rfl) ?_;walk_at"g";by_cases ck:k = "part"
 rotate_left
 ·refine iteB1 (by show(!decide _)=true;rw[decide_eq_false ck];rfl) ?_;walk_at"g";exact qn (if_neg (fun z=>ck z.1)) _ (Same.refl _)
 refine iteB0 (by show(!decide _)=false;rw[decide_eq_true ck];rfl) ?_;exists ixLm (SqL.of el) (jB (j:=1) rfl) ?_;exists⟨x,rfl,wc x (by simp),fun H1 s1=>?_⟩;cases wx:Ws.isW x with
 | false=>
  exists iteT ?_;walk_at"g";exact qn (if_neg (fun z=>by rw[wx]at z;cases z.2.1)) _ s1
 | true=>
  exists iteF ?_;exists ixLm (SqL.of (s1 _ _ el)) (jB (j:=1) rfl) ?_;exists⟨d2,_,rfl,DGet.k (k:=Sum.inr x) (s1 _ _ e2),?_⟩;rw[WH];exists iteD (fun d=>?_) (fun nx=>?_)
  ·walk_at"g";exact qn (if_neg (fun z=>z.2.2 d)) _ s1
  rw[if_pos ⟨ck,wx,nx⟩]at qn qs;exists ixLm (SqL.of (s1 _ _ el)) (jB (j:=2) rfl) ?_;exists⟨l,_,rfl,SqL.of (s1 _ _ el),?_⟩;walk_at"f 2 t";walk_at"g";have s12:=s1.trans s2;have cut:cutV ((k::x::kind::r).map V.str) (some 3) none=r.map V.str:=by
   unfold cutV;simp[HT.sIx];exact take_of_length_le (by simp)
  rw[cut]at t2;refine⟨kind,p2,d1,d2,r,L,P,rfl,t2,by simp at wl;omega,fun w hw=>wc w (by simp[hw]),s12 _ _ e1,s12 _ _ e2,fun en H3 s3=>?_,fun f ef p3 H3 s3 h3=>?_⟩
  ·exists⟨rfl,_,rfl,?_⟩;refine iteB1 (decide_eq_true rfl) ?_;walk_at"g";exact qn (by rw[en];rfl) _ (s12.trans s3)
  ·have s13:=s12.trans s3;exists⟨rfl,_,rfl,?_⟩;refine iteB0 (by simp) ?_;exists ixLm (SqL.of (s13 _ _ el)) (jB (j:=1) rfl) ?_;exists⟨(by show 2<=sizeLine;omega),?_⟩;walk_at"f 4 t";exact qs (x,f) (by rw[ef];rfl) p4 H4 (s13.trans s4) ⟨p3,t4,FormAt.same s4 h3⟩
theorem xD(T:Txt K mg t)(qy:FnOk P w K mg base CX0 2 t.QA t.QD ["text"] (Ws.qt))(Qw:FnOk P w K mg base CX0 3 t.zf t.zh ["text","least"] (sp_boundedT)):FnOk P w K mg base CX0 4 t.QB t.QE ["words"] (sp_limbs_ofT):=by
 refine T.yy.ok Z7 (fun vs H Q E h=>?_) (fun cdv A outer s H vs Q E hr h=>?_)
 ·cases h;subst_vars;rfl
 obtain⟨l,ws,rfl,el,wn,wl,wc,qn,qs⟩:=h;refine⟨_,(jf (jt (i:=1) Z7.nd rfl (.inl rfl) (xI (pv 0) (jM jd) (jM jd)))
  (jf (kr (i:=2) (ow:=["word"]) (ci:=[]) rfl (CompScope.of (defScope zC) ["words","names","heights"] rfl rfl (by decide +kernel)) (qS (by decide)) Z7.nd rfl (.inl rfl) (J3 (xI (pv 0) (jM jd) (jM jd))) (fun _ _ _ _ _=>⟨(jF (i:=0) (Qk ["words","names","heights"] rfl (by decide +kernel)) rfl (.inl rfl)),zR,(ju (Qw.mono (by decide)) hr (by rfl) T.YQ T.Z9.kp T.Yv .nil pass0 (jc (pv 0) (jc jd je)))⟩))
  (jf (jT (PW.pt (JP (jh kd (jv jj (pv 0) jd) jr (nomark _)) (JP (Q7 (Ze Q8 Q8 jd (jx jA (by rfl) T.j7 jP (jc (pv 1) je)) jd)) (JP (jh kd (jx jA (by rfl) T.j7 jP (jc (pv 2) je)) (jx jA (by rfl) T.j7 jP (jc (pv 1) je)) (nomark _)) (qV (jh qZ jH (pv 2) (by with_unfolding_all rfl)))))))
   (jg (jz jH))
   jy)
  (jf (jT (PW.pt (JP (Q7 (QJ (jx (YB rfl) (by rfl) T.j1J Xe (jc (za (ow:=["name"]) (ci:=[]) rfl (CompScope.of (defScope zC) ["words","names","heights"] rfl rfl (by decide +kernel)) (qS (by decide)) (J3 (pv 1)) (fun _ _ _ _ _=>⟨(jF (i:=0) (Qk ["words","names","heights"] rfl (by decide +kernel)) rfl (.inl rfl)),zR,(ju (qy.mono (by decide)) hr (by rfl) T.YR T.ya.kp T.Yx .nil pass0 (jc (pv 0) je))⟩)) je)))) (qV (jh kd (XV rfl (by rfl) T.j7 (by rfl) T.j4V (pv 1)) (jx jA (by rfl) T.j7 jP (jc (pv 1) je)) (nomark _)))))
   (jg (jz jH))
   jy)
  (jg (jz (XW rfl (by rfl) T.Xd (by rfl) T.j3Y (jc (pv 1) (jc (pv 2) je))))))))),?_⟩
 refine jD (σ':=[some _,none,none]) rfl ?_;have sz:(20000:Nat)<sizeLine:=by decide
 obtain⟨k,r,rfl⟩:∃k r,ws=k::r:=by
  cases ws with
  | nil=>exact absurd rfl wn
  | cons k r=>exact⟨k,r,rfl⟩
 rw[length_cons]at wl;exists xO ?_;exists⟨rfl,l,_,1,rfl,rfl,SqL.of el,?_⟩;walk_at"f 1 t";have c1:ev (((k::r).map V.str).drop 1)=(ev r).map V.str:=Xo _ r;have c2:ev (((k::r).map V.str).drop 2)=(ev (r.drop 1)).map V.str:=by
  rw[<-Xo,map_drop];rfl
 rw[c1]at t1;exists xO ?_;exists⟨rfl,l,_,2,rfl,rfl,SqL.of (s1 _ _ el),?_⟩;walk_at"f 2 t";rw[c2]at t2;have s12:=s1.trans s2;have n1:(ev r).length<=5000:=Nat.le_trans (wW r) (by omega);have n2:(ev (r.drop 1)).length<=5000:=Nat.le_trans (wW _) (by rw[length_drop];omega);have m1:∀x∈ev r,x.length<=200:=fun x hx=>wc x (mem_cons_of_mem _ (Xp hx))
 have m2:∀x∈ev (r.drop 1),x.length<=200:=fun x hx=>wc x (mem_cons_of_mem _ (mem_of_mem_drop (Xp hx)))
 have A1:=@Xv k r;have A2:=@j18 k r;have A3:=@Xw k r;generalize ev r=ns at *;generalize ev (r.drop 1)=hs at *;exists⟨p2,rfl,⟨_,SqL.of t2⟩,?_⟩;refine JR (xs:=hs.map V.str) (fun i ys H'=>ys=(hs.take i).map (fun h=>oI (numW h 0))/\Same H2 H') ⟨rfl,Same.refl _⟩ ?_ ?_ ?_
 ·rintro i ys H' _ ⟨rfl,s3⟩;exact SqL.of (s3 _ _ t2)
 ·rintro i v ys H' hv ⟨rfl,s3⟩;rw[List.getElem?_map]at hv;obtain⟨x,hx,rfl⟩:=Option.map_eq_some_iff.mp hv;have hi:=(List.getElem?_eq_some_iff.mp hx).1;refine QK (σ':=[none]) rfl ?_;exists iteT ?_;exists⟨x,0,rfl,m2 x (mem_of_getElem? hx),fun H4 s4=>?_⟩;refine⟨by rw[length_map,length_take];omega,?_,s3.trans s4⟩;rw[take_snoc hx,map_append];rfl
 rintro ys H3 ⟨rfl,s3⟩;rw[show(hs.map V.str).length=hs.length from length_map _,take_length];refine⟨by rw[length_map];omega,?_⟩;walk_at"f 4 t";have s34:=s3.trans s4;have s04:=s12.trans s34;have e1:=s34 _ _ (s2 _ _ t1);exists ixLm (SqL.of (s04 _ _ el)) (jB (j:=0) rfl) ?_;walk_at"g";by_cases ck:k = "limbs"
 rotate_left
 ·refine iteB1 (by show(!decide _)=true;rw[decide_eq_false ck];rfl) ?_;walk_at"g";exact qn (A2 fun z=>ck z.1) _ s04
 refine iteB0 (by show(!decide _)=false;rw[decide_eq_true ck];rfl) ?_;exists⟨_,_,rfl,.inl ⟨_,SqL.of e1,rfl⟩,?_⟩;rw[length_map];exists iteD (fun d1=>?_) (fun c=>?_)
 rotate_left
 ·walk_at"g";exact qn (A2 fun z=>c (by have:=z.2.1.1;omega)) _ s04
 exists iteN (fun c=>?_) (fun d2=>?_)
 ·walk_at"g";exact qn (A2 fun z=>c (by have:=z.2.1.2;omega)) _ s04
 exists⟨_,_,rfl,.inl ⟨_,SqL.of t4,rfl⟩,?_⟩;exists⟨_,_,rfl,.inl ⟨_,SqL.of e1,rfl⟩,?_⟩;rw[length_map,length_map];exists iteN (fun c=>?_) (fun d3=>?_)
 ·walk_at"g";exact qn (A1 fun z=>c (by rw[z.1])) _ s04
 have d3:hs.length=ns.length:=by omega
 exists⟨p4,_,rfl,.inl (SqL.of t4),rfl,?_,?_⟩
 ·rw[all_eq_true];intro x hx;obtain⟨i,_,rfl⟩:=mem_map.mp hx;exact Wj _
 walk_at"g";cases ei:inV .non (hs.map fun h=>oI (numW h 0))with
 | true=>
  refine iteB1 rfl ?_;walk_at"g";exact qn (A1 fun z=>j51 ei z.2.1) _ s04
 | false=>
  have d4:=j4s ei;refine iteB0 rfl ?_;exists⟨p1,rfl,⟨_,SqL.of e1⟩,?_⟩;refine JR (xs:=ns.map V.str) (fun i ys H'=>ys=((ns.take i).map Ws.isW).map V.bl/\Same H4 H') ⟨rfl,Same.refl _⟩ ?_ ?_ ?_
  ·rintro i ys H' _ ⟨rfl,s5⟩;exact SqL.of (s5 _ _ e1)
  ·rintro i v ys H' hv ⟨rfl,s5⟩;rw[List.getElem?_map]at hv;obtain⟨x,hx,rfl⟩:=Option.map_eq_some_iff.mp hv;have hi:=(List.getElem?_eq_some_iff.mp hx).1;refine QK (σ':=[none]) rfl ?_;exists iteT ?_;exists⟨x,rfl,m1 x (mem_of_getElem? hx),fun H6 s6=>?_⟩;refine⟨by rw[length_map,length_map,length_take];omega,?_,s5.trans s6⟩;rw[take_snoc hx,map_append,map_append];rfl
  rintro ys H5 ⟨rfl,s5⟩;rw[show(ns.map V.str).length=ns.length from length_map _,take_length];refine⟨by rw[length_map,length_map];omega,?_⟩;walk_at"f 6 t";have s46:=s5.trans s6;exists⟨p6,_,rfl,SqL.of t6,?_⟩;cases ea:(ns.map Ws.isW).all id with
  | false=>
   exists iteT ?_;exists qn (A1 fun z=>?_) _ (s04.trans s46);rw[show(ns.map Ws.isW).all id=true by rw[List.all_map,all_eq_true];exact z.2.2]at ea;cases ea
  | true=>
   have d5:∀x∈ns,Ws.isW x=true:=by
    rw[List.all_map,all_eq_true]at ea;exact ea
   exists iteF ?_;exists j4H ?_;exists⟨p1,ns,rfl,SqL.of (s46 _ _ e1),by omega,fun m hm=>?_⟩;have hm2:m=ns.length↔ns.Nodup:=by
    have:=hm.2;rw[take_length]at this;exact this
   exists⟨_,_,rfl,.inl ⟨_,SqL.of (s46 _ _ e1),rfl⟩,?_⟩;rw[length_map];exists iteN (fun c=>?_) (fun d6=>?_)
   ·walk_at"g";exact qn (A2 fun z=>c (by rw[hm2.mpr z.2.2])) _ (s04.trans s46)
   have nd:ns.Nodup:=hm2.mp (by omega);obtain⟨ls,E1,E2,E3⟩:=A3 ⟨ck,⟨by omega,by omega⟩,nd⟩ ⟨d3,d4,d5⟩;have ll:ls.length=ns.length:=by rw[<-E2,length_map]
   exists⟨p1,p4,_,_,rfl,SqL.of (s46 _ _ e1),SqL.of (s46 _ _ t4),by rw[length_map,length_map];omega,fun c as H7 s7 hc tc la pr=>?_⟩;rw[length_map]at la;refine qs ls E1 c as H7 (s04.trans (s46.trans s7)) (none_of (s04.trans s46) hc) tc ⟨by omega,fun i a x ha hx=>?_⟩;have xh:(hs.map fun h=>oI (numW h 0))[i]?=some (.int x.2):=by
    have:(hs.map fun h=>oI (numW h 0))=ls.map fun p=>V.int p.2:=by
     rw[show(hs.map fun h=>oI (numW h 0))=(hs.map fun h=>numW h 0).map oI by rw[map_map];rfl,E3,map_map];rfl
    rw[this,List.getElem?_map,hx];rfl
   exact pr i a _ _ ha (by rw[<-E2,List.getElem?_map,List.getElem?_map,hx];rfl) xh
theorem j2n(T:Txt K mg t)(Jb:FnOk P w K mg base CX0 1 t.Jd t.Jm ["self","row"] (sp_xi1 t.jC))(qz:FnOk P w K mg base CX0 1 t.qC t.qF ["named"] (sp_numbers_of))(Qy:FnOk P w K mg base CX0 6 t.zg t.zi ["words","limbs","parts"] (sp_part_ofT))(Qx:FnOk P w K mg base CX0 4 t.QB t.QE ["words"] (sp_limbs_ofT)):FnOk P w K mg base (CX1 P w) 7 t.ZP t.ZS ["text"] (xT t.jC):=by
 refine T.wG.okR Jr (fun vs H Q E h=>?_) (fun cdv A outer s H vs Q E hr h=>?_)
 ·obtain⟨rows,k,rfl,R,X,x⟩:=h;rfl
 obtain⟨rows,k,rfl,R,X,x⟩:=h;refine⟨_,(zw (jt (i:=1) Jr.nd rfl (.inl rfl) (j8 PySem.F.plainAttrs_str PySem.F.slot_str_split PySem.F.type_str_split Jx (pv 0) (jc jr je)))
  (zw (jt (i:=2) Jr.nd rfl (.inl rfl) (ju (Qx.mono (by decide)) hr (by rfl) T.kR T.yy.kp T.kz .nil pass0 (jc (j8 PySem.F.plainAttrs_str PySem.F.slot_str_split PySem.F.type_str_split Jx (jv jj (pv 1) jd) (jc jr je)) je)))
  (j2C (j2B (jh Q5 (pv 2) jH (nomark _))
   (zx (YW PySem.F.excBase_ValueError ⟨rfl,rfl,rfl,rfl⟩ T.Jy (by rfl) T.yh (Jb.mono (by decide)) hr T.Qa pass0 (jc jd je)))
   YX)
  (Jp (jh Q5 (pv 2) jH (nomark _))
   (jg Zd)
   jy)
  (j2C (j2B (jh jU (jx jA (by rfl) T.j7 jP (jc (pv 1) je)) jd (nomark _))
   (zx (YW PySem.F.excBase_ValueError ⟨rfl,rfl,rfl,rfl⟩ T.Jy (by rfl) T.yh (Jb.mono (by decide)) hr T.Qa pass0 (jc jd je)))
   YX)
  (Jp (jh jU (jx jA (by rfl) T.j7 jP (jc (pv 1) je)) jd (nomark _))
   (jg Zd)
   jy)
  (zw (jt (i:=3) Jr.nd rfl (.inl rfl) (ju (qz.mono (by decide)) hr (by rfl) T.Yj T.Zi.kp T.yJ .nil pass0 (jc (pv 2) je)))
  (zw (jt (i:=4) Jr.nd rfl (.inl rfl) Kh)
  (zw (jt (i:=5) Jr.nd rfl (.inl rfl) (jZ je))
  (zx (j3M ⟨rfl,rfl,rfl,rfl⟩ (xJ (by rfl) T.ZQ (jc (jO Jg (pv 1) (jM jd) j6) je) jd) (yC rfl (JG (jF (i:=6) Jr.nd rfl (.inl rfl)) (JG (jF (i:=7) Jr.nd rfl (.inl rfl)) Zu)))
   (jf (jt (i:=8) Jr.nd rfl (.inl rfl) (ju (Qy.mono (by decide)) hr (by rfl) T.YS T.yb.kp T.Yy .nil pass0 (jc (j8 PySem.F.plainAttrs_str PySem.F.slot_str_split PySem.F.type_str_split Jx (pv 7) (jc jr je)) (jc (pv 3) (jc (pv 4) je)))))
   (jf (jT (PW.pt (JP (jh Q5 (pv 8) jH (nomark _)) (qV (jh Z0 (pv 6) jd (nomark _)))))
    (jg Zd)
    jy)
   (jf (Wz (JT hr) (pv 4) (jv Zq (pv 8) jd) xG rfl)
   (jg (jN (j8 PySem.F.plainAttrs_list PySem.F.slot_list_append PySem.F.type_list_append jQ (pv 5) (jc (pv 8) je)))))))
   (zw (jt (i:=8) Jr.nd rfl (.inl rfl) (ju (Qy.mono (by decide)) hr (by rfl) T.YS T.yb.kp T.Yy .nil pass0 (jc (j8 PySem.F.plainAttrs_str PySem.F.slot_str_split PySem.F.type_str_split Jx (pv 7) (jc jr je)) (jc (pv 3) (jc (pv 4) je)))))
   (zx (j2B (PW.pt (JP (jh Q5 (pv 8) jH (nomark _)) (qV (jh Z0 (pv 6) jd (nomark _)))))
    (zx (YW PySem.F.excBase_ValueError ⟨rfl,rfl,rfl,rfl⟩ T.Jy (by rfl) T.yh (Jb.mono (by decide)) hr T.Qa pass0 (jc (pv 6) je)))
    YX)))))))))))),?_⟩
 refine wj (σ':=[some _,none,none,none,none,none,none,none,none]) rfl ?_;have sz:(100000:Nat)<sizeLine:=by decide
 have nlE:(Str.ofString "\n")=⟨#[10]⟩:=by decide +kernel
 have blE:(Str.ofString " ")=⟨#[32]⟩:=by decide +kernel
 have n1:=R.n1;have n2:=R.n2;obtain⟨x1,x2,x3,x4,x5,x6⟩:=Kj R;refine zI ?_;exists⟨rfl,?_⟩;exists⟨_,10,_,rfl,by rw[nlE],by decide,x1,x2,x3,x4,x5,?_⟩;rw[x6];walk_at"f r1 hr1 H1 s1 t1";walk_at"g";dsimp only;obtain⟨z1,z2⟩:=j2y n1;refine zI ?_;exists ixLm (SqL.of t1) (jB (j:=0) z1) ?_;exists⟨rfl,?_⟩;walk_at"g";obtain⟨y1,y2,y3,y4,y5,y6,y7⟩:=qH (R.r _ z2);refine⟨_,32,_,rfl,by rw[blE],by decide,y1,y2,y3,y4,y5,?_⟩;walk_at"f r2 hr2 H2 s2 t2";have s12:=s1.trans s2;exists⟨r2,_,rfl,t2,y7,y6,(R.r _ z2).1,fun z H3 s3=>?_,fun ls el pl las H3 s3 hpl t3 la=>?_⟩
 ·have k0:k=0:=by
   rcases X with⟨e,_⟩ | ⟨_,_,ls,e⟩ | ⟨_,_,ls,_,e,_⟩
   ·exact e
   ·cases z.symm.trans e
   ·cases z.symm.trans e
  subst k0;walk_at"g";dsimp only;refine .inl ?_;refine WA ?_;exists⟨rfl,_,rfl,?_⟩;refine iteB1 (decide_eq_true rfl) ?_;refine yk ?_;walk_at"g";intro e he;exact⟨e,0,rfl,by omega,by omega,jn,x.of (s12.trans s3) he⟩
 obtain⟨lb,lnd⟩:=Yh el;have s13:=s12.trans s3;have e1:=s3 _ _ (s2 _ _ t1);walk_at"g";dsimp only;refine .inr (zI ?_);exists⟨fun σ' H'=>σ'=[some (.str (Txt.join "\n" rows)),some (.ref r1),some (.ref pl),none,none,none,none,none,none]/\H3=H',?_,?_⟩
 rotate_left
 ·exists⟨rfl,_,rfl,?_⟩;refine iteB0 (by simp) ?_;walk_at"g";exact⟨rfl,rfl⟩
 rintro σ' H0 ⟨rfl,rfl⟩;dsimp only;rcases X with⟨_,e⟩ | ⟨rfl,r1',_⟩ | ⟨k1,kl,ls',ps,el',pl',D,bad⟩
 ·cases el.symm.trans e
 ·refine .inl ?_;refine WA ?_;exists⟨_,_,rfl,.inl ⟨_,SqL.of e1,rfl⟩,?_⟩;rw[length_map];exists iteD (fun c=>?_) (fun c=>absurd (by omega) c);refine yk ?_;walk_at"g";intro e he;exact⟨e,1,rfl,by omega,by omega,jn,x.of s13 he⟩
 cases el.symm.trans el';have p60:=D.1;refine .inr (zI ?_);exists⟨fun σ' H'=>σ'=[some (.str (Txt.join "\n" rows)),some (.ref r1),some (.ref pl),none,none,none,none,none,none]/\H3=H',?_,?_⟩
 rotate_left
 ·exists⟨_,_,rfl,.inl ⟨_,SqL.of e1,rfl⟩,?_⟩;rw[length_map];exists iteD (fun c=>absurd c (by omega)) (fun _=>?_);walk_at"g";exact⟨rfl,rfl⟩
 rintro σ' H0 ⟨rfl,rfl⟩;dsimp only;refine zI ?_;exists⟨pl,las,ls.map (·.1),rfl,t3,by rw[la.1,length_map],fun i a x ha hx=>?_,lnd,by rw[length_map];omega,fun d1 H4 s4 hd1 t4=>?_⟩
 ·rw[List.getElem?_map]at hx;obtain⟨p,hp,rfl⟩:=Option.map_eq_some_iff.mp hx;exact⟨_,la.2 i a p ha hp⟩
 walk_at"g";dsimp only;refine zI ?_;walk_at"g";walk_at"f d2 hd2 H5 s5 t5";walk_at"g";dsimp only;refine zI ?_;exists⟨Nat.zero_le _,?_⟩;walk_at"f pp hpp H6 s6 t6";have s35:=s4.trans s5;have s36:=s35.trans s6;have nd2p:d2≠pp:=ji t5 hpp;walk_at"g";dsimp only;refine j3G ?_;exists⟨r1,_,rfl,SqL.of (s36 _ _ e1),?_⟩;walk_at"f r7 hr7 H7 s7 t7";rw[xP n1]at t7;exists⟨rfl,r7,_,rfl,SqL.of t7,?_⟩;have n7d:r7≠d2:=(ji (s6 _ _ t5) hr7).symm;have n7p:r7≠pp:=(ji t6 hr7).symm;have t57:=s7 _ _ (s6 _ _ t5);have t67:=s7 _ _ t6;refine X2 (xs:=(rows.drop 1).map V.str) (k-1) (by rw[length_map,length_drop];omega) (fun i σ H'=>∃(pas:List Addr) (o6 o7 o8:Option V),σ=[some (.str (Txt.join "\n" rows)),some (.ref r1),some (.ref pl),some (.ref d1),some (.ref d2),some (.ref pp),o6,o7,o8]/\Same H4 H'/\H' r7=some (.lst ((rows.drop 1).map V.str))/\
  H' d2=some (.dK (tabB ((ps.take i).map (·.1))))/\H' pp=some (.lst (pas.map V.ref))/\All2 (PartAt H') pas (ps.take i)) ⟨[],_,_,_,rfl,s5.trans (s6.trans s7),t7,t57,t67,.nil⟩ ?_ ?_
 ·rintro i σ H' _ ⟨pas,o6,o7,o8,rfl,sm,er,ed,ep,ap⟩;exact SqL.of er
 ·rintro i v σ H' P H'' hik hv ⟨pas,o6,o7,o8,rfl,sm,er,ed,ep,ap⟩ sP tP;obtain⟨r,rfl,er',rm,ri⟩:=j2z hv;have s2P:=sm.trans sP;obtain⟨y1,y2,y3,y4,y5,y6,y7⟩:=qH (R.r _ rm);refine Z3 (SqT.of tP) ?_;by_cases ik:i<k-1
  ·refine .inr ?_;refine jD (σ':=[some _,some _,some _,some _,some _,some _,some _,some _,o8]) rfl ?_;have hi:i<ps.length:=by omega
   obtain⟨p,hp⟩:∃p,ps[i]?=some p:=⟨_,List.getElem?_eq_getElem hi⟩
   have pw:=D.2 i p hp;rw[er']at pw;exists⟨rfl,?_⟩;exists⟨_,32,_,rfl,by rw[blE],by decide,y1,y2,y3,y4,y5,?_⟩;walk_at"f r8 hr8 H8 s8 t8";have sP8:=sP.trans s8;walk_at"g";have nin:p.1∉(ps.take i).map (·.1):=Ke pw;refine⟨r8,d1,d2,_,_,_,rfl,t8,y6,(R.r _ rm).1,s8 _ _ (s2P _ _ t4),sP8 _ _ ed,fun z=>?_,fun p' ep' a H9 s9 hP=>?_⟩
   ·cases z.symm.trans pw
   cases pw.symm.trans ep';have sP9:=sP8.trans s9;exists⟨rfl,_,rfl,?_⟩;refine iteB0 (by simp) ?_;exists iteD (fun c=>absurd c (by omega)) (fun _=>?_);walk_at"g";obtain⟨fa,ha,hf⟩:=id hP;refine ixTm (SqT.of ha) (at0) ?_;have ed9:=sP9 _ _ ed;have ep9:=sP9 _ _ ep;have tl:((ps.take i).map (·.1)).length=i:=by rw[length_map,length_take];omega
   refine⟨d2,_,rfl,DPut.k (k:=Sum.inr p.1) ed9 (by show(List.map _ _).length<_;rw[length_map,tl];omega),?_⟩;rw[xW nin];generalize eX:upd H9 d2 _=H10;have td10:=WS eX;have k10:∀b u,b≠d2->H9 b=some u->H10 b=some u:=fun b u hb h=>by rw[<-eX,jq hb];exact h
   clear eX;have ep10:=k10 _ _ nd2p.symm ep9;have pal:=ap.1;exists⟨.inl ⟨rfl,_,SqL.of ep10⟩,?_⟩;exists⟨pp,_,_,rfl,rfl,ep10,by rw[length_map,pal,length_take];omega,?_⟩;have tk:ps.take (i+1)=ps.take i++[p]:=take_snoc hp;have kt:∀b xs,H9 b=some (.tup xs)->upd H10 pp (.lst (pas.map V.ref++[.ref a])) b=some (.tup xs):=fun b xs h=>(jq (qQ (k10 _ _ (qQ h ed9 (fun z=>by cases z)) h) ep10 (fun z=>by cases z))).trans (k10 _ _ (qQ h ed9 (fun z=>by cases z)) h)
   have low:∀{b u},H4 b=some u->b≠d2/\b≠pp:=fun h=>⟨ji h hd2,ji (s5 _ _ h) hpp⟩
   refine⟨ik,pas++[a],_,_,_,rfl,fun b u h=>(jq (low h).2).trans (k10 _ _ (low h).1 (sP9 _ _ (sm _ _ h))),(jq n7p).trans (k10 _ _ n7d (sP9 _ _ er)),(jq nd2p).trans (by rw[tk,map_append];exact td10),by rw[jn,map_append];rfl,?_⟩;rw[tk];exact All2.snoc (ap.mono fun b x h=>PartAt.put kt (PartAt.same sP9 h)) (PartAt.put kt hP)
  have ik:i=k-1:=by omega
  subst ik;have ek:((k-1:Nat):Int)+1=(k:Int):=by omega
  have tp:ps.take (k-1)=ps:=take_of_length_le (by omega);rw[tp]at ed;rw[show k-1+1=k by omega]at er' ri;refine .inl ?_;refine wj (σ':=[some _,some _,some _,some _,some _,some _,some _,some _,o8]) rfl ?_;refine zI ?_;exists⟨rfl,?_⟩;exists⟨_,32,_,rfl,by rw[blE],by decide,y1,y2,y3,y4,y5,?_⟩;walk_at"f r8 hr8 H8 s8 t8";have sP8:=sP.trans s8;walk_at"g";have sF:Same H H8:=s13.trans (s4.trans (s2P.trans s8));rw[er']at bad;refine⟨r8,d1,d2,_,_,_,rfl,t8,y6,(R.r _ rm).1,s8 _ _ (s2P _ _ t4),sP8 _ _ ed,fun z H9 s9=>?_,fun p' ep' a H9 s9 hP=>?_⟩
  ·walk_at"g";dsimp only;refine WA ?_;exists⟨rfl,_,rfl,?_⟩;refine iteB1 (decide_eq_true rfl) ?_;refine iteT ?_;refine yk ?_;walk_at"g";intro e he;exact⟨e,(k:Int),by rw[ek],by omega,by omega,jn,x.of (sF.trans s9) he⟩
  ·have b60:60<k:=by
    rcases bad with z | z
    ·cases z.symm.trans ep'
    ·exact z
   walk_at"g";dsimp only;refine WA ?_;exists⟨rfl,_,rfl,?_⟩;refine iteB0 (by simp) ?_;exists iteD (fun c=>?_) (fun c=>absurd (by omega) c);refine yk ?_;walk_at"g";intro e he;exact⟨e,(k:Int),by rw[ek],by omega,by omega,jn,x.of (sF.trans s9) he⟩
theorem j3s(T:Txt K mg t)(Jb:FnOk P w K mg base CX0 1 t.Jd t.Jm ["self","row"] (sp_xi1 t.jC))(qz:FnOk P w K mg base CX0 1 t.qC t.qF ["named"] (sp_numbers_of))(Qy:FnOk P w K mg base CX0 6 t.zg t.zi ["words","limbs","parts"] (sp_part_ofT))(Qx:FnOk P w K mg base CX0 4 t.QB t.QE ["words"] (sp_limbs_ofT)):FnOk P w K mg base CX0 7 t.ZP t.ZS ["text"] (sp_readT):=by
 refine T.wG.ok Jr (fun vs H Q E h=>?_) (fun cdv A outer s H vs Q E hr h=>?_)
 ·cases h;subst_vars;rfl
 obtain⟨rows,ls,ps,rfl,R,D,q⟩:=h;refine⟨_,(jf (jt (i:=1) Jr.nd rfl (.inl rfl) (j8 PySem.F.plainAttrs_str PySem.F.slot_str_split PySem.F.type_str_split Jx (pv 0) (jc jr je)))
  (jf (jt (i:=2) Jr.nd rfl (.inl rfl) (ju (Qx.mono (by decide)) hr (by rfl) T.kR T.yy.kp T.kz .nil pass0 (jc (j8 PySem.F.plainAttrs_str PySem.F.slot_str_split PySem.F.type_str_split Jx (jv jj (pv 1) jd) (jc jr je)) je)))
  (jf (jT (jh Q5 (pv 2) jH (nomark _))
   (jg Zd)
   jy)
  (jf (jT (jh jU (jx jA (by rfl) T.j7 jP (jc (pv 1) je)) jd (nomark _))
   (jg Zd)
   jy)
  (jf (jt (i:=3) Jr.nd rfl (.inl rfl) (ju (qz.mono (by decide)) hr (by rfl) T.Yj T.Zi.kp T.yJ .nil pass0 (jc (pv 2) je)))
  (jf (jt (i:=4) Jr.nd rfl (.inl rfl) Kh)
  (jf (jt (i:=5) Jr.nd rfl (.inl rfl) (jZ je))
  (jf (JV PassesOwn.never rfl (xJ (by rfl) T.ZQ (jc (jO Jg (pv 1) (jM jd) j6) je) jd) (yC rfl (JG (jF (i:=6) Jr.nd rfl (.inl rfl)) (JG (jF (i:=7) Jr.nd rfl (.inl rfl)) Zu)))
   (jf (jt (i:=8) Jr.nd rfl (.inl rfl) (ju (Qy.mono (by decide)) hr (by rfl) T.YS T.yb.kp T.Yy .nil pass0 (jc (j8 PySem.F.plainAttrs_str PySem.F.slot_str_split PySem.F.type_str_split Jx (pv 7) (jc jr je)) (jc (pv 3) (jc (pv 4) je)))))
   (jf (jT (PW.pt (JP (jh Q5 (pv 8) jH (nomark _)) (qV (jh Z0 (pv 6) jd (nomark _)))))
    (jg Zd)
    jy)
   (jf (Wz (JT hr) (pv 4) (jv Zq (pv 8) jd) xG rfl)
   (jg (jN (j8 PySem.F.plainAttrs_list PySem.F.slot_list_append PySem.F.type_list_append jQ (pv 5) (jc (pv 8) je))))))))
  (jg (jz (Je (jc (pv 2) (jc (pv 5) je))))))))))))),?_⟩
 refine jD (σ':=[some _,none,none,none,none,none,none,none,none]) rfl ?_;have sz:(100000:Nat)<sizeLine:=by decide
 have nlE:(Str.ofString "\n")=⟨#[10]⟩:=by decide +kernel
 have blE:(Str.ofString " ")=⟨#[32]⟩:=by decide +kernel
 have n1:=R.n1;have n2:=R.n2;have dn:=D.n;have dpl:=D.pl;obtain⟨lb,lnd⟩:=Yh D.l;obtain⟨x1,x2,x3,x4,x5,x6⟩:=Kj R;exists⟨rfl,?_⟩;exists⟨_,10,_,rfl,by rw[nlE],by decide,x1,x2,x3,x4,x5,?_⟩;rw[x6];walk_at"f r1 hr1 H1 s1 t1";walk_at"g";obtain⟨z1,z2⟩:=j2y n1;refine ixLm (SqL.of t1) (jB (j:=0) z1) ?_;exists⟨rfl,?_⟩;walk_at"g";obtain⟨y1,y2,y3,y4,y5,y6,y7⟩:=qH (R.r _ z2);refine⟨_,32,_,rfl,by rw[blE],by decide,y1,y2,y3,y4,y5,?_⟩;walk_at"f r2 hr2 H2 s2 t2";exists⟨r2,_,rfl,t2,y7,y6,(R.r _ z2).1,fun z=>?_,fun ls' el pl las H3 s3 hpl t3 la=>?_⟩
 ·cases z.symm.trans D.l
 cases D.l.symm.trans el;have s12:=s1.trans s2;have s13:=s12.trans s3;exists⟨rfl,_,rfl,?_⟩;refine iteB0 (by simp) ?_;walk_at"g";have e1:=s3 _ _ (s2 _ _ t1);refine⟨_,_,rfl,.inl ⟨_,SqL.of e1,rfl⟩,?_⟩;rw[length_map];exists iteD (fun c=>absurd c (by omega)) (fun _=>?_);exists⟨pl,las,ls.map (·.1),rfl,t3,by rw[la.1,length_map],fun i a x ha hx=>?_,lnd,by rw[length_map];omega,fun d1 H4 s4 hd1 t4=>?_⟩
 ·rw[List.getElem?_map]at hx;obtain⟨p,hp,rfl⟩:=Option.map_eq_some_iff.mp hx;exact⟨_,la.2 i a p ha hp⟩
 walk_at"g";walk_at"f d2 hd2 H5 s5 t5";exists⟨Nat.zero_le _,?_⟩;walk_at"f pp hpp H6 s6 t6";have s35:=s4.trans s5;have s36:=s35.trans s6;have nd2p:d2≠pp:=ji t5 hpp;exists⟨r1,_,rfl,SqL.of (s36 _ _ e1),?_⟩;walk_at"f r7 hr7 H7 s7 t7";rw[xP n1]at t7;exists⟨rfl,r7,_,rfl,SqL.of t7,?_⟩;have n7d:r7≠d2:=(ji (s6 _ _ t5) hr7).symm;have n7p:r7≠pp:=(ji t6 hr7).symm;have t57:=s7 _ _ (s6 _ _ t5);have t67:=s7 _ _ t6;refine j10 (xs:=(rows.drop 1).map V.str) (fun i σ H'=>∃(pas:List Addr) (o6 o7 o8:Option V),σ=[some (.str (Txt.join "\n" rows)),some (.ref r1),some (.ref pl),some (.ref d1),some (.ref d2),some (.ref pp),o6,o7,o8]/\Same H4 H'/\H' r7=some (.lst ((rows.drop 1).map V.str))/\
  H' d2=some (.dK (tabB ((ps.take i).map (·.1))))/\H' pp=some (.lst (pas.map V.ref))/\All2 (PartAt H') pas (ps.take i)) ⟨[],_,_,_,rfl,s5.trans (s6.trans s7),t7,t57,t67,.nil⟩ ?_ ?_ ?_
 ·rintro i σ H' _ ⟨pas,o6,o7,o8,rfl,sm,er,ed,ep,ap⟩;exact SqL.of er
 ·rintro i v σ H' P H'' hv ⟨pas,o6,o7,o8,rfl,sm,er,ed,ep,ap⟩ sP tP;obtain⟨r,rfl,er',rm,ri⟩:=j2z hv;have hi:i<ps.length:=by omega
  obtain⟨p,hp⟩:∃p,ps[i]?=some p:=⟨_,List.getElem?_eq_getElem hi⟩
  have pw:=D.p.2 i p hp;have p60:=D.p.1;rw[er']at pw;have s2P:=sm.trans sP;refine Z3 (SqT.of tP) ?_;exists⟨rfl,?_⟩;walk_at"g";obtain⟨y1,y2,y3,y4,y5,y6,y7⟩:=qH (R.r _ rm);refine⟨_,32,_,rfl,by rw[blE],by decide,y1,y2,y3,y4,y5,?_⟩;walk_at"f r8 hr8 H8 s8 t8";have sP8:=sP.trans s8;walk_at"g";have nin:p.1∉(ps.take i).map (·.1):=Ke pw;refine⟨r8,d1,d2,_,_,_,rfl,t8,y6,(R.r _ rm).1,s8 _ _ (s2P _ _ t4),sP8 _ _ ed,fun z=>?_,fun p' ep' a H9 s9 hP=>?_⟩
  ·cases z.symm.trans pw
  cases pw.symm.trans ep';have sP9:=sP8.trans s9;exists⟨rfl,_,rfl,?_⟩;refine iteB0 (by simp) ?_;exists iteD (fun c=>absurd c (by omega)) (fun _=>?_);walk_at"g";obtain⟨fa,ha,hf⟩:=id hP;refine ixTm (SqT.of ha) (at0) ?_;have ed9:=sP9 _ _ ed;have ep9:=sP9 _ _ ep;have tl:((ps.take i).map (·.1)).length=i:=by rw[length_map,length_take];omega
  refine⟨d2,_,rfl,DPut.k (k:=Sum.inr p.1) ed9 (by show(List.map _ _).length<_;rw[length_map,tl];omega),?_⟩;rw[xW nin];generalize eX:upd H9 d2 _=H10;have td10:=WS eX;have k10:∀b u,b≠d2->H9 b=some u->H10 b=some u:=fun b u hb h=>by rw[<-eX,jq hb];exact h
  clear eX;have ep10:=k10 _ _ nd2p.symm ep9;have pal:=ap.1;exists⟨.inl ⟨rfl,_,SqL.of ep10⟩,?_⟩;exists⟨pp,_,_,rfl,rfl,ep10,by rw[length_map,pal,length_take];omega,?_⟩;have tk:ps.take (i+1)=ps.take i++[p]:=take_snoc hp;have kt:∀b xs,H9 b=some (.tup xs)->upd H10 pp (.lst (pas.map V.ref++[.ref a])) b=some (.tup xs):=fun b xs h=>(jq (qQ (k10 _ _ (qQ h ed9 (fun z=>by cases z)) h) ep10 (fun z=>by cases z))).trans (k10 _ _ (qQ h ed9 (fun z=>by cases z)) h)
  have low:∀{b u},H4 b=some u->b≠d2/\b≠pp:=fun h=>⟨ji h hd2,ji (s5 _ _ h) hpp⟩
  refine⟨pas++[a],_,_,_,rfl,fun b u h=>(jq (low h).2).trans (k10 _ _ (low h).1 (sP9 _ _ (sm _ _ h))),(jq n7p).trans (k10 _ _ n7d (sP9 _ _ er)),(jq nd2p).trans (by rw[tk,map_append];exact td10),by rw[jn,map_append];rfl,?_⟩;rw[tk];exact All2.snoc (ap.mono fun b x h=>PartAt.put kt (PartAt.same sP9 h)) (PartAt.put kt hP)
 rintro σ' H' ⟨pas,o6,o7,o8,rfl,sm,er,ed,ep,ap⟩;rw[length_map,length_drop,take_of_length_le (by omega)]at ap;exists⟨(by show 2<=sizeLine;omega),?_⟩;walk_at"f b hb H9 s9 t9";have s39:=s4.trans (sm.trans s9);refine q b pl pp las pas H9 (s13.trans s39) (none_of s12 hpl) (none_of (s13.trans s35) hpp) (ji (s35 _ _ t3) hpp) ⟨t9,s39 _ _ t3,la.mono fun a x h=>s39 _ _ h,s9 _ _ ep,ap.mono fun a x h=>PartAt.same s9 h⟩
theorem kh(T:Txt K mg t):FnOk P w K mg base CX0 1 t.JQ t.JS ["_law_script","_law_k"] (Pr.sp_cell_at K):=by
 refine T.qm.ok km (fun vs H Q E h=>?_) (fun cdv A outer s H vs Q E hr h=>?_)
 ·cases h;subst_vars;rfl
 obtain⟨a,ns,k,rfl,hS,h63,h0,q⟩:=h;refine⟨_,(jf (jT (jh Ym (pv 1) (jx jA (by rfl) T.j7 jP (jc (pv 0) je)) (nomark _))
   (jg (jz (jv jj (pv 0) (pv 1))))
   jy)
  (jg (jz jd))),?_⟩
 refine jD (σ':=[some _,some _]) rfl ?_;exists⟨_,_,rfl,.inl ⟨_,hS,rfl⟩,?_⟩;exists iteD (fun c=>?_) (fun c=>?_)
 ·walk_at"g";exact⟨a,_,k,_,rfl,rfl,hS,Pr.jJ h0 (by rw[length_map]at c;exact c),q⟩
 ·walk_at"g";have e:Pr.cell ns k=0:=by
   rw[length_map]at c;unfold Pr.cell;rw[getD_eq_getElem?_getD,List.getElem?_eq_none (by omega)];rfl
  rw[e]at q;exact q
theorem Kd(T:Txt K mg t):FnOk P w K mg base CX0 1 t.Js t.Ju ["_law_cell","_law_turn"] (Zf):=by
 refine T.qf.ok zE (fun vs H Q E h=>?_) (fun cdv A outer s H vs Q E hr h=>?_)
 ·obtain⟨c,m,rfl,m0,m1,q⟩:=h;rfl
 obtain⟨c,m,rfl,m0,m1,q⟩:=h;refine⟨_,(jf (jT (jh Ym (pv 0) (jm Q6 jd jd) (nomark _))
   (jg (jz (pv 0)))
   jy)
  (jf (JV PassesOwn.never rfl (qG (by rfl) T.Qj (jc (jm Qs jd (pv 1)) je)) (jF (i:=2) zE.nd rfl (.inl rfl))
   (jg (jt (i:=0) zE.nd rfl (.inl rfl) (jm JF (pv 0) (jm Q6 jd jd)))))
  (jg (jz (jm jX (jm Q6 jd jd) (pv 0)))))),?_⟩
 refine jD (σ':=[some _,some _,none]) rfl ?_;exists iteD (fun c1=>?_) (fun c1=>?_)
 ·walk_at"g";exact q _
 exists⟨_,rfl,by omega,by omega,?_⟩;refine qi (fun i σ H'=>∃(x:Int) (o2:Option V),σ=[some (.int x),some (.int m),o2]/\H=H') ⟨_,_,rfl,rfl⟩ ?_ ?_
 ·rintro i σ H' hi ⟨x,o2,rfl,rfl⟩;walk_at"g";exact⟨_,_,rfl,rfl⟩
 ·rintro σ H' ⟨x,o2,rfl,rfl⟩;walk_at"g";exact q _
theorem Kc(T:Txt K mg t):FnOk P w K mg base CX0 1 t.JL t.JN ["_law_cell","_law_many"] (Ws.yn):=by
 refine T.qK.ok Jf (fun vs H Q E h=>?_) (fun cdv A outer s H vs Q E hr h=>?_)
 ·obtain⟨c,m,rfl,m0,m1,q⟩:=h;rfl
 obtain⟨c,m,rfl,m0,m1,q⟩:=h;refine⟨_,(jf (jt (i:=2) Jf.nd rfl (.inl rfl) (jZ je))
  (jf (jT (jh j52 (pv 0) (jm Q6 jd jd) (nomark _))
   (jf (jt (i:=3) Jf.nd rfl (.inl rfl) (jm Zt (pv 0) (jm Q6 jd jd)))
   (jf (JV PassesOwn.never rfl (qG (by rfl) T.Qj (jc (pv 1) je)) (jF (i:=4) Jf.nd rfl (.inl rfl))
    (jf (jN (j8 PySem.F.plainAttrs_list PySem.F.slot_list_append PySem.F.type_list_append jQ (pv 2) (jc (jm jG (pv 3) jd) je)))
    (jg (jt (i:=3) Jf.nd rfl (.inl rfl) (jm JF (pv 3) jd)))))
   (jg (jz (pv 2)))))
   jy)
  (jf (jt (i:=3) Jf.nd rfl (.inl rfl) (jm jX (jm jG (pv 0) jd) jd))
  (jf (JV PassesOwn.never rfl (qG (by rfl) T.Qj (jc (pv 1) je)) (jF (i:=4) Jf.nd rfl (.inl rfl))
   (jf (jt (i:=3) Jf.nd rfl (.inl rfl) (jm jX (jm jX (jm jX (jm Qs (pv 3) (pv 3)) (jm Qs jd (pv 3))) (jm Qs jd (pv 4))) jd))
   (jf (jt (i:=3) Jf.nd rfl (.inl rfl) (jm jG (pv 3) jd))
   (jg (jN (j8 PySem.F.plainAttrs_list PySem.F.slot_list_append PySem.F.type_list_append jQ (pv 2) (jc (jm JF (pv 3) jd) je)))))))
  (jg (jz (pv 2))))))),?_⟩
 refine jD (σ':=[some _,some _,none,none,none]) rfl ?_;have sz:(100:Nat)<sizeLine:=by decide
 exists⟨Nat.zero_le _,fun p hp=>?_⟩;exists iteD (fun c1=>?_) (fun c1=>?_)
 ·exists⟨_,rfl,by omega,by omega,?_⟩;refine qi (fun i σ H'=>∃(x:Int) (o4:Option V) (ns:List Int),σ=[some (.int c),some (.int m),some (.ref p),some (.int x),o4]/\Same H H'/\H' p=some (.lst (ns.map V.int))/\ns.length=i/\∀n∈ns,0<=n/\n<33554432)
   ⟨_,_,[],rfl,Pr.jE hp _,jn,rfl,fun n h=>by cases h⟩ ?_ ?_
  ·rintro i σ H' hi ⟨x,o4,ns,rfl,sm,hl,hn,hb⟩;exists⟨.inl ⟨rfl,_,SqL.of hl⟩,?_⟩;exists⟨p,_,_,rfl,rfl,hl,by rw[length_map];omega,?_⟩;exists⟨_,_,ns++[x%33554432],rfl,Ws.Yp sm hp,by rw[jn,map_append];rfl,by simp[hn],fun n h=>?_⟩;rcases mem_append.mp h with z | z
   ·exact hb n z
   ·have e:n=x%33554432:=by simpa using z
    omega
  ·rintro σ H' ⟨x,o4,ns,rfl,sm,hl,hn,hb⟩;walk_at"g";exact q p ns _ sm hp hl (by omega) hb
 ·exists⟨_,rfl,by omega,by omega,?_⟩;refine qi (fun i σ H'=>∃(x:Int) (o4:Option V) (ns:List Int),σ=[some (.int c),some (.int m),some (.ref p),some (.int x),o4]/\0<=x/\x<=2147531918/\Same H H'/\H' p=some (.lst (ns.map V.int))/\ns.length=i/\∀n∈ns,0<=n/\n<33554432)
   ⟨_,_,[],rfl,by omega,by omega,Pr.jE hp _,jn,rfl,fun n h=>by cases h⟩ ?_ ?_
  ·rintro i σ H' hi ⟨x,o4,ns,rfl,x0,x1,sm,hl,hn,hb⟩;walk_at"g";generalize x*x+48271*x+7*(0+(i:Int))+1=y;refine⟨.inl ⟨rfl,_,SqL.of hl⟩,?_⟩;exists⟨p,_,_,rfl,rfl,hl,by rw[length_map];omega,?_⟩;refine⟨_,_,ns++[y%2147483647/64],rfl,by omega,by omega,Ws.Yp sm hp,by rw[jn,map_append];rfl,by simp[hn],fun n h=>?_⟩;rcases mem_append.mp h with z | z
   ·exact hb n z
   ·have e:n=y%2147483647/64:=by simpa using z
    omega
  ·rintro σ H' ⟨x,o4,ns,rfl,x0,x1,sm,hl,hn,hb⟩;walk_at"g";exact q p ns _ sm hp hl (by omega) hb
theorem KC(T:Txt K mg t)(Ja:FnOk P w K mg base CX0 1 t.JL t.JN ["_law_cell","_law_many"] (Ws.yn)):FnOk P w K mg base CX0 2 t.Qf t.Qn ["_law_cell","_law_many"] (xS):=by
 refine T.yN.ok Jv (fun vs H Q E h=>?_) (fun cdv A outer s H vs Q E hr h=>?_)
 ·obtain⟨c,rfl,q⟩:=h;rfl
 obtain⟨c,rfl,q⟩:=h;refine⟨_,(jf (jt (i:=2) Jv.nd rfl (.inr rfl) jr)
  (jf (jt (i:=3) Jv.nd rfl (.inl rfl) (ju (Ja.mono (by decide)) hr (by rfl) T.QQ T.qK.kp T.QM .nil pass0 (jc (pv 0) (jc jd je))))
  (jf (jt (i:=4) Jv.nd rfl (.inl rfl) (j8 PySem.F.plainAttrs_str PySem.F.slot_str_join PySem.F.type_str_join Yl jr (jc (za (ow:=["_law_one"]) (ci:=[2]) rfl (CompScope.of (defScope zc) ["_law_cell","_law_many","_law_letters","_law_some","_law_base","_law_at","_law_names_here","_law_k","_law_two"] rfl rfl (by decide +kernel)) (qS (by decide)) (J3 (jO Jg (pv 3) j6 (jM (jm jG (jv jj (pv 3) jd) jd)))) (fun _ _ _ _ _=>⟨(jF (i:=0) (Qk ["_law_cell","_law_many","_law_letters","_law_some","_law_base","_law_at","_law_names_here","_law_k","_law_two"] rfl (by decide +kernel)) rfl (.inl rfl)),zR,(jv ZX (pv 1) (jm jG (pv 0) jd))⟩)) je)))
  (jf (jt (i:=5) Jv.nd rfl (.inl rfl) (jm jG (jv jj (pv 3) jd) (jm jX (jx jA (by rfl) T.j7 jP (jc (pv 4) je)) jd)))
  (jf (jt (i:=6) Jv.nd rfl (.inl rfl) (jZ je))
  (jf (JV PassesOwn.never rfl (qG (by rfl) T.Qj (jc (pv 1) je)) (jF (i:=7) Jv.nd rfl (.inl rfl))
   (jf (jt (i:=8) Jv.nd rfl (.inl rfl) (jm jK (jv ZX (pv 2) (jm JF (pv 7) jd)) (jv ZX (pv 2) (jm jG (pv 7) jd))))
   (jg (jT (jh jU (jm jG (jv jj (pv 3) jd) jd) jd (nomark _))
    (jg (jN (j8 PySem.F.plainAttrs_list PySem.F.slot_list_append PySem.F.type_list_append jQ (pv 6) (jc (jm jK (jm jK (jO WE (pv 4) j6 (jM (pv 5))) (pv 8)) (jO WE (pv 4) (jM (pv 5)) j6)) je))))
    (jg (jT (jh jU (jm jG (jv jj (pv 3) jd) jd) jd (nomark _))
     (jg (jN (j8 PySem.F.plainAttrs_list PySem.F.slot_list_append PySem.F.type_list_append jQ (pv 6) (jc (jm jK (pv 8) (jO WE (pv 4) j6 (jM (jm jG (pv 7) (jm jX (jx jA (by rfl) T.j7 jP (jc (pv 4) je)) jd))))) je))))
     (jg (jN (j8 PySem.F.plainAttrs_list PySem.F.slot_list_append PySem.F.type_list_append jQ (pv 6) (jc (jO WE (pv 8) (jM (JC j0Q (by rfl) T.j09 wL (jc (Yo Ym (pv 7) jd (nomark _)) je))) j6) je))))))))))
  (jg (jz (pv 6))))))))),?_⟩
 refine jD (σ':=[some _,some _,none,none,none,none,none,none,none]) rfl ?_;have sz:(200:Nat)<sizeLine:=by decide
 exists⟨_,_,rfl,by omega,by omega,fun p ns H1 s1 hp hl hn hb=>?_⟩;have hb':∀k:Int,0<=k->k<9->0<=Pr.cell ns k:=fun k h0 h1=>(hb _ (mem_of_getElem? (Pr.ZW (ns:=ns) (k:=k) h0 (by omega)))).1
 exists⟨rfl,?_⟩;exists ixLm (SqL.of hl) (Pr.jJ (by omega) (by omega)) ?_;exists⟨p,_,rfl,SqL.of hl,fun p3 hp3=>?_⟩;have b6:=hb' 6 (by omega) (by omega);have hcut:=Pr.j1U (ns:=ns) (m:=Pr.cell ns 6%7) (by omega) (by omega);rw[hcut];have s4:=Pr.jE hp3 (.lst ((ns.take (Pr.cell ns 6%7).toNat).map V.int));have e3:upd H1 p3 (.lst ((ns.take (Pr.cell ns 6%7).toNat).map V.int)) p3=some (.lst ((ns.take (Pr.cell ns 6%7).toNat).map V.int)):=jn;generalize upd H1 p3 (.lst ((ns.take (Pr.cell ns 6%7).toNat).map V.int))=H4 at s4 e3|-;have hml:(ns.take (Pr.cell ns 6%7).toNat).length<=6:=by rw[length_take];omega
 generalize ns.take (Pr.cell ns 6%7).toNat=ms at e3 hml|-;refine⟨p3,rfl,⟨_,SqL.of e3⟩,?_⟩;refine JR (xs:=ms.map V.int) (fun i ys H'=>∃zs:List Str,ys=zs.map V.str/\zs.length=i/\(∀z∈zs,∃c,z=⟨#[c]⟩/\97<=c/\c<=122)/\H4=H') ⟨[],rfl,rfl,(fun z h=>nomatch h),rfl⟩ ?_ ?_ ?_
 ·rintro i ys H' _ ⟨zs,rfl,hz,h1,rfl⟩;exact SqL.of e3
 ·rintro i x ys H' hx ⟨zs,rfl,hz,h1,rfl⟩;obtain⟨n,hn',rfl⟩:=mem_map.mp (mem_of_getElem? hx);have hi:=(List.getElem?_eq_some_iff.mp hx).1;rw[length_map]at hi;refine QK (σ':=[none,some _]) rfl ?_;exists iteT ?_;exists⟨_,_,_,rfl,rfl,(by decide +kernel),YO (by omega) (by omega),?_⟩;refine⟨by rw[length_map];omega,zs++[⟨#[97+(n%26).toNat]⟩],by rw[map_append];rfl,by simp[hz],fun y hy=>?_,rfl⟩;rcases mem_append.mp hy with w | w
  ·exact h1 y w
  ·have e:y=⟨#[97+(n%26).toNat]⟩:=by simpa using w
   exact⟨_,e,by omega,by omega⟩
 rintro ys H' ⟨zs,rfl,hz,h1,rfl⟩;rw[length_map]at hz;refine⟨by rw[length_map];omega,fun p4 hp4=>?_⟩;have s5:=Pr.jE hp4 (.lst (zs.map V.str));have e4:upd H4 p4 (.lst (zs.map V.str)) p4=some (.lst (zs.map V.str)):=jn;generalize upd H4 p4 (.lst (zs.map V.str))=H5 at s5 e4|-;have h1':∀z∈zs,z.length=1:=fun z hz=>by obtain⟨c,rfl,_⟩:=h1 z hz;rfl
 have hone:(zs.map (·.length)).sum=zs.length:=Ws.xU zs h1';have ee:(Str.ofString "").length=0:=by decide +kernel
 have hsum:(zs.map (·.length)).sum+zs.length*(Str.ofString "").length<=16777216:=by rw[hone,ee];omega
 exists⟨_,p4,zs,rfl,rfl,SqL.of e4,hsum,?_⟩;obtain⟨hxl,hxc⟩:=j0M (zs:=zs) h1;generalize Txt.join (Str.ofString "") zs=x at hxl hxc|-;have s6:=s1.trans (s4.trans s5);have hl5:=s5 _ _ (s4 _ _ hl);have b7:=hb' 7 (by omega) (by omega);have b8:=hb' 8 (by omega) (by omega);exists ixLm (SqL.of hl5) (Pr.jJ (by omega) (by omega)) ?_;exists⟨_,_,rfl,⟨by omega,rfl⟩,?_⟩;walk_at"g";have a0:=Int.emod_nonneg (Pr.cell ns 7) (show(x.length:Int)+1≠0 by omega);have a1:=Int.emod_lt_of_pos (Pr.cell ns 7) (show 0<(x.length:Int)+1 by omega);generalize Pr.cell ns 7%((x.length:Int)+1)=a at a0 a1|-;refine⟨Nat.zero_le _,fun p5 hp5=>?_⟩;exists⟨_,rfl,by omega,by omega,?_⟩;have np:p≠p5:=ji hl5 hp5;refine qi (fun i σ H'=>∃(o7 o8:Option V) (ws:List Str),σ=[some (.int c),some (.int 68),some (.str "abcdefghijklmnopqrstuvwxyz"),some (.ref p),some (.str x),some (.int a),some (.ref p5),o7,o8]/\Same H5 H'/\H' p5=some (.lst (ws.map V.str))/\ws.length=i/\∀j,j<i->(ws[j]?).map (·.cps.toList)=some (nmL (Pr.cell ns 8%3) x.cps.toList a.toNat j))
  ⟨_,_,[],rfl,Pr.jE hp5 _,jn,rfl,fun j hj=>absurd hj (Nat.not_lt_zero j)⟩ ?_ ?_
 ·rintro i σ H' hi ⟨o7,o8,ws,rfl,sm,hl',hn',hw⟩;have hi':i<68:=by omega
  exists⟨_,_,_,rfl,rfl,(by decide +kernel),YO (by omega) (by omega),?_⟩;exists⟨_,_,_,rfl,rfl,(by decide +kernel),YO (by omega) (by omega),?_⟩;have one:∀c:Nat,(⟨#[c]⟩:Str).length=1:=fun _=>rfl
  refine⟨_,_,rfl,rfl,by rw[one,one];omega,?_⟩;obtain⟨two,etwo⟩:∃two,two=(⟨#[97+((0+(i:Int))/26).toNat]⟩:Str)++⟨#[97+((0+(i:Int))%26).toNat]⟩:=⟨_,rfl⟩
  rw[<-etwo];have ltwo:two.length=2:=by rw[etwo,Str.length_append];rfl
  have ctwo:two.cps.toList=[97+i/26,97+i%26]:=by
   rw[etwo,app_list];show[97+((0+(i:Int))/26).toNat]++[97+((0+(i:Int))%26).toNat]=_;rw[show((0+(i:Int))/26).toNat=i/26 by omega,show((0+(i:Int))%26).toNat=i%26 by omega];rfl
  clear etwo;exists ixLm (SqL.of (sm _ _ hl5)) (Pr.jJ (by omega) (by omega)) ?_;walk_at"g";have fin:∀y:Str,y.cps.toList=nmL (Pr.cell ns 8%3) x.cps.toList a.toNat i->∃(o7' o8':Option V) (ws':List Str),[some (V.int c),some (.int 68),some (.str "abcdefghijklmnopqrstuvwxyz"),some (.ref p),some (.str x),some (.int a),some (.ref p5),some (.int (0+(i:Int))),some (.str two)]=[some (V.int c),some (.int 68),some (.str "abcdefghijklmnopqrstuvwxyz"),some (.ref p),some (.str x),some (.int a),some (.ref p5),o7',o8']/\Same H5 (upd H' p5 (.lst (ws.map V.str++[.str y])))/\upd H' p5 (.lst (ws.map V.str++[.str y])) p5=some (.lst (ws'.map V.str))/\ws'.length=i+1/\∀j,j<i+1->(ws'[j]?).map (·.cps.toList)=some (nmL (Pr.cell ns 8%3) x.cps.toList a.toNat j):=
   fun y hy=>⟨_,_,ws++[y],rfl,Ws.Yp sm hp5,by rw[jn,map_append];rfl,by simp[hn'],j3m hn' hw hy⟩
  refine iteD (fun c1=>?_) (fun c1=>?_)
  ·exists⟨.inl ⟨rfl,_,SqL.of hl'⟩,?_⟩;walk_at"g";have j1:=Txt.slice_le x none (some a);have j2:=Txt.slice_le x (some a) none;refine⟨by omega,?_⟩;exists⟨_,_,rfl,rfl,by omega,?_⟩;exists⟨by omega,?_⟩;refine⟨_,_,rfl,rfl,by rw[Str.length_append];omega,?_⟩;exists⟨p5,_,_,rfl,rfl,hl',by rw[length_map];omega,?_⟩;exists fin _ ?_;rw[app_list,app_list,cutTo (by omega) (by omega),cutFrom (by omega) (by omega),ctwo];unfold nmL;rw[if_pos c1]
  ·exists ixLm (SqL.of (sm _ _ hl5)) (Pr.jJ (by omega) (by omega)) ?_;exists iteD (fun c2=>?_) (fun c2=>?_)
   ·exists⟨.inl ⟨rfl,_,SqL.of hl'⟩,?_⟩;exists⟨_,_,rfl,⟨by omega,rfl⟩,?_⟩;walk_at"g";have d0:=Int.emod_nonneg (0+(i:Int)) (show(x.length:Int)+1≠0 by omega);have d1:=Int.emod_lt_of_pos (0+(i:Int)) (show 0<(x.length:Int)+1 by omega);have j1:=Txt.slice_le x none (some ((0+(i:Int))%((x.length:Int)+1)));refine⟨by omega,?_⟩;refine⟨_,_,rfl,rfl,by omega,?_⟩;exists⟨p5,_,_,rfl,rfl,hl',by rw[length_map];omega,?_⟩;exists fin _ ?_;rw[app_list,cutTo (by omega) (by omega),ctwo];unfold nmL;rw[if_neg c1,if_pos c2,Ws.QG,show((0+(i:Int))%((x.length:Int)+1)).toNat=i%(x.length+1) by rw[Int.zero_add];exact Int.toNat_natCast _]
   ·exists⟨.inl ⟨rfl,_,SqL.of hl'⟩,?_⟩;exists .inr ⟨_,rfl,?_⟩;walk_at"g";have j1:=Txt.slice_le two (some (if decide (0+(i:Int)<26)=true then 1 else 0)) none;refine⟨by omega,?_⟩;exists⟨p5,_,_,rfl,rfl,hl',by rw[length_map];omega,?_⟩;exists fin _ ?_;unfold nmL;rw[if_neg c1,if_neg c2];by_cases c3:i<26
    ·rw[if_pos (decide_eq_true (by omega)),if_pos c3,cutFrom (by omega) (by omega),ctwo];rfl
    ·rw[if_neg (by simp;omega),if_neg c3,cutFrom (by omega) (by omega),ctwo];rfl
 ·rintro σ H' ⟨o7,o8,ws,rfl,sm,hl',hn',hw⟩;walk_at"g";obtain⟨g1,g2⟩:=XG (ws:=ws) hxc (by rw[Ws.QG];omega) (by omega) hw;exact q p5 ws _ (s6.trans sm) (none_of s6 hp5) hl' (by omega) g1 g2
theorem kZ(T:Txt K mg t):FnOk P w K mg base CX0 1 t.JK t.JM ["_law_cell","_law_mixed","_law_least"] (ym):=by
 refine T.qJ.ok zD (fun vs H Q E h=>?_) (fun cdv A outer s H vs Q E hr h=>?_)
 ·obtain⟨c,m,l,rfl,m0,m1,l0,l1,q⟩:=h;rfl
 obtain⟨c,m,l,rfl,m0,m1,l0,l1,q⟩:=h;refine⟨_,(jf (jt (i:=3) zD.nd rfl (.inl rfl) (jm jG (pv 1) jd))
  (jf (jT (jh jU (pv 3) jd (nomark _))
   (jg (jz (jm jX (pv 2) (jm jG (jm JF (pv 1) jd) jd))))
   jy)
  (jf (jT (jh jU (pv 3) jd (nomark _))
   (jg (jz (jm jX (pv 2) (jm jG (pv 0) (jm Zt (jm jX (jm Q6 jd jd) jd) (pv 2))))))
   jy)
  (jf (jT (jh jU (pv 3) jd (nomark _))
   (jg (jz (jm jX (pv 2) (jm jG (jm Qs (jm Qs (pv 1) (pv 1)) jd) (jm Zt (jm jX (jm Q6 jd jd) jd) (pv 2))))))
   jy)
  (jf (jt (i:=4) zD.nd rfl (.inl rfl) (jm Zt (jm jX (JC KW (by rfl) T.j09 wL (jc (jm jK jr (jm kq jr (jm jG (jm JF (pv 1) jd) jd))) je)) (jm jG (jm JF (pv 1) jd) jd)) jd))
  (jg (jz (jx (j0R rfl) (by rfl) T.j3V j1M (jc (pv 2) (jc (jx (K0 rfl) (by rfl) T.j3W j1N (jc (jm Q6 jd jd) (jc (pv 4) je))) je)))))))))),?_⟩
 refine jD (σ':=[some _,some _,some _,none,none]) rfl ?_;have a0:=Int.emod_nonneg c (show(10^18+1-l:Int)≠0 by omega);have a1:=Int.emod_lt_of_pos c (show(0:Int)<10^18+1-l by omega);have b0:=Int.emod_nonneg (m*m*48271) (show(10^18+1-l:Int)≠0 by omega);have b1:=Int.emod_lt_of_pos (m*m*48271) (show(0:Int)<10^18+1-l by omega);have mm:=j4r (x:=m) (y:=m) (A:=33554432) (B:=33554432) (by omega) (by omega) (by omega) (by omega);exists iteD (fun c1=>?_) (fun c1=>?_)
 ·exists q _ ?_ ?_<;>omega
 exists iteD (fun c2=>?_) (fun c2=>?_)
 ·exists q _ ?_ ?_<;>omega
 exists iteD (fun c3=>?_) (fun c3=>?_)
 ·exists q _ ?_ ?_<;>omega
 exists⟨_,_,rfl,rfl,mulOk0 (by omega) (by omega),?_⟩;exists⟨_,_,rfl,rfl,j2H (by omega) (by omega),?_⟩;exists⟨_,_,rfl,tens (by omega) (by omega),j1A (by omega) (by omega),?_⟩;walk_at"g";generalize(10:Int)^(m/4%19).toNat+m/76%3-1=y;refine⟨_,_,rfl,?_⟩;exists⟨_,_,rfl,q _ ?_ ?_⟩<;>repeat' split<;>omega
theorem xB(T:Txt K mg t):FnOk P w K mg base CX0 1 t.Qz t.QC ["_law_room_here","_law_form_here","_law_hands","_law_long"] (sp_add):=by
 refine T.qU.ok xQ (fun vs H Q E h=>?_) (fun cdv A outer s H vs Q E hr h=>?_)
 ·cases h;subst_vars;rfl
 obtain⟨z,m,fa,ha,f,ks,g,rfl,R,hf,hh,l1,l2,l3,l4,q⟩:=h;refine⟨_,(jf (jN (j8 PySem.F.plainAttrs_list PySem.F.slot_list_append PySem.F.type_list_append jQ (Jh (JT hr) (pv 0) jr) (jc (Je (jc (jv jj (Jh (JT hr) (pv 0) jr) (jx jA (by rfl) T.j7 jP (jc (Jh (JT hr) (pv 0) jr) je))) (jc (pv 1) je))) je)))
  (jf (jN (j8 PySem.F.plainAttrs_list PySem.F.slot_list_append PySem.F.type_list_append jQ (Jh (JT hr) (pv 0) jr) (jc (pv 2) je)))
  (jg (jN (j8 PySem.F.plainAttrs_list PySem.F.slot_list_append PySem.F.type_list_append jQ (Jh (JT hr) (pv 0) jr) (jc (pv 3) je)))))),?_⟩
 refine jD (σ':=[some _,some _,some _,some _]) rfl ?_;have sz:(200:Nat)<sizeLine:=by decide
 obtain⟨qs,eq,aq⟩:=R.p;obtain⟨hs,eh,ah⟩:=R.h;have hq:=aq.1;have hhl:=ah.1;exists⟨_,_,rfl,qj R,?_⟩;refine⟨.inl ⟨rfl,_,SqL.of eq⟩,?_⟩;exists⟨_,_,rfl,K8 R,?_⟩;exists⟨_,_,rfl,qj R,?_⟩;exists⟨_,_,rfl,.inl ⟨_,SqL.of eq,rfl⟩,?_⟩;rw[length_map,hq];refine ixLm (SqL.of R.n) (j08 (by omega)) ?_;exists⟨(by show 2<=sizeLine;omega),fun p hp=>?_⟩;have s1:=Pr.jE hp (.tup [.str (m.names.getD m.parts.length ⟨#[]⟩),.ref fa]);have e1:upd H p (.tup [.str (m.names.getD m.parts.length ⟨#[]⟩),.ref fa]) p=some (.tup [.str (m.names.getD m.parts.length ⟨#[]⟩),.ref fa]):=jn;generalize upd H p (.tup [.str (m.names.getD m.parts.length ⟨#[]⟩),.ref fa])=H1 at s1 e1|-;have R1:=R.keeps s1;have hf1:FormAt H1 fa f:=FormAt.kp R (Kp.of s1) hf;have hh1:HandAt z H1 ha ks:=⟨s1 _ _ hh.1,hh.2⟩
 have aq1:All2 (PartAt H1) qs m.parts:=aq.mono fun a x h=>PartAt.kp R (Kp.of s1) h
 have ah1:All2 (HandAt z H1) hs m.hands:=ah.mono fun a x h=>⟨s1 _ _ h.1,h.2⟩
 have eq1:=s1 _ _ eq;have eh1:=s1 _ _ eh;have od:=xA R;exists⟨_,_,_,rfl,rfl,eq1,by rw[length_map];omega,?_⟩;walk_at"g";have d2:upd H1 z.pp (.lst (qs.map V.ref++[.ref p])) z.r=_:=(jq od.1).trans R1.d;have eh2:upd H1 z.pp (.lst (qs.map V.ref++[.ref p])) z.ph=_:=(jq R.ph.symm).trans eh1;have eg2:upd H1 z.pp (.lst (qs.map V.ref++[.ref p])) z.pg=_:=(jq R.pg.symm).trans R1.g;have ep2:upd H1 z.pp (.lst (qs.map V.ref++[.ref p])) z.pp=_:=jn;have k2:Kp z H1 (upd H1 z.pp (.lst (qs.map V.ref++[.ref p]))):=fun b u o h=>(jq o.1).trans h
 generalize upd H1 z.pp (.lst (qs.map V.ref++[.ref p]))=H2 at d2 eh2 eg2 ep2 k2|-;refine⟨_,_,rfl,DGet.k (k:=Sum.inr "hands") d2,?_⟩;refine⟨.inl ⟨rfl,_,SqL.of eh2⟩,?_⟩;exists⟨_,_,_,rfl,rfl,eh2,by rw[length_map];omega,?_⟩;walk_at"g";have d3:upd H2 z.ph (.lst (hs.map V.ref++[.ref ha])) z.r=_:=(jq od.2.1).trans d2;have eg3:upd H2 z.ph (.lst (hs.map V.ref++[.ref ha])) z.pg=_:=(jq R.hg.symm).trans eg2;have ep3:upd H2 z.ph (.lst (hs.map V.ref++[.ref ha])) z.pp=_:=(jq R.ph).trans ep2;have eh3:upd H2 z.ph (.lst (hs.map V.ref++[.ref ha])) z.ph=_:=jn;have k3:Kp z H1 (upd H2 z.ph (.lst (hs.map V.ref++[.ref ha]))):=fun b u o h=>(jq o.2.1).trans (k2 b u o h)
 generalize upd H2 z.ph (.lst (hs.map V.ref++[.ref ha]))=H3 at d3 eg3 ep3 eh3 k3|-;refine⟨_,_,rfl,DGet.k (k:=Sum.inr "long") d3,?_⟩;refine⟨.inl ⟨rfl,_,SqL.of eg3⟩,?_⟩;exists⟨_,_,_,rfl,rfl,eg3,by rw[length_map];omega,?_⟩;have eg4:upd H3 z.pg (.lst (m.longs.map V.int++[.int g])) z.pg=_:=jn;have ep4:upd H3 z.pg (.lst (m.longs.map V.int++[.int g])) z.pp=_:=(jq R.pg).trans ep3;have eh4:upd H3 z.pg (.lst (m.longs.map V.int++[.int g])) z.ph=_:=(jq R.hg).trans eh3;have k4:Kp z H1 (upd H3 z.pg (.lst (m.longs.map V.int++[.int g]))):=fun b u o h=>(jq o.2.2).trans (k3 b u o h)
 exact q _ (fun b u o h=>k4 b u o (s1 b u h)) (j1H R1 k4 eq1 aq1 eh1 ah1 ⟨fa,e1,hf1⟩ hh1 ep4 eh4 eg4) fun hs' e=>by rw[eh]at e;injection e with e;injection e with e;rw[map_append,<-e];exact eh4
theorem Kb(T:Txt K mg t)(jS:FnOk P w K mg base CX0 1 t.Js t.Ju ["_law_cell","_law_turn"] (Zf))(j9:FnOk P w K mg base CX0 1 t.JK t.JM ["_law_cell","_law_mixed","_law_least"] (ym))(JI:FnOk P w K mg base CX0 1 t.Qz t.QC ["_law_room_here","_law_form_here","_law_hands","_law_long"] (sp_add)):FnOk P w K mg base CX0 2 t.qg t.qh ["_law_room_here","_law_cell","_law_some"] (sp_simple):=by
 refine T.QN.ok Qu (fun vs H Q E h=>?_) (fun cdv A outer s H vs Q E hr h=>?_)
 ·cases h;subst_vars;rfl
 obtain⟨z,m,c,p,ns,rfl,R,G,ml,hl,op,hn,hb,q⟩:=h;refine⟨_,(jf (jt (i:=3) Qu.nd rfl (.inl rfl) (ju (j9.mono (by decide)) hr (by rfl) T.QP T.qJ.kp T.QL .nil pass0 (jc (ju (jS.mono (by decide)) hr (by rfl) T.qP T.qf.kp T.qI .nil pass0 (jc (pv 1) (jc jd je))) (jc (jv jj (pv 2) jd) (jc jd je)))))
  (jg (jT (jh jU (jm jG (jv jj (pv 2) jd) jd) jd (nomark _))
   (jg (jN (ju (JI.mono (by decide)) hr (by rfl) T.QH T.qU.kp T.Qv .nil pass0 (jc (pv 0) (jc (Je (jc jr (jc (pv 3) je))) (jc (jZ je) (jc (pv 3) je)))))))
   (jg (jT (jh jU (jm jG (jv jj (pv 2) jd) jd) jd (nomark _))
    (jg (jN (ju (JI.mono (by decide)) hr (by rfl) T.QH T.qU.kp T.Qv .nil pass0 (jc (pv 0) (jc (Je (jc jr (jc (jv jj (Jh (JT hr) (pv 0) jr) (jm jG (jv jj (pv 2) jd) jd)) (jc (pv 3) je)))) (jc (jZ je) (jc (pv 3) je)))))))
    (jf (jt (i:=4) Qu.nd rfl (.inl rfl) (jm jG (jv jj (pv 2) jd) (jx jA (by rfl) T.j7 jP (jc (Jh (JT hr) (pv 0) jr) je))))
    (jf (jt (i:=5) Qu.nd rfl (.inl rfl) (ju (j9.mono (by decide)) hr (by rfl) T.QP T.qJ.kp T.QL .nil pass0 (jc (ju (jS.mono (by decide)) hr (by rfl) T.qP T.qf.kp T.qI .nil pass0 (jc (jm JF (pv 1) jd) (jc jd je))) (jc (jv jj (pv 2) jd) (jc jd je)))))
    (jg (jN (ju (JI.mono (by decide)) hr (by rfl) T.QH T.qU.kp T.Qv .nil pass0 (jc (pv 0) (jc (Je (jc jr (jc (jv Zq (jv jj (Jh (JT hr) (pv 0) jr) (pv 4)) jd) (jc (pv 5) (jc (pv 3) je))))) (jc (jZ (jc (pv 4) je)) (jc (pv 3) je)))))))))))))),?_⟩
 refine jD (σ':=[some _,some _,some _,none,none,none]) rfl ?_;have sz:(200:Nat)<sizeLine:=by decide
 have nl:=G.nl;have e1:=G.hl;have e2:=G.gl;have c0:=hb.cell (k:=0) (by omega) (by omega);have c1:=hb.cell (k:=1) (by omega) (by omega);have c2:=hb.cell (k:=2) (by omega) (by omega);have c3:=hb.cell (k:=3) (by omega) (by omega);exists⟨_,_,rfl,by omega,by omega,fun wn=>?_⟩;exists ixLm (SqL.of hl) (Pr.jJ (by omega) (by omega)) ?_;exists⟨_,_,_,rfl,by omega,by omega,by omega,by omega,fun b b1 b2=>?_⟩;exists ixLm (SqL.of hl) (Pr.jJ (by omega) (by omega)) ?_;exists iteD (fun d1=>?_) (fun d1=>?_)
 ·exists⟨(by show 2<=sizeLine;omega),fun p1 hp1=>?_⟩;have s1:=Pr.jE hp1 (.tup [.str "hold",.int b]);have t1:upd H p1 (.tup [.str "hold",.int b]) p1=some (.tup [.str "hold",.int b]):=jn;generalize upd H p1 (.tup [.str "hold",.int b])=H1 at s1 t1|-;have R1:=R.keeps s1;exists⟨Nat.zero_le _,fun p2 hp2=>?_⟩;have s2:=Pr.jE hp2 (.lst []);have t2:upd H1 p2 (.lst []) p2=some (.lst []):=jn;generalize upd H1 p2 (.lst [])=H2 at s2 t2|-;have R2:=R1.keeps s2;exists⟨z,m,p1,p2,.hold b,[],b,rfl,R2,s2 _ _ t1,⟨t2,Zs R1 hp2⟩,by omega,by omega,by omega,nl,fun H' k R' _=>?_⟩;exact q _ _ ((Kp.of (s1.trans s2)).trans k) R' (G.add ⟨⟨b1,b2,rfl,rfl⟩,(fun z h=>nomatch h),.nil,by omega,by omega⟩) yc
 exists ixLm (SqL.of hl) (Pr.jJ (by omega) (by omega)) ?_;exists iteD (fun d2=>?_) (fun d2=>?_)
 ·exists⟨_,_,rfl,K8 R,?_⟩;exists ixLm (SqL.of hl) (Pr.jJ (by omega) (by omega)) ?_;exists ixLm (SqL.of R.n) (WR (by omega) (by omega)) ?_;have hx:=getD_in (ws:=m.names) (n:=(Pr.cell ns 1%60).toNat) (by omega);generalize m.names.getD (Pr.cell ns 1%60).toNat ⟨#[]⟩=x at hx|-;exists⟨(by show 3<=sizeLine;omega),fun p1 hp1=>?_⟩;have s1:=Pr.jE hp1 (.tup [.str "ring",.str x,.int b]);have t1:upd H p1 (.tup [.str "ring",.str x,.int b]) p1=some (.tup [.str "ring",.str x,.int b]):=jn;generalize upd H p1 (.tup [.str "ring",.str x,.int b])=H1 at s1 t1|-;have R1:=R.keeps s1;exists⟨Nat.zero_le _,fun p2 hp2=>?_⟩;have s2:=Pr.jE hp2 (.lst []);have t2:upd H1 p2 (.lst []) p2=some (.lst []):=jn;generalize upd H1 p2 (.lst [])=H2 at s2 t2|-;have R2:=R1.keeps s2;exists⟨z,m,p1,p2,.ring x b,[],b,rfl,R2,s2 _ _ t1,⟨t2,Zs R1 hp2⟩,by omega,by omega,by omega,nl,fun H' k R' _=>?_⟩;exact q _ _ ((Kp.of (s1.trans s2)).trans k) R' (G.add ⟨⟨hx,b1,b2,rfl,rfl⟩,(fun z h=>nomatch h),.nil,by omega,by omega⟩) yc
 exists ixLm (SqL.of hl) (Pr.jJ (by omega) (by omega)) ?_;walk_at"g";obtain⟨ls,el,al⟩:=R.l;have l1:=G.l1;have l8:=G.l8;have la:=al.1;refine⟨_,_,rfl,YJ R,?_⟩;exists⟨_,_,rfl,.inl ⟨_,SqL.of el,rfl⟩,?_⟩;rw[length_map,la];walk_at"g";have i0:=Int.emod_nonneg (Pr.cell ns 1) (show(m.limbs.length:Int)≠0 by omega);have i1:=Int.emod_lt_of_pos (Pr.cell ns 1) (show 0<(m.limbs.length:Int) by omega);generalize Pr.cell ns 1%(m.limbs.length:Int)=j at i0 i1|-;refine⟨_,_,rfl,by omega,by omega,fun wn2=>?_⟩;exists ixLm (SqL.of hl) (Pr.jJ (by omega) (by omega)) ?_;exists⟨_,_,_,rfl,by omega,by omega,by omega,by omega,fun h h1 h2=>?_⟩;exists⟨_,_,rfl,YJ R,?_⟩;walk_at"g";obtain⟨x,v,hx⟩:∃x v,m.limbs[j.toNat]?=some (x,v):=⟨_,_,List.getElem?_eq_getElem (by omega)⟩
 obtain⟨a,ha,hat⟩:=al.get hx;refine ixLm (SqL.of el) (yR i0 ha) ?_;exists ixTm (SqT.of hat) rfl ?_;exists⟨(by show 4<=sizeLine;omega),fun p1 hp1=>?_⟩;have s1:=Pr.jE hp1 (.tup [.str "raise",.str x,.int h,.int b]);have t1:upd H p1 (.tup [.str "raise",.str x,.int h,.int b]) p1=some (.tup [.str "raise",.str x,.int h,.int b]):=jn;generalize upd H p1 (.tup [.str "raise",.str x,.int h,.int b])=H1 at s1 t1|-;have R1:=R.keeps s1;exists⟨(by show 1<=sizeLine;omega),fun p2 hp2=>?_⟩;have s2:=Pr.jE hp2 (.lst [.int j]);have t2:upd H1 p2 (.lst [.int j]) p2=some (.lst [.int j]):=jn;generalize upd H1 p2 (.lst [.int j])=H2 at s2 t2|-;have R2:=R1.keeps s2;exists⟨z,m,p1,p2,.rise x h b,[j],b,rfl,R2,s2 _ _ t1,⟨t2,Zs R1 hp2⟩,by omega,by omega,by omega,nl,fun H' k R' _=>?_⟩;refine q _ _ ((Kp.of (s1.trans s2)).trans k) R' (G.add ⟨⟨⟨j.toNat,v,hx,by rw[Int.toNat_of_nonneg i0]⟩,h1,h2,b1,b2,rfl⟩,fun k hk=>?_,List.pairwise_singleton _ _,by omega,by omega⟩) yc;have e:k=j:=by simpa using hk
 omega
theorem KE(T:Txt K mg t):FnOk P w K mg base CX0 1 t.qA t.qD ["_law_room_here","_law_number_here"] (sp_there):=by
 refine T.Zh.ok yw (fun vs H Q E h=>?_) (fun cdv A outer s H vs Q E hr h=>?_)
 ·cases h;subst_vars;rfl
 obtain⟨z,m,n,rfl,R,hm,n0,q⟩:=h;refine⟨_,(jf (jt (i:=2) yw.nd rfl (.inl rfl) (jx jA (by rfl) T.j7 jP (jc (Jh (JT hr) (pv 0) jr) je)))
  (jf (jT (jh jU (jm jG (pv 1) jd) jd (nomark _))
   (jg (jz (jm Zt (jm Zt (pv 2) jd) (jm jG (jm JF (pv 1) jd) (jx (K0 rfl) (by rfl) T.j3W j1N (jc (pv 2) (jc jd je)))))))
   jy)
  (jg (jz (jm jG (jm JF (pv 1) jd) (pv 2)))))),?_⟩
 refine jD (σ':=[some _,some _,none]) rfl ?_;obtain⟨qs,eq,aq⟩:=R.p;have hq:=aq.1;exists⟨_,_,rfl,qj R,?_⟩;exists⟨_,_,rfl,.inl ⟨_,SqL.of eq,rfl⟩,?_⟩;rw[length_map,hq];generalize m.parts.length=k at hm q|-;exists iteD (fun c1=>?_) (fun c1=>?_)
 ·exists⟨_,_,rfl,?_⟩;have e:0<(if(6:Int)<(k:Int)then(6:Int)else k)/\(if(6:Int)<(k:Int)then(6:Int)else k)<=k:=by split<;>omega
  generalize(if(6:Int)<(k:Int)then(6:Int)else k)=w at e|-;walk_at"g";have a0:=Int.emod_nonneg (n/2) (show w≠0 by omega);have a1:=Int.emod_lt_of_pos (n/2) (show 0<w by omega);exact j0t q (by omega) (by omega)
 ·walk_at"g";have a0:=Int.emod_nonneg (n/2) (show(k:Int)≠0 by omega);have a1:=Int.emod_lt_of_pos (n/2) (show 0<(k:Int) by omega);exact j0t q (by omega) (by omega)
theorem KA(T:Txt K mg t)(qx:FnOk P w K mg base CX0 1 t.qA t.qD ["_law_room_here","_law_number_here"] (sp_there)):FnOk P w K mg base CX0 2 t.Qd t.Ql ["_law_room_here","_law_some"] (sp_apart):=by
 refine T.yL.ok Ji (fun vs H Q E h=>?_) (fun cdv A outer s H vs Q E hr h=>?_)
 ·cases h;subst_vars;rfl
 obtain⟨z,m,p,ns,rfl,R,G,hm,ml,hl,hn,hb,q⟩:=h;refine⟨_,(jf (jt (i:=2) Ji.nd rfl (.inl rfl) (jZ je))
  (jf (jt (i:=3) Ji.nd rfl (.inr rfl) (jZ je))
  (jf (JV PassesOwn.never rfl (qG (by rfl) T.Qj (jc (jm jX jd (jm jG (jv jj (pv 1) jd) jd)) je)) (jF (i:=4) Ji.nd rfl (.inl rfl))
   (jf (jt (i:=5) Ji.nd rfl (.inl rfl) (ju (qx.mono (by decide)) hr (by rfl) T.Yi T.Zh.kp T.yI .nil pass0 (jc (pv 0) (jc (jv jj (pv 1) (jm jX jd (pv 4))) je))))
   (jg (JV PassesOwn.never rfl (qG (by rfl) T.Qj (jc (jx jA (by rfl) T.j7 jP (jc (Jh (JT hr) (pv 0) jr) je)) je)) (jF (i:=6) Ji.nd rfl (.inl rfl))
    (jf (jt (i:=7) Ji.nd rfl (.inl rfl) (jm jG (jm jX (pv 5) (pv 6)) (jx jA (by rfl) T.j7 jP (jc (Jh (JT hr) (pv 0) jr) je))))
    (jf (jt (i:=8) Ji.nd rfl (.inl rfl) (jv jj (Jh (JT hr) (pv 0) jr) (pv 7)))
    (jg (jT (PW.pt (qk (jh (j4w hr.units) (pv 8) (jZ je) (nomark _)) (qT (jh (XN hr.units) (za (ow:=["_law_hand"]) (ci:=[3]) rfl (CompScope.of (defScope zb) ["_law_room_here","_law_some","_law_there_here","_law_hands","_law_k","_law_first","_law_step","_law_one","_law_here"] rfl rfl (by decide +kernel)) (qS (by decide)) (J3 (pv 8)) (fun _ _ _ _ _=>⟨(jF (i:=0) (Qk ["_law_room_here","_law_some","_law_there_here","_law_hands","_law_k","_law_first","_law_step","_law_one","_law_here"] rfl (by decide +kernel)) rfl (.inl rfl)),(XY (jh (XQ (K:=K) rfl) (pv 0) (pv 1) (by with_unfolding_all rfl))),(pv 0)⟩)) (jZ je) (nomark _)))))
     (jf (jN (j8 PySem.F.plainAttrs_list PySem.F.slot_list_append PySem.F.type_list_append jQ (pv 2) (jc (pv 7) je)))
     (jf (jt (i:=3) Ji.nd rfl (.inr rfl) (jm zv (pv 3) (pv 8)))
     (jg j2r)))
     jy))))))))
  (jg (jz (pv 2)))))),?_⟩
 refine jD (σ':=[some _,some _,none,none,none,none,none,none,none]) rfl ?_;have sz:(200:Nat)<sizeLine:=by decide
 have c1:=hb.cell (k:=1) (by omega) (by omega);obtain⟨ha,eha,aha⟩:=R.h;exists⟨Nat.zero_le _,fun p0 hp0=>?_⟩;have s0:=Pr.jE hp0 (.lst []);have t0:upd H p0 (.lst []) p0=some (.lst []):=jn;generalize upd H p0 (.lst [])=H0 at s0 t0|-;exists⟨Nat.zero_le _,fun p1 hp1=>?_⟩;have s1:=Pr.jE hp1 (.lst []);have t1:upd H0 p1 (.lst []) p1=some (.lst []):=jn;have t01:=s1 _ _ t0;generalize upd H0 p1 (.lst [])=H1 at s1 t1 t01|-;have s2:=s0.trans s1;exists ixLm (SqL.of (s2 _ _ hl)) (Pr.jJ (by omega) (by omega)) ?_;exists⟨_,rfl,by omega,by omega,?_⟩;refine qi (fun i σ H'=>∃(o4 o5 o6 o7 o8:Option V) (ph:Addr) (is:List Nat) (hs:List Int),σ=[some (.ref z.r),some (.ref p),some (.ref p0),some (.ref ph),o4,o5,o6,o7,o8]/\Same H H'/\H' p0=some (.lst (is.map vN))/\H' ph=some (.lst (hs.map V.int))/\p0≠ph/\is.length<=i/\hs.length<=8*i/\(∀j∈is,j<m.parts.length)/\Apart m is/\∀j∈is,∀k∈m.hd j,k∈hs)
  ⟨_,_,_,_,_,p1,[],[],rfl,s2,t01,t1,ji t0 hp1,Nat.le_refl _,Nat.le_refl _,(fun j h=>nomatch h),⟨(fun j h=>nomatch h),.nil⟩,(fun j h=>nomatch h)⟩ ?_ ?_
 ·rintro i σ H' hi ⟨o4,o5,o6,o7,o8,ph,is,hs,rfl,sm,e0,e1,n01,hil,hhl,hlt,hap,hin⟩;have hi':i<4:=by omega
  have Ri:=R.keeps sm;have ck:=hb.cell (k:=2+(0+(i:Int))) (by omega) (by omega);obtain⟨qs,eqs,aq⟩:=Ri.p;have hq:=aq.1;exists ixLm (SqL.of (sm _ _ hl)) (Pr.jJ (by omega) (by omega)) ?_;exists⟨z,m,_,rfl,Ri,hm,by omega,fun f hf=>?_⟩;exists⟨_,_,rfl,qj Ri,?_⟩;exists⟨_,_,rfl,.inl ⟨_,SqL.of eqs,rfl⟩,?_⟩;rw[length_map,hq];exists⟨_,rfl,by omega,by omega,?_⟩;refine qi (fun _ σ H2=>∃(o6 o7 o8:Option V),σ=[some (.ref z.r),some (.ref p),some (.ref p0),some (.ref ph),some (.int (0+(i:Int))),some (.int (f:Int)),o6,o7,o8]/\Same H' H2) ⟨_,_,_,rfl,Same.refl _⟩ ?_ ?_
  ·rintro i2 σ H2 hi2 ⟨o6,o7,o8,rfl,sm2⟩;have R2:=Ri.keeps sm2;exists⟨_,_,rfl,qj R2,?_⟩;exists⟨_,_,rfl,.inl ⟨_,SqL.of (sm2 _ _ eqs),rfl⟩,?_⟩;rw[length_map,hq];walk_at"g";have a0:=Int.emod_nonneg ((f:Int)+(0+(i2:Int))) (show(m.parts.length:Int)≠0 by omega);have a1:=Int.emod_lt_of_pos ((f:Int)+(0+(i2:Int))) (show 0<(m.parts.length:Int) by omega);obtain⟨j,ej⟩:∃j:Nat,((f:Int)+(0+(i2:Int)))%(m.parts.length:Int)=(j:Int):=⟨_,(Int.toNat_of_nonneg a0).symm⟩
   rw[ej]at a0 a1|-;have hj:j<m.parts.length:=by omega
   obtain⟨a,ha1,ha2,ha3⟩:=wZ R G hj eha;have ha22:=sm2 _ _ (sm _ _ ha2);refine⟨_,_,rfl,YI R2,?_⟩;exists ixLm (SqL.of (sm2 _ _ (sm _ _ eha))) (yR (i:=(j:Int)) (by omega) ha1) ?_;exists⟨Nat.zero_le _,fun p3 hp3=>?_⟩;have s3:=Pr.jE hp3 (.lst []);have t3:upd H2 p3 (.lst []) p3=some (.lst []):=jn;generalize upd H2 p3 (.lst [])=H3 at s3 t3|-;refine⟨_,_,j40 (s3 _ _ ha22),j4d t3,shp _,shp0,?_⟩;rw[j41];exists iteN (fun d1=>?_) (fun d1=>?_)
   ·walk_at"g";have hj8:=j2a G hj;have ha33:=s3 _ _ ha22;have e13:=s3 _ _ (sm2 _ _ e1);refine⟨a,rfl,⟨_,SqL.of ha33⟩,?_⟩;refine JR (xs:=(m.hd j).map V.int) (fun i ys H'=>ys=(((m.hd j).take i).filter fun k=>decide (k∈hs)).map V.int/\H3=H') ⟨rfl,rfl⟩ ?_ ?_ ?_
    ·rintro i ys H' _ ⟨rfl,rfl⟩;exact SqL.of ha33
    ·rintro i x ys H' hx ⟨rfl,rfl⟩;rw[List.getElem?_map]at hx;obtain⟨n,hn',rfl⟩:=Option.map_eq_some_iff.mp hx;have hi:=(List.getElem?_eq_some_iff.mp hn').1;refine QK (σ':=[none,some _]) rfl ?_;exists⟨ph,_,rfl,.inl (SqL.of e13),rfl,flats hs,?_⟩;rw[inI];walk_at"g";have hle:(((m.hd j).take i).filter fun k=>decide (k∈hs)).length<=8:=Nat.le_trans (length_filter_le _ _) (Nat.le_trans (List.length_take_le' _ _) hj8);refine iteD (fun d2=>?_) (fun d2=>?_)
     ·exists⟨by rw[length_map];omega,?_,rfl⟩;rw[take_snoc hn',filter_append,map_append,filter_cons,if_pos (decide_eq_true d2)];rfl
     ·refine⟨?_,rfl⟩;rw[take_snoc hn',filter_append,map_append,filter_cons,if_neg (by simpa using d2)];exact(append_nil _).symm
    ·rintro ys H' ⟨rfl,rfl⟩;rw[show((m.hd j).map V.int).length=(m.hd j).length from length_map _,take_length];have hle:((m.hd j).filter fun k=>decide (k∈hs)).length<=8:=Nat.le_trans (length_filter_le _ _) hj8;refine⟨by rw[length_map];omega,fun p4 hp4=>?_⟩;have s4:=Pr.jE hp4 (.lst (((m.hd j).filter fun k=>decide (k∈hs)).map V.int));have t4:upd H3 p4 (.lst (((m.hd j).filter fun k=>decide (k∈hs)).map V.int)) p4=some (.lst (((m.hd j).filter fun k=>decide (k∈hs)).map V.int)):=jn;generalize upd H3 p4 (.lst (((m.hd j).filter fun k=>decide (k∈hs)).map V.int))=H4 at s4 t4|-;exists⟨Nat.zero_le _,fun p5 hp5=>?_⟩;have s5:=Pr.jE hp5 (.lst []);have t5:upd H4 p5 (.lst []) p5=some (.lst []):=jn;generalize upd H4 p5 (.lst [])=H5 at s5 t5|-;refine⟨_,_,j40 (s5 _ _ t4),j4d t5,shp _,shp0,?_⟩;rw[j41];walk_at"g";have s35:=s3.trans (s4.trans s5);have smm:=sm.trans (sm2.trans s35);refine iteD (fun d2=>?_) (fun d2=>?_)
     ·have e05:=s35 _ _ (sm2 _ _ e0);have e15:=s35 _ _ (sm2 _ _ e1);have ha5:=smm _ _ ha2;exists⟨.inl ⟨rfl,_,SqL.of e05⟩,?_⟩;exists⟨p0,_,_,rfl,rfl,e05,by rw[length_map];omega,?_⟩;have s6:Same H (upd H5 p0 (.lst (is.map vN++[.int (j:Int)]))):=Ws.Yp smm hp0;have e06:upd H5 p0 (.lst (is.map vN++[.int (j:Int)])) p0=some (.lst ((is++[j]).map vN)):=by rw[jn,map_append];rfl
      have e16:upd H5 p0 (.lst (is.map vN++[.int (j:Int)])) ph=_:=(jq n01.symm).trans e15;have ha6:=s6 _ _ ha2;generalize upd H5 p0 (.lst (is.map vN++[.int (j:Int)]))=H6 at s6 e06 e16 ha6|-;exists⟨ph,a,_,_,rfl,rfl,e16,ha6,by rw[length_map,length_map];omega,fun p7 hp7=>?_⟩;have s7:=Pr.jE hp7 (.lst (hs.map V.int++(m.hd j).map V.int));have e17:upd H6 p7 (.lst (hs.map V.int++(m.hd j).map V.int)) p7=some (.lst ((hs++m.hd j).map V.int)):=by rw[jn,map_append]
      generalize upd H6 p7 (.lst (hs.map V.int++(m.hd j).map V.int))=H7 at s7 e17|-;exists⟨_,_,_,_,_,p7,is++[j],hs++m.hd j,rfl,s6.trans s7,s7 _ _ e06,e17,ji e06 hp7,by rw[List.length_append,List.length_singleton];omega,by rw[List.length_append];omega,fun x hx=>?_,hap.snoc hin d1 fun k hk hk'=>?_,fun x hx k hk=>?_⟩
      ·rcases mem_append.mp hx with e | e
       ·exact hlt x e
       ·have e':x=j:=by simpa using e
        omega
      ·have:k∈(m.hd j).filter fun k=>decide (k∈hs):=mem_filter.mpr ⟨hk,decide_eq_true hk'⟩
       rw[d2]at this;cases this
      ·rcases mem_append.mp hx with e | e
       ·exact mem_append_left _ (hin x e k hk)
       ·have e':x=j:=by simpa using e
        subst e';exact mem_append_right _ hk
     ·exact⟨_,_,_,rfl,sm2.trans s35⟩
   ·refine iteF ?_;exact⟨_,_,_,rfl,sm2.trans s3⟩
  ·rintro σ H2 ⟨o6,o7,o8,rfl,sm2⟩;walk_at"g";exact⟨_,_,_,_,_,ph,is,hs,rfl,sm.trans sm2,sm2 _ _ e0,sm2 _ _ e1,n01,by omega,by omega,hlt,hap,hin⟩
 ·rintro σ H' ⟨o4,o5,o6,o7,o8,ph,is,hs,rfl,sm,e0,e1,n01,hil,hhl,hlt,hap,hin⟩;walk_at"g";exact q p0 is H' sm hp0 e0 (by omega) hlt hap
theorem kY(T:Txt K mg t)(jS:FnOk P w K mg base CX0 1 t.Js t.Ju ["_law_cell","_law_turn"] (Zf))(j9:FnOk P w K mg base CX0 1 t.JK t.JM ["_law_cell","_law_mixed","_law_least"] (ym))(JI:FnOk P w K mg base CX0 1 t.Qz t.QC ["_law_room_here","_law_form_here","_law_hands","_law_long"] (sp_add))(JJ:FnOk P w K mg base CX0 2 t.qg t.qh ["_law_room_here","_law_cell","_law_some"] (sp_simple))(qx:FnOk P w K mg base CX0 1 t.qA t.qD ["_law_room_here","_law_number_here"] (sp_there))(Zj:FnOk P w K mg base CX0 2 t.Qd t.Ql ["_law_room_here","_law_some"] (sp_apart)):FnOk P w K mg base CX0 3 t.qL t.qN ["_law_room_here","_law_cell","_law_some"] (sp_naming):=by
 refine T.yq.ok jR (fun vs H Q E h=>?_) (fun cdv A outer s H vs Q E hr h=>?_)
 ·cases h;subst_vars;rfl
 obtain⟨z,m,c,p,ns,rfl,R,G,hm,ml,hl,op,hn,hb,q⟩:=h;refine⟨_,(jf (kr (i:=3) (ow:=["_law_one"]) (ci:=[0]) rfl (CompScope.of (defScope JO) ["_law_room_here","_law_cell","_law_some","_law_there_here","_law_long","_law_hands","_law_one","_law_names_here","_law_times"] rfl rfl (by decide +kernel)) (qS (by decide)) jR.nd rfl (.inl rfl) (J3 (jO Jg (pv 2) (jM jd) (jM (jm jX jd (jm jG (jv jj (pv 2) jd) jd))))) (fun _ _ _ _ _=>⟨(jF (i:=0) (Qk ["_law_room_here","_law_cell","_law_some","_law_there_here","_law_long","_law_hands","_law_one","_law_names_here","_law_times"] rfl (by decide +kernel)) rfl (.inl rfl)),zR,(ju (qx.mono (by decide)) hr (by rfl) T.Yi T.Zh.kp T.yI .nil pass0 (jc (pv 1) (jc (pv 0) je)))⟩))
  (jf (Jp (jh jU (jm jG (jv jj (pv 2) jd) jd) jd (nomark _))
   (jf (jt (i:=3) jR.nd rfl (.inl rfl) (ju (Zj.mono (by decide)) hr (by rfl) T.Wd T.yL.kp T.wB .nil pass0 (jc (pv 0) (jc (pv 2) je))))
   (jg (jT (jh Ym (jx jA (by rfl) T.j7 jP (jc (pv 3) je)) jd (nomark _))
    (jf (jN (ju (JJ.mono (by decide)) hr (by rfl) T.zQ T.QN.kp T.zN .nil pass0 (jc (pv 0) (jc (pv 1) (jc (pv 2) je)))))
    (jg j3z))
    jy)))
   jy)
  (jf (kr (i:=4) (ow:=["_law_one"]) (ci:=[0]) rfl (CompScope.of (defScope JO) ["_law_room_here","_law_cell","_law_some","_law_there_here","_law_long","_law_hands","_law_one","_law_names_here","_law_times"] rfl rfl (by decide +kernel)) (qS (by decide)) jR.nd rfl (.inl rfl) (J3 (pv 3)) (fun _ _ _ _ _=>⟨(jF (i:=0) (Qk ["_law_room_here","_law_cell","_law_some","_law_there_here","_law_long","_law_hands","_law_one","_law_names_here","_law_times"] rfl (by decide +kernel)) rfl (.inl rfl)),zR,(jv (xa (K:=K) rfl) (Jh (JT hr) (pv 1) jr) (pv 0))⟩))
  (jf (Jp (PW.pt (qk (jh jU (jm jG (jv jj (pv 2) jd) jd) jd (nomark _)) (qT (jh Z0 (jx (K1 rfl) (by rfl) T.j3X j1O (jc (pv 4) je)) (jm Q6 jd jd) (nomark _)))))
   (jf (jt (i:=3) jR.nd rfl (.inl rfl) (jO Jg (pv 3) j6 (jM jd)))
   (jg (jt (i:=4) jR.nd rfl (.inl rfl) (jO Jg (pv 4) j6 (jM jd)))))
   jy)
  (jf (jt (i:=5) jR.nd rfl (.inr rfl) (jZ je))
  (jf (JV PassesOwn.never rfl (J3 (pv 3)) (jF (i:=6) jR.nd rfl (.inl rfl))
   (jg (jt (i:=5) jR.nd rfl (.inr rfl) (jm zv (pv 5) (za (ow:=["_law_hand"]) (ci:=[5]) rfl (CompScope.of (defScope JO) ["_law_room_here","_law_cell","_law_some","_law_there_here","_law_long","_law_hands","_law_one","_law_names_here","_law_times"] rfl rfl (by decide +kernel)) (qS (by decide)) (J3 (jv jj (Jh (JT hr) (pv 0) jr) (pv 6))) (fun _ _ _ _ _=>⟨(jF (i:=0) (Qk ["_law_room_here","_law_cell","_law_some","_law_there_here","_law_long","_law_hands","_law_one","_law_names_here","_law_times"] rfl (by decide +kernel)) rfl (.inl rfl)),(XY (jh (yv (K:=K) rfl) (pv 0) (pv 1) (by with_unfolding_all rfl))),(pv 0)⟩))))))
  (jf (jt (i:=7) jR.nd rfl (.inl rfl) (JC QO (by rfl) T.yd Za (jc (za (ow:=["_law_one"]) (ci:=[0]) rfl (CompScope.of (defScope JO) ["_law_room_here","_law_cell","_law_some","_law_there_here","_law_long","_law_hands","_law_one","_law_names_here","_law_times"] rfl rfl (by decide +kernel)) (qS (by decide)) (J3 (pv 3)) (fun _ _ _ _ _=>⟨(jF (i:=0) (Qk ["_law_room_here","_law_cell","_law_some","_law_there_here","_law_long","_law_hands","_law_one","_law_names_here","_law_times"] rfl (by decide +kernel)) rfl (.inl rfl)),zR,(jv (j0x (K:=K) rfl) (jv (xa (K:=K) rfl) (Jh (JT hr) (pv 1) jr) (pv 0)) jd)⟩)) je)))
  (jg (jT (jh jU (jm jG (jv jj (pv 2) jd) jd) jd (nomark _))
   (jg (jN (ju (JI.mono (by decide)) hr (by rfl) T.QH T.qU.kp T.Qv .nil pass0 (jc (pv 0) (jc (Je (jc jr (jc (pv 7) je))) (jc (jx y0 (by rfl) T.WT KU (jc (pv 5) je)) (jc (jx (K1 rfl) (by rfl) T.j3X j1O (jc (pv 4) je)) je)))))))
   (jg (jT (jh jU (jm jG (jv jj (pv 2) jd) jd) jd (nomark _))
    (jg (jN (ju (JI.mono (by decide)) hr (by rfl) T.QH T.qU.kp T.Qv .nil pass0 (jc (pv 0) (jc (Je (jc jr (jc (pv 7) je))) (jc (jx y0 (by rfl) T.WT KU (jc (pv 5) je)) (jc (jx (j0S rfl) (by rfl) T.j3V j1M (jc (pv 4) je)) je)))))))
    (jf (jt (i:=8) jR.nd rfl (.inl rfl) (ju (j9.mono (by decide)) hr (by rfl) T.QP T.qJ.kp T.QL .nil pass0 (jc (ju (jS.mono (by decide)) hr (by rfl) T.qP T.qf.kp T.qI .nil pass0 (jc (pv 1) (jc jd je))) (jc (jv jj (pv 2) jd) (jc jd je)))))
    (jf (Jp (jh Z0 (jm Qs (pv 8) (jv jj (pv 4) jd)) (jm Q6 jd jd) (nomark _))
     (jg (jt (i:=8) jR.nd rfl (.inl rfl) jd))
     jy)
    (jg (jN (ju (JI.mono (by decide)) hr (by rfl) T.QH T.qU.kp T.Qv .nil pass0 (jc (pv 0) (jc (Je (jc jr (jc (pv 8) (jc (jv Zq (pv 7) jd) je)))) (jc (jv jj (Jh (JT hr) (pv 0) jr) (jv jj (pv 3) jd)) (jc (jm Qs (pv 8) (jv jj (pv 4) jd)) je)))))))))))))))))))),?_⟩
 refine jD (σ':=[some _,some _,some _,none,none,none,none,none,none]) rfl ?_;have sz:(200:Nat)<sizeLine:=by decide
 have nl:=G.nl;have c0:=hb.cell (k:=0) (by omega) (by omega);have c1:=hb.cell (k:=1) (by omega) (by omega);exists ixLm (SqL.of hl) (Pr.jJ (by omega) (by omega)) ?_;exists⟨p,_,rfl,SqL.of hl,fun p1 hp1=>?_⟩;rw[j2Y (by omega) (by omega)];have hml:((ns.drop 2).take (3+Pr.cell ns 1%8-2).toNat).length=(1+Pr.cell ns 1%8).toNat:=by rw[length_take,length_drop];omega
 have hmb:∀n∈(ns.drop 2).take (3+Pr.cell ns 1%8-2).toNat,0<=n:=fun n h=>(hb n (mem_of_mem_drop (mem_of_mem_take h))).1
 generalize(ns.drop 2).take (3+Pr.cell ns 1%8-2).toNat=ms at hml hmb|-;have s1:=Pr.jE hp1 (.lst (ms.map V.int));have t1:upd H p1 (.lst (ms.map V.int)) p1=some (.lst (ms.map V.int)):=jn;generalize upd H p1 (.lst (ms.map V.int))=H1 at s1 t1|-;have R1:=R.keeps s1;refine⟨p1,rfl,⟨_,SqL.of t1⟩,?_⟩;refine JR (xs:=ms.map V.int) (fun i ys H'=>∃is:List Nat,ys=is.map vN/\is.length=i/\(∀j∈is,j<m.parts.length)/\H1=H') ⟨[],rfl,rfl,(fun z h=>nomatch h),rfl⟩ ?_ ?_ ?_
 ·rintro i ys H' _ ⟨is,rfl,hz,h1,rfl⟩;exact SqL.of t1
 ·rintro i x ys H' hx ⟨is,rfl,hz,h1,rfl⟩;obtain⟨n,hn',rfl⟩:=mem_map.mp (mem_of_getElem? hx);have hi:=(List.getElem?_eq_some_iff.mp hx).1;rw[length_map]at hi;refine QK (σ':=[none,some _]) rfl ?_;exists iteT ?_;exists⟨z,m,n,rfl,R1,hm,hmb n hn',fun j hj=>?_⟩;refine⟨by rw[length_map];omega,is++[j],by rw[map_append];rfl,by simp[hz],fun y hy=>?_,rfl⟩;rcases mem_append.mp hy with w | w
  ·exact h1 y w
  ·have e:y=j:=by simpa using w
   omega
 rintro ys H' ⟨is,rfl,hil,hlt,rfl⟩;rw[length_map]at hil;refine⟨by rw[length_map];omega,fun p2 hp2=>?_⟩;have s2:=s1.trans (Pr.jE hp2 (.lst (is.map vN)));have t2:upd H1 p2 (.lst (is.map vN)) p2=some (.lst (is.map vN)):=jn;generalize upd H1 p2 (.lst (is.map vN))=H2 at s2 t2|-;have R2:=R.keeps s2;exists⟨fun σ' H'=>∃(l:Addr) (is:List Nat),σ'=[some (.ref z.r),some (.int c),some (.ref p),some (.ref l),none,none,none,none,none]/\Same H H'/\H' l=some (.lst (is.map vN))/\1<=is.length/\is.length<=8/\(∀j∈is,j<m.parts.length)/\(Pr.cell ns 0%8=6->Apart m is/\2<=is.length/\is.length<=4),?_,?_⟩
 rotate_left
 ·exists ixLm (SqL.of (s2 _ _ hl)) (Pr.jJ (by omega) (by omega)) ?_;exists iteD (fun d1=>?_) (fun d1=>?_)
  ·exists⟨z,m,p,ns,rfl,R2,G,hm,ml,s2 _ _ hl,by omega,hb,fun l js H3 s3 hl3 e3 h4 hj ap=>?_⟩;exists⟨_,_,rfl,.inl ⟨_,SqL.of e3,rfl⟩,?_⟩;rw[length_map];exists iteD (fun d2=>?_) (fun d2=>?_)
   ·exists⟨z,m,c,p,ns,rfl,R2.keeps s3,G,by omega,s3 _ _ (s2 _ _ hl),op,by omega,hb,fun m' H' k R' G' hl'=>?_⟩;walk_at"g";exact q m' H' ((Kp.of (s2.trans s3)).trans k) R' G' hl'
   ·walk_at"g";exact⟨l,js,rfl,s2.trans s3,e3,by omega,by omega,hj,fun _=>⟨ap,by omega,h4⟩⟩
  ·walk_at"g";exact⟨p2,is,rfl,s2,t2,by omega,by omega,hlt,fun e=>absurd e d1⟩
 rintro σ' H3 ⟨l,is,rfl,s3,e3,i1,i8,hj,ap⟩;clear hlt hil t2 s2 R2 hp2 p2 H2 t1 R1 s1;have R3:=R.keeps s3;exists⟨l,rfl,⟨_,SqL.of e3⟩,?_⟩;refine JR (xs:=is.map vN) (fun i ys H'=>ys=((is.take i).map m.lg).map V.int/\H3=H') ⟨rfl,rfl⟩ ?_ ?_ ?_
 ·rintro i ys H' _ ⟨rfl,rfl⟩;exact SqL.of e3
 ·rintro i x ys H' hx ⟨rfl,rfl⟩;obtain⟨j,hj1,rfl,hj2⟩:=j2I hx;have hi:=(List.getElem?_eq_some_iff.mp hj1).1;refine QK (σ':=[none,some _]) rfl ?_;exists iteT ?_;exists⟨_,_,rfl,j28 R3,?_⟩;exists ixLm (SqL.of R3.g) (j3c G (hj j hj2)) ?_;refine⟨by rw[length_map,length_map,length_take];omega,?_,rfl⟩;rw[take_snoc hj1,map_append,map_append];rfl
 rintro ys H' ⟨rfl,rfl⟩;rw[show(is.map vN).length=is.length from length_map _,take_length];refine⟨by rw[length_map,length_map];omega,fun p4 hp4=>?_⟩;have s4:=s3.trans (Pr.jE hp4 (.lst ((is.map m.lg).map V.int)));have e34:=Pr.jE hp4 (.lst ((is.map m.lg).map V.int)) _ _ e3;have t4:upd H3 p4 (.lst ((is.map m.lg).map V.int)) p4=some (.lst ((is.map m.lg).map V.int)):=jn;generalize upd H3 p4 (.lst ((is.map m.lg).map V.int))=H4 at s4 e34 t4|-;exists⟨fun σ' H'=>∃(l g:Addr) (is:List Nat),σ'=[some (.ref z.r),some (.int c),some (.ref p),some (.ref l),some (.ref g),none,none,none,none]/\Same H H'/\H' l=some (.lst (is.map vN))/\H' g=some (.lst ((is.map m.lg).map V.int))/\1<=is.length/\is.length<=8/\(∀j∈is,j<m.parts.length)/\(Pr.cell ns 0%8=6->Apart m is/\2<=is.length/\is.length<=4)/\(Pr.cell ns 0%8=5->(is.map m.lg).sum<=10^60),?_,?_⟩
 rotate_left
 ·exists ixLm (SqL.of (s4 _ _ hl)) (Pr.jJ (by omega) (by omega)) ?_;exists iteD (fun d1=>?_) (fun d1=>?_)
  ·exists⟨_,_,rfl,SqL.of t4,?_⟩;exists iteD (fun d2=>?_) (fun d2=>?_)
   ·exists⟨l,_,rfl,SqL.of e34,fun p5 hp5=>?_⟩;rw[cut1];have s5:=Pr.jE hp5 (.lst ((is.map vN).take 1));have t5:upd H4 p5 (.lst ((is.map vN).take 1)) p5=some (.lst ((is.take 1).map vN)):=by rw[jn,map_take]
    generalize upd H4 p5 (.lst ((is.map vN).take 1))=H5 at s5 t5|-;exists⟨p4,_,rfl,SqL.of (s5 _ _ t4),fun p6 hp6=>?_⟩;rw[cut1];have s6:=Pr.jE hp6 (.lst (((is.map m.lg).map V.int).take 1));have t6:upd H5 p6 (.lst (((is.map m.lg).map V.int).take 1)) p6=some (.lst (((is.take 1).map m.lg).map V.int)):=by rw[jn,map_take,map_take]
    generalize upd H5 p6 (.lst (((is.map m.lg).map V.int).take 1))=H6 at s6 t6|-;walk_at"g";have e1:(is.take 1).length=1:=by rw[length_take];omega
    have hj':∀j∈is.take 1,j<m.parts.length:=fun j h=>hj j (mem_of_mem_take h)
    have e2:=(X8 G hj').2;rw[e1]at e2;exact⟨p5,p6,is.take 1,rfl,s4.trans (s5.trans s6),s6 _ _ t5,t6,by omega,by omega,hj',fun e=>by omega,fun _=>by omega⟩
   ·walk_at"g";exact⟨l,p4,is,rfl,s4,e34,t4,i1,i8,hj,ap,fun _=>by omega⟩
  ·refine iteF ?_;walk_at"g";exact⟨l,p4,is,rfl,s4,e34,t4,i1,i8,hj,ap,fun e=>absurd e d1⟩
 clear t4 e34 s4 hp4 p4 H4 R3 i1 i8 hj ap e3 s3 l is H3;rintro σ' H5 ⟨l,g,is,rfl,s5,e5,t5,i1,i8,hj,ap,sm⟩;have R5:=R.keeps s5;exists⟨Nat.zero_le _,fun p6 hp6=>?_⟩;have s6:=s5.trans (Pr.jE hp6 (.lst []));have e6:=Pr.jE hp6 (.lst []) _ _ e5;have g6:=Pr.jE hp6 (.lst []) _ _ t5;have t6:upd H5 p6 (.lst []) p6=some (.lst []):=jn;generalize upd H5 p6 (.lst [])=H6 at s6 e6 g6 t6|-;walk_at"g";obtain⟨ha,eha,aha⟩:=R.h;refine⟨l,rfl,⟨_,SqL.of e6⟩,?_⟩;refine Yd (xs:=is.map vN) (fun i σ H'=>∃(h:Addr) (hs:List Int) (o6:Option V),σ=[some (.ref z.r),some (.int c),some (.ref p),some (.ref l),some (.ref g),some (.ref h),o6,none,none]/\Same H6 H'/\H' h=some (.lst (hs.map V.int))/\hs.length<=8*i/\hs.Nodup/\∀k,k∈hs↔∃j∈is.take i,k∈m.hd j)
  ⟨p6,[],none,rfl,Same.refl _,t6,Nat.zero_le _,.nil,fun k=>⟨(fun h=>nomatch h),fun⟨j,h,_⟩=>by simp at h⟩⟩ ?_ ?_ ?_
 ·rintro i σ H' _ ⟨h,hs,o6,rfl,sm7,th,hl8,hnd,hmem⟩;exact SqL.of (sm7 _ _ e6)
 ·rintro i x σ H' hx ⟨h,hs,o6,rfl,sm7,th,hl8,hnd,hmem⟩;obtain⟨j,hj1,rfl,hj2⟩:=j2I hx;have hi:=(List.getElem?_eq_some_iff.mp hj1).1;have s7:=s6.trans sm7;have R7:=R.keeps s7;have hj8:=j2a G (hj j hj2);obtain⟨a,ha1,ha2,ha3⟩:=wZ R G (hj j hj2) eha;have ha7:=s7 _ _ ha2;exists⟨_,_,rfl,YI R7,?_⟩;exists ixLm (SqL.of (s7 _ _ eha)) (yR (i:=(j:Int)) (by omega) ha1) ?_;refine⟨a,rfl,⟨_,SqL.of ha7⟩,?_⟩;refine JR (xs:=(m.hd j).map V.int) (fun i ys H''=>ys=(((m.hd j).take i).filter fun k=>!decide (k∈hs)).map V.int/\H'=H'') ⟨rfl,rfl⟩ ?_ ?_ ?_
  ·rintro i ys H'' _ ⟨rfl,rfl⟩;exact SqL.of ha7
  ·rintro i x ys H'' hx ⟨rfl,rfl⟩;rw[List.getElem?_map]at hx;obtain⟨n,hn',rfl⟩:=Option.map_eq_some_iff.mp hx;refine QK (σ':=[none,some _]) rfl ?_;exists⟨h,_,rfl,.inl (SqL.of th),rfl,flats hs,?_⟩;rw[notInI];walk_at"g";have hle:(((m.hd j).take i).filter fun k=>!decide (k∈hs)).length<=8:=Nat.le_trans (length_filter_le _ _) (Nat.le_trans (List.length_take_le' _ _) hj8);refine iteN (fun d2=>?_) (fun d2=>?_)
   ·exists⟨by rw[length_map];omega,?_,rfl⟩;rw[take_snoc hn',filter_append,map_append,filter_cons,if_pos (by simpa using d2)];rfl
   ·refine⟨?_,rfl⟩;rw[take_snoc hn',filter_append,map_append,filter_cons,if_neg (by simpa using d2)];exact(append_nil _).symm
  ·rintro ys H'' ⟨rfl,rfl⟩;rw[show((m.hd j).map V.int).length=(m.hd j).length from length_map _,take_length];have hle:((m.hd j).filter fun k=>!decide (k∈hs)).length<=8:=Nat.le_trans (length_filter_le _ _) hj8;obtain⟨nd8,mem8⟩:=Xq hj1 hmem hnd (j4Y G (hj j hj2));generalize(m.hd j).filter (fun k=>!decide (k∈hs))=fs at hle nd8 mem8|-;refine⟨by rw[length_map];omega,fun p8 hp8=>?_⟩;have s8:=Pr.jE hp8 (.lst (fs.map V.int));have t8:upd H' p8 (.lst (fs.map V.int)) p8=some (.lst (fs.map V.int)):=jn;generalize upd H' p8 (.lst (fs.map V.int))=H8 at s8 t8|-;refine⟨h,p8,_,_,rfl,rfl,s8 _ _ th,t8,by rw[length_map,length_map];omega,fun p9 hp9=>?_⟩;have s9:=Pr.jE hp9 (.lst (hs.map V.int++fs.map V.int));have t9:upd H8 p9 (.lst (hs.map V.int++fs.map V.int)) p9=some (.lst ((hs++fs).map V.int)):=by rw[jn,map_append]
   generalize upd H8 p9 (.lst (hs.map V.int++fs.map V.int))=H9 at s9 t9|-;walk_at"g";exact⟨p9,hs++fs,_,rfl,sm7.trans (s8.trans s9),t9,by rw[List.length_append];omega,nd8,mem8⟩
 rintro σ' H7 ⟨h,hs,o6,rfl,sm7,th,hl8,hnd,hmem⟩;rw[show(is.map vN).length=is.length from length_map _]at hl8 hmem;rw[take_length]at hmem;have s7:=s6.trans sm7;have R7:=R.keeps s7;have e7:=sm7 _ _ e6;have g7:=sm7 _ _ g6;walk_at"g";obtain⟨qs,eqs,aqs⟩:=R7.p;have part_at:∀j∈is,∃a b,qs[j]?=some a/\H7 a=some (.tup [.str (m.nm j),.ref b]):=fun j hjm=>by
  obtain⟨a,ha,b,hb,_⟩:=aqs.get (List.getElem?_eq_getElem (hj j hjm));rw[(G.ps j _ (List.getElem?_eq_getElem (hj j hjm))).1]at hb;exact⟨a,b,ha,hb⟩
 refine⟨l,rfl,⟨_,SqL.of e7⟩,?_⟩;refine JR (xs:=is.map vN) (fun i ys H'=>ys=((is.take i).map m.nm).map V.str/\H7=H') ⟨rfl,rfl⟩ ?_ ?_ ?_
 ·rintro i ys H' _ ⟨rfl,rfl⟩;exact SqL.of e7
 ·rintro i x ys H' hx ⟨rfl,rfl⟩;obtain⟨j,hj1,rfl,hj2⟩:=j2I hx;have hi:=(List.getElem?_eq_some_iff.mp hj1).1;obtain⟨a,b,ha,hb⟩:=part_at j hj2;refine QK (σ':=[none,some _]) rfl ?_;exists iteT ?_;exists⟨_,_,rfl,qj R7,?_⟩;exists ixLm (SqL.of eqs) (yR (i:=(j:Int)) (by omega) ha) ?_;exists ixTm (SqT.of hb) rfl ?_;refine⟨by rw[length_map,length_map,length_take];omega,?_,rfl⟩;rw[take_snoc hj1,map_append,map_append];rfl
 rintro ys H' ⟨rfl,rfl⟩;rw[show(is.map vN).length=is.length from length_map _,take_length];refine⟨by rw[length_map,length_map];omega,fun p8 hp8=>?_⟩;have s8:=Pr.jE hp8 (.lst ((is.map m.nm).map V.str));have t8:upd H7 p8 (.lst ((is.map m.nm).map V.str)) p8=some (.lst ((is.map m.nm).map V.str)):=jn;generalize upd H7 p8 (.lst ((is.map m.nm).map V.str))=H8 at s8 t8|-;exists⟨p8,_,rfl,.inl ⟨SqL.of t8,fun p9 hp9=>?_⟩⟩;have s9:=Pr.jE hp9 (.tup ((is.map m.nm).map V.str));have t9:upd H8 p9 (.tup ((is.map m.nm).map V.str)) p9=some (.tup ((is.map m.nm).map V.str)):=jn;generalize upd H8 p9 (.tup ((is.map m.nm).map V.str))=H9 at s9 t9|-;have s79:=s8.trans s9;have e9:=s79 _ _ e7;have g9:=s79 _ _ g7;have h9:=s79 _ _ th;have R9:=R7.keeps s79;have s09:=s7.trans s79;clear t8 s8 s9 hp8 hp9 part_at aqs eqs qs;have hk:=j29 G hj hmem;have hs8:hs.length<=8:=Nat.le_trans (YT hnd hk) G.l8;have e1:=G.hl;have e2:=G.gl;have sl:=X8 G hj;exists ixLm (SqL.of (s09 _ _ hl)) (Pr.jJ (by omega) (by omega)) ?_;exists iteD (fun d1=>?_) (fun d1=>?_)
 ·exists⟨(by show 2<=sizeLine;omega),fun p10 hp10=>?_⟩;have s10:=Pr.jE hp10 (.tup [.str "row",.ref p9]);have t10:upd H9 p10 (.tup [.str "row",.ref p9]) p10=some (.tup [.str "row",.ref p9]):=jn;generalize upd H9 p10 (.tup [.str "row",.ref p9])=H10 at s10 t10|-;have R10:=R9.keeps s10;exists⟨h,hs,rfl,SqL.of (s10 _ _ h9),Nat.lt_of_le_of_lt hs8 (by decide),fun p11 ms hp11 perm ord=>?_⟩;have s11:=Pr.jE hp11 (.lst (ms.map V.int));have t11:upd H10 p11 (.lst (ms.map V.int)) p11=some (.lst (ms.map V.int)):=jn;generalize upd H10 p11 (.lst (ms.map V.int))=H11 at s11 t11|-;have R11:=R10.keeps s11;exists⟨_,_,rfl,SqL.of (s11 _ _ (s10 _ _ g9)),?_⟩;exists⟨z,m,p10,p11,.row (is.map m.nm),ms,_,rfl,R11,⟨p9,s11 _ _ t10,s11 _ _ (s10 _ _ t9)⟩,⟨t11,Zs R10 hp11⟩,by omega,by omega,by omega,nl,fun H' k R' _=>?_⟩;exact q _ _ ((Kp.of (s09.trans (s10.trans s11))).trans k) R' (G.add ⟨⟨is,⟨rfl,hj⟩,i1,i8,fun k=>perm.mem_iff.trans (hmem k),rfl⟩,fun k h=>hk k (perm.mem_iff.mp h),wo perm hnd ord,by omega,sm d1⟩) yc
 exists ixLm (SqL.of (s09 _ _ hl)) (Pr.jJ (by omega) (by omega)) ?_;exists iteD (fun d2=>?_) (fun d2=>?_)
 ·exists⟨(by show 2<=sizeLine;omega),fun p10 hp10=>?_⟩;have s10:=Pr.jE hp10 (.tup [.str "side",.ref p9]);have t10:upd H9 p10 (.tup [.str "side",.ref p9]) p10=some (.tup [.str "side",.ref p9]):=jn;generalize upd H9 p10 (.tup [.str "side",.ref p9])=H10 at s10 t10|-;have R10:=R9.keeps s10;exists⟨h,hs,rfl,SqL.of (s10 _ _ h9),Nat.lt_of_le_of_lt hs8 (by decide),fun p11 ms hp11 perm ord=>?_⟩;have s11:=Pr.jE hp11 (.lst (ms.map V.int));have t11:upd H10 p11 (.lst (ms.map V.int)) p11=some (.lst (ms.map V.int)):=jn;generalize upd H10 p11 (.lst (ms.map V.int))=H11 at s11 t11|-;have R11:=R10.keeps s11;exists⟨_,_,rfl,SqL.of (s11 _ _ (s10 _ _ g9)),by rw[length_map];omega,fun gm hgm hall=>?_⟩;obtain⟨j1,hj1,rfl⟩:=mem_map.mp hgm;have lj:=j2g G (hj j1 hj1);obtain⟨ap1,ap2,ap3⟩:=ap d2;exists⟨z,m,p10,p11,.side (is.map m.nm),ms,_,rfl,R11,⟨p9,s11 _ _ t10,s11 _ _ (s10 _ _ t9)⟩,⟨t11,Zs R10 hp11⟩,by omega,by omega,by omega,nl,fun H' k R' _=>?_⟩;exact q _ _ ((Kp.of (s09.trans (s10.trans s11))).trans k) R' (G.add ⟨⟨is,⟨rfl,hj⟩,ap2,ap3,ap1,fun k=>perm.mem_iff.trans (hmem k),⟨j1,hj1,rfl⟩,fun j hj'=>hall _ (mem_map.mpr ⟨j,hj',rfl⟩)⟩,fun k h=>hk k (perm.mem_iff.mp h),wo perm hnd ord,lj.1,lj.2⟩) yc
 obtain⟨j0,r,rfl⟩:∃j0 r,is=j0::r:=by
  cases is with
  | nil=>exact absurd i1 (by decide)
  | cons j0 r=>exact⟨j0,r,rfl⟩
 have hj0:=hj j0 mem_cons_self;have lj:=j2g G hj0;exists⟨_,_,rfl,by omega,by omega,fun wn=>?_⟩;have c10:=hb.cell (k:=10) (by omega) (by omega);exists ixLm (SqL.of (s09 _ _ hl)) (Pr.jJ (by omega) (by omega)) ?_;exists⟨_,_,_,rfl,by omega,by omega,by omega,by omega,fun tm tm1 tm2=>?_⟩;exists⟨fun σ' H'=>∃t:Int,σ'=[some (.ref z.r),some (.int c),some (.ref p),some (.ref l),some (.ref g),some (.ref h),o6,some (.ref p9),some (.int t)]/\1<=t/\t<=10^18/\t*m.lg j0<=10^60/\H9=H',?_,?_⟩
 rotate_left
 ·exists ixLm (SqL.of g9) (at0) ?_;exists iteD (fun d3=>?_) (fun d3=>?_)
  ·walk_at"g";exact⟨1,rfl,by omega,by omega,by rw[Int.one_mul];exact lj.2,rfl⟩
  ·walk_at"g";exact⟨tm,rfl,tm1,tm2,by omega,rfl⟩
 rintro σ' H' ⟨t,rfl,u1,u2,u3,rfl⟩;exists ixTm (SqT.of t9) (at0) ?_;exists⟨(by show 3<=sizeLine;omega),?_⟩;walk_at"f 10 t";have R10:=R9.keeps s10;obtain⟨a,ha1,ha2,ha3⟩:=wZ R G hj0 eha;have s0A:=s09.trans s10;exists⟨_,_,rfl,YI R10,?_⟩;exists ixLm (SqL.of (s10 _ _ e9)) (at0) ?_;refine ixLm (SqL.of (s0A _ _ eha)) (yR (i:=(j0:Int)) (by omega) ha1) ?_;exists ixLm (SqL.of (s10 _ _ g9)) (at0) ?_;walk_at"g";have pos:=Int.mul_pos (show 0<t by omega) (show 0<m.lg j0 by omega);refine⟨z,m,p10,a,.again t (m.nm j0),m.hd j0,_,rfl,R10,t10,⟨s0A _ _ ha2,ha3⟩,by omega,by omega,by omega,nl,fun H' k R' _=>?_⟩;have oj:=(G.ps j0 _ (List.getElem?_eq_getElem hj0)).2;exact q _ _ ((Kp.of s0A).trans k) R' (G.add ⟨⟨u1,u2,j0,hj0,rfl,rfl,rfl⟩,oj.k,oj.o,by omega,u3⟩) yc
theorem Wn(T:Txt K mg t)(Jk:FnOk P w K mg base CX0 1 t.JQ t.JS ["_law_script","_law_k"] (Pr.sp_cell_at K))(jS:FnOk P w K mg base CX0 1 t.Js t.Ju ["_law_cell","_law_turn"] (Zf))(Ja:FnOk P w K mg base CX0 1 t.JL t.JN ["_law_cell","_law_many"] (Ws.yn))(Zl:FnOk P w K mg base CX0 2 t.Qf t.Qn ["_law_cell","_law_many"] (xS))(j9:FnOk P w K mg base CX0 1 t.JK t.JM ["_law_cell","_law_mixed","_law_least"] (ym))(JJ:FnOk P w K mg base CX0 2 t.qg t.qh ["_law_room_here","_law_cell","_law_some"] (sp_simple))(zO:FnOk P w K mg base CX0 3 t.qL t.qN ["_law_room_here","_law_cell","_law_some"] (sp_naming)):FnOk P w K mg base CX0 4 t.QW t.Q1 ["_law_script"] (sp_room K):=by
 refine T.Y6.ok Jj (fun vs H Q E h=>?_) (fun cdv A outer s H vs Q E hr h=>?_)
 ·cases h;subst_vars;rfl
 obtain⟨a,ns,rfl,hS,h63,q⟩:=h;refine⟨_,(jf (jt (i:=1) Jj.nd rfl (.inl rfl) (ju (Ja.mono (by decide)) hr (by rfl) T.QQ T.qK.kp T.QM .nil pass0 (jc (ju (Jk.mono (by decide)) hr (by rfl) T.Qr T.qm.kp T.Qb .nil pass0 (jc (pv 0) (jc jd je))) (jc jd je))))
  (jf (jt (i:=2) Jj.nd rfl (.inl rfl) (ju (Zl.mono (by decide)) hr (by rfl) T.Wf T.yN.kp T.wD .nil pass0 (jc (ju (Jk.mono (by decide)) hr (by rfl) T.Qr T.qm.kp T.Qb .nil pass0 (jc (pv 0) (jc jd je))) (jc jd je))))
  (jf (jt (i:=3) Jj.nd rfl (.inl rfl) (jZ je))
  (jf (JV PassesOwn.never rfl (qG (by rfl) T.Qj (jc (jm jX jd (jm jG (jv jj (pv 1) jd) jd)) je)) (jF (i:=4) Jj.nd rfl (.inl rfl))
   (jf (jt (i:=5) Jj.nd rfl (.inl rfl) (jv jj (jZ (jc (jm jX jd (pv 4)) (jc (jm jX jd (pv 4)) (jc (jm jG (jm jX (jm JF (jv jj (pv 1) jd) jd) (jm Qs jd (pv 4))) jd) je)))) (jm jG (jv jj (pv 1) jd) jd)))
   (jf (jt (i:=6) Jj.nd rfl (.inl rfl) (ju (jS.mono (by decide)) hr (by rfl) T.qP T.qf.kp T.qI .nil pass0 (jc (ju (Jk.mono (by decide)) hr (by rfl) T.Qr T.qm.kp T.Qb .nil pass0 (jc (pv 0) (jc jd je))) (jc (jm jX jd (pv 4)) je))))
   (jg (jN (j8 PySem.F.plainAttrs_list PySem.F.slot_list_append PySem.F.type_list_append jQ (pv 3) (jc (Je (jc (jv jj (pv 2) (pv 5)) (jc (ju (j9.mono (by decide)) hr (by rfl) T.QP T.qJ.kp T.QL .nil pass0 (jc (pv 6) (jc (jv jj (pv 1) (jm jX jd (pv 4))) (jc jd je)))) je))) je)))))))
  (jf (jt (i:=7) Jj.nd rfl (.inl rfl) (j3u (Z2 jr (pv 2) (Z2 jr (pv 3) (Z2 jr (jZ je) (Z2 jr (jZ je) (Z2 jr (jZ je) j3y))))) rfl rfl (by simp) (by decide)))
  (jf (JV PassesOwn.never rfl (J3 (jO Jg (pv 0) (jM jd) (jM jd))) (jF (i:=8) Jj.nd rfl (.inl rfl))
   (jf (jt (i:=9) Jj.nd rfl (.inl rfl) (ju (Ja.mono (by decide)) hr (by rfl) T.QQ T.qK.kp T.QM .nil pass0 (jc (jm jX (pv 8) (jm Qs jd (jx jA (by rfl) T.j7 jP (jc (Jh (JT hr) (pv 7) jr) je)))) (jc jd je))))
   (jg (jT (PW.pt (qk (jh Z0 (jm jG (jv jj (pv 9) jd) jd) jd (nomark _)) (qT (jh Z0 (jx jA (by rfl) T.j7 jP (jc (Jh (JT hr) (pv 7) jr) je)) jd (nomark _)))))
    (jg (jN (ju (zO.mono (by decide)) hr (by rfl) T.Ky T.yq.kp T.Ku .nil pass0 (jc (pv 7) (jc (pv 8) (jc (pv 9) je))))))
    (jg (jN (ju (JJ.mono (by decide)) hr (by rfl) T.zQ T.QN.kp T.zN .nil pass0 (jc (pv 7) (jc (pv 8) (jc (pv 9) je))))))))))
  (jf (Jp (jh (XN hr.units) (Jh (JT hr) (pv 7) jr) (jZ je) (nomark _))
   (jg (jN (ju (JJ.mono (by decide)) hr (by rfl) T.zQ T.QN.kp T.zN .nil pass0 (jc (pv 7) (jc jd (jc (pv 1) je))))))
   jy)
  (jg (jz (pv 7)))))))))),?_⟩
 refine jD (σ':=[some _,none,none,none,none,none,none,none,none,none]) rfl ?_;have sz:(200:Nat)<sizeLine:=by decide
 exists⟨a,ns,_,rfl,hS,h63,by omega,?_⟩;exists⟨_,_,rfl,by omega,by omega,fun p1 fs H1 s1 hp1 t1 l1 b1=>?_⟩;have B1:Big fs:=b1;exists⟨a,ns,_,rfl,s1.seq hS,h63,by omega,?_⟩;exists⟨_,rfl,fun p2 ws H2 s2 hp2 t2 l2 nd nw=>?_⟩;have s12:=s1.trans s2;have t12:=s2 _ _ t1;exists⟨Nat.zero_le _,?_⟩;walk_at"f pl hpl H3 s3 t3";have c0:=B1.cell (k:=0) (by omega) (by omega);have c9:=B1.cell (k:=9) (by omega) (by omega);exists ixLm (SqL.of (s3 _ _ t12)) (Pr.jJ (by omega) (by omega)) ?_;exists⟨_,rfl,by omega,by omega,?_⟩;refine qi (fun i σ H'=>∃(ls:List Addr) (lbs:List (Str×Int)) (o4 o5 o6:Option V),σ=[some (.ref a),some (.ref p1),some (.ref p2),some (.ref pl),o4,o5,o6,none,none,none]/\Same H2 H'/\H' pl=some (.lst (ls.map V.ref))/\All2 (LimbAt H') ls lbs/\lbs.length=i/\lbs.map (·.1)=(List.range i).map (lnm ws (Pr.cell fs 9))/\∀p∈lbs,0<=p.2/\p.2<=10^18)
  ⟨[],[],_,_,_,rfl,s3,t3,.nil,rfl,rfl,(fun z h=>nomatch h)⟩ ?_ ?_
 ·rintro i σ H' hi ⟨ls,lbs,o4,o5,o6,rfl,sm,el,al,ll,ln,lb⟩;have all:=al.1;have ck:=B1.cell (k:=1+(0+(i:Int))) (by omega) (by omega);exists ixLm (SqL.of (sm _ _ t12)) (Pr.jJ (by omega) (by omega)) ?_;exists⟨(by show 3<=sizeLine;omega),?_⟩;walk_at"f 4 t";exists ixLm (SqL.of (s4 _ _ (sm _ _ t12))) (Pr.jJ (by omega) (by omega)) ?_;exists ixLm (SqL.of t4) (j1I (by omega) (by omega)) ?_;walk_at"g";have sm4:=sm.trans s4;refine⟨a,ns,_,rfl,sm4.seq (s12.seq hS),h63,by omega,?_⟩;exists⟨_,_,rfl,by omega,by omega,fun wn=>?_⟩;exists⟨.inl ⟨rfl,_,SqL.of (s4 _ _ el)⟩,?_⟩;walk_at"g";obtain⟨x0,x1,x2⟩:=j4o (ws:=ws) (c:=Pr.cell fs 9) (i:=i) l2 (by omega) (by omega);refine ixLm (SqL.of (sm4 _ _ t2)) (WR x0 x1) ?_;rw[x2];exists ixLm (SqL.of (sm4 _ _ t12)) (Pr.jJ (by omega) (by omega)) ?_;exists⟨_,_,_,rfl,by omega,by omega,by omega,by omega,fun r r1 r2=>?_⟩;exists⟨(by show 2<=sizeLine;omega),?_⟩;walk_at"f 5 t";have s45:=s4.trans s5;have el5:=s45 _ _ el;exists⟨pl,_,_,rfl,rfl,el5,by rw[length_map];omega,?_⟩;have hne:p5≠pl:=qQ t5 el5 (fun z=>by cases z);refine⟨ls++[p5],lbs++[(lnm ws (Pr.cell fs 9) i,r)],_,_,_,rfl,fun b u h=>?_,?_,?_,by rw[List.length_append,ll];rfl,?_,fun p hp=>?_⟩
  ·rw[jq (ji h hpl)];exact s45 _ _ (sm _ _ h)
  ·rw[jn,map_append];rfl
  ·refine All2.snoc (al.mono fun b x h=>?_) ?_
   ·have h':H5 b=some (.tup [.str x.1,.int x.2]):=s45 _ _ h;exact(jq (qQ h' el5 (fun z=>by cases z))).trans h'
   ·exact(jq hne).trans t5
  ·rw[map_append,ln,List.range_succ,map_append];rfl
  ·rcases mem_append.mp hp with e | e
   ·exact lb p e
   ·have e':p=(lnm ws (Pr.cell fs 9) i,r):=by simpa using e
    rw[e'];exact⟨r1,r2⟩
 rintro σ' H4 ⟨ls,lbs,o4,o5,o6,rfl,s4,el,al,ll,ln,lb⟩;exists j3D ?_;walk_at"f r hr5 H5 s5 t5";exists⟨Nat.zero_le _,?_⟩;walk_at"f pp hpp H6 s6 t6";exists⟨Nat.zero_le _,?_⟩;walk_at"f ph hph H7 s7 t7";exists⟨Nat.zero_le _,?_⟩;walk_at"f pg hpg H8 s8 t8";exists⟨s8 _ _ (s7 _ _ (s6 _ _ t5)),[(Sum.inr "names",.ref p2),(Sum.inr "limbs",.ref pl),(Sum.inr "parts",.ref pp),(Sum.inr "hands",.ref ph),(Sum.inr "long",.ref pg)],rfl,(by show 5<=15;decide),?_⟩;generalize eH:upd H8 r _=H9;have d9:=WS eH;have k9:∀b u,b≠r->H8 b=some u->H9 b=some u:=fun b u hb h=>by rw[<-eH,jq hb];exact h
 clear eH;have n1:r≠pp:=ji t5 hpp;have n2:r≠ph:=ji (s6 _ _ t5) hph;have n3:r≠pg:=ji (s7 _ _ (s6 _ _ t5)) hpg;have n4:pp≠ph:=ji t6 hph;have n5:pp≠pg:=ji (s7 _ _ t6) hpg;have n6:ph≠pg:=ji t7 hpg;have s58:=s6.trans (s7.trans s8);have s48:=s5.trans s58;have s49:Same H4 H9:=fun b u h=>k9 b u (ji h hr5) (s48 _ _ h)
 have offo:∀b u,H4 b=some u->b≠pp/\b≠ph/\b≠pg:=fun b u h=>⟨ji (s5 _ _ h) hpp,ji (s6 _ _ (s5 _ _ h)) hph,ji (s7 _ _ (s6 _ _ (s5 _ _ h))) hpg⟩
 have e2:=s4 _ _ t2;obtain⟨z,hz⟩:∃z:Ra,z=⟨r,p2,pl,pp,ph,pg⟩:=⟨_,rfl⟩
 have R9:RoomAt H9 z ⟨ws,lbs,[],[],[]⟩:=by
  subst hz;exact⟨d9,s49 _ _ e2,⟨ls,s49 _ _ el,al.mono fun b x h=>s49 _ _ h⟩,⟨[],k9 _ _ n1.symm (s8 _ _ (s7 _ _ t6)),.nil⟩,⟨[],k9 _ _ n2.symm (s8 _ _ t7),.nil⟩,k9 _ _ n3.symm t8,offo _ _ e2,offo _ _ el,n4,n5,n6⟩
 have G9:Good ⟨ws,lbs,[],[],[]⟩:=by
  refine⟨l2,nd,nw,?_,?_,?_,fun p hp=>⟨?_,lb p hp⟩,rfl,rfl,fun i p hp=>by simp at hp⟩
  ·show 1<=lbs.length;omega
  ·show lbs.length<=8;omega
  ·show(lbs.map (·.1)).Nodup;rw[ln];exact j4q l2 nd (by omega)
  ·exact j4p (c:=Pr.cell fs 9) (n:=(1+Pr.cell fs 0%8).toNat) l2 (by omega) (by rw[<-ln];exact mem_map.mpr ⟨p,hp,rfl⟩)
 have zr:z.r=r:=by rw[hz]
 have zp:z.pp=pp:=by rw[hz]
 have zl:z.pl=pl:=by rw[hz]
 have off4:∀b u,H4 b=some u->z.off b:=fun b u h=>by subst hz;exact offo b u h
 have s04:=s12.trans s4;have t1':=s49 _ _ (s4 _ _ t12);have f1:z.off p1:=off4 _ _ (s4 _ _ t12);have npp:H pp=none:=none_of (s04.trans s5) hpp;have npl:H pl=none:=none_of s12 hpl;have s09:=s04.trans s49;have off0:∀b u,H b=some u->z.off b:=fun b u h=>off4 b u (s04 _ _ h)
 walk_at"g";rw[<-zr];refine⟨a,_,rfl,s09.seq hS,?_⟩;walk_at"f 10 t";have R10:=R9.keeps s10;have f10:=Zs R9 hp10;have s010:=s09.trans s10;have t110:=s10 _ _ t1';clear t1' s49 off4 offo k9 d9 s48 s58 n1 n2 n3 n4 n5 n6 t5 t6 t7 t8 s5 s6 s7 s8;have hcl:=j4b (xs:=ns.map V.int);refine⟨p10,rfl,⟨_,SqL.of t10⟩,?_⟩;refine Yd (xs:=cutV (ns.map V.int) (some 2) (some 62)) (fun i σ H'=>∃(m:Rr) (o8 o9:Option V),σ=[some (.ref a),some (.ref p1),some (.ref p2),some (.ref pl),o4,o5,o6,some (.ref z.r),o8,o9]/\Kp z H10 H'/\RoomAt H' z m/\Good m/\m.parts.length=i)
  ⟨_,none,none,rfl,Kp.refl _ _,R10,G9,rfl⟩ ?_ ?_ ?_
 ·rintro i σ H' _ ⟨m,o8,o9,rfl,k,R,G,hm⟩;exact SqL.of (k _ _ f10 t10)
 ·rintro i x σ H' hx ⟨m,o8,o9,rfl,k,R,G,hm⟩;obtain⟨n,hn,rfl⟩:=Pr.j3e (mem_of_getElem? hx);have hi:=(List.getElem?_eq_some_iff.mp hx).1;obtain⟨qs,eq,aq⟩:=R.p;exists⟨_,_,rfl,qj R,?_⟩;exists⟨_,_,rfl,.inl ⟨_,SqL.of eq,rfl⟩,?_⟩;rw[length_map,aq.1,hm];exists⟨_,_,rfl,by omega,by omega,fun p11 gs H11 s11 hp11 t11 l11 b11=>?_⟩;have B11:Big gs:=b11;have g0:=B11.cell (k:=0) (by omega) (by omega);have R11:=R.keeps s11;have o11:=Zs R hp11;have k11:=k.trans (Kp.of s11);exists ixLm (SqL.of t11) (Pr.jJ (by omega) (by omega)) ?_;exists iteD (fun d1=>?_) (fun d1=>?_)
  ·exists⟨_,_,rfl,qj R11,?_⟩;exists⟨_,_,rfl,.inl ⟨_,SqL.of (s11 _ _ eq),rfl⟩,?_⟩;rw[length_map,aq.1,hm];exists iteD (fun d2=>?_) (fun d2=>?_)
   ·exists⟨z,m,n,p11,gs,rfl,R11,G,by omega,by omega,t11,o11,by omega,B11,fun m' H' k' R' G' hl'=>?_⟩;exact⟨m',_,_,rfl,k11.trans k',R',G',by omega⟩
   ·exists⟨z,m,n,p11,gs,rfl,R11,G,by omega,t11,o11,by omega,B11,fun m' H' k' R' G' hl'=>?_⟩;exact⟨m',_,_,rfl,k11.trans k',R',G',by omega⟩
  ·refine iteF ?_;exists⟨z,m,n,p11,gs,rfl,R11,G,by omega,t11,o11,by omega,B11,fun m' H' k' R' G' hl'=>?_⟩;exact⟨m',_,_,rfl,k11.trans k',R',G',by omega⟩
 rintro σ' H' ⟨m,o8,o9,rfl,k,R,G,hm⟩;have m61:m.parts.length<=60:=by omega
 exists⟨fun σ' H'=>∃(m:Rr) (o8 o9:Option V),σ'=[some (.ref a),some (.ref p1),some (.ref p2),some (.ref pl),o4,o5,o6,some (.ref z.r),o8,o9]/\Kp z H10 H'/\RoomAt H' z m/\Good m/\1<=m.parts.length/\m.parts.length<=61,?_,?_⟩
 rotate_left
 ·obtain⟨qs,eq,aq⟩:=R.p;exists⟨_,_,rfl,qj R,?_⟩;exists⟨Nat.zero_le _,?_⟩;walk_at"f p12 hp12 H12 s12' t12'";have R12:=R.keeps s12';have k12:=k.trans (Kp.of s12');refine⟨_,_,DV.lst (s12' _ _ eq) (Ya (fun _ _ h=>j0i (PartAt.same s12' h)) aq),j4d t12',(wm (G.bk (by omega))).ok (by decide),shp0,?_⟩;rw[j0Z];exists iteD (fun d1=>?_) (fun d1=>?_)
  ·exists⟨z,m,0,p1,fs,rfl,R12,G,by omega,k12 _ _ f1 t110,f1,by omega,B1,fun m' H' k' R' G' hl'=>?_⟩;exact⟨m',_,_,rfl,k12.trans k',R',G',by omega,by omega⟩
  ·exists⟨m,_,_,rfl,k12,R12,G,?_,by omega⟩;cases hq:m.parts with
   | nil=>exact absurd hq d1
   | cons x y=>exact Nat.succ_le_succ (Nat.zero_le _)
 rintro σ' H' ⟨m,o8,o9,rfl,k,R,G,m1,m61⟩;walk_at"g";exact q z m H' (fun b u h=>k b u (off0 b u h) (s010 _ _ h)) R G m1 m61 (by rw[zl];exact npl) (by rw[zp];exact npp)
theorem Wo(T:Txt K mg t):FnOk P w K mg base CX0 1 t.QX t.Q2 ["_law_book"] (sp_rows):=by
 refine T.Y7.ok Jq (fun vs H Q E h=>?_) (fun cdv A outer s H vs Q E hr h=>?_)
 ·cases h;subst_vars;rfl
 obtain⟨b,pl,pp,las,pas,ls,ps,rfl,B,O,q⟩:=h;refine⟨_,(jf (jt (i:=1) Jq.nd rfl (.inl rfl) (jZ (jc jr je)))
  (jf (JV PassesOwn.never rfl (J3 (jv Zq (pv 0) jd)) (yC rfl (JG (jF (i:=2) Jq.nd rfl (.inl rfl)) (JG (jF (i:=3) Jq.nd rfl (.inl rfl)) Zu)))
   (jg (yD (jm jK (jm jK (jm jK (jm jK (jv jj (pv 1) jd) jr) (pv 2)) jr) (JC YC (by rfl) T.j1K Xf (jc (pv 3) je))) (YU (pv 1) jd set_list))))
  (jf (JV PassesOwn.never rfl (J3 (jv Zq (pv 0) jd)) (yC rfl (JG (jF (i:=2) Jq.nd rfl (.inl rfl)) (JG (jF (i:=4) Jq.nd rfl (.inl rfl)) Zu)))
   (jf (jt (i:=5) Jq.nd rfl (.inl rfl) (jZ (jc jr (jc (pv 2) (jc (jv Zq (pv 4) jd) je)))))
   (jf (JV PassesOwn.never rfl (j4B (jO j4O (pv 4) (jM jd) j6)) (jF (i:=6) Jq.nd rfl (.inl rfl))
    (jg (jT (QJ (jx yY (by rfl) T.JD Jt (jc (pv 6) (jc (Yn (v:=.ty "tuple") (by rfl) T.yd Za rfl) je))))
     (jg (jt (i:=5) Jq.nd rfl (.inl rfl) (jm zv (pv 5) (JC yZ (by rfl) T.Xd wM (jc (pv 6) je)))))
     (jg (jN (j8 PySem.F.plainAttrs_list PySem.F.slot_list_append PySem.F.type_list_append jQ (pv 5) (jc (JC YC (by rfl) T.j1K Xf (jc (pv 6) je)) je)))))))
   (jg (jN (j8 PySem.F.plainAttrs_list PySem.F.slot_list_append PySem.F.type_list_append jQ (pv 1) (jc (j8 PySem.F.plainAttrs_str PySem.F.slot_str_join PySem.F.type_str_join Yl jr (jc (pv 5) je)) je)))))))
  (jg (jz (pv 1)))))),?_⟩
 refine jD (σ':=[some _,none,none,none,none,none,none]) rfl ?_;have sz:(1000:Nat)<sizeLine:=by decide
 have l8:=O.l8;have p61:=O.p61;have la:=B.la.1;have pa:=B.pa.1;exists⟨(by show 1<=sizeLine;omega),?_⟩;walk_at"f 1 t";exists ixTm (SqT.of (s1 _ _ B.t)) rfl ?_;refine⟨pl,rfl,⟨_,SqL.of (s1 _ _ B.l)⟩,?_⟩;refine Yd (xs:=las.map V.ref) (fun i σ H'=>∃o2 o3:Option V,σ=[some (.ref b),some (.ref p1),o2,o3,none,none,none]/\Same H H'/\H' p1=some (.lst [.str (rowL (ls.take i))]))
  ⟨_,_,rfl,s1,t1⟩ ?_ ?_ ?_
 ·rintro i σ H' _ ⟨o2,o3,rfl,sm,e1⟩;exact SqL.of (sm _ _ B.l)
 ·rintro i x σ H' hx ⟨o2,o3,rfl,sm,e1⟩;obtain⟨a,p,rfl,hp,hat⟩:=B.la.at_ref hx;obtain⟨w1,w2,w3⟩:=O.ln p (mem_of_getElem? hp);have n1:=xi w1;have n2:=zY w2 w3;have n3:=j1L;have n4:=j2x (ls:=ls.take i) (Nat.le_trans (List.length_take_le' _ _) l8) fun p hp=>O.ln p (mem_of_mem_take hp)
  refine Z3 (SqT.of (sm _ _ hat)) ?_;exists ixLm (SqL.of e1) rfl ?_;exists⟨_,_,rfl,rfl,cat2 n4 n3,?_⟩;exists⟨_,_,rfl,rfl,cat3 n4 n3 n1,?_⟩;exists⟨_,_,rfl,rfl,cat4 n4 n3 n1,?_⟩;exists .inl ⟨_,rfl,Wc w2 w3,?_⟩;refine⟨_,_,rfl,rfl,cat5 n4 n3 n1 n2,?_⟩;exists⟨p1,_,_,0,rfl,rfl,e1,rfl,?_⟩;refine⟨_,_,rfl,fun c u h=>(jq (ji h hp1)).trans (sm _ _ h),?_⟩;rw[jn,take_snoc hp,j1v];rfl
 rintro σ' H2 ⟨o2,o3,rfl,s2,e2⟩;rw[show(las.map V.ref).length=ls.length by rw[length_map,la],take_length]at e2;exists ixTm (SqT.of (s2 _ _ B.t)) rfl ?_;refine⟨pp,rfl,⟨_,SqL.of (s2 _ _ B.p)⟩,?_⟩;refine Yd (xs:=pas.map V.ref) (fun i σ H'=>∃o2 o3 o4 o5 o6:Option V,σ=[some (.ref b),some (.ref p1),o2,o3,o4,o5,o6]/\Same H H'/\H' p1=some (.lst ((rowL ls::(ps.take i).map rowP).map V.str)))
  ⟨_,_,_,_,_,rfl,s2,e2⟩ ?_ ?_ ?_
 ·rintro i σ H' _ ⟨o2,o3,o4,o5,o6,rfl,sm,e1⟩;exact SqL.of (sm _ _ B.p)
 ·rintro i x σ H' hx ⟨o2,o3,o4,o5,o6,rfl,sm,e1⟩;obtain⟨a,p,rfl,hp,fb,hat,hf⟩:=B.pa.at_ref hx;have hpm:=mem_of_getElem? hp;obtain⟨w1,w2⟩:=O.pn p hpm;obtain⟨k,xs,out,F⟩:=j24 (FormAt.same sm hf) w2;have hi:=(List.getElem?_eq_some_iff.mp hp).1;refine Z3 (SqT.of (sm _ _ hat)) ?_;exists ixTm (SqT.of F.t) (at0) ?_;exists⟨(by show 3<=sizeLine;omega),?_⟩;walk_at"f 5 t";exists⟨fb,_,rfl,SqT.of (s5 _ _ F.t),WW,?_⟩;rw[y9];walk_at"f 6 t";have s56:=s5.trans s6;refine⟨p6,rfl,⟨_,SqT.of t6⟩,?_⟩;refine j36 (xs:=xs) (fun j σ H''=>∃(w:Addr) (o6:Option V),σ=[some (.ref b),some (.ref p1),some (.str p.1),o3,some (.ref fb),some (.ref w),o6]/\Same H' H''/\H' w=none/\H'' p6=some (.tup xs)/\H'' w=some (.lst ((("part" : Str)::p.1::k::out j).map V.str)))
   ⟨p5,_,rfl,s56,hp5,t6,by rw[F.o0];exact s6 _ _ t5⟩ ?_ ?_ ?_
  ·rintro j σ H'' _ ⟨w,o6,rfl,sj,nw,t6',ew⟩;exact SqT.of t6'
  ·rintro j x σ H'' hx ⟨w,o6,rfl,sj,nw,t6',ew⟩;have hj:=(List.getElem?_eq_some_iff.mp hx).1;have ol:=F.l j (by omega);have ol2:=F.l (j+1) (by omega);rcases F.s j x hx with⟨bb,qs,rfl,hb,eo⟩ | ⟨u,tv,eo⟩
   ·have ql:qs.length<=9:=by rw[eo,List.length_append]at ol2;omega
    have hbb:=sj _ _ hb;exists⟨_,_,_,_,rfl,.tup hbb,yt,?_⟩;exists iteT ?_;exists⟨bb,_,rfl,.inr (SqT.of hbb),?_⟩;walk_at"f 7 t";exists⟨w,p7,_,_,rfl,rfl,s7 _ _ ew,t7,by rw[length_map,length_map];rw[length_cons,length_cons,length_cons];omega,?_⟩;walk_at"f 8 t";walk_at"g";have s78:=s7.trans s8;refine⟨p8,_,rfl,sj.trans s78,none_of (sj.trans s7) hp8,s78 _ _ t6',?_⟩;rw[t8,eo,<-map_append];rfl
   ·have ew':∀H3,Same H'' H3->upd H3 w (.lst ((("part" : Str)::p.1::k::out j).map V.str++[.str u])) w=some (.lst ((("part" : Str)::p.1::k::out (j+1)).map V.str)):=fun H3 _=>by
     rw[jn,eo];show _=some (HO.lst ((("part" : Str)::p.1::k::(out j++[u])).map V.str));rw[show(("part" : Str)::p.1::k::(out j++[u]))=(("part" : Str)::p.1::k::out j)++[u]from rfl,map_append];rfl
    have ne6:p6≠w:=qQ t6' ew (fun z=>by cases z);rcases tv with rfl | ⟨n,rfl,n0,n1,rfl⟩
    ·exists⟨_,_,_,_,rfl,.str _,W9,?_⟩;exists iteF ?_;exists⟨.inl ⟨rfl,_,SqL.of ew⟩,?_⟩;exists .inr ⟨_,rfl,?_⟩;exists⟨w,_,_,rfl,rfl,ew,by rw[length_map,length_cons,length_cons,length_cons];omega,?_⟩;exact⟨w,_,rfl,fun c v h=>(jq (ji h nw)).trans (sj _ _ h),nw,(jq ne6).trans t6',ew' _ (Same.refl _)⟩
    ·exists⟨_,_,_,_,rfl,.int _,W8,?_⟩;exists iteF ?_;exists⟨.inl ⟨rfl,_,SqL.of ew⟩,?_⟩;exists .inl ⟨_,rfl,Wc n0 n1,?_⟩;exists⟨w,_,_,rfl,rfl,ew,by rw[length_map,length_cons,length_cons,length_cons];omega,?_⟩;exact⟨w,_,rfl,fun c v h=>(jq (ji h nw)).trans (sj _ _ h),nw,(jq ne6).trans t6',ew' _ (Same.refl _)⟩
  rintro σ' H7 ⟨w,o6,rfl,sj,nw,t6',ew⟩;rw[F.e]at ew;exists⟨.inl ⟨rfl,_,SqL.of (sj _ _ e1)⟩,?_⟩;exists⟨rfl,?_⟩;exists⟨_,w,_,rfl,rfl,SqL.of ew,Nat.le_trans (j3L O hpm) (show 220<=16777216 by decide),?_⟩;exists⟨p1,_,_,rfl,rfl,sj _ _ e1,?_,?_⟩
  ·rw[length_map,length_cons,length_map,length_take];omega
  refine⟨_,_,_,_,_,rfl,fun c u h=>(jq (ji h hp1)).trans (sj _ _ (sm _ _ h)),?_⟩;rw[jn,take_snoc hp,map_cons,map_cons,map_append,map_append];rfl
 rintro σ' H3 ⟨o2,o3,o4,o5,o6,rfl,s3,e3⟩;rw[show(pas.map V.ref).length=ps.length by rw[length_map,pa],take_length]at e3;walk_at"g";exact q p1 H3 s3 hp1 e3
theorem xC(T:Txt K mg t):FnOk P w K mg base CX0 1 t.zm t.zo ["_law_rows_here","_law_some"] (sp_odd):=by
 refine T.yx.ok zL (fun vs H Q E h=>?_) (fun cdv A outer s H vs Q E hr h=>?_)
 ·cases h;subst_vars;rfl
 obtain⟨l,s,rows,ss,rfl,el,r1,r2,rk,es,sl,s0,q⟩:=h;refine⟨_,(jf (jt (i:=2) zL.nd rfl (.inl rfl) (j8 PySem.F.plainAttrs_str PySem.F.slot_str_split PySem.F.type_str_split Jx (jv jj (pv 0) (jm jG (jv jj (pv 1) jd) (jx jA (by rfl) T.j7 jP (jc (pv 0) je)))) (jc jr je)))
  (jf (jt (i:=3) zL.nd rfl (.inl rfl) (jm kq jr (jm jG (jv jj (pv 1) jd) jd)))
  (jf (jt (i:=4) zL.nd rfl (.inl rfl) (jZ (jc jr (jc jr (jc jr (jc jr (jc jr (jc (pv 3) (jc (jm jK jr (jm kq jr jd)) (jc (jm jK (jm jK jr (jm kq jr jd)) jr) (jc jr (jc jr (jc jr (jc jr je))))))))))))))
  (jf (jN (j8 PySem.F.plainAttrs_list PySem.F.slot_list_append PySem.F.type_list_append jQ (pv 4) (jc jr je)))
  (jf (jT (jh jU (jm jG (jv jj (pv 1) jd) jd) jd (nomark _))
   (jg (jz (jv jj (pv 2) (jm jG (jv jj (pv 1) jd) (jx jA (by rfl) T.j7 jP (jc (pv 2) je))))))
   jy)
  (jg (jz (jv jj (pv 4) (jm jG (jm JF (jv jj (pv 1) jd) jd) jd))))))))),?_⟩
 refine jD (σ':=[some _,some _,none,none,none]) rfl ?_;have sz:(20000:Nat)<sizeLine:=by decide
 have blE:(Str.ofString " ")=⟨#[32]⟩:=by decide +kernel
 have hb:∀k:Int,0<=k->k<8->0<=Pr.cell ss k:=fun k h0 h1=>s0 _ (mem_of_getElem? (Pr.ZW (ns:=ss) (k:=k) h0 (by omega)))
 have b4:=hb 4 (by omega) (by omega);have b5:=hb 5 (by omega) (by omega);have b6:=hb 6 (by omega) (by omega);exists ixLm (SqL.of es) (Pr.jJ (by omega) (by omega)) ?_;exists⟨_,_,rfl,.inl ⟨_,SqL.of el,rfl⟩,?_⟩;rw[length_map];walk_at"g";obtain⟨r,hr,rm⟩:=X6 (n:=Pr.cell ss 4) r1;refine ixLm (SqL.of el) (hr) ?_;exists⟨rfl,?_⟩;walk_at"g";obtain⟨y1,y2,y3,y4,y5,y6,y7⟩:=qH ((rk r rm).k.ok (by decide));refine⟨_,32,_,rfl,by rw[blE],by decide,y1,y2,y3,y4,y5,?_⟩;walk_at"f 1 t";have t1:H1 p1=some (.lst ((spW r).map V.str)):=t1;exists ixLm (SqL.of (s1 _ _ es)) (Pr.jJ (by omega) (by omega)) ?_;walk_at"g";obtain⟨mo,wk⟩:=nines (n:=Pr.cell ss 5%22) (by omega) (by omega);refine⟨_,_,rfl,rfl,mo,?_⟩;generalize Txt.mul "9" (Pr.cell ss 5%22)=z at wk|-;exists⟨_,_,rfl,rfl,mulOk0 (by omega) (by omega),?_⟩;refine⟨_,_,rfl,rfl,by decide +kernel,?_⟩;exists⟨_,_,rfl,rfl,mulOk0 (by omega) (by omega),?_⟩;refine⟨_,_,rfl,rfl,by decide +kernel,?_⟩;exists⟨_,_,rfl,rfl,by decide +kernel,?_⟩;exists⟨(by show 12<=sizeLine;omega),?_⟩;walk_at"f 2 t";exists⟨.inl ⟨rfl,_,SqL.of t2⟩,?_⟩;exists⟨p2,_,_,rfl,rfl,t2,(by show 12<sizeLine;omega),?_⟩;have ow:=j1l wk;generalize eX:upd H2 p2 _=H3;have t3:=WS eX;have s13:Same H1 H3:=fun b u h=>by rw[<-eX,jq (ji h hp2)];exact s2 _ _ h
 clear eX;have s3:=s1.trans s13;exists ixLm (SqL.of (s3 _ _ es)) (Pr.jJ (by omega) (by omega)) ?_;exists iteD (fun c=>?_) (fun c=>?_)
 ·exists ixLm (SqL.of (s3 _ _ es)) (Pr.jJ (by omega) (by omega)) ?_;exists⟨_,_,rfl,.inl ⟨_,SqL.of (s13 _ _ t1),rfl⟩,?_⟩;rw[length_map];have w1:1<=(spW r).length:=List.length_pos_iff.mpr y7;walk_at"g";obtain⟨x,hx,xm⟩:=X6 (n:=Pr.cell ss 5) w1;refine ixLm (SqL.of (s13 _ _ t1)) (hx) ?_;exact q x H3 s3 ((rk r rm).k.word xm)
 ·exists ixLm (SqL.of (s3 _ _ es)) (Pr.jJ (by omega) (by omega)) ?_;walk_at"g";obtain⟨x,hx,xm⟩:=X6 (n:=Pr.cell ss 6/2) (rows:=[("" : Str),"0","1","00","01",z,("1" : Str)++Txt.mul "0" 18,("1" : Str)++Txt.mul "0" 17++"1","Abc","abcdefghi","part","limbs","a\tb"]) (by show 1<=13;omega);refine ixLm (SqL.of t3) (hx) ?_;exact q x H3 s3 (ow x xm)
theorem Ka(T:Txt K mg t):FnOk P w K mg base CX0 1 t.qM t.qO ["_law_rows_here","_law_way","_law_some"] (sp_put_on):=by
 refine T.yr.ok qq (fun vs H Q E h=>?_) (fun cdv A outer s H vs Q E hr h=>?_)
 ·cases h;subst_vars;rfl
 obtain⟨l,s,way,rows,ss,rfl,el,r1,r2,rk,es,sl,s0,w13,q⟩:=h;refine⟨_,(jf (jt (i:=3) qq.nd rfl (.inl rfl) jr)
  (jf (jt (i:=4) qq.nd rfl (.inl rfl) (JC yZ (by rfl) T.Xd wM (jc (pv 0) je)))
  (jf (Jp (jh jU (pv 1) jd (nomark _))
   (jg (JV PassesOwn.never rfl (qG (by rfl) T.Qj (jc (jm Zt (jm jX jd (jm jG (jv jj (pv 2) jd) jd)) (jm JF (jx jA (by rfl) T.j7 jP (jc (j8 PySem.F.plainAttrs_str PySem.F.slot_str_split PySem.F.type_str_split Jx (jv jj (pv 0) jd) (jc jr je)) je)) jd)) je)) (jF (i:=5) qq.nd rfl (.inl rfl))
    (jg (yD (jm jK (jm jK (jm jK (jm jK (jv jj (pv 4) jd) jr) (jv ZX (pv 3) (pv 5))) jr) (JC YC (by rfl) T.j1K Xf (jc (pv 5) je))) (YU (pv 4) jd set_list)))))
   jy)
  (jf (Jp (jh jU (pv 1) jd (nomark _))
   (jg (yD jr (YU (pv 4) jd set_list)))
   jy)
  (jf (Jp (jh jU (pv 1) jd (nomark _))
   (jg (JV PassesOwn.never rfl (qG (by rfl) T.Qj (jc (jm Zt (jm jX jd (jm jG (jv jj (pv 2) jd) jd)) (jx jA (by rfl) T.j7 jP (jc (pv 0) je))) je)) (jF (i:=5) qq.nd rfl (.inl rfl))
    (jg (jN (j8 PySem.F.plainAttrs_list PySem.F.slot_list_append PySem.F.type_list_append jQ (pv 4) (jc (jm jK (jm jK (jm jK jr (jv ZX (pv 3) (jm JF (pv 5) jd))) (jv ZX (pv 3) (jm jG (pv 5) jd))) jr) je))))))
   jy)
  (jf (Jp (jh jU (pv 1) jd (nomark _))
   (jg (jN (j8 PySem.F.plainAttrs_list PySem.F.slot_list_append PySem.F.type_list_append jQ (pv 4) (jc (jm jK (jm jK jr (jv jj (j8 PySem.F.plainAttrs_str PySem.F.slot_str_split PySem.F.type_str_split Jx (jv jj (pv 0) jd) (jc jr je)) jd)) jr) je))))
   jy)
  (jg (jz (pv 4))))))))),?_⟩
 refine jD (σ':=[some _,some _,some _,none,none,none]) rfl ?_;have sz:(20000:Nat)<sizeLine:=by decide
 have blE:(Str.ofString " ")=⟨#[32]⟩:=by decide +kernel
 have hb:∀k:Int,0<=k->k<8->0<=Pr.cell ss k:=fun k h0 h1=>s0 _ (mem_of_getElem? (Pr.ZW (ns:=ss) (k:=k) h0 (by omega)))
 have b3:=hb 3 (by omega) (by omega);exists⟨l,_,rfl,.inl (SqL.of el),?_⟩;walk_at"f m hm H1 s1 t1";obtain⟨r0,rs,rfl⟩:∃r0 rs,rows=r0::rs:=by
  cases rows with
  | nil=>simp at r1
  | cons a b=>exact⟨a,b,rfl⟩
 rw[length_cons]at r1 r2;have rk0:=rk r0 mem_cons_self;have rks:∀r∈rs,RowK 700 r:=fun r h=>rk r (mem_cons_of_mem _ h)
 obtain⟨y1,y2,y3,y4,y5,y6,y7⟩:=qH (rk0.ok (by decide));have k1:∀{b u H'} {o:HO},H b=some u->(∀b u,H b=some u->H' b=some u)->upd H' m o b=some u:=fun h k=>(jq (ji h hm)).trans (k _ _ h)
 exists⟨fun σ' H'=>∃(r:Str) (o5:Option V),σ'=[some (.ref l),some (.int way),some (.ref s),some (.str "abcdefghijklmnopqrstuvwxyz"),some (.ref m),o5]/\Same H H'/\H' m=some (.lst ((r::rs).map V.str))/\RowK 1500 r,?_,?_⟩
 rotate_left
 ·exists iteD (fun c=>?_) (fun c=>?_)
  rotate_left
  ·walk_at"g";exact⟨_,_,rfl,s1,t1,⟨Nat.le_trans rk0.n (by decide),rk0.c,rk0.w⟩⟩
  exists ixLm (SqL.of (s1 _ _ es)) (Pr.jJ (by omega) (by omega)) ?_;exists ixLm (SqL.of (s1 _ _ el)) (jB (j:=0) rfl) ?_;refine⟨rfl,?_⟩;exists⟨_,32,_,rfl,by rw[blE],by decide,y1,y2,y3,y4,y5,?_⟩;walk_at"f 2 t";have t2:H2 p2=some (.lst ((spW r0).map V.str)):=t2;exists⟨_,_,rfl,.inl ⟨_,SqL.of t2,rfl⟩,?_⟩;rw[length_map];walk_at"g";have sl0:(0:Int)<=((spW r0).length:Int)/2:=by omega
  refine⟨_,rfl,by omega,by omega,?_⟩;refine qi (fun i σ H'=>∃(r:Str) (o5:Option V),σ=[some (.ref l),some (.int way),some (.ref s),some (.str "abcdefghijklmnopqrstuvwxyz"),some (.ref m),o5]/\Same H H'/\H' m=some (.lst ((r::rs).map V.str))/\RowK (700+62*i) r/\i<=9) ⟨r0,_,rfl,s1.trans s2,s2 _ _ t1,rk0,by omega⟩ ?_ ?_
  ·rintro i σ H' hi ⟨r,o5,rfl,sm,tm,rkm,_⟩;have i9:i<9:=by omega
   have lr:=rkm.n;have l8:(Str.ofString " zzzzzzz").length=8:=by decide +kernel
   have l1:(Str.ofString " ").length=1:=by decide +kernel
   have one:∀c:Nat,(⟨#[c]⟩:Str).length=1:=fun _=>rfl
   have lt:=zY (n:=0+(i:Int)) (by omega) (by omega);exists ixLm (SqL.of tm) (jB (j:=0) rfl) ?_;exists⟨_,_,rfl,rfl,by rw[l8];omega,?_⟩;exists⟨_,_,_,rfl,rfl,(by decide +kernel),YO (by omega) (by omega),?_⟩;refine⟨_,_,rfl,rfl,by rw[Qi,l8,one];omega,?_⟩;exists⟨_,_,rfl,rfl,by rw[Qi,Qi,l8,one,l1];omega,?_⟩;exists .inl ⟨_,rfl,Wc (by omega) (by omega),?_⟩;refine⟨_,_,rfl,rfl,by rw[Qi,Qi,Qi,l8,one,l1];unfold tI at lt;omega,?_⟩;exists⟨m,_,_,0,rfl,rfl,tm,(by unfold ixN;simp),?_⟩;have mk:=j1f (c:=97+(0+(i:Int)).toNat) (k:=0+(i:Int)) rkm ⟨by omega,by omega⟩ (by omega) (by omega);exact⟨_,_,rfl,fun b u h=>k1 h sm,by rw[jn];rfl,⟨Nat.le_trans mk.n (by omega),mk.c,mk.w⟩,by omega⟩
  ·rintro σ' H' ⟨r,o5,rfl,sm,tm,rkm,i9⟩;walk_at"g";exact⟨_,_,rfl,sm,tm,⟨Nat.le_trans rkm.n (by omega),rkm.c,rkm.w⟩⟩
 rintro σ' H2 ⟨r,o5,rfl,s2,t2,rk2⟩;exists⟨fun σ' H'=>∃(r:Str) (o5:Option V),σ'=[some (.ref l),some (.int way),some (.ref s),some (.str "abcdefghijklmnopqrstuvwxyz"),some (.ref m),o5]/\Same H H'/\H' m=some (.lst ((r::rs).map V.str))/\RowK 1500 r,?_,?_⟩
 rotate_left
 ·exists iteD (fun c=>?_) (fun c=>?_)
  rotate_left
  ·walk_at"g";exact⟨_,_,rfl,s2,t2,rk2⟩
  exists⟨m,_,_,0,rfl,rfl,t2,(by unfold ixN;simp),?_⟩;have lw:RowK 30 (Str.ofString "limbs"):=(WordK.of (by decide +kernel)).row;exact⟨_,_,rfl,fun b u h=>k1 h s2,by rw[jn];rfl,⟨Nat.le_trans lw.n (by decide),lw.c,lw.w⟩⟩
 rintro σ' H3 ⟨r,o5,rfl,s3,t3,rk3⟩;exists⟨fun σ' H'=>∃(r:Str) (ts:List Str) (o5:Option V),σ'=[some (.ref l),some (.int way),some (.ref s),some (.str "abcdefghijklmnopqrstuvwxyz"),some (.ref m),o5]/\Same H H'/\H' m=some (.lst ((r::rs++ts).map V.str))/\RowK 1500 r/\ts.length<=62/\∀x∈ts,RowK 700 x,?_,?_⟩
 rotate_left
 ·exists iteD (fun c=>?_) (fun c=>?_)
  rotate_left
  ·walk_at"g";exact⟨_,[],_,rfl,s3,by rw[append_nil];exact t3,rk3,by decide,fun x h=>nomatch h⟩
  exists ixLm (SqL.of (s3 _ _ es)) (Pr.jJ (by omega) (by omega)) ?_;exists⟨_,_,rfl,.inl ⟨_,SqL.of (s3 _ _ el),rfl⟩,?_⟩;rw[length_map,length_cons];exists⟨_,rfl,by omega,by omega,?_⟩;refine qi (fun i σ H'=>∃(ts:List Str) (o5:Option V),σ=[some (.ref l),some (.int way),some (.ref s),some (.str "abcdefghijklmnopqrstuvwxyz"),some (.ref m),o5]/\Same H H'/\H' m=some (.lst ((r::rs++ts).map V.str))/\ts.length=i/\i<=62/\∀x∈ts,RowK 700 x) ⟨[],_,rfl,s3,by rw[append_nil];exact t3,rfl,by omega,fun x h=>nomatch h⟩ ?_ ?_
  ·rintro i σ H' hi ⟨ts,o5,rfl,sm,tm,tl,_,tk⟩;have i9:i<62:=by omega
   have l8:(Str.ofString "part yyyyyy").length=11:=by decide +kernel
   have l1:(Str.ofString " hold 1").length=7:=by decide +kernel
   have one:∀c:Nat,(⟨#[c]⟩:Str).length=1:=fun _=>rfl
   exists⟨.inl ⟨rfl,_,SqL.of tm⟩,?_⟩;exists⟨_,_,_,rfl,rfl,(by decide +kernel),YO (by omega) (by omega),?_⟩;refine⟨_,_,rfl,rfl,by rw[l8,one];omega,?_⟩;exists⟨_,_,_,rfl,rfl,(by decide +kernel),YO (by omega) (by omega),?_⟩;refine⟨_,_,rfl,rfl,by rw[Qi,l8,one,one];omega,?_⟩;exists⟨_,_,rfl,rfl,by rw[Qi,Qi,l8,one,one,l1];omega,?_⟩;refine⟨m,_,_,rfl,rfl,tm,by rw[length_map,List.length_append,length_cons,tl];omega,?_⟩;have mk:=j4U (c:=97+((0+(i:Int))/26).toNat) (d:=97+((0+(i:Int))%26).toNat) ⟨by omega,by omega⟩ ⟨by omega,by omega⟩;refine⟨ts++[_],_,rfl,fun b u h=>k1 h sm,by rw[jn,<-List.append_assoc,map_append (l₁:=r::rs++ts)];rfl,by rw[List.length_append,tl];rfl,by omega,fun x hx=>?_⟩;rcases mem_append.mp hx with hx | hx
   ·exact tk x hx
   ·rw[mem_singleton.mp hx];exact mk
  ·rintro σ' H' ⟨ts,o5,rfl,sm,tm,tl,t62,tk⟩;walk_at"g";exact⟨_,ts,_,rfl,sm,tm,rk3,by omega,tk⟩
 rintro σ' H4 ⟨r4,ts,o5,rfl,s4,t4,rk4,tl,tk⟩;exists⟨fun σ' H'=>∃(ts:List Str) (o5:Option V),σ'=[some (.ref l),some (.int way),some (.ref s),some (.str "abcdefghijklmnopqrstuvwxyz"),some (.ref m),o5]/\Same H H'/\H' m=some (.lst ((r4::rs++ts).map V.str))/\ts.length<=63/\∀x∈ts,RowK 700 x,?_,?_⟩
 rotate_left
 ·exists iteD (fun c=>?_) (fun c=>?_)
  rotate_left
  ·walk_at"g";exact⟨_,_,rfl,s4,t4,by omega,tk⟩
  have w2:2<=(spW r0).length:=w13 c;exists⟨.inl ⟨rfl,_,SqL.of t4⟩,?_⟩;exists ixLm (SqL.of (s4 _ _ el)) (jB (j:=0) rfl) ?_;refine⟨rfl,?_⟩;exists⟨_,32,_,rfl,by rw[blE],by decide,y1,y2,y3,y4,y5,?_⟩;walk_at"f 5 t";have t5:H5 p5=some (.lst ((spW r0).map V.str)):=t5;obtain⟨w,hw⟩:∃w,(spW r0)[1]?=some w:=⟨_,List.getElem?_eq_getElem (by omega)⟩
  have wk:=rk0.word (mem_of_getElem? hw);have wn:=wk.n;have l5:(Str.ofString "part ").length=5:=by decide +kernel
  have l7:(Str.ofString " hold 1").length=7:=by decide +kernel
  have hw':((spW r0).map V.str)[1]?=some (.str w):=by rw[List.getElem?_map,hw];rfl
  exists ixLm (SqL.of t5) (jB (j:=1) hw') ?_;refine⟨_,_,rfl,rfl,by rw[l5];omega,?_⟩;exists⟨_,_,rfl,rfl,by rw[Qi,l5,l7];omega,?_⟩;have t45:=s5 _ _ t4;refine⟨m,_,_,rfl,rfl,t45,by rw[length_map,List.length_append,length_cons];omega,?_⟩;have s45:=s4.trans s5;refine⟨ts++[_],_,rfl,fun b u h=>k1 h s45,by rw[jn,<-List.append_assoc,map_append (l₁:=r4::rs++ts)];rfl,by rw[List.length_append];show ts.length+1<=63;omega,fun x hx=>?_⟩;rcases mem_append.mp hx with hx | hx
  ·exact tk x hx
  ·rw[mem_singleton.mp hx];exact j4E wk
 rintro σ' H5 ⟨ts,o5,rfl,s5,t5,tl,tk⟩;exists q m _ H5 s5 t5 (by rw[List.length_append,length_cons];omega) (by rw[List.length_append,length_cons];omega) fun x hx=>?_
 rcases mem_append.mp hx with hx | hx
 ·rcases mem_cons.mp hx with rfl | hx
  ·exact rk4.ok (by decide)
  ·exact(rks x hx).ok (by decide)
 ·exact(tk x hx).ok (by decide)
theorem ki(T:Txt K mg t)(jS:FnOk P w K mg base CX0 1 t.Js t.Ju ["_law_cell","_law_turn"] (Zf))(Ja:FnOk P w K mg base CX0 1 t.JL t.JN ["_law_cell","_law_many"] (Ws.yn))(Zm:FnOk P w K mg base CX0 1 t.zm t.zo ["_law_rows_here","_law_some"] (sp_odd))(zP:FnOk P w K mg base CX0 1 t.qM t.qO ["_law_rows_here","_law_way","_law_some"] (sp_put_on)):FnOk P w K mg base CX0 2 t.qo t.qp ["_law_rows_here","_law_cell"] (sp_changed):=by
 refine T.ZI.ok jI (fun vs H Q E h=>?_) (fun cdv A outer s H vs Q E hr h=>?_)
 ·cases h;subst_vars;rfl
 obtain⟨l,c,rows,rfl,el,r1,r2,rd,q⟩:=h;refine⟨_,(jf (jt (i:=2) jI.nd rfl (.inl rfl) (ju (Ja.mono (by decide)) hr (by rfl) T.QQ T.qK.kp T.QM .nil pass0 (jc (jm jX (ju (jS.mono (by decide)) hr (by rfl) T.qP T.qf.kp T.qI .nil pass0 (jc (pv 1) (jc jd je))) jd) (jc jd je))))
  (jf (jt (i:=3) jI.nd rfl (.inl rfl) (jm jG (jv jj (pv 2) jd) jd))
  (jf (jt (i:=4) jI.nd rfl (.inl rfl) (jm jG (jv jj (pv 2) jd) (jx jA (by rfl) T.j7 jP (jc (pv 0) je))))
  (jf (jt (i:=5) jI.nd rfl (.inl rfl) (jm jG (jv jj (pv 2) jd) (jx jA (by rfl) T.j7 jP (jc (pv 0) je))))
  (jf (jt (i:=6) jI.nd rfl (.inl rfl) (j8 PySem.F.plainAttrs_str PySem.F.slot_str_split PySem.F.type_str_split Jx (jv jj (pv 0) (pv 4)) (jc jr je)))
  (jf (jt (i:=7) jI.nd rfl (.inl rfl) (jm jG (jv jj (pv 2) jd) (jx jA (by rfl) T.j7 jP (jc (pv 6) je))))
  (jf (Jp (jh Ym (pv 3) jd (nomark _))
   (jg (yD (ju (Zm.mono (by decide)) hr (by rfl) T.kQ T.yx.kp T.ky .nil pass0 (jc (pv 0) (jc (pv 2) je))) (YU (pv 6) (pv 7) set_list)))
   jy)
  (jf (Jp (jh jU (pv 3) jd (nomark _))
   (jg (jt (i:=6) jI.nd rfl (.inl rfl) (jm zv (jO Jg (pv 6) j6 (jM (pv 7))) (jO Jg (pv 6) (jM (jm jX (pv 7) jd)) j6))))
   jy)
  (jf (Jp (jh jU (pv 3) jd (nomark _))
   (jg (jt (i:=6) jI.nd rfl (.inl rfl) (jm zv (jm zv (jO Jg (pv 6) j6 (jM (pv 7))) (jZ (jc (ju (Zm.mono (by decide)) hr (by rfl) T.kQ T.yx.kp T.ky .nil pass0 (jc (pv 0) (jc (pv 2) je))) je))) (jO Jg (pv 6) (jM (pv 7)) j6))))
   jy)
  (jf (jt (i:=8) jI.nd rfl (.inl rfl) (jm zv (jm zv (jO Jg (pv 0) j6 (jM (pv 4))) (jZ (jc (j8 PySem.F.plainAttrs_str PySem.F.slot_str_join PySem.F.type_str_join Yl jr (jc (pv 6) je)) je))) (jO Jg (pv 0) (jM (jm jX (pv 4) jd)) j6)))
  (jf (Jp (jh jU (pv 3) jd (nomark _))
   (jf (yD (jv jj (pv 0) (pv 5)) (YU (pv 8) (pv 4) set_list))
   (jg (yD (jv jj (pv 0) (pv 4)) (YU (pv 8) (pv 5) set_list))))
   jy)
  (jf (Jp (jh jU (pv 3) jd (nomark _))
   (jg (jt (i:=8) jI.nd rfl (.inl rfl) (jm zv (jO Jg (pv 8) j6 (jM (pv 4))) (jO Jg (pv 8) (jM (jm jX (pv 4) jd)) j6))))
   jy)
  (jf (Jp (jh jU (pv 3) jd (nomark _))
   (jg (jt (i:=8) jI.nd rfl (.inl rfl) (jm zv (jm zv (jO Jg (pv 8) j6 (jM (pv 4))) (jZ (jc (jv jj (pv 0) (pv 5)) je))) (jO Jg (pv 8) (jM (pv 4)) j6))))
   jy)
  (jf (Jp (jh jU (pv 3) jd (nomark _))
   (jg (jt (i:=8) jI.nd rfl (.inl rfl) (jO Jg (pv 8) j6 (jM (jm jX (pv 4) jd)))))
   jy)
  (jf (Jp (jh jU (pv 3) jd (nomark _))
   (jg (jN (j8 PySem.F.plainAttrs_list PySem.F.slot_list_append PySem.F.type_list_append jQ (pv 8) (jc jr je))))
   jy)
  (jg (jz (ju (zP.mono (by decide)) hr (by rfl) T.Kz T.yr.kp T.Kv .nil pass0 (jc (pv 8) (jc (pv 3) (jc (pv 2) je))))))))))))))))))))),?_⟩
 refine jD (σ':=[some _,some _,none,none,none,none,none,none,none]) rfl ?_;have sz:(20000:Nat)<sizeLine:=by decide
 have blE:(Str.ofString " ")=⟨#[32]⟩:=by decide +kernel
 have n1:1<=rows.length:=by omega
 exists⟨_,_,rfl,by omega,by omega,fun wv=>?_⟩;exists⟨_,_,rfl,by omega,by omega,fun s ss H1 s1 hs es sl sb=>?_⟩;have sl:ss.length=8:=by omega
 have s0:∀n∈ss,0<=n:=fun n hn=>(sb n hn).1
 have hb:∀k:Int,0<=k->k<8->0<=Pr.cell ss k:=fun k h0 h1=>s0 _ (mem_of_getElem? (Pr.ZW (ns:=ss) (k:=k) h0 (by omega)))
 have b0:=hb 0 (by omega) (by omega);have b1:=hb 1 (by omega) (by omega);have b2:=hb 2 (by omega) (by omega);have b3:=hb 3 (by omega) (by omega);have el1:=s1 _ _ el;exists ixLm (SqL.of es) (Pr.jJ (by omega) (by omega)) ?_;exists ixLm (SqL.of es) (Pr.jJ (by omega) (by omega)) ?_;exists⟨_,_,rfl,.inl ⟨_,SqL.of el1,rfl⟩,?_⟩;rw[length_map];exists ixLm (SqL.of es) (Pr.jJ (by omega) (by omega)) ?_;exists⟨_,_,rfl,.inl ⟨_,SqL.of el1,rfl⟩,?_⟩;rw[length_map];walk_at"g";obtain⟨ja,ra,ea,la,ta,ma,ia⟩:=WG (n:=Pr.cell ss 1) n1;obtain⟨jo,ro,eo,lo,to,mo,io⟩:=WG (n:=Pr.cell ss 2) n1;rw[ea,eo];have dra:=rd ra (mem_of_getElem? ma);refine ixLm (SqL.of el1) (ta) ?_;refine⟨rfl,?_⟩;walk_at"g";obtain⟨y1,y2,y3,y4,y5,y6,y7⟩:=qH (dra.k.ok (by decide));refine⟨_,32,_,rfl,by rw[blE],by decide,y1,y2,y3,y4,y5,?_⟩;walk_at"f pw hpw H2 s2 tw";have tw:H2 pw=some (.lst ((spW ra).map V.str)):=tw;have s12:=s1.trans s2;have hpw0:=none_of s1 hpw;have es2:=s2 _ _ es;have w2:=dra.l;have w20:=dra.m;have wk:∀x∈spW ra,WordK x:=fun x hx=>dra.k.word hx
 exists ixLm (SqL.of es2) (Pr.jJ (by omega) (by omega)) ?_;exists⟨_,_,rfl,.inl ⟨_,SqL.of tw,rfl⟩,?_⟩;rw[length_map];walk_at"g";obtain⟨jp,rp,ep,lp,tp,mp,ip⟩:=WG (rows:=spW ra) (n:=Pr.cell ss 3) (by omega);rw[ep];generalize hw0:Pr.cell ss 0%15=way;have nsp:s≠pw:=ji es hpw;refine⟨fun σ' H'=>∃ws:List Str,σ'=[some (.ref l),some (.int c),some (.ref s),some (.int way),some (.int ja),some (.int jo),some (.ref pw),some (.int jp),none]/\Same H1 H'/\H' pw=some (.lst (ws.map V.str))/\ws.length=(spW ra).length/\(∀x∈ws,WordK x)/\(3<=way->ws=spW ra),?_,?_⟩
 rotate_left
 ·exists iteD (fun c1=>?_) (fun c1=>?_)
  rotate_left
  ·walk_at"g";exact⟨_,rfl,s2,tw,rfl,wk,fun _=>rfl⟩
  exists⟨l,s,rows,ss,rfl,s12 _ _ el,by omega,by omega,rd,es2,sl,s0,fun x H3 s3 xk=>?_⟩;exists⟨pw,_,_,jp,rfl,rfl,s3 _ _ tw,ip,?_⟩;refine⟨(spW ra).set jp x,rfl,fun b u h=>(jq (ji h hpw)).trans (s3 _ _ (s2 _ _ h)),by rw[jn,map_set],by rw[length_set],fun y hy=>?_,fun z=>absurd c1 (by omega)⟩;rcases List.mem_or_eq_of_mem_set hy with hy | rfl
  ·exact wk y hy
  ·exact xk
 rintro σ' H3 ⟨ws,rfl,s3,tw3,wl,wk3,we⟩;walk_at"g";have t3n:∀{b u},H1 b=some u->H3 b=some u:=fun h=>s3 _ _ h
 refine⟨fun σ' H'=>∃(pw:Addr) (ws:List Str),σ'=[some (.ref l),some (.int c),some (.ref s),some (.int way),some (.int ja),some (.int jo),some (.ref pw),some (.int jp),none]/\Same H1 H'/\H' pw=some (.lst (ws.map V.str))/\ws.length<=20/\(∀x∈ws,WordK x)/\(4<=way->ws=spW ra),?_,?_⟩
 rotate_left
 ·exists iteD (fun c1=>?_) (fun c1=>?_)
  rotate_left
  ·walk_at"g";exact⟨pw,ws,rfl,s3,tw3,by omega,wk3,fun z=>we (by omega)⟩
  exists⟨pw,_,rfl,SqL.of tw3,?_⟩;rw[K7 (by omega)];walk_at"f 4 t";exists⟨pw,_,rfl,SqL.of (s4 _ _ tw3),?_⟩;rw[K6 (by omega)];walk_at"f 5 t";walk_at"g";rw[<-map_take]at t4;rw[<-map_drop]at t5;refine⟨p4,p5,_,_,rfl,rfl,s5 _ _ t4,t5,?_,?_⟩
  ·rw[length_map,length_map,length_take,length_drop];omega
  walk_at"f 6 t";rw[<-map_append]at t6;refine⟨p6,_,rfl,s3.trans (s4.trans (s5.trans s6)),t6,by rw[List.length_append,length_take,length_drop];omega,fun x hx=>?_,fun z=>absurd c1 (by omega)⟩;rcases mem_append.mp hx with hx | hx
  ·exact wk3 x (mem_of_mem_take hx)
  ·exact wk3 x (mem_of_mem_drop hx)
 rintro σ' H4 ⟨pw4,ws4,rfl,s4,tw4,wl4,wk4,we4⟩;exists⟨fun σ' H'=>∃(pw:Addr) (ws:List Str),σ'=[some (.ref l),some (.int c),some (.ref s),some (.int way),some (.int ja),some (.int jo),some (.ref pw),some (.int jp),none]/\Same H1 H'/\H' pw=some (.lst (ws.map V.str))/\ws.length<=22/\(∀x∈ws,WordK x)/\(5<=way->ws=spW ra),?_,?_⟩
 rotate_left
 ·exists iteD (fun c1=>?_) (fun c1=>?_)
  rotate_left
  ·walk_at"g";exact⟨pw4,ws4,rfl,s4,tw4,by omega,wk4,fun z=>we4 (by omega)⟩
  exists⟨pw4,_,rfl,SqL.of tw4,?_⟩;rw[K7 (by omega)];walk_at"f p4 hp4 H5 s5 t5";rw[<-map_take]at t5;exists⟨l,s,rows,ss,rfl,s5 _ _ (s4 _ _ el1),by omega,by omega,rd,s5 _ _ (s4 _ _ es),sl,s0,fun x H6 s6 xk=>?_⟩;exists⟨(by show 1<=sizeLine;omega),?_⟩;walk_at"f 7 t";walk_at"g";have t57:=s7 _ _ (s6 _ _ t5);refine⟨p4,p7,_,_,rfl,rfl,t57,t7,?_,?_⟩
  ·rw[length_map,length_take];show _+1<=_;omega
  walk_at"f 8 t";walk_at"g";have s58:=s5.trans (s6.trans (s7.trans s8));refine⟨pw4,_,rfl,SqL.of (s58 _ _ tw4),?_⟩;rw[K6 (by omega)];walk_at"f 9 t";rw[<-map_drop]at t9;walk_at"g";have t8':H8 p8=some (.lst ((ws4.take (jp:Int).toNat++[x]).map V.str)):=by rw[t8,map_append];rfl
  refine⟨p8,p9,_,_,rfl,rfl,s9 _ _ t8',t9,?_,?_⟩
  ·rw[length_map,List.length_append,length_take,length_map,length_drop];show _+1+_<=_;omega
  walk_at"f 10 t";rw[<-map_append]at t10;refine⟨p10,_,rfl,s4.trans (s58.trans (s9.trans s10)),t10,by rw[List.length_append,List.length_append,length_take,length_drop];show _+1+_<=_;omega,fun y hy=>?_,fun z=>absurd c1 (by omega)⟩;rcases mem_append.mp hy with hy | hy
  ·rcases mem_append.mp hy with hy | hy
   ·exact wk4 y (mem_of_mem_take hy)
   ·rw[mem_singleton.mp hy];exact xk
  ·exact wk4 y (mem_of_mem_drop hy)
 rintro σ' H5 ⟨pw5,ws5,rfl,s5,tw5,wl5,wk5,we5⟩;exists⟨l,_,rfl,SqL.of (s5 _ _ el1),?_⟩;rw[K7 (by omega)];walk_at"f 6 t";rw[<-map_take,Int.toNat_natCast]at t6;walk_at"g";have lb:(Str.ofString " ").length=1:=by decide +kernel
 have s30:=j2G fun r hr=>(wk5 r hr).n
 refine⟨rfl,?_⟩;exists⟨_,pw5,ws5,rfl,rfl,SqL.of (s6 _ _ tw5),by rw[lb];omega,?_⟩;obtain⟨jk,js⟩:=kM wk5 wl5;have jw:way=13->2<=(spW (Txt.join bl ws5)).length:=fun e=>by
  have e5:=we5 (by omega);have ne:ws5≠[]:=fun z=>by rw[e5]at z;exact y7 z
  rw[js ne,e5];exact w2
 have ebl:Str.ofString " "= bl:=rfl;rw[ebl];generalize Txt.join bl ws5=z at jk jw;exists⟨(by show 1<=sizeLine;omega),?_⟩;walk_at"f 7 t";exists⟨p6,p7,_,_,rfl,rfl,s7 _ _ t6,t7,?_,?_⟩
 ·rw[length_map,length_take];show _+1<=_;omega
 walk_at"f 8 t";have s58:=s6.trans (s7.trans s8);have t8':H8 p8=some (.lst ((rows.take ja++[z]).map V.str)):=by rw[t8,map_append];rfl
 exists⟨l,_,rfl,SqL.of (s58 _ _ (s5 _ _ el1)),?_⟩;rw[K6 (by omega)];walk_at"f 9 t";rw[<-map_drop,show((ja:Int)+1).toNat=ja+1 by omega]at t9;exists⟨p8,p9,_,_,rfl,rfl,s9 _ _ t8',t9,?_,?_⟩
 ·rw[length_map,List.length_append,length_take,length_map,length_drop];show _+1+_<=_;omega
 walk_at"f pm hpm H10 s10 t10";rw[<-map_append]at t10;obtain⟨ml,mk,mw⟩:=j3d (j:=ja) la rd jk;have mw:way=13->_:=fun e=>mw (jw e)
 generalize rows.take ja++[z]++rows.drop (ja+1)=ms at t10 ml mk mw;have s510:=s5.trans (s58.trans (s9.trans s10));have hpm1:H1 pm=none:=none_of (s5.trans (s58.trans s9)) hpm;have k1:∀{b u H'} {o:HO},H1 b=some u->(∀b u,H1 b=some u->H' b=some u)->upd H' pm o b=some u:=fun h k=>(jq (ji h hpm1)).trans (k _ _ h)
 exists⟨fun σ' H'=>∃ms:List Str,σ'=[some (.ref l),some (.int c),some (.ref s),some (.int way),some (.int ja),some (.int jo),some (.ref pw5),some (.int jp),some (.ref pm)]/\Same H1 H'/\H' pm=some (.lst (ms.map V.str))/\ms.length=rows.length/\(∀r∈ms,RowK 700 r)/\(way=13->2<=(spW (ms.getD 0 ⟨#[]⟩)).length),?_,?_⟩
 rotate_left
 ·exists iteD (fun c1=>?_) (fun c1=>?_)
  rotate_left
  ·walk_at"g";exact⟨ms,rfl,s510,t10,ml,mk,mw⟩
  exists ixLm (SqL.of (s510 _ _ el1)) (to) ?_;exists⟨pm,_,_,ja,rfl,rfl,t10,j2c (by omega),?_⟩;have q1:Same H1 (upd H10 pm (.lst ((ms.map V.str).set ja (.str ro)))):=fun b u h=>k1 h s510
  generalize eX:upd H10 pm _=H11 at q1|-;have t11:H11 pm=some (.lst ((ms.set ja ro).map V.str)):=by rw[<-eX,jn,map_set]
  clear eX;exists ixLm (SqL.of (q1 _ _ el1)) (ta) ?_;exists⟨pm,_,_,jo,rfl,rfl,t11,j2c (by rw[length_set];omega),?_⟩;refine⟨(ms.set ja ro).set jo ra,rfl,fun b u h=>k1 h q1,by rw[jn,<-map_set],by rw[length_set,length_set];exact ml,j45 (j45 mk (rd ro (mem_of_getElem? mo)).k) dra.k,fun z=>absurd c1 (by omega)⟩
 rintro σ' H11 ⟨ms1,rfl,s11,t11,ml1,mk1,mw1⟩;exists⟨fun σ' H'=>∃(pm:Addr) (ms:List Str),σ'=[some (.ref l),some (.int c),some (.ref s),some (.int way),some (.int ja),some (.int jo),some (.ref pw5),some (.int jp),some (.ref pm)]/\Same H1 H'/\H1 pm=none/\H' pm=some (.lst (ms.map V.str))/\(1<=ms.length/\ms.length<=62)/\(∀r∈ms,RowK 700 r)/\(way=13->2<=(spW (ms.getD 0 ⟨#[]⟩)).length),?_,?_⟩
 rotate_left
 ·exists iteD (fun c1=>?_) (fun c1=>?_)
  rotate_left
  ·walk_at"g";exact⟨pm,ms1,rfl,s11,hpm1,t11,by omega,mk1,mw1⟩
  exists⟨pm,_,rfl,SqL.of t11,?_⟩;rw[K7 (by omega)];walk_at"f p4 hp4 H12 s12' t4";exists⟨pm,_,rfl,SqL.of (s12' _ _ t11),?_⟩;rw[K6 (by omega)];walk_at"f p5 hp5 H13 s13 t5";walk_at"g";rw[<-map_take]at t4;rw[<-map_drop]at t5;refine⟨p4,p5,_,_,rfl,rfl,s13 _ _ t4,t5,?_,?_⟩
  ·rw[length_map,length_map,length_take,length_drop];omega
  walk_at"f p6 hp6 H14 s14 t6";rw[<-map_append]at t6;refine⟨p6,_,rfl,s11.trans (s12'.trans (s13.trans s14)),none_of (s11.trans (s12'.trans s13)) hp6,t6,by rw[List.length_append,length_take,length_drop];omega,fun x hx=>?_,fun z=>absurd c1 (by omega)⟩;rcases mem_append.mp hx with hx | hx
  ·exact mk1 x (mem_of_mem_take hx)
  ·exact mk1 x (mem_of_mem_drop hx)
 rintro σ' H12 ⟨pm2,ms2,rfl,s12',hpm2,t12,ml2,mk2,mw2⟩;exists⟨fun σ' H'=>∃(pm:Addr) (ms:List Str),σ'=[some (.ref l),some (.int c),some (.ref s),some (.int way),some (.int ja),some (.int jo),some (.ref pw5),some (.int jp),some (.ref pm)]/\Same H1 H'/\H1 pm=none/\H' pm=some (.lst (ms.map V.str))/\(1<=ms.length/\ms.length<=63)/\(∀r∈ms,RowK 700 r)/\(way=13->2<=(spW (ms.getD 0 ⟨#[]⟩)).length),?_,?_⟩
 rotate_left
 ·exists iteD (fun c1=>?_) (fun c1=>?_)
  rotate_left
  ·walk_at"g";exact⟨pm2,ms2,rfl,s12',hpm2,t12,by omega,mk2,mw2⟩
  exists⟨pm2,_,rfl,SqL.of t12,?_⟩;rw[K7 (by omega)];walk_at"f p4 hp4 H13 s13 t5";rw[<-map_take]at t5;exists ixLm (SqL.of (s13 _ _ (s12' _ _ el1))) (to) ?_;exists⟨(by show 1<=sizeLine;omega),?_⟩;walk_at"f p7 hp7 H14 s14 t7";exists⟨p4,p7,_,_,rfl,rfl,s14 _ _ t5,t7,?_,?_⟩
  ·rw[length_map,length_take];show _+1<=_;omega
  walk_at"f p8 hp8 H15 s15 t8";walk_at"g";have s135:=s13.trans (s14.trans s15);refine⟨pm2,_,rfl,SqL.of (s135 _ _ t12),?_⟩;rw[K6 (by omega)];walk_at"f p9 hp9 H16 s16 t9";rw[<-map_drop]at t9;walk_at"g";have t8':H15 p8=some (.lst ((ms2.take (ja:Int).toNat++[ro]).map V.str)):=by rw[t8,map_append];rfl
  refine⟨p8,p9,_,_,rfl,rfl,s16 _ _ t8',t9,?_,?_⟩
  ·rw[length_map,List.length_append,length_take,length_map,length_drop];show _+1+_<=_;omega
  walk_at"f p10 hp10 H17 s17 t17";rw[<-map_append]at t17;refine⟨p10,_,rfl,s12'.trans (s135.trans (s16.trans s17)),none_of (s12'.trans (s135.trans s16)) hp10,t17,by rw[List.length_append,List.length_append,length_take,length_drop];show 1<=_+1+_/\_+1+_<=_;omega,fun y hy=>?_,fun z=>absurd c1 (by omega)⟩;rcases mem_append.mp hy with hy | hy
  ·rcases mem_append.mp hy with hy | hy
   ·exact mk2 y (mem_of_mem_take hy)
   ·rw[mem_singleton.mp hy];exact(rd ro (mem_of_getElem? mo)).k
  ·exact mk2 y (mem_of_mem_drop hy)
 rintro σ' H13 ⟨pm3,ms3,rfl,s13,hpm3,t13,ml3,mk3,mw3⟩;exists⟨fun σ' H'=>∃(pm:Addr) (ms:List Str),σ'=[some (.ref l),some (.int c),some (.ref s),some (.int way),some (.int ja),some (.int jo),some (.ref pw5),some (.int jp),some (.ref pm)]/\Same H1 H'/\H1 pm=none/\H' pm=some (.lst (ms.map V.str))/\(1<=ms.length/\ms.length<=63)/\(∀r∈ms,RowK 700 r)/\(way=13->2<=(spW (ms.getD 0 ⟨#[]⟩)).length),?_,?_⟩
 rotate_left
 ·exists iteD (fun c1=>?_) (fun c1=>?_)
  rotate_left
  ·walk_at"g";exact⟨pm3,ms3,rfl,s13,hpm3,t13,by omega,mk3,mw3⟩
  exists⟨pm3,_,rfl,SqL.of t13,?_⟩;rw[K7 (by omega)];walk_at"f p4 hp4 H14 s14 t4";rw[<-map_take]at t4;walk_at"g";exact⟨p4,_,rfl,s13.trans s14,none_of s13 hp4,t4,by rw[length_take];omega,fun x hx=>mk3 x (mem_of_mem_take hx),fun z=>absurd c1 (by omega)⟩
 rintro σ' H14 ⟨pm4,ms4,rfl,s14,hpm4,t14,ml4,mk4,mw4⟩;exists⟨fun σ' H'=>∃(ms:List Str),σ'=[some (.ref l),some (.int c),some (.ref s),some (.int way),some (.int ja),some (.int jo),some (.ref pw5),some (.int jp),some (.ref pm4)]/\Same H1 H'/\H' pm4=some (.lst (ms.map V.str))/\(1<=ms.length/\ms.length<=64)/\(∀r∈ms,RowK 700 r)/\(way=13->2<=(spW (ms.getD 0 ⟨#[]⟩)).length),?_,?_⟩
 rotate_left
 ·exists iteD (fun c1=>?_) (fun c1=>?_)
  rotate_left
  ·walk_at"g";exact⟨ms4,rfl,s14,t14,by omega,mk4,mw4⟩
  exists⟨.inl ⟨rfl,_,SqL.of t14⟩,?_⟩;exists⟨pm4,_,_,rfl,rfl,t14,by rw[length_map];omega,?_⟩;have ew:RowK 30 (Str.ofString ""):=(WordK.of (by decide +kernel)).row;refine⟨ms4++[Str.ofString ""],rfl,fun b u h=>(jq (ji h hpm4)).trans (s14 _ _ h),by rw[jn,map_append];rfl,by rw[List.length_append];show 1<=_+1/\_+1<=_;omega,fun x hx=>?_,fun z=>absurd c1 (by omega)⟩;rcases mem_append.mp hx with hx | hx
  ·exact mk4 x hx
  ·rw[mem_singleton.mp hx];exact⟨Nat.le_trans ew.n (by decide),ew.c,ew.w⟩
 rintro σ' H15 ⟨ms5,rfl,s15,t15,ml5,mk5,mw5⟩;walk_at"g";exact⟨pm4,s,way,ms5,ss,rfl,t15,by omega,by omega,mk5,s15 _ _ es,sl,s0,mw5,fun p rows' H' s' t' n1' n2' ok=>q p rows' H' (s1.trans (s15.trans s')) t' n1' n2' ok⟩
theorem kj(T:Txt K mg t):FnOk P w K mg base CX0 1 t.Jz t.JA ["_law_text"] (Ws.qt):=by
 refine T.Qc.ok ZG (fun vs H Q E h=>?_) (fun cdv A outer s H vs Q E hr h=>?_)
 ·obtain⟨x,rfl,hx,q⟩:=h;rfl
 obtain⟨x,rfl,hx,q⟩:=h;refine⟨_,(jf (JV PassesOwn.never rfl (X0 (pv 0)) (jF (i:=1) ZG.nd rfl (.inl rfl))
   (jg (jT (jh j1p (pv 1) jr (by with_unfolding_all rfl))
    (jg (jz xG))
    jy)))
  (jg (jz (xH Q8 Q8 jd (jx jA (by rfl) T.j7 jP (jc (pv 0) je)) jd)))),?_⟩
 refine jD (σ':=[some _,none]) rfl ?_;have sz:(200:Nat)<sizeLine:=by decide
 have hsz:x.cps.size=x.length:=rfl;exists j0n (fun i σ H'=>∃o1:Option V,σ=[some (.str x),o1]/\H=H'/\∀c∈x.cps.toList.take i,c∈Ws.lets.cps.toList) ⟨_,rfl,rfl,fun c h=>by simp at h⟩ ?_ ?_
 ·rintro i c σ H' hc ⟨o1,rfl,rfl,hn⟩;have hc':x.cps.toList[i]?=some c:=by rw[Array.getElem?_toList];exact hc
  exists⟨_,_,rfl,rfl,?_⟩;exists iteN (fun c1=>?_) (fun c1=>?_)
  ·walk_at"g";have e:Ws.isW x=false:=by
    have ha:Ws.among x Ws.lets=false:=decide_eq_false fun h=>c1 (h c (mem_of_getElem? hc'))
    unfold Ws.isW;rw[ha,Bool.and_false]
   have q':=q H (Same.refl _);rw[e]at q';exact q'
  ·exists⟨_,rfl,rfl,fun d hd=>?_⟩;rw[take_add_one,hc']at hd;rcases mem_append.mp hd with z | z
   ·exact hn d z
   ·have:d=c:=by simpa using z
    subst this;exact c1
 ·rintro σ H' ⟨o1,rfl,rfl,hn⟩;have ha:Ws.among x Ws.lets=true:=decide_eq_true fun c hc=>hn c (by rw[take_of_length_le (by rw[Ws.QG];omega)];exact hc)
  have q':=q H (Same.refl _);unfold Ws.isW at q';rw[ha,Bool.and_true]at q';exists⟨_,_,rfl,⟨by omega,rfl⟩,?_⟩;exists iteD (fun c1=>?_) (fun c1=>?_)
  ·walk_at"g";rw[show decide ((x.length:Int)<=8)=decide (1<=x.length/\x.length<=8)from decide_eq_decide.mpr (by omega)];exact q'
  ·walk_at"g";rw[decide_eq_false (show¬(1<=x.length/\x.length<=8) by omega)]at q';exact q'
theorem KF(T:Txt K mg t):FnOk P w K mg base CX0 1 t.qB t.qE ["_law_text","_law_least"] (sp_worthL):=by
 refine T.jV.ok qR (fun vs H Q E h=>?_) (fun cdv A outer s H vs Q E hr h=>?_)
 ·cases h;subst_vars;rfl
 obtain⟨x,m,rfl,hx,q⟩:=h;refine⟨_,(jf (jt (i:=2) qR.nd rfl (.inl rfl) jd)
  (jf (JV PassesOwn.never rfl (X0 (pv 0)) (jF (i:=3) qR.nd rfl (.inl rfl))
   (jf (jt (i:=4) qR.nd rfl (.inl rfl) (j8 PySem.F.plainAttrs_str PySem.F.slot_str_find PySem.F.type_str_find j3i jr (jc (pv 3) je)))
   (jf (jT (jh Ym (pv 4) jd (nomark _))
    (jg (jz jH))
    jy)
   (jg (jt (i:=2) qR.nd rfl (.inl rfl) (jm jX (jm Qs jd (pv 2)) (pv 4)))))))
  (jf (jT (PW.pt (JP (jh jU (pv 0) jr (nomark _)) (JP (PW.pt (qk (jh jU (jv ZX (pv 0) jd) jr (nomark _)) (qT (jh Z0 (jx jA (by rfl) T.j7 jP (jc (pv 0) je)) jd (nomark _))))) (JP (jh Ym (pv 2) (pv 1) (nomark _)) (qV (jh Z0 (pv 2) (jm Q6 jd jd) (nomark _)))))))
   (jg (jz jH))
   jy)
  (jg (jz (pv 2)))))),?_⟩
 refine jD (σ':=[some _,some _,none,none,none]) rfl ?_;have sz:(200:Nat)<sizeLine:=by decide
 have hsz:x.cps.size=x.length:=rfl;have hlen:=Ws.QG x;have no:¬(1<=x.length/\Ws.among x Ws.figs=true/\¬(x.cps.toList.head?=some 48/\x.length≠1))->Q .non H:=fun h=>by
  have q':=q H (Same.refl _);rw[j3p h]at q';exact q'
 exists j0n (fun i σ H'=>∃(o3 o4:Option V),σ=[some (.str x),some (.int m),some (.int (NumText.digitsVal (x.cps.toList.take i):Nat)),o3,o4]/\H=H'/\(∀c∈x.cps.toList.take i,48<=c/\c<=57)/\NumText.digitsVal (x.cps.toList.take i)<10^i) ⟨_,_,rfl,rfl,fun c h=>by simp at h,by rw[List.take_zero];decide⟩ ?_ ?_
 ·rintro i c σ H' hc ⟨o3,o4,rfl,rfl,hn,hb⟩;have hc':x.cps.toList[i]?=some c:=by rw[Array.getElem?_toList];exact hc
  have hi:i<200:=by
   have:=(List.getElem?_eq_some_iff.mp hc').1;omega
  have p1:(10:Nat)^i<=10^200:=Nat.pow_le_pow_right (by decide) (by omega);exists⟨rfl,?_⟩;exists⟨_,_,rfl,rfl,?_⟩;by_cases hd:48<=c/\c<=57
  ·have ef:Txt.find "0123456789" ⟨#[c]⟩=((c-48:Nat):Int):=Ws.j34 hd;rw[ef];exists iteD (fun c1=>absurd c1 (by omega)) (fun _=>?_);have e:NumText.digitsVal (x.cps.toList.take (i+1))=NumText.digitsVal (x.cps.toList.take i)*10+(c-48):=by
    rw[take_add_one,hc'];unfold NumText.digitsVal;rw[Option.toList_some,List.foldl_append];rfl
   have p2:(10:Nat)^(i+1)=10^i*10:=Nat.pow_succ ..;have ev:10*((NumText.digitsVal (x.cps.toList.take i):Nat):Int)+((c-48:Nat):Int)=((NumText.digitsVal (x.cps.toList.take (i+1)):Nat):Int):=by rw[e];omega
   walk_at"g";rw[ev];refine⟨_,_,rfl,rfl,fun d hd'=>?_,by omega⟩;rw[take_add_one,hc']at hd';rcases mem_append.mp hd' with z | z
   ·exact hn d z
   ·have:d=c:=by simpa using z
    subst this;exact hd
  ·have ef:Txt.find "0123456789" ⟨#[c]⟩ = -1:=Ws.j22 hd;rw[ef];exists iteD (fun _=>?_) (fun c1=>absurd (by omega) c1);walk_at"g";exact no fun h=>hd (Ws.Q9 h.2.1 c (mem_of_getElem? hc'))
 ·rintro σ H' ⟨o3,o4,rfl,rfl,hn,_⟩;have et:x.cps.toList.take x.cps.size=x.cps.toList:=take_of_length_le (by omega);rw[et]at hn|-;have ha:Ws.among x Ws.figs=true:=decide_eq_true fun c hc=>by rw[Ws.wX];exact Ws.kS.mpr (hn c hc)
  exists iteD (fun c1=>?_) (fun c1=>?_)
  ·refine iteT ?_;walk_at"g";exact no fun h=>by have:=Ws.W3.mp c1;omega
  have h1:1<=x.length:=by
   rcases Nat.eq_zero_or_pos x.length with z | z
   ·exact absurd (Ws.W3.mpr z) c1
   ·exact z
  obtain⟨c,r,er,e0⟩:=Ws.j0s (x:=x) h1;have eh:x.cps.toList.head?=some c:=by rw[er];rfl
  exists⟨x,0,c,rfl,rfl,by omega,e0,?_⟩;exists iteD (fun c3=>?_) (fun c3=>?_)
  ·have c48:=Ws.ku.mp c3;subst c48;exists⟨_,_,rfl,⟨by omega,rfl⟩,?_⟩;exists iteD (fun c4=>?_) (fun c4=>?_)
   ·refine iteT ?_;walk_at"g";exact no fun h=>h.2.2 ⟨eh,by omega⟩
   have h0:¬(x.cps.toList.head?=some 48/\x.length≠1):=fun h=>h.2 (by omega)
   have q':=q H (Same.refl _);rw[j0z (least:=m) h1 ha h0]at q';exists iteD (fun c5=>?_) (fun c5=>?_)
   ·refine iteT ?_;walk_at"g";rw[if_neg (by omega)]at q';exact q'
   exists iteD (fun c6=>?_) (fun c6=>?_)
   ·walk_at"g";rw[if_neg (by omega)]at q';exact q'
   ·walk_at"g";rw[if_pos (by omega)]at q';exact q'
  ·refine iteF ?_;have h0:¬(x.cps.toList.head?=some 48/\x.length≠1):=fun h=>c3 (Ws.ku.mpr (by rw[eh]at h;exact Option.some.inj h.1))
   have q':=q H (Same.refl _);rw[j0z (least:=m) h1 ha h0]at q';exists iteD (fun c5=>?_) (fun c5=>?_)
   ·refine iteT ?_;walk_at"g";rw[if_neg (by omega)]at q';exact q'
   exists iteD (fun c6=>?_) (fun c6=>?_)
   ·walk_at"g";rw[if_neg (by omega)]at q';exact q'
   ·walk_at"g";rw[if_pos (by omega)]at q';exact q'
theorem KB(T:Txt K mg t)(Jc:FnOk P w K mg base CX0 1 t.Jz t.JA ["_law_text"] (Ws.qt))(jL:FnOk P w K mg base CX0 1 t.qB t.qE ["_law_text","_law_least"] (sp_worthL)):FnOk P w K mg base CX0 2 t.Qe t.Qm ["_law_words"] (sp_limbsL):=by
 refine T.yM.ok QS (fun vs H Q E h=>?_) (fun cdv A outer s H vs Q E hr h=>?_)
 ·cases h;subst_vars;rfl
 obtain⟨l,ws,rfl,el,wn,wl,wc,qn,qs⟩:=h;refine⟨_,(jf (jt (i:=1) QS.nd rfl (.inl rfl) (jZ je))
  (jf (jt (i:=2) QS.nd rfl (.inl rfl) (jZ je))
  (jf (JV PassesOwn.never rfl (XZ (by rfl) T.Qj (jc jd (jc (jm Zt (jx jA (by rfl) T.j7 jP (jc (pv 0) je)) jd) (jc jd je)))) (jF (i:=3) QS.nd rfl (.inl rfl))
   (jf (jT (PW.pt (JP (Q7 (QJ (ju (Jc.mono (by decide)) hr (by rfl) T.zu T.Qc.kp T.zj .nil pass0 (jc (jv jj (pv 0) (pv 3)) je)))) (JP (jh qZ (jv jj (pv 0) (pv 3)) (pv 2) (by with_unfolding_all rfl)) (qV (jh Q5 (ju (jL.mono (by decide)) hr (by rfl) T.j5 T.jV.kp T.j4 .nil pass0 (jc (jv jj (pv 0) (jm jX (pv 3) jd)) (jc jd je))) jH (nomark _))))))
    (jg (jz jH))
    jy)
   (jf (jN (j8 PySem.F.plainAttrs_list PySem.F.slot_list_append PySem.F.type_list_append jQ (pv 2) (jc (jv jj (pv 0) (pv 3)) je)))
   (jg (jN (j8 PySem.F.plainAttrs_list PySem.F.slot_list_append PySem.F.type_list_append jQ (pv 1) (jc (Je (jc (jv jj (pv 0) (pv 3)) (jc (ju (jL.mono (by decide)) hr (by rfl) T.j5 T.jV.kp T.j4 .nil pass0 (jc (jv jj (pv 0) (jm jX (pv 3) jd)) (jc jd je))) je))) je)))))))
  (jf (jT (PW.pt (JP (jh kd (jv jj (pv 0) jd) jr (nomark _)) (JP (jh jU (jm jG (jx jA (by rfl) T.j7 jP (jc (pv 0) je)) jd) jd (nomark _)) (JP (jh jU (jx jA (by rfl) T.j7 jP (jc (pv 1) je)) jd (nomark _)) (qV (jh Z0 (jx jA (by rfl) T.j7 jP (jc (pv 1) je)) jd (nomark _)))))))
   (jg (jz jH))
   jy)
  (jg (jz (pv 1))))))),?_⟩
 refine jD (σ':=[some _,none,none,none]) rfl ?_;have sz:(20000:Nat)<sizeLine:=by decide
 obtain⟨k,r,rfl⟩:∃k r,ws=k::r:=by
  cases ws with
  | nil=>exact absurd rfl wn
  | cons k r=>exact⟨k,r,rfl⟩
 rw[length_cons]at wl;exists⟨(by show 0<=sizeLine;omega),?_⟩;walk_at"f pc hpc H1 s1 t1";exists⟨(by show 0<=sizeLine;omega),?_⟩;walk_at"f pn hpn H2 s2 t2";have nn:pc≠pn:=ji t1 hpn;have s02:=s1.trans s2;have hpn0:H pn=none:=none_of s1 hpn;exists j2w ?_;exists⟨_,_,rfl,.inl ⟨_,SqL.of (s02 _ _ el),rfl⟩,?_⟩;exists⟨r.length,by rw[length_map,length_cons];simp,by omega,?_⟩;refine j35 (fun i σ H'=>∃(o3:Option V) (as:List Addr) (ls:List (Str×Int)),σ=[some (.ref l),some (.ref pc),some (.ref pn),o3]/\Same H H'/\H' pc=some (.lst (as.map V.ref))/\H' pn=some (.lst ((nmsOf ls).map V.str))/\All2 (LimbAt H') as ls/\prsW (r.take (2*i))=some ls/\(nmsOf ls).Nodup/\ls.length=i)
  ⟨_,[],[],rfl,s02,s2 _ _ t1,t2,⟨rfl,fun i a x h=>by simp at h⟩,rfl,List.nodup_nil,rfl⟩ ?_ ?_
 ·rintro i σ H3 hi ⟨o3,as,ls,rfl,s3,ec,en,al,ep,nd,ll⟩;obtain⟨x,hx⟩:∃x,r[2*i]?=some x:=⟨_,List.getElem?_eq_getElem (by omega)⟩
  obtain⟨h,hh⟩:∃h,r[2*i+1]?=some h:=⟨_,List.getElem?_eq_getElem (by omega)⟩
  have ax:((k::r).map V.str)[2*i+1]?=some (.str x):=by rw[List.getElem?_map,List.getElem?_cons_succ,hx];rfl
  have ah:((k::r).map V.str)[2*i+1+1]?=some (.str h):=by rw[List.getElem?_map,List.getElem?_cons_succ,hh];rfl
  have xl:=wc x (mem_cons_of_mem _ (mem_of_getElem? hx));have hl:=wc h (mem_cons_of_mem _ (mem_of_getElem? hh));exists ixLm (SqL.of (s3 _ _ el)) (jB ax) ?_;exists⟨x,rfl,xl,fun H4 s4=>?_⟩;walk_at"g";have ah':atI ((k::r).map V.str) (((2*i+1:Nat):Int)+1)=some (.str h):=jB ah;have s04:=s3.trans s4;by_cases w:Ws.isW x=true
  rotate_left
  ·have w':Ws.isW x=false:=by simpa using w
   refine iteB1 (by rw[w'];rfl) ?_;exists iteT ?_;walk_at"g";exact qn (j2f hx hh (.inl w')) _ s04
  refine iteB0 (by rw[w];rfl) ?_;exists ixLm (SqL.of (s04 _ _ el)) (jB ax) ?_;exists⟨pn,_,rfl,.inl (SqL.of (s4 _ _ en)),rfl,flatT _,?_⟩;rw[inT];exists iteD (fun c=>?_) (fun c=>?_)
  ·refine iteT ?_;walk_at"g";exact qn (j4m ep hx hh c) _ s04
  exists ixLm (SqL.of (s04 _ _ el)) (ah') ?_;exists⟨h,0,rfl,hl,fun H5 s5=>?_⟩;have s05:=s04.trans s5;have s35:=s4.trans s5;cases en2:numW h 0 with
  | none=>
   exists⟨rfl,_,rfl,?_⟩;refine iteB1 (decide_eq_true rfl) ?_;walk_at"g";exact qn (j2f hx hh (.inr en2)) _ s05
  | some n=>
   exists⟨rfl,_,rfl,?_⟩;refine iteB0 (by unfold oI;simp) ?_;exists⟨.inl ⟨rfl,_,SqL.of (s35 _ _ en)⟩,?_⟩;exists ixLm (SqL.of (s05 _ _ el)) (jB ax) ?_;exists⟨pn,_,_,rfl,rfl,s35 _ _ en,?_,?_⟩
   ·rw[length_map];unfold nmsOf;rw[length_map];omega
   have npc:pn≠pc:=nn.symm;have nl2:l≠pn:=ji el hpn0;have s06:Same H (upd H5 pn (.lst ((nmsOf ls).map V.str++[.str x]))):=fun c u h=>(jq (ji h hpn0)).trans (s05 _ _ h)
   have ec6:upd H5 pn (.lst ((nmsOf ls).map V.str++[.str x])) pc=some (.lst (as.map V.ref)):=(jq nn).trans (s35 _ _ ec);have en6:upd H5 pn (.lst ((nmsOf ls).map V.str++[.str x])) pn=some (.lst ((nmsOf (ls++[(x,n)])).map V.str)):=by
    rw[jn,kU,map_append];rfl
   have al6:All2 (LimbAt (upd H5 pn (.lst ((nmsOf ls).map V.str++[.str x])))) as ls:=al.mono fun a y z=>(jq (qQ z en (fun e=>by cases e))).trans (s35 _ _ z)
   generalize upd H5 pn (.lst ((nmsOf ls).map V.str++[.str x]))=H6 at s06 ec6 en6 al6|-;exists⟨.inl ⟨rfl,_,SqL.of ec6⟩,?_⟩;exists ixLm (SqL.of (s06 _ _ el)) (jB ax) ?_;exists ixLm (SqL.of (s06 _ _ el)) (ah') ?_;exists⟨h,0,rfl,hl,fun H7 s7=>?_⟩;rw[en2];exists⟨(by show 2<=sizeLine;omega),?_⟩;walk_at"f pt hpt H8 s8 t8";have s68:=s7.trans s8;walk_at"g";have all:=al.1;refine⟨pc,_,_,rfl,rfl,s68 _ _ ec6,by rw[length_map];omega,?_⟩;refine⟨_,as++[pt],ls++[(x,n)],rfl,fun c u h=>(jq (ji h hpc)).trans (s68 _ _ (s06 _ _ h)),?_,(jq npc).trans (s68 _ _ en6),?_,j3a ep hx hh w en2,?_,by rw[List.length_append,ll];rfl⟩
   ·rw[jn,map_append];rfl
   ·refine All2.snoc (al6.mono fun a y z=>(jq (qQ z ec6 (fun e=>by cases e))).trans (s68 _ _ z)) ?_;exact(jq (qQ t8 (s68 _ _ ec6) (fun e=>by cases e))).trans t8
   ·rw[kU];refine nodup_append.mpr ⟨nd,by simp,fun a ha b hb e=>?_⟩;rw[mem_singleton.mp hb]at e;have e:a=x:=e;exact c (by rw[<-e];exact ha)
 ·rintro σ H3 ⟨o3,as,ls,rfl,s3,ec,en,al,ep,nd,ll⟩;have E:=j4n (k:=k) ep nd;have all:=al.1;have no:¬(k = "limbs"/\r.length%2=0/\(1<=ls.length/\ls.length<=8))->Q .non H3:=fun z=>by
   rw[if_neg z]at E;exact qn E _ s3
  exists ixLm (SqL.of (s3 _ _ el)) (at0) ?_;exists iteN (fun c=>?_) (fun c=>?_)
  ·refine iteT ?_;walk_at"g";exact no fun z=>c z.1
  exists⟨_,_,rfl,.inl ⟨_,SqL.of (s3 _ _ el),rfl⟩,?_⟩;walk_at"g";rw[show(List.map V.str (k::r)).length=r.length+1 by rw[length_map,length_cons]];refine iteD (fun c2=>?_) (fun c2=>?_)
  ·refine iteT ?_;walk_at"g";exact no fun z=>by omega
  exists⟨_,_,rfl,.inl ⟨_,SqL.of ec,rfl⟩,?_⟩;walk_at"g";rw[length_map];refine iteD (fun c3=>?_) (fun c3=>?_)
  ·refine iteT ?_;walk_at"g";exact no fun z=>by omega
  exists⟨_,_,rfl,.inl ⟨_,SqL.of ec,rfl⟩,?_⟩;walk_at"g";rw[length_map];refine iteD (fun c4=>?_) (fun c4=>?_)
  ·walk_at"g";exact no fun z=>by omega
  walk_at"g";rw[if_pos ⟨c,by omega,by omega⟩]at E;exact qs ls E pc as H3 s3 ec al
theorem Wl(T:Txt K mg t)(Jc:FnOk P w K mg base CX0 1 t.Jz t.JA ["_law_text"] (Ws.qt))(jL:FnOk P w K mg base CX0 1 t.qB t.qE ["_law_text","_law_least"] (sp_worthL)):FnOk P w K mg base CX0 2 t.QU t.QZ ["_law_words","_law_limbs_here","_law_names_here"] (sp_formL):=by
 refine T.Y4.ok ZC (fun vs H Q E h=>?_) (fun cdv A outer s H vs Q E hr h=>?_)
 ·cases h;subst_vars;rfl
 obtain⟨l,c,n,kind,ws,as,ls,P',rfl,el,wl,wc,ec,al,l8,en,pl,qn,qs⟩:=h;refine⟨_,(jf (jt (i:=3) ZC.nd rfl (.inl rfl) (jx jA (by rfl) T.j7 jP (jc (pv 0) je)))
  (jf (jt (i:=4) ZC.nd rfl (.inl rfl) (jv jj (pv 0) jd))
  (jf (Jp (PW.pt (qk (jh jU (pv 4) jr (nomark _)) (qk (jh jU (pv 3) jd (nomark _)) (qT (jh qZ (jv jj (pv 0) jd) (za (ow:=["_law_limb"]) (ci:=[]) rfl (CompScope.of (defScope Q4) ["_law_words","_law_limbs_here","_law_names_here","_law_many","_law_first"] rfl rfl (by decide +kernel)) (qS (by decide)) (J3 (pv 1)) (fun _ _ _ _ _=>⟨(jF (i:=0) (Qk ["_law_words","_law_limbs_here","_law_names_here","_law_many","_law_first"] rfl (by decide +kernel)) rfl (.inl rfl)),zR,(jv (j0x (K:=K) rfl) (pv 0) jd)⟩)) (by with_unfolding_all rfl))))))
   (jg (jT (PW.pt (qk (jh yj (ju (jL.mono (by decide)) hr (by rfl) T.j5 T.jV.kp T.j4 .nil pass0 (jc (jv jj (pv 0) jd) (jc jd je))) jH (nomark _)) (qT (jh yj (ju (jL.mono (by decide)) hr (by rfl) T.j5 T.jV.kp T.j4 .nil pass0 (jc (jv jj (pv 0) jd) (jc jd je))) jH (nomark _)))))
    (jg (jz (Je (jc (pv 4) (jc (jv jj (pv 0) jd) (jc (ju (jL.mono (by decide)) hr (by rfl) T.j5 T.jV.kp T.j4 .nil pass0 (jc (jv jj (pv 0) jd) (jc jd je))) (jc (ju (jL.mono (by decide)) hr (by rfl) T.j5 T.jV.kp T.j4 .nil pass0 (jc (jv jj (pv 0) jd) (jc jd je))) je)))))))
    jy))
   jy)
  (jf (Jp (PW.pt (qk (jh jU (pv 4) jr (nomark _)) (qk (jh jU (pv 3) jd (nomark _)) (qT (jh yj (ju (jL.mono (by decide)) hr (by rfl) T.j5 T.jV.kp T.j4 .nil pass0 (jc (jv jj (pv 0) jd) (jc jd je))) jH (nomark _))))))
   (jg (jz (Je (jc (pv 4) (jc (ju (jL.mono (by decide)) hr (by rfl) T.j5 T.jV.kp T.j4 .nil pass0 (jc (jv jj (pv 0) jd) (jc jd je))) je)))))
   jy)
  (jf (Jp (PW.pt (qk (jh jU (pv 4) jr (nomark _)) (qk (jh jU (pv 3) jd (nomark _)) (qk (QJ (ju (Jc.mono (by decide)) hr (by rfl) T.zu T.Qc.kp T.zj .nil pass0 (jc (jv jj (pv 0) jd) je))) (qT (jh yj (ju (jL.mono (by decide)) hr (by rfl) T.j5 T.jV.kp T.j4 .nil pass0 (jc (jv jj (pv 0) jd) (jc jd je))) jH (nomark _)))))))
   (jg (jz (Je (jc (pv 4) (jc (jv jj (pv 0) jd) (jc (ju (jL.mono (by decide)) hr (by rfl) T.j5 T.jV.kp T.j4 .nil pass0 (jc (jv jj (pv 0) jd) (jc jd je))) je))))))
   jy)
  (jf (Jp (PW.pt (qk (jh jU (pv 4) jr (nomark _)) (qk (jh jU (pv 3) jd (nomark _)) (qk (jh qZ (jv jj (pv 0) jd) (pv 2) (by with_unfolding_all rfl)) (qT (jh yj (ju (jL.mono (by decide)) hr (by rfl) T.j5 T.jV.kp T.j4 .nil pass0 (jc (jv jj (pv 0) jd) (jc jd je))) jH (nomark _)))))))
   (jg (jz (Je (jc (pv 4) (jc (ju (jL.mono (by decide)) hr (by rfl) T.j5 T.jV.kp T.j4 .nil pass0 (jc (jv jj (pv 0) jd) (jc jd je))) (jc (jv jj (pv 0) jd) je))))))
   jy)
  (jf (Jp (PW.pt (JP (PW.pt (qk (jh jU (pv 4) jr (nomark _)) (qT (Ze Q8 Q8 jd (pv 3) jd)))) (qV (PW.pt (qk (jh jU (pv 4) jr (nomark _)) (qT (Ze Q8 Q8 jd (pv 3) jd)))))))
   (jg (jT (jh (XO hr.units) (za (ow:=["_law_word"]) (ci:=[2]) rfl (CompScope.of (defScope Q4) ["_law_words","_law_limbs_here","_law_names_here","_law_many","_law_first"] rfl rfl (by decide +kernel)) (qS (by decide)) (J3 (jO Jg (pv 0) (jM jd) j6)) (fun _ _ _ _ _=>⟨(jF (i:=0) (Qk ["_law_words","_law_limbs_here","_law_names_here","_law_many","_law_first"] rfl (by decide +kernel)) rfl (.inl rfl)),(XY (jh (yv (K:=K) rfl) (pv 0) (pv 1) (by with_unfolding_all rfl))),(pv 0)⟩)) (jZ je) (nomark _))
    (jg (jz (Je (jc (pv 4) (jc (JC QO (by rfl) T.yd Za (jc (jO Jg (pv 0) (jM jd) j6) je)) je)))))
    jy))
   jy)
  (jg (jz jH))))))))),?_⟩
 refine jD (σ':=[some _,some _,some _,none,none]) rfl ?_;have sz:(20000:Nat)<sizeLine:=by decide
 have all:=al.1;exists⟨_,_,rfl,.inl ⟨_,SqL.of el,rfl⟩,?_⟩;exists ixLm (SqL.of el) (at0) ?_;rw[show(List.map V.str (kind::ws)).length=ws.length+1 by rw[length_map,length_cons]];exists⟨fun σ' H'=>σ'=[some (.ref l),some (.ref c),some (.ref n),some (.int ((ws.length+1:Nat):Int)),some (.str kind)]/\Same H H'/\(kind = "raise"->formW kind ws (nmsOf ls) P'=none),?_,?_⟩
 rotate_left
 ·exists iteD (fun ck=>?_) (fun ck=>?_)
  rotate_left
  ·refine iteF ?_;walk_at"g";exact⟨rfl,Same.refl _,fun z=>absurd z ck⟩
  subst ck;exists iteD (fun cl=>?_) (fun cl=>?_)
  rotate_left
  ·refine iteF ?_;walk_at"g";exact⟨rfl,Same.refl _,fun _=>wY (.inl ⟨rfl,by omega⟩)⟩
  match ws,cl,el,wl,wc,qn,qs with
  | [x,h,b],cl,el,wl,wc,qn,qs=>
  exists ixLm (SqL.of el) (jB (j:=1) rfl) ?_;exists⟨c,rfl,⟨_,SqL.of ec⟩,?_⟩;refine JR (xs:=as.map V.ref) (fun i ys H'=>ys=((nmsOf ls).take i).map V.str/\Same H H') ⟨rfl,Same.refl _⟩ ?_ ?_ ?_
  ·rintro i ys H' _ ⟨rfl,s3⟩;exact SqL.of (s3 _ _ ec)
  ·rintro i v ys H' hv ⟨rfl,s3⟩;obtain⟨a,p,rfl,hp,hat⟩:=al.at_ref hv;have hi:=(List.getElem?_eq_some_iff.mp hp).1;refine QK (σ':=[none]) rfl ?_;exists iteT ?_;exists ixTm (SqT.of (s3 _ _ hat)) (at0) ?_;refine⟨by rw[length_map,length_take];omega,?_,s3⟩;have hn:(nmsOf ls)[i]?=some p.1:=by unfold nmsOf;rw[List.getElem?_map,hp];rfl
   rw[take_snoc hn,map_append];rfl
  rintro ys H3 ⟨rfl,s3⟩;have nl:(nmsOf ls).length=ls.length:=length_map _;rw[show(as.map V.ref).length=(nmsOf ls).length by rw[length_map,nl,all],take_length];refine⟨by rw[length_map];omega,?_⟩;walk_at"f 4 t";have s04:=s3.trans s4;exists⟨p4,_,rfl,.inl (SqL.of t4),rfl,flatT _,?_⟩;rw[inT];walk_at"g";have hl:=wc h (by simp);have bl':=wc b (by simp);have R:=W5 (ws:=[x,h,b]) (L:=nmsOf ls) (P:=P');refine iteD (fun ci=>?_) (fun ci=>?_)
  rotate_left
  ·exists⟨rfl,s04,fun _=>?_⟩;rw[R];dsimp only;cases numW h 0 with
   | none=>rfl
   | some hh=>
    cases numW b 1 with
    | none=>rfl
    | some nn=>exact if_neg ci
  exists ixLm (SqL.of (s04 _ _ el)) (jB (j:=2) rfl) ?_;exists⟨h,0,rfl,hl,fun H5 s5=>?_⟩;have s05:=s04.trans s5;cases e1:numW h 0 with
  | none=>
   exists⟨rfl,_,rfl,?_⟩;refine iteB0 (by unfold oI;simp) ?_;exists⟨rfl,s05,fun _=>?_⟩;rw[R];dsimp only;rw[e1]
  | some hh=>
  exists⟨rfl,_,rfl,?_⟩;refine iteB1 (by unfold oI;simp) ?_;exists ixLm (SqL.of (s05 _ _ el)) (jB (j:=3) rfl) ?_;exists⟨b,1,rfl,bl',fun H6 s6=>?_⟩;have s06:=s05.trans s6;cases e2:numW b 1 with
  | none=>
   exists⟨rfl,_,rfl,?_⟩;refine iteB0 (by unfold oI;simp) ?_;exists⟨rfl,s06,fun _=>?_⟩;rw[R];dsimp only;rw[e1,e2]
  | some nn=>
  exists⟨rfl,_,rfl,?_⟩;refine iteB1 (by unfold oI;simp) ?_;exists ixLm (SqL.of (s06 _ _ el)) (jB (j:=1) rfl) ?_;exists ixLm (SqL.of (s06 _ _ el)) (jB (j:=2) rfl) ?_;exists⟨h,0,rfl,hl,fun H7 s7=>?_⟩;have s07:=s06.trans s7;exists ixLm (SqL.of (s07 _ _ el)) (jB (j:=3) rfl) ?_;exists⟨b,1,rfl,bl',fun H8 s8=>?_⟩;rw[e1,e2];exists⟨(by show 4<=sizeLine;omega),?_⟩;walk_at"f pf hpf H9 s9 t9";refine qs (.rise x hh nn) ?_ pf H9 (s07.trans (s8.trans s9)) t9;rw[R];dsimp only;rw[e1,e2];exact if_pos ci
 rintro σ' H1 ⟨rfl,s1,no1⟩;exists⟨fun σ' H'=>σ'=[some (.ref l),some (.ref c),some (.ref n),some (.int ((ws.length+1:Nat):Int)),some (.str kind)]/\Same H H'/\(kind = "hold"->formW kind ws (nmsOf ls) P'=none),?_,?_⟩
 rotate_left
 ·exists iteD (fun ck=>?_) (fun ck=>?_)
  rotate_left
  ·refine iteF ?_;walk_at"g";exact⟨rfl,s1,fun z=>absurd z ck⟩
  subst ck;exists iteD (fun cl=>?_) (fun cl=>?_)
  rotate_left
  ·refine iteF ?_;walk_at"g";exact⟨rfl,s1,fun _=>wY (.inr (.inl ⟨rfl,by omega⟩))⟩
  match ws,cl,el,wl,wc,qn,qs with
  | [b],cl,el,wl,wc,qn,qs=>
  have R:=j0o (ws:=[b]) (L:=nmsOf ls) (P:=P');have bl':=wc b (by simp);exists ixLm (SqL.of (s1 _ _ el)) (jB (j:=1) rfl) ?_;exists⟨b,1,rfl,bl',fun H5 s5=>?_⟩;have s05:=s1.trans s5;cases e1:numW b 1 with
  | none=>
   exists⟨rfl,_,rfl,?_⟩;refine iteB0 (by unfold oI;simp) ?_;exists⟨rfl,s05,fun _=>?_⟩;rw[R];dsimp only;rw[e1];rfl
  | some nn=>
  exists⟨rfl,_,rfl,?_⟩;refine iteB1 (by unfold oI;simp) ?_;exists ixLm (SqL.of (s05 _ _ el)) (jB (j:=1) rfl) ?_;exists⟨b,1,rfl,bl',fun H8 s8=>?_⟩;rw[e1];exists⟨(by show 2<=sizeLine;omega),?_⟩;walk_at"f pf hpf H9 s9 t9";refine qs (.hold nn) ?_ pf H9 (s05.trans (s8.trans s9)) t9;rw[R];dsimp only;rw[e1];rfl
 rintro σ' H2 ⟨rfl,s2,no2⟩;exists⟨fun σ' H'=>σ'=[some (.ref l),some (.ref c),some (.ref n),some (.int ((ws.length+1:Nat):Int)),some (.str kind)]/\Same H H'/\(kind = "ring"->formW kind ws (nmsOf ls) P'=none),?_,?_⟩
 rotate_left
 ·exists iteD (fun ck=>?_) (fun ck=>?_)
  rotate_left
  ·refine iteF ?_;walk_at"g";exact⟨rfl,s2,fun z=>absurd z ck⟩
  subst ck;exists iteD (fun cl=>?_) (fun cl=>?_)
  rotate_left
  ·refine iteF ?_;walk_at"g";exact⟨rfl,s2,fun _=>wY (.inr (.inr ⟨.inl rfl,by omega⟩))⟩
  match ws,cl,el,wl,wc,qn,qs with
  | [x,b],cl,el,wl,wc,qn,qs=>
  have R:=j0p (ws:=[x,b]) (L:=nmsOf ls) (P:=P');have bl':=wc b (by simp);have xl:=wc x (by simp);exists ixLm (SqL.of (s2 _ _ el)) (jB (j:=1) rfl) ?_;exists⟨x,rfl,xl,fun H4 s4=>?_⟩;have s04:=s2.trans s4;walk_at"g";by_cases w:Ws.isW x=true
  rotate_left
  ·refine iteB0 (by simpa using w) ?_;exists⟨rfl,s04,fun _=>?_⟩;rw[R];dsimp only;cases numW b 1 with
   | none=>rfl
   | some nn=>exact if_neg w
  refine iteB1 w ?_;exists ixLm (SqL.of (s04 _ _ el)) (jB (j:=2) rfl) ?_;exists⟨b,1,rfl,bl',fun H5 s5=>?_⟩;have s05:=s04.trans s5;cases e1:numW b 1 with
  | none=>
   exists⟨rfl,_,rfl,?_⟩;refine iteB0 (by unfold oI;simp) ?_;exists⟨rfl,s05,fun _=>?_⟩;rw[R];dsimp only;rw[e1]
  | some nn=>
  exists⟨rfl,_,rfl,?_⟩;refine iteB1 (by unfold oI;simp) ?_;exists ixLm (SqL.of (s05 _ _ el)) (jB (j:=1) rfl) ?_;exists ixLm (SqL.of (s05 _ _ el)) (jB (j:=2) rfl) ?_;exists⟨b,1,rfl,bl',fun H8 s8=>?_⟩;rw[e1];exists⟨(by show 3<=sizeLine;omega),?_⟩;walk_at"f pf hpf H9 s9 t9";refine qs (.ring x nn) ?_ pf H9 (s05.trans (s8.trans s9)) t9;rw[R];dsimp only;rw[e1];exact if_pos w
 rintro σ' H3 ⟨rfl,s3,no3⟩;exists⟨fun σ' H'=>σ'=[some (.ref l),some (.ref c),some (.ref n),some (.int ((ws.length+1:Nat):Int)),some (.str kind)]/\Same H H'/\(kind = "again"->formW kind ws (nmsOf ls) P'=none),?_,?_⟩
 rotate_left
 ·exists iteD (fun ck=>?_) (fun ck=>?_)
  rotate_left
  ·refine iteF ?_;walk_at"g";exact⟨rfl,s3,fun z=>absurd z ck⟩
  subst ck;exists iteD (fun cl=>?_) (fun cl=>?_)
  rotate_left
  ·refine iteF ?_;walk_at"g";exact⟨rfl,s3,fun _=>wY (.inr (.inr ⟨.inr rfl,by omega⟩))⟩
  match ws,cl,el,wl,wc,qn,qs with
  | [b,x],cl,el,wl,wc,qn,qs=>
  have R:=W4 (ws:=[b,x]) (L:=nmsOf ls) (P:=P');have bl':=wc b (by simp);exists ixLm (SqL.of (s3 _ _ el)) (jB (j:=2) rfl) ?_;exists⟨n,_,rfl,.inl (SqL.of (s3 _ _ en)),rfl,flatT _,?_⟩;rw[inT];exists iteD (fun w=>?_) (fun w=>?_)
  rotate_left
  ·refine iteF ?_;exists⟨rfl,s3,fun _=>?_⟩;rw[R];dsimp only;cases numW b 1 with
   | none=>rfl
   | some nn=>exact if_neg w
  exists ixLm (SqL.of (s3 _ _ el)) (jB (j:=1) rfl) ?_;exists⟨b,1,rfl,bl',fun H5 s5=>?_⟩;have s05:=s3.trans s5;cases e1:numW b 1 with
  | none=>
   exists⟨rfl,_,rfl,?_⟩;refine iteB0 (by unfold oI;simp) ?_;exists⟨rfl,s05,fun _=>?_⟩;rw[R];dsimp only;rw[e1]
  | some nn=>
  exists⟨rfl,_,rfl,?_⟩;refine iteB1 (by unfold oI;simp) ?_;exists ixLm (SqL.of (s05 _ _ el)) (jB (j:=1) rfl) ?_;exists⟨b,1,rfl,bl',fun H8 s8=>?_⟩;rw[e1];have s08:=s05.trans s8;exists ixLm (SqL.of (s08 _ _ el)) (jB (j:=2) rfl) ?_;exists⟨(by show 3<=sizeLine;omega),?_⟩;walk_at"f pf hpf H9 s9 t9";refine qs (.again nn x) ?_ pf H9 (s08.trans s9) t9;rw[R];dsimp only;rw[e1];exact if_pos w
 rintro σ' H4 ⟨rfl,s4,no4⟩;walk_at"g";have last:¬((kind = "row"/\1<=ws.length/\ws.length<=8)\/(kind = "side"/\2<=ws.length/\ws.length<=4))->formW kind ws (nmsOf ls) P'=none:=fun g=>by
  by_cases k1:kind = "raise"
  ·exact no1 k1
  by_cases k2:kind = "hold"
  ·exact no2 k2
  by_cases k3:kind = "ring"
  ·exact no3 k3
  by_cases k4:kind = "again"
  ·exact no4 k4
  by_cases k5:kind = "row"
  ·subst k5;rw[j27];exact if_neg fun z=>g (.inl ⟨rfl,z.1⟩)
  by_cases k6:kind = "side"
  ·subst k6;rw[j0q];exact if_neg fun z=>g (.inr ⟨rfl,z.1⟩)
  exact j4X ⟨k1,k2,k3,k4,k5,k6⟩
 have good:((kind = "row"/\1<=ws.length/\ws.length<=8)\/(kind = "side"/\2<=ws.length/\ws.length<=4))->∃f,formW kind ws (nmsOf ls) P'=(if∀w∈ws,w∈P' then some f else none)/\∀(H':Hp) (p b:Addr),H' p=some (.tup [.str kind,.ref b])->H' b=some (.tup (ws.map V.str))->FormAt H' p f:=fun g=>by
  rcases g with⟨rfl,g1⟩ | ⟨rfl,g1⟩
  ·refine⟨.row ws,?_,fun H' p b h1 h2=>⟨b,h1,h2⟩⟩;rw[j27];by_cases c:∀w∈ws,w∈P'
   ·rw[if_pos ⟨g1,c⟩,if_pos c]
   ·rw[if_neg (fun z=>c z.2),if_neg c]
  ·refine⟨.side ws,?_,fun H' p b h1 h2=>⟨b,h1,h2⟩⟩;rw[j0q];by_cases c:∀w∈ws,w∈P'
   ·rw[if_pos ⟨g1,c⟩,if_pos c]
   ·rw[if_neg (fun z=>c z.2),if_neg c]
 refine⟨fun σ' H'=>σ'=[some (.ref l),some (.ref c),some (.ref n),some (.int ((ws.length+1:Nat):Int)),some (.str kind)]/\Same H H'/\formW kind ws (nmsOf ls) P'=none,?_,?_⟩
 ·rintro σ' H5 ⟨rfl,s5,no5⟩;walk_at"g";exact qn no5 _ s5
 by_cases g:(kind = "row"/\1<=ws.length/\ws.length<=8)\/(kind = "side"/\2<=ws.length/\ws.length<=4)
 rotate_left
 ·have lg:=last g;exists iteD (fun k5=>?_) (fun k5=>?_)
  ·exists iteD (fun c5=>?_) (fun c5=>?_)
   ·exists iteD (fun c6=>absurd (.inl ⟨k5,by omega,by omega⟩) g) (fun c6=>?_);exists iteD (fun k6=>?_) (fun k6=>?_)
    ·exists iteD (fun c7=>?_) (fun c7=>?_)
     ·exists iteD (fun c8=>absurd (.inr ⟨k6,by omega,by omega⟩) g) (fun c8=>?_);walk_at"g";exact⟨rfl,s4,lg⟩
     ·walk_at"g";exact⟨rfl,s4,lg⟩
    ·refine iteF ?_;walk_at"g";exact⟨rfl,s4,lg⟩
   ·exists iteF ?_;exists iteD (fun k6=>?_) (fun k6=>?_)
    ·exists iteD (fun c7=>?_) (fun c7=>?_)
     ·exists iteD (fun c8=>absurd (.inr ⟨k6,by omega,by omega⟩) g) (fun c8=>?_);walk_at"g";exact⟨rfl,s4,lg⟩
     ·walk_at"g";exact⟨rfl,s4,lg⟩
    ·refine iteF ?_;walk_at"g";exact⟨rfl,s4,lg⟩
  ·refine iteF ?_;exists iteD (fun k6=>?_) (fun k6=>?_)
   ·exists iteD (fun c7=>?_) (fun c7=>?_)
    ·exists iteD (fun c8=>absurd (.inr ⟨k6,by omega,by omega⟩) g) (fun c8=>?_);walk_at"g";exact⟨rfl,s4,lg⟩
    ·walk_at"g";exact⟨rfl,s4,lg⟩
   ·refine iteF ?_;walk_at"g";exact⟨rfl,s4,lg⟩
 obtain⟨f,ef,af⟩:=good g;have wl8:ws.length<=8:=by rcases g with g | g<;>omega
 walk_at"g";by_cases k5:kind = "row"
 case' pos=>
  have g1:1<=ws.length/\ws.length<=8:=g.elim (fun z=>z.2) (fun z=>by omega);refine iteB1 (decide_eq_true k5) ?_;exists iteD (fun _=>?_) (fun z=>absurd z (by omega));exists iteD (fun _=>?_) (fun z=>absurd z (by omega));refine iteT ?_
 case' neg=>
  have g1:=g.resolve_left fun z=>k5 z.1
  refine iteB0 (decide_eq_false k5) ?_;refine iteF ?_;exists iteB1 (decide_eq_true g1.1) ?_;exists iteD (fun _=>?_) (fun z=>absurd z (by omega));exists iteD (fun _=>?_) (fun z=>absurd z (by omega))
 all_goals
  exists⟨l,_,rfl,SqL.of (s4 _ _ el),?_⟩;rw[show cutV ((kind::ws).map V.str) (some 1) none=ws.map V.str from y9];walk_at"f 5 t";have s05:=s4.trans s5;refine⟨p5,rfl,⟨_,SqL.of t5⟩,?_⟩;refine JR (xs:=ws.map V.str) (fun i ys H'=>ys=((ws.take i).filter fun w=>!decide (w∈P')).map V.str/\H5=H') ⟨rfl,rfl⟩ ?_ ?_ ?_
  ·rintro i ys H' _ ⟨rfl,rfl⟩;exact SqL.of t5
  ·rintro i v ys H' hv ⟨rfl,rfl⟩;rw[List.getElem?_map]at hv;obtain⟨x,hx,rfl⟩:=Option.map_eq_some_iff.mp hv;have hi:=(List.getElem?_eq_some_iff.mp hx).1;refine QK (σ':=[none,some _]) rfl ?_;exists⟨n,_,rfl,.inl (SqL.of (s05 _ _ en)),rfl,flatT _,?_⟩;rw[notInT];walk_at"g";have fl:((ws.take i).filter fun w=>!decide (w∈P')).length<=8:=Nat.le_trans (length_filter_le _ _) (by rw[length_take];omega);refine iteN (fun w=>?_) (fun w=>?_)
   ·exists⟨by rw[length_map];omega,?_,rfl⟩;rw[take_snoc hx,filter_append,map_append,filter_cons,if_pos (by rw[decide_eq_false w];rfl)];rfl
   ·refine⟨?_,rfl⟩;rw[take_snoc hx,filter_append,filter_cons,if_neg (by rw[decide_eq_true w];decide)];rw[List.filter_nil,append_nil]
  rintro ys H' ⟨rfl,rfl⟩;rw[show(ws.map V.str).length=ws.length from length_map _,take_length];have fl:(ws.filter fun w=>!decide (w∈P')).length<=8:=Nat.le_trans (length_filter_le _ _) wl8;refine⟨by rw[length_map];omega,?_⟩;walk_at"f 6 t";exists⟨(by show 0<=sizeLine;omega),?_⟩;walk_at"f 7 t";have s07:=s05.trans (s6.trans s7);exists⟨p6,p7,_,rfl,rfl,SqL.of (s7 _ _ t6),SqL.of t7,?_⟩;exists iteD (fun c=>?_) (fun c=>?_)
  ·have ap:∀w∈ws,w∈P':=fun w hw=>by
    have:=List.filter_eq_nil_iff.mp (map_eq_nil_iff.mp c) w hw;simpa using this
   rw[if_pos ap]at ef;exists⟨l,_,rfl,SqL.of (s07 _ _ el),?_⟩;rw[show cutV ((kind::ws).map V.str) (some 1) none=ws.map V.str from y9];walk_at"f 8 t";exists⟨p8,_,rfl,.inl ⟨SqL.of t8,?_⟩⟩;walk_at"f 9 t";exists⟨(by show 2<=sizeLine;omega),?_⟩;walk_at"f pf hpf H10 s10 t10";exact qs f ef pf H10 (s07.trans (s8.trans (s9.trans s10))) (af H10 pf p9 t10 (s10 _ _ t9))
  ·exists⟨rfl,s07,?_⟩;rw[ef];refine if_neg fun z=>c ?_
   rw[map_eq_nil_iff,List.filter_eq_nil_iff];intro w hw;rw[decide_eq_true (z w hw)];decide
theorem Wm(T:Txt K mg t)(Jc:FnOk P w K mg base CX0 1 t.Jz t.JA ["_law_text"] (Ws.qt))(Zk:FnOk P w K mg base CX0 2 t.Qe t.Qm ["_law_words"] (sp_limbsL))(ZK:FnOk P w K mg base CX0 2 t.QU t.QZ ["_law_words","_law_limbs_here","_law_names_here"] (sp_formL)):FnOk P w K mg base CX0 3 t.QV t.Q0 ["_law_rows_here"] (sp_readL):=by
 refine T.Y5.ok qa (fun vs H Q E h=>?_) (fun cdv A outer s H vs Q E hr h=>?_)
 ·cases h;subst_vars;rfl
 obtain⟨l,rows,rfl,el,R,qb,qr⟩:=h;refine⟨_,(jf (jt (i:=1) qa.nd rfl (.inl rfl) (ju (Zk.mono (by decide)) hr (by rfl) T.We T.yM.kp T.wC .nil pass0 (jc (j8 PySem.F.plainAttrs_str PySem.F.slot_str_split PySem.F.type_str_split Jx (jv jj (pv 0) jd) (jc jr je)) je)))
  (jf (jT (jh Q5 (pv 1) jH (nomark _))
   (jg (jz (Je (jc jH (jc jd je)))))
   jy)
  (jf (jt (i:=2) qa.nd rfl (.inl rfl) (jZ je))
  (jf (jt (i:=3) qa.nd rfl (.inl rfl) (jZ je))
  (jf (JV PassesOwn.never rfl (j1q (by rfl) T.Qj (jc jd (jc (jx jA (by rfl) T.j7 jP (jc (pv 0) je)) je))) (jF (i:=4) qa.nd rfl (.inl rfl))
   (jf (jt (i:=5) qa.nd rfl (.inl rfl) (j8 PySem.F.plainAttrs_str PySem.F.slot_str_split PySem.F.type_str_split Jx (jv jj (pv 0) (pv 4)) (jc jr je)))
   (jf (jT (PW.pt (JP (jh Ym (jx jA (by rfl) T.j7 jP (jc (pv 5) je)) jd (nomark _)) (JP (jh kd (jv jj (pv 5) jd) jr (nomark _)) (JP (Q7 (QJ (ju (Jc.mono (by decide)) hr (by rfl) T.zu T.Qc.kp T.zj .nil pass0 (jc (jv jj (pv 5) jd) je)))) (JP (jh qZ (jv jj (pv 5) jd) (pv 3) (by with_unfolding_all rfl)) (qV (jh Z0 (pv 4) jd (nomark _))))))))
    (jg (jz (Je (jc jH (jc (pv 4) je)))))
    jy)
   (jf (jt (i:=6) qa.nd rfl (.inl rfl) (ju (ZK.mono (by decide)) hr (by rfl) T.xn T.Y4.kp T.WL .nil pass0 (jc (jO Jg (pv 5) (jM jd) j6) (jc (pv 1) (jc (pv 3) je)))))
   (jf (jT (jh Q5 (pv 6) jH (nomark _))
    (jg (jz (Je (jc jH (jc (pv 4) je)))))
    jy)
   (jf (jN (j8 PySem.F.plainAttrs_list PySem.F.slot_list_append PySem.F.type_list_append jQ (pv 3) (jc (jv jj (pv 5) jd) je)))
   (jg (jN (j8 PySem.F.plainAttrs_list PySem.F.slot_list_append PySem.F.type_list_append jQ (pv 2) (jc (Je (jc (jv jj (pv 5) jd) (jc (pv 6) je))) je))))))))))
  (jf (jT (jh (XO hr.units) (pv 2) (jZ je) (nomark _))
   (jg (jz (Je (jc jH (jc jd je)))))
   jy)
  (jg (jz (Je (jc (Je (jc (pv 1) (jc (pv 2) je))) (jc jH je))))))))))),?_⟩
 refine jD (σ':=[some _,none,none,none,none,none,none]) rfl ?_;have sz:(20000:Nat)<sizeLine:=by decide
 have blE:(Str.ofString " ")=⟨#[32]⟩:=by decide +kernel
 have n1:=R.n1;have n2:=R.n2;obtain⟨z1,z2⟩:=j2y n1;obtain⟨y1,y2,y3,y4,y5,y6,y7⟩:=qH (R.r _ z2);exists ixLm (SqL.of el) (jB (j:=0) z1) ?_;exists⟨rfl,?_⟩;exists⟨_,32,_,rfl,by rw[blE],by decide,y1,y2,y3,y4,y5,?_⟩;walk_at"f r1 hr1 H1 s1 t1";exists⟨r1,_,rfl,t1,y7,y6,(R.r _ z2).1,fun z H2 s2=>?_,fun ls elb pl las H2 s2 t2 la=>?_⟩
 ·exists⟨rfl,_,rfl,?_⟩;refine iteB1 (decide_eq_true rfl) ?_;exists⟨(by show 2<=sizeLine;omega),?_⟩;walk_at"f 3 t";exact qr 0 (.inl ⟨rfl,z⟩) p3 H3 (s1.trans (s2.trans s3)) t3
 have lb:=(Yh elb).1;have s02:=s1.trans s2;exists⟨rfl,_,rfl,?_⟩;refine iteB0 (by simp) ?_;exists⟨(by show 0<=sizeLine;omega),?_⟩;walk_at"f pp hpp H3 s3 t3";exists⟨(by show 0<=sizeLine;omega),?_⟩;walk_at"f pn hpn H4 s4 t4";have hpn2:H2 pn=none:=none_of s3 hpn;have npn:pp≠pn:=ji t3 hpn;have npp:pn≠pp:=npn.symm;have el2:=s02 _ _ el;exists⟨_,_,rfl,.inl ⟨_,SqL.of (s4 _ _ (s3 _ _ el2)),rfl⟩,?_⟩;rw[length_map];exists⟨_,_,rfl,⟨by omega,by omega,by omega,by omega⟩,?_⟩;refine qi (fun i σ H'=>∃(pas:List Addr) (ps:List (Str×Fm)) (o4 o5 o6:Option V),σ=[some (.ref l),some (.ref pl),some (.ref pp),some (.ref pn),o4,o5,o6]/\Same H2 H'/\H' pp=some (.lst (pas.map V.ref))/\H' pn=some (.lst ((nmsOf ps).map V.str))/\All2 (PartAt H') pas ps/\PartsAt rows ls ps/\ps.length=i)
  ⟨[],[],_,_,_,rfl,s3.trans s4,s4 _ _ t3,t4,.nil,⟨Nat.zero_le _,fun i p h=>by simp at h⟩,rfl⟩ ?_ ?_
 ·rintro i σ H5 hi ⟨pas,ps,o4,o5,o6,rfl,s5,ep,en,ap,D,pl'⟩;have il:i+1<rows.length:=by omega
  have i1:(1+(i:Int))=((i+1:Nat):Int):=by omega
  rw[i1];have s05:=s02.trans s5;obtain⟨w,hw⟩:∃w,rows[i+1]?=some w:=⟨_,List.getElem?_eq_getElem il⟩
  have rw0:=R.r w (mem_of_getElem? hw);have gw:rows.getD (i+1) ⟨#[]⟩=w:=by rw[getD_eq_getElem?_getD,hw];rfl
  have no:(partW (spW w) (nmsOf ls) (nmsOf ps)=none\/60<i+1)->∀(p:Addr) (H':Hp),Same H H'->H' p=some (.tup [.non,.int ((i+1:Nat):Int)])->Q (.ref p) H':=fun bad=>
   qr (i+1) (.inr (.inr ⟨by omega,il,ls,ps,elb,by omega,D,by rw[gw];exact bad⟩))
  obtain⟨y1,y2,y3,y4,y5,y6,y7⟩:=qH rw0;exists ixLm (SqL.of (s05 _ _ el)) (jB (j:=i+1) (by rw[List.getElem?_map,hw];rfl)) ?_;exists⟨rfl,?_⟩;exists⟨_,32,_,rfl,by rw[blE],by decide,y1,y2,y3,y4,y5,?_⟩;walk_at"f r6 hr6 H6 s6 t6";have s06:=s05.trans s6;have t6':H6 r6=some (.lst ((spW w).map V.str)):=t6;have wc:=rw0.1;clear y1 y2 y3 y4 y5 t6;generalize hws:spW w=ws at t6' wc y6 y7 no;exists⟨_,_,rfl,.inl ⟨_,SqL.of t6',rfl⟩,?_⟩;rw[length_map];exists iteD (fun c=>?_) (fun c=>?_)
  ·refine iteT ?_;exists⟨(by show 2<=sizeLine;omega),?_⟩;walk_at"f 7 t";exact no (.inl (j2t (by omega))) p7 H7 (s06.trans s7) t7
  obtain⟨k,x,kind,r,rfl⟩:=three9 c;have pw:=j53 (k:=k) (x:=x) (kind:=kind) (r:=r) (L:=nmsOf ls) (P:=nmsOf ps);have rl:r.length<=5000:=by rw[length_cons,length_cons,length_cons]at y6;omega
  exists ixLm (SqL.of t6') (at0) ?_;exists iteN (fun c1=>?_) (fun c1=>?_)
  ·refine iteT ?_;exists⟨(by show 2<=sizeLine;omega),?_⟩;walk_at"f 7 t";exact no (.inl (by rw[pw];exact if_neg fun z=>c1 z.1)) p7 H7 (s06.trans s7) t7
  exists ixLm (SqL.of t6') (jB (j:=1) rfl) ?_;exists⟨x,rfl,wc x (by simp),fun H7 s7=>?_⟩;have s07:=s06.trans s7;walk_at"g";by_cases c2:Ws.isW x=true
  rotate_left
  ·refine iteB1 (by rw[show Ws.isW x=false by simpa using c2];rfl) ?_;refine iteT ?_;exists⟨(by show 2<=sizeLine;omega),?_⟩;walk_at"f 8 t";exact no (.inl (by rw[pw];exact if_neg fun z=>c2 z.2.1)) p8 H8 (s07.trans s8) t8
  refine iteB0 (by rw[c2];rfl) ?_;have s57:=s6.trans s7;exists ixLm (SqL.of (s7 _ _ t6')) (jB (j:=1) rfl) ?_;exists⟨pn,_,rfl,.inl (SqL.of (s57 _ _ en)),rfl,flatT _,?_⟩;rw[inT];exists iteD (fun c3=>?_) (fun c3=>?_)
  ·refine iteT ?_;exists⟨(by show 2<=sizeLine;omega),?_⟩;walk_at"f 8 t";exact no (.inl (by rw[pw];exact if_neg fun z=>z.2.2 c3)) p8 H8 (s07.trans s8) t8
  exists iteD (fun c4=>?_) (fun c4=>?_)
  ·exists⟨(by show 2<=sizeLine;omega),?_⟩;walk_at"f 8 t";exact no (.inr (by omega)) p8 H8 (s07.trans s8) t8
  rw[if_pos ⟨c1,c2,c3⟩]at pw;exists⟨r6,_,rfl,SqL.of (s7 _ _ t6'),?_⟩;rw[K6 (by omega)];walk_at"f r8 hr8 H8 s8 t8";have s58:=s57.trans s8;have s28:=s5.trans s58;have t8':H8 r8=some (.lst ((kind::r).map V.str)):=t8;exists⟨r8,pl,pn,kind,r,las,ls,nmsOf ps,rfl,t8',rl,fun y hy=>wc y (by simp[hy]),s28 _ _ t2,la.mono fun a y z=>s28 _ _ z,lb.2,s58 _ _ en,by unfold nmsOf;rw[length_map];omega,fun ef H9 s9=>?_,fun f ef pf H9 s9 F9=>?_⟩
  ·exists⟨rfl,_,rfl,?_⟩;refine iteB1 (decide_eq_true rfl) ?_;exists⟨(by show 2<=sizeLine;omega),?_⟩;walk_at"f 10 t";refine no (.inl ?_) p10 H10 (s07.trans (s8.trans (s9.trans s10))) t10;rw[pw,ef];rfl
  have epw:partW (k::x::kind::r) (nmsOf ls) (nmsOf ps)=some (x,f):=by
   rw[pw,ef];rfl
  have s59:=s58.trans s9;have s29:=s5.trans s59;have r6a:H9 r6=some (.lst ((k::x::kind::r).map V.str)):=s9 _ _ (s8 _ _ (s7 _ _ t6'));have n6n:r6≠pn:=(ji en hr6).symm;have n6p:r6≠pp:=(ji ep hr6).symm;exists⟨rfl,_,rfl,?_⟩;refine iteB0 (by simp) ?_;exists⟨.inl ⟨rfl,_,SqL.of (s59 _ _ en)⟩,?_⟩;exists ixLm (SqL.of r6a) (jB (j:=1) rfl) ?_;exists⟨pn,_,_,rfl,rfl,s59 _ _ en,by unfold nmsOf;rw[length_map,length_map];omega,?_⟩;have kt:∀(a:Addr) (xs:List V),H9 a=some (.tup xs)->upd H9 pn (.lst ((nmsOf ps).map V.str++[.str x])) a=some (.tup xs):=fun _ _ z=>(jq (qQ z (s59 _ _ en) (fun e=>by cases e))).trans z
  have s2A:Same H2 (upd H9 pn (.lst ((nmsOf ps).map V.str++[.str x]))):=fun c u h=>(jq (ji h hpn2)).trans (s29 _ _ h)
  have epA:upd H9 pn (.lst ((nmsOf ps).map V.str++[.str x])) pp=some (.lst (pas.map V.ref)):=(jq npn).trans (s59 _ _ ep);have enA:upd H9 pn (.lst ((nmsOf ps).map V.str++[.str x])) pn=some (.lst ((nmsOf (ps++[(x,f)])).map V.str)):=by
   rw[jn,kU,map_append];rfl
  have r6A:upd H9 pn (.lst ((nmsOf ps).map V.str++[.str x])) r6=some (.lst ((k::x::kind::r).map V.str)):=(jq n6n).trans r6a;have apA:All2 (PartAt (upd H9 pn (.lst ((nmsOf ps).map V.str++[.str x])))) pas ps:=ap.mono fun a y z=>PartAt.keepT kt (PartAt.same s59 z)
  have FA:=FormAt.keepT kt F9;clear kt;generalize upd H9 pn (.lst ((nmsOf ps).map V.str++[.str x]))=HA at s2A epA enA r6A apA FA|-;exists⟨.inl ⟨rfl,_,SqL.of epA⟩,?_⟩;exists ixLm (SqL.of r6A) (jB (j:=1) rfl) ?_;exists⟨(by show 2<=sizeLine;omega),?_⟩;walk_at"f pt hpt HB sB tB";walk_at"g";have apl:=apA.1;refine⟨pp,_,_,rfl,rfl,sB _ _ epA,by rw[length_map];omega,?_⟩;have kt:∀(a:Addr) (xs:List V),HB a=some (.tup xs)->upd HB pp (.lst (pas.map V.ref++[.ref pt])) a=some (.tup xs):=fun _ _ z=>(jq (qQ z (sB _ _ epA) (fun e=>by cases e))).trans z
  refine⟨pas++[pt],ps++[(x,f)],_,_,_,rfl,fun c u h=>(jq (ji h hpp)).trans (sB _ _ (s2A _ _ h)),?_,(jq npp).trans (sB _ _ enA),?_,XT D (by omega) (by rw[pl',gw,hws];exact epw),by rw[List.length_append,pl'];rfl⟩
  ·rw[jn,map_append];rfl
  ·exact All2.snoc (apA.mono fun a y z=>PartAt.keepT kt (PartAt.same sB z)) ⟨pf,kt _ _ tB,FormAt.keepT kt (FormAt.same sB FA)⟩
 ·rintro σ H5 ⟨pas,ps,o4,o5,o6,rfl,s5,ep,en,ap,D,pl'⟩;have s05:=s02.trans s5;have apl:=ap.1;exists⟨(by show 0<=sizeLine;omega),?_⟩;walk_at"f 6 t";exists⟨pp,p6,_,rfl,rfl,SqL.of (s6 _ _ ep),SqL.of t6,?_⟩;exists iteD (fun c=>?_) (fun c=>?_)
  ·exists⟨(by show 2<=sizeLine;omega),?_⟩;walk_at"f 7 t";refine qr 1 (.inr (.inl ⟨rfl,?_,ls,elb⟩)) p7 H7 (s05.trans (s6.trans s7)) t7;have:=congrArg List.length c;rw[length_map]at this;have:pas.length=0:=this;omega
  exists⟨(by show 2<=sizeLine;omega),?_⟩;walk_at"f b hb H7 s7 t7";exists⟨(by show 2<=sizeLine;omega),?_⟩;walk_at"f 8 t";have s58:=s6.trans (s7.trans s8);have s28:=s5.trans s58;have ne:pas.length≠0:=fun z=>c (by rw[List.length_eq_zero_iff.mp z];rfl)
  refine qb ls ps ⟨elb,by omega,by omega,D⟩ p8 b pl pp las pas H8 (s05.trans s58) t8 ⟨s8 _ _ t7,s28 _ _ t2,la.mono fun a y z=>s28 _ _ z,s58 _ _ ep,ap.mono fun a y z=>PartAt.same s58 z⟩
theorem KD(T:Txt K mg t):FnOk P w K mg base CX0 1 t.Qg t.Qo ["_law_error"] (sp_otherL t.jC):=by
 refine T.yO.ok KJ (fun vs H Q E h=>?_) (fun cdv A outer s H vs Q E hr h=>?_)
 ·cases h;subst_vars;rfl
 obtain⟨a,dd,rfl,ha,q⟩:=h;refine⟨_,(jf (jT (QJ (jx KZ (by rfl) T.JD Jt (jc (pv 0) (jc (Je (jc (Jn (v:=.ref t.wP) (by rfl) T.j3g rfl) (jc (Jn (v:=.ref t.Zp) (by rfl) T.xw rfl) (jc (Jn (v:=.ref t.ye) (by rfl) T.XF rfl) (jc (Jn (v:=.ref t.wQ) (by rfl) T.j3h rfl) (jc (Jn (v:=.ref t.yU) (by rfl) T.j1b rfl) (jc (Jn (v:=.ref t.wN) (by rfl) T.j3f rfl) je))))))) je))))
   (jg (jz xG))
   jy)
  (jg (jz (jx KZ (by rfl) T.JD Jt (jc (pv 0) (jc (Je (jc (Jn (v:=.ref t.yX) (by rfl) T.j1e rfl) (jc (Jn (v:=.ref t.kn) (by rfl) T.j2i rfl) (jc (Jn (v:=.ref t.ko) (by rfl) T.j2j rfl) (jc (Jn (v:=.ref t.yW) (by rfl) T.j1d rfl) (jc (Jn (v:=.ref t.yV) (by rfl) T.j1c rfl) je)))))) je)))))),?_⟩
 refine jD (σ':=[some _]) rfl ?_;have sz:(200:Nat)<sizeLine:=by decide
 exists⟨(by show 6<=sizeLine;omega),?_⟩;walk_at"f 2 t";exists⟨a,t.jC,p2,dd,[t.wP,t.Zp,t.ye,t.wQ,t.yU,t.wN],false,rfl,s2 _ _ ha,T.Jy.F.i,t2,Xt fun c hc=>?_,?_⟩
 ·simp only[map_cons,map_nil,mem_cons,not_mem_nil,or_false]at hc;rcases hc with rfl | rfl | rfl | rfl | rfl | rfl
  ·exact T.qv
  ·exact T.JB
  ·exact T.JH
  ·exact T.qw
  ·exact T.JX
  ·exact T.qu
 exists iteF ?_;exists⟨(by show 5<=sizeLine;omega),?_⟩;walk_at"f 3 t";exists⟨a,t.jC,p3,dd,[t.yX,t.kn,t.ko,t.yW,t.yV],false,rfl,s3 _ _ (s2 _ _ ha),T.Jy.F.i,t3,Xt fun c hc=>?_,?_⟩
 ·simp only[map_cons,map_nil,mem_cons,not_mem_nil,or_false]at hc;rcases hc with rfl | rfl | rfl | rfl | rfl
  ·exact T.J1
  ·exact T.qd
  ·exact T.qe
  ·exact T.J0
  ·exact T.JZ
 walk_at"g";exact q _ (s2.trans s3)
theorem j4t(T:Txt K mg t)(Xa:FnOk P w K mg base CX0 7 t.ZP t.ZS ["text"] (sp_readT))(Jk:FnOk P w K mg base CX0 1 t.JQ t.JS ["_law_script","_law_k"] (Pr.sp_cell_at K))(ZM:FnOk P w K mg base CX0 4 t.QW t.Q1 ["_law_script"] (sp_room K))(ZN:FnOk P w K mg base CX0 1 t.QX t.Q2 ["_law_book"] (sp_rows))(zk:FnOk P w K mg base CX0 2 t.qo t.qp ["_law_rows_here","_law_cell"] (sp_changed))(ZL:FnOk P w K mg base CX0 3 t.QV t.Q0 ["_law_rows_here"] (sp_readL))(Zn:FnOk P w K mg base CX0 1 t.Qg t.Qo ["_law_error"] (sp_otherL t.jC))(R_read:FnOk P w K mg base (CX1 P w) 7 t.ZP t.ZS ["text"] (xT t.jC)):FnOk P w K mg base CX0 8 t.j06 t.WX ["_law_script"] (Pr.sp_law K):=by
 refine T.j3U.ok zF (fun vs H Q E h=>?_) (fun cdv A outer s H vs Q E hr h=>?_)
 ·cases h;subst_vars;rfl
 obtain⟨a,ns,rfl,hS,h63,hB,q⟩:=h;refine⟨_,(jf (jt (i:=1) zF.nd rfl (.inl rfl) (ju (ZM.mono (by decide)) hr (by rfl) T.xq T.Y6.kp T.WN .nil pass0 (jc (pv 0) je)))
  (jf (jt (i:=2) zF.nd rfl (.inl rfl) (ju (zk.mono (by decide)) hr (by rfl) T.kP T.ZI.kp T.kx .nil pass0 (jc (ju (ZN.mono (by decide)) hr (by rfl) T.xr T.Y7.kp T.WO .nil pass0 (jc (Je (jc (Jh (JT hr) (pv 1) jr) (jc (Jh (JT hr) (pv 1) jr) je))) je)) (jc (ju (Jk.mono (by decide)) hr (by rfl) T.Qr T.qm.kp T.Qb .nil pass0 (jc (pv 0) (jc jd je))) je))))
  (jf (Jp (jh (XO hr.units) (pv 2) (jZ je) (nomark _))
   (jg (jt (i:=2) zF.nd rfl (.inl rfl) (jZ (jc jr je))))
   jy)
  (jf (yD (ju (ZL.mono (by decide)) hr (by rfl) T.xo T.Y5.kp T.WM .nil pass0 (jc (pv 2) je)) (yC rfl (JG (jF (i:=3) zF.nd rfl (.inl rfl)) (JG (jF (i:=4) zF.nd rfl (.inl rfl)) Zu))))
  (jf (jt (i:=5) zF.nd rfl (.inl rfl) jH)
  (jf (jt (i:=6) zF.nd rfl (.inl rfl) jH)
  (jf (j3A (i:=7) ⟨rfl,rfl,rfl,rfl⟩ zF.nd rfl rfl (by rfl) T.Yk
   (jg (jt (i:=6) zF.nd rfl (.inl rfl) (ju (Xa.mono (by decide)) hr (by rfl) T.j2h T.wG.kp T.j1G .nil pass0 (jc (j8 PySem.F.plainAttrs_str PySem.F.slot_str_join PySem.F.type_str_join Yl jr (jc (pv 2) je)) je))))
   (zx (j4L (j3J (R_read.mono (by decide)) hr (by rfl) T.j2h T.wG.kp T.j1G .nil ⟨rfl,rfl,rfl,rfl⟩ (jc (j8 PySem.F.plainAttrs_str PySem.F.slot_str_join PySem.F.type_str_join Yl jr (jc (pv 2) je)) je))))
   (fun _=>(jg (jt (i:=5) zF.nd rfl (.inl rfl) (pv 7)))))
  (jf (jT (jh yj (pv 3) jH (nomark _))
   (jg (jz (Kg (Yo Q5 (pv 5) jH (nomark _)) (Kg (jx yY (by rfl) T.JD Jt (jc (pv 6) (jc (Yn (v:=.ty "tuple") (by rfl) T.yd Za rfl) je))) (XX (Yo (XN hr.units) (pv 6) (pv 3) (nomark _)))))))
   jy)
  (jf (jT (PW.pt (JP (Q7 (QJ (jx KY (by rfl) T.JD Jt (jc (pv 5) (jc (Jn (v:=.ref t.jC) (by rfl) T.yh rfl) je))))) (JP (Q7 (QJ (jx KY (by rfl) T.JD Jt (jc (pv 5) (jc (Yn (v:=.ty "ValueError") (by rfl) T.wK Kw rfl) je))))) (qV (QJ (ju (Zn.mono (by decide)) hr (by rfl) T.Wg T.yO.kp T.wE .nil pass0 (jc (pv 5) je)))))))
   (jg (jz xG))
   jy)
  (jg (jz (Kg (jx yY (by rfl) T.JD Jt (jc (Wu (pv 5)) (jc (Yn (v:=.ty "int") (by rfl) T.j09 wL rfl) je))) (Kg (j4z (jx yY (by rfl) T.JD Jt (jc (Wu (pv 5)) (jc (Yn (v:=.ty "bool") (by rfl) T.j47 j2W rfl) je)))) (XX (Yo jU (Wu (pv 5)) (pv 4) (nomark _)))))))))))))))),?_⟩
 refine jD (σ':=[some _,none,none,none,none,none,none,none]) rfl ?_;have sz:(2000:Nat)<sizeLine:=by decide
 exists⟨a,ns,rfl,hS,h63,fun z m H1 s1 R G m1 m61 _ _=>?_⟩;obtain⟨ls,el,al⟩:=R.l;obtain⟨qs,eq,aq⟩:=R.p;have O:=G.bk m61;have Dr:=j4J O G.l1;have Dn:=j4K m.limbs m.parts;generalize ed:rowsOf m.limbs m.parts=dr at Dr Dn;exists⟨_,_,rfl,YJ R,?_⟩;exists⟨_,_,rfl,qj R,?_⟩;exists⟨(by show 2<=sizeLine;omega),?_⟩;walk_at"f b hb H2 s2 t2";have B:BookAt H2 b z.pl z.pp ls qs m.limbs m.parts:=⟨t2,s2 _ _ el,al.mono fun b x h=>s2 _ _ h,s2 _ _ eq,aq.mono fun b x h=>PartAt.same s2 h⟩
 exists⟨b,z.pl,z.pp,ls,qs,_,_,rfl,B,O,fun l H3 s3 hl3 e3=>?_⟩;rw[ed]at e3;have s13:=s2.trans s3;have hS3:=s13.seq (s1.seq hS);clear B R al aq el eq G O;exists⟨a,ns,_,rfl,hS3,h63,by omega,?_⟩;exists⟨l,_,dr,rfl,e3,by omega,by omega,Dr,fun r rows H4 s4 e4 r1 r200 rk=>?_⟩;have RO:RowsOk rows:=⟨r1,by omega,rk⟩
 exists⟨fun σ' H'=>σ'=[some (.ref a),some (.ref z.r),some (.ref r),none,none,none,none,none]/\Same H4 H',?_,?_⟩
 rotate_left
 ·exists⟨(by show 0<=sizeLine;omega),?_⟩;walk_at"f 5 t";exists⟨r,p5,_,rfl,rfl,SqL.of (s5 _ _ e4),SqL.of t5,?_⟩;exists iteD (fun c=>absurd c (fun z=>by rw[map_eq_nil_iff]at z;rw[z]at r1;simp at r1)) (fun _=>?_);walk_at"g";exact⟨rfl,s5⟩
 rintro σ' H5 ⟨rfl,s5⟩;have e5:=s5 _ _ e4;have nl1:(Str.ofString "\n").length=1:=by decide +kernel
 have sm:=j2A RO;exists⟨r,rows,rfl,e5,RO,fun ls' ps' D p b' pl pp las pas H6 s6 e6 B6=>?_,fun k D p H6 s6 e6=>?_⟩
 ·refine Z3 (SqT.of e6) ?_;walk_at"g";obtain⟨O',_⟩:=j3C D;refine⟨fun σ' H'=>∃(c pl2 pp2:Addr) (las2 pas2:List Addr),σ'=[some (.ref a),some (.ref z.r),some (.ref r),some (.ref b'),some .non,some .non,some (.ref c),none]/\Same H6 H'/\BookAt H' c pl2 pp2 las2 pas2 ls' ps',?_,?_⟩
  ·refine j3H ?_;exists⟨rfl,?_⟩;exists⟨_,r,rows,rfl,rfl,SqL.of (s6 _ _ e5),by rw[nl1];exact sm,?_⟩;exists⟨rows,ls',ps',rfl,RO,D,fun c pl2 pp2 las2 pas2 H7 s7 _ _ _ B7=>?_⟩;exact⟨c,pl2,pp2,las2,pas2,rfl,s7,B7⟩
  rintro σ' H7 ⟨c,pl2,pp2,las2,pas2,rfl,s7,B7⟩;exists⟨rfl,_,rfl,?_⟩;refine iteB1 (by simp) ?_;exists⟨rfl,_,rfl,?_⟩;refine iteB1 (decide_eq_true rfl) ?_;exists⟨_,_,_,_,rfl,.tup B7.t,yt,?_⟩;exists iteT ?_;exists⟨_,_,B7.dv,(B6.same s7).dv,(Kn O').ok (by decide),(Kn O').ok (by decide),?_⟩;rw[j21 O'];exact q _
 ·refine Z3 (SqT.of e6) ?_;exists⟨fun σ' H'=>∃(ex dx:Addr),σ'=[some (.ref a),some (.ref z.r),some (.ref r),some .non,some (.int (k:Nat)),some (.ref ex),some .non,none]/\H' ex=some (XcF (.ref t.jC) ex (some dx))/\H' dx=some (.xd [("row",.int (k:Nat))]),?_,?_⟩
  ·refine j3I ?_;refine j54 (j2v ?_);exists⟨rfl,?_⟩;exists⟨_,r,rows,rfl,rfl,SqL.of (s6 _ _ e5),by rw[nl1];exact sm,?_⟩;exists⟨rows,k,rfl,RO,D,fun dx H' s' _ hd=>⟨T.Jo,fun ex hex=>?_⟩⟩;refine jD (σ':=[some (.ref a),some (.ref z.r),some (.ref r),some .non,some (.int (k:Nat)),some .non,some .non,some (.ref ex)]) rfl ?_;have hd':upd H' ex (XcF (.ref t.jC) ex (some dx)) dx=_:=(jq (ji hd hex)).trans hd;walk_at"g";exact⟨ex,dx,rfl,jn,hd'⟩
  rintro σ' H7 ⟨ex,dx,rfl,ex7,dx7⟩;exists⟨rfl,_,rfl,?_⟩;refine iteB0 (by simp) ?_;exists j0C ex7 T.Jy.F.i T.JY ?_;exists iteF ?_;exists j0C ex7 T.Jy.F.i T.Jl ?_;exists iteF ?_;exists⟨ex,_,rfl,ex7,fun H8 s8=>?_⟩;exists iteF ?_;exists WB ?_;exists⟨ex,t.jC,dx,_,_,rfl,s8 _ _ ex7,s8 _ _ dx7,T.Jy.F,T.Jw,rfl,?_⟩;exists⟨_,_,_,_,rfl,.int _,j14,?_⟩;exists iteT ?_;exists WB ?_;exists⟨ex,t.jC,dx,_,_,rfl,s8 _ _ ex7,s8 _ _ dx7,T.Jy.F,T.Jw,rfl,?_⟩;exists⟨_,_,_,_,rfl,.int _,Xs,?_⟩;exists iteT ?_;exists WB ?_;exists⟨ex,t.jC,dx,_,_,rfl,s8 _ _ ex7,s8 _ _ dx7,T.Jy.F,T.Jw,rfl,?_⟩;walk_at"g";rw[decide_eq_true rfl];exact q _
theorem j2U(T:Txt K mg t):FnOk P w K mg base CX0 8 t.j06 t.WX ["_law_script"] (Pr.sp_law K):=by
 have Jb:FnOk P w K mg base CX0 1 t.Jd t.Jm _ _:=yB T;have qz:FnOk P w K mg base CX0 1 t.qC t.qF _ _:=KH T;have qW:FnOk P w K mg base CX0 1 t.qX t.qY _ _:=Wp T;have qy:FnOk P w K mg base CX0 2 t.QA t.QD _ _:=XL T qW;have ZO:FnOk P w K mg base CX0 2 t.QY t.Q3 _ _:=Wq T qW;have Qw:FnOk P w K mg base CX0 3 t.zf t.zh _ _:=XI T ZO;have yz:FnOk P w K mg base CX0 4 t.zn t.zq _ _:=xE T qy Qw;have Zo:FnOk P w K mg base CX0 1 t.Qh t.Qp _ _:=KG T;have Yz:FnOk P w K mg base CX0 5 t.zZ t.Zb _ _:=XJ T yz Zo;have Qy:FnOk P w K mg base CX0 6 t.zg t.zi _ _:=XM T qy Yz;have Qx:FnOk P w K mg base CX0 4 t.QB t.QE _ _:=xD T qy Qw;have Xa:FnOk P w K mg base CX0 7 t.ZP t.ZS _ _:=j3s T Jb qz Qy Qx;have R_read:FnOk P w K mg base (CX1 P w) 7 t.ZP t.ZS _ _:=j2n T Jb qz Qy Qx;have Jk:FnOk P w K mg base CX0 1 t.JQ t.JS _ _:=kh T;have jS:FnOk P w K mg base CX0 1 t.Js t.Ju _ _:=Kd T;have Ja:FnOk P w K mg base CX0 1 t.JL t.JN _ _:=Kc T;have Zl:FnOk P w K mg base CX0 2 t.Qf t.Qn _ _:=KC T Ja;have j9:FnOk P w K mg base CX0 1 t.JK t.JM _ _:=kZ T;have JI:FnOk P w K mg base CX0 1 t.Qz t.QC _ _:=xB T;have JJ:FnOk P w K mg base CX0 2 t.qg t.qh _ _:=Kb T jS j9 JI;have qx:FnOk P w K mg base CX0 1 t.qA t.qD _ _:=KE T;have Zj:FnOk P w K mg base CX0 2 t.Qd t.Ql _ _:=KA T qx;have zO:FnOk P w K mg base CX0 3 t.qL t.qN _ _:=kY T jS j9 JI JJ qx Zj;have ZM:FnOk P w K mg base CX0 4 t.QW t.Q1 _ _:=Wn T Jk jS Ja Zl j9 JJ zO;have ZN:FnOk P w K mg base CX0 1 t.QX t.Q2 _ _:=Wo T;have Zm:FnOk P w K mg base CX0 1 t.zm t.zo _ _:=xC T;have zP:FnOk P w K mg base CX0 1 t.qM t.qO _ _:=Ka T;have zk:FnOk P w K mg base CX0 2 t.qo t.qp _ _:=ki T jS Ja Zm zP;have Jc:FnOk P w K mg base CX0 1 t.Jz t.JA _ _:=kj T;have jL:FnOk P w K mg base CX0 1 t.qB t.qE _ _:=KF T;have Zk:FnOk P w K mg base CX0 2 t.Qe t.Qm _ _:=KB T Jc jL;have ZK:FnOk P w K mg base CX0 2 t.QU t.QZ _ _:=Wl T Jc jL;have ZL:FnOk P w K mg base CX0 3 t.QV t.Q0 _ _:=Wm T Jc Zk ZK;have Zn:FnOk P w K mg base CX0 1 t.Qg t.Qo _ _:=KD T;exact j4t T Xa Jk ZM ZN zk ZL Zn R_read
end
@[elab_as_elim] theorem uu1{P:List Value->Prop}(us:List Value)(hl:us.length=1)(h:∀a0,P [a0]):P us:=match us,hl with | [a0],_=>h a0
theorem bb1{K:Frg}{x q:Str}{st:Stmt}{f:Addr}{fd:FuncData}{x0:Str}(F:Fun K x q st f fd)(h:∀(kV doc pm:Value) (an:Option Addr) (cdv ct:Value) (a0:Value),bindArgs (W.fnOf x q (defArgs st) (defBody st) (defScope st) .none kV doc pm an cdv ct) ⟨[a0],[]⟩=pure ([x0].zip [a0])):Binds K fd [x0] []:=F.binds fun a b c d e g us hl=>uu1 us hl (h a b c d e g)
@[elab_as_elim] theorem uu2{P:List Value->Prop}(us:List Value)(hl:us.length=2)(h:∀a0 a1,P [a0,a1]):P us:=match us,hl with | [a0,a1],_=>h a0 a1
theorem bb2{K:Frg}{x q:Str}{st:Stmt}{f:Addr}{fd:FuncData}{x0 x1:Str}(F:Fun K x q st f fd)(h:∀(kV doc pm:Value) (an:Option Addr) (cdv ct:Value) (a0 a1:Value),bindArgs (W.fnOf x q (defArgs st) (defBody st) (defScope st) .none kV doc pm an cdv ct) ⟨[a0,a1],[]⟩=pure ([x0,x1].zip [a0,a1])):Binds K fd [x0,x1] []:=F.binds fun a b c d e g us hl=>uu2 us hl (h a b c d e g)
@[elab_as_elim] theorem uu3{P:List Value->Prop}(us:List Value)(hl:us.length=3)(h:∀a0 a1 a2,P [a0,a1,a2]):P us:=match us,hl with | [a0,a1,a2],_=>h a0 a1 a2
theorem bb3{K:Frg}{x q:Str}{st:Stmt}{f:Addr}{fd:FuncData}{x0 x1 x2:Str}(F:Fun K x q st f fd)(h:∀(kV doc pm:Value) (an:Option Addr) (cdv ct:Value) (a0 a1 a2:Value),bindArgs (W.fnOf x q (defArgs st) (defBody st) (defScope st) .none kV doc pm an cdv ct) ⟨[a0,a1,a2],[]⟩=pure ([x0,x1,x2].zip [a0,a1,a2])):Binds K fd [x0,x1,x2] []:=F.binds fun a b c d e g us hl=>uu3 us hl (h a b c d e g)
@[elab_as_elim] theorem uu4{P:List Value->Prop}(us:List Value)(hl:us.length=4)(h:∀a0 a1 a2 a3,P [a0,a1,a2,a3]):P us:=match us,hl with | [a0,a1,a2,a3],_=>h a0 a1 a2 a3
theorem bb4{K:Frg}{x q:Str}{st:Stmt}{f:Addr}{fd:FuncData}{x0 x1 x2 x3:Str}(F:Fun K x q st f fd)(h:∀(kV doc pm:Value) (an:Option Addr) (cdv ct:Value) (a0 a1 a2 a3:Value),bindArgs (W.fnOf x q (defArgs st) (defBody st) (defScope st) .none kV doc pm an cdv ct) ⟨[a0,a1,a2,a3],[]⟩=pure ([x0,x1,x2,x3].zip [a0,a1,a2,a3])):Binds K fd [x0,x1,x2,x3] []:=F.binds fun a b c d e g us hl=>uu4 us hl (h a b c d e g)
theorem j4P{K:Frg}{h:Heap}{mg:Str->Option Value}(X:K.In h)(G:h.Ns mainGlobals mg)
  {C_NoBook:Addr}
  (aX_NoBook:W.nsIn K mainGlobals "NoBook"= some (some (.ref C_NoBook)))
  {f1:Addr} {d1:FuncData}
  (a1:W.findIn K (.ref C_NoBook) "__init__"= some (some (.ref f1))) (i1:W.isFn K (.ref f1)=true) (F1:Fun K "__init__" "NoBook.__init__" Qt f1 d1)
  {f2:Addr} {d2:FuncData}
  (a2:W.nsIn K mainGlobals "all_among"= some (some (.ref f2))) (F2:Fun K "all_among" "all_among" zK f2 d2)
  {f3:Addr} {d3:FuncData}
  (a3:W.nsIn K mainGlobals "is_word"= some (some (.ref f3))) (F3:Fun K "is_word" "is_word" YZ f3 d3)
  {od4 an4:Option Addr} {sl4:Array (Option Value)} {oc4 kV4 dc4 pm4 cd4 ct4:Value} {f4:Addr} {T4:Addr} {ot4:Value} {otd4:Option Addr} {ost4:Array (Option Value)} {n4:Nat} {tk0_4:Tok}
  (a4:W.nsIn K mainGlobals "number_of"= some (some (.ref f4))) (l4:K.lookup f4=some ⟨oc4,od4,.func (W.fnOf "number_of" "number_of" (defArgs q0) (defBody q0) (defScope q0) (.ref T4) kV4 dc4 pm4 an4 cd4 ct4),sl4⟩) (c4:W.codeIn K cd4 "number_of"= true) (k4:W.keepIn K (.ref f4)=true) (t4:K.lookup T4=some ⟨ot4,otd4,.seq #[.int 80 tk0_4] n4,ost4⟩)
  {f5:Addr} {d5:FuncData}
  (a5:W.nsIn K mainGlobals "numbers_of"= some (some (.ref f5))) (F5:Fun K "numbers_of" "numbers_of" ZB f5 d5)
  {f6:Addr} {d6:FuncData}
  (a6:W.nsIn K mainGlobals "bounded"= some (some (.ref f6))) (F6:Fun K "bounded" "bounded" YY f6 d6)
  {f7:Addr} {d7:FuncData}
  (a7:W.nsIn K mainGlobals "value_of"= some (some (.ref f7))) (F7:Fun K "value_of" "value_of" yG f7 d7)
  {f8:Addr} {d8:FuncData}
  (a8:W.nsIn K mainGlobals "names_form"= some (some (.ref f8))) (F8:Fun K "names_form" "names_form" ze f8 d8)
  {f9:Addr} {d9:FuncData}
  (a9:W.nsIn K mainGlobals "form_of"= some (some (.ref f9))) (F9:Fun K "form_of" "form_of" yl f9 d9)
  {f10:Addr} {d10:FuncData}
  (a10:W.nsIn K mainGlobals "part_of"= some (some (.ref f10))) (F10:Fun K "part_of" "part_of" Y0 f10 d10)
  {f11:Addr} {d11:FuncData}
  (a11:W.nsIn K mainGlobals "limbs_of"= some (some (.ref f11))) (F11:Fun K "limbs_of" "limbs_of" zC f11 d11)
  {f12:Addr} {d12:FuncData}
  (a12:W.nsIn K mainGlobals "read"= some (some (.ref f12))) (F12:Fun K "read" "read" X3 f12 d12)
  {f13:Addr} {d13:FuncData}
  (a13:W.nsIn K mainGlobals "_law_cell_at"= some (some (.ref f13))) (F13:Fun K "_law_cell_at" "_law_cell_at" zy f13 d13)
  {f14:Addr} {d14:FuncData}
  (a14:W.nsIn K mainGlobals "_law_window"= some (some (.ref f14))) (F14:Fun K "_law_window" "_law_window" zX f14 d14)
  {f15:Addr} {d15:FuncData}
  (a15:W.nsIn K mainGlobals "_law_stream"= some (some (.ref f15))) (F15:Fun K "_law_stream" "_law_stream" zW f15 d15)
  {f16:Addr} {d16:FuncData}
  (a16:W.nsIn K mainGlobals "_law_names"= some (some (.ref f16))) (F16:Fun K "_law_names" "_law_names" zc f16 d16)
  {f17:Addr} {d17:FuncData}
  (a17:W.nsIn K mainGlobals "_law_number"= some (some (.ref f17))) (F17:Fun K "_law_number" "_law_number" zT f17 d17)
  {f18:Addr} {d18:FuncData}
  (a18:W.nsIn K mainGlobals "_law_add"= some (some (.ref f18))) (F18:Fun K "_law_add" "_law_add" yE f18 d18)
  {f19:Addr} {d19:FuncData}
  (a19:W.nsIn K mainGlobals "_law_simple"= some (some (.ref f19))) (F19:Fun K "_law_simple" "_law_simple" zV f19 d19)
  {f20:Addr} {d20:FuncData}
  (a20:W.nsIn K mainGlobals "_law_there"= some (some (.ref f20))) (F20:Fun K "_law_there" "_law_there" Zy f20 d20)
  {f21:Addr} {d21:FuncData}
  (a21:W.nsIn K mainGlobals "_law_apart"= some (some (.ref f21))) (F21:Fun K "_law_apart" "_law_apart" zb f21 d21)
  {f22:Addr} {d22:FuncData}
  (a22:W.nsIn K mainGlobals "_law_naming"= some (some (.ref f22))) (F22:Fun K "_law_naming" "_law_naming" JO f22 d22)
  {f23:Addr} {d23:FuncData}
  (a23:W.nsIn K mainGlobals "_law_room"= some (some (.ref f23))) (F23:Fun K "_law_room" "_law_room" Z5 f23 d23)
  {f24:Addr} {d24:FuncData}
  (a24:W.nsIn K mainGlobals "_law_rows"= some (some (.ref f24))) (F24:Fun K "_law_rows" "_law_rows" Z6 f24 d24)
  {f25:Addr} {d25:FuncData}
  (a25:W.nsIn K mainGlobals "_law_odd"= some (some (.ref f25))) (F25:Fun K "_law_odd" "_law_odd" yF f25 d25)
  {f26:Addr} {d26:FuncData}
  (a26:W.nsIn K mainGlobals "_law_put_on"= some (some (.ref f26))) (F26:Fun K "_law_put_on" "_law_put_on" zU f26 d26)
  {f27:Addr} {d27:FuncData}
  (a27:W.nsIn K mainGlobals "_law_changed"= some (some (.ref f27))) (F27:Fun K "_law_changed" "_law_changed" zA f27 d27)
  {f28:Addr} {d28:FuncData}
  (a28:W.nsIn K mainGlobals "_law_is_word"= some (some (.ref f28))) (F28:Fun K "_law_is_word" "_law_is_word" zB f28 d28)
  {f29:Addr} {d29:FuncData}
  (a29:W.nsIn K mainGlobals "_law_worth"= some (some (.ref f29))) (F29:Fun K "_law_worth" "_law_worth" Zz f29 d29)
  {f30:Addr} {d30:FuncData}
  (a30:W.nsIn K mainGlobals "_law_limbs"= some (some (.ref f30))) (F30:Fun K "_law_limbs" "_law_limbs" Zw f30 d30)
  {f31:Addr} {d31:FuncData}
  (a31:W.nsIn K mainGlobals "_law_form"= some (some (.ref f31))) (F31:Fun K "_law_form" "_law_form" Q4 f31 d31)
  {f32:Addr} {d32:FuncData}
  (a32:W.nsIn K mainGlobals "_law_read"= some (some (.ref f32))) (F32:Fun K "_law_read" "_law_read" Z4 f32 d32)
  {f33:Addr} {d33:FuncData}
  (a33:W.nsIn K mainGlobals "_law_other"= some (some (.ref f33))) (F33:Fun K "_law_other" "_law_other" Zx f33 d33)
  {f34:Addr} {d34:FuncData}
  (a34:W.nsIn K mainGlobals "law"= some (some (.ref f34))) (F34:Fun K "law" "law" j2D f34 d34)
  {JW:Addr}
  (g_FEWEST_NAMES:W.nsIn K mainGlobals "FEWEST_NAMES"= some (some (.ref JW))) (kk_FEWEST_NAMES:TabK K JW [("row",.flat (.int 1)),("side",.flat (.int 2))])
  {tkc_FIGURES:Tok}
  (g_FIGURES:W.nsIn K mainGlobals "FIGURES"= some (some (.str "0123456789" tkc_FIGURES)))
  {zM:Addr}
  (g_FORMS:W.nsIn K mainGlobals "FORMS"= some (some (.ref zM))) (kk_FORMS:TabK K zM [("raise",.tup [.str "limb",.str "height",.str "beats"]),("hold",.tup [.str "beats"]),("ring",.tup [.str "word",.str "beats"]),("again",.tup [.str "times",.str "part"])])
  {tkc_LETTERS:Tok}
  (g_LETTERS:W.nsIn K mainGlobals "LETTERS"= some (some (.str "abcdefghijklmnopqrstuvwxyz" tkc_LETTERS)))
  {qc:Addr}
  (g_MOST_NAMES:W.nsIn K mainGlobals "MOST_NAMES"= some (some (.ref qc))) (kk_MOST_NAMES:TabK K qc [("row",.flat (.int 8)),("side",.flat (.int 4))])
  {C_PlayError:Addr}
  {C_Done:Addr}
  {C_NoBeat:Addr}
  {C_Long:Addr}
  {C_TooLong:Addr}
  {C_TwoHands:Addr}
  {C_Idle:Addr}
  {C_NoLimb:Addr}
  {C_NoName:Addr}
  {C_NoRow:Addr}
  {C_Broad:Addr}
  {C_NoPins:Addr}
  (aX_PlayError:W.nsIn K mainGlobals "PlayError"= some (some (.ref C_PlayError)))
  (aX_Done:W.nsIn K mainGlobals "Done"= some (some (.ref C_Done)))
  (aX_NoBeat:W.nsIn K mainGlobals "NoBeat"= some (some (.ref C_NoBeat)))
  (aX_Long:W.nsIn K mainGlobals "Long"= some (some (.ref C_Long)))
  (aX_TooLong:W.nsIn K mainGlobals "TooLong"= some (some (.ref C_TooLong)))
  (aX_TwoHands:W.nsIn K mainGlobals "TwoHands"= some (some (.ref C_TwoHands)))
  (aX_Idle:W.nsIn K mainGlobals "Idle"= some (some (.ref C_Idle)))
  (aX_NoLimb:W.nsIn K mainGlobals "NoLimb"= some (some (.ref C_NoLimb)))
  (aX_NoName:W.nsIn K mainGlobals "NoName"= some (some (.ref C_NoName)))
  (aX_NoRow:W.nsIn K mainGlobals "NoRow"= some (some (.ref C_NoRow)))
  (aX_Broad:W.nsIn K mainGlobals "Broad"= some (some (.ref C_Broad)))
  (aX_NoPins:W.nsIn K mainGlobals "NoPins"= some (some (.ref C_NoPins)))
  (xg_PlayError:W.specialIn K (.ref C_PlayError) "__getattribute__"= some (some (.builtin "type.__getattribute__")))
  (xr_PlayError:W.readsIn K C_PlayError (.type "type")=true)
  (xf_PlayError:W.findCls K (.ref C_PlayError) (.type "type") "__init__"= some (.val (.builtin "ValueError.__init__")))
  (xga_NoBook:W.findIn K (.ref C_NoBook) "__getattribute__"= some (some (.builtin "BaseException.__getattribute__")))
  (xnh_NoBook:W.findIn K (.ref C_NoBook) "__getattr__"= some none)
  (xcl_NoBook:W.findIn K (.ref C_NoBook) "__class__"= some (some (.builtin "object.__class__")))
  (xba_NoBook:W.subIn K (.ref C_NoBook) (.type "BaseException")=some true)
  (xob_NoBook:W.subIn K (.ref C_NoBook) (.type "object")=some true)
  (xis_NoBook:W.isClsIn K C_NoBook=true)
  (xx_NoBook:exiIn K C_NoBook [.type "ValueError",.type "Exception",.type "BaseException",.type "object"] "ValueError.__new__" f1=true)
  (xsa_NoBook:W.findIn K (.ref C_NoBook) "__setattr__"= some (some (.builtin "object.__setattr__")))
  (xov_NoBook:xovIn K C_NoBook=true)
  (xve_NoBook:W.subIn K (.ref C_NoBook) (.type "ValueError")=some true)
  (xkp_NoBook:W.keepIn K (.ref C_NoBook)=true)
  (Jw:W.findIn K (.ref C_NoBook) "row"= some none)
  (Jo:W.exmOne K (.ref C_NoBook) (.ref C_PlayError)=some true)
  (qu:W.kitOne K (.ref C_NoBook) (.ref C_Done)=some false)
  (JX:W.kitOne K (.ref C_NoBook) (.ref C_NoBeat)=some false)
  (qw:W.kitOne K (.ref C_NoBook) (.ref C_Long)=some false)
  (JH:W.kitOne K (.ref C_NoBook) (.ref C_TooLong)=some false)
  (JB:W.kitOne K (.ref C_NoBook) (.ref C_TwoHands)=some false)
  (qv:W.kitOne K (.ref C_NoBook) (.ref C_Idle)=some false)
  (JZ:W.kitOne K (.ref C_NoBook) (.ref C_NoLimb)=some false)
  (J0:W.kitOne K (.ref C_NoBook) (.ref C_NoName)=some false)
  (qe:W.kitOne K (.ref C_NoBook) (.ref C_NoRow)=some false)
  (qd:W.kitOne K (.ref C_NoBook) (.ref C_Broad)=some false)
  (J1:W.kitOne K (.ref C_NoBook) (.ref C_NoPins)=some false)
  (Jl:W.kitOne K (.ref C_NoBook) (.type "ValueError")=some true)
  (JY:W.kitOne K (.ref C_NoBook) (.ref C_NoBook)=some true)
  (z0:W.nsIn K mainGlobals "ValueError"= some none) (z1:W.nsIn K mainGlobals "all"= some none) (z2:W.nsIn K mainGlobals "bool"= some none) (z3:W.nsIn K mainGlobals "enumerate"= some none) (z4:W.nsIn K mainGlobals "int"= some none) (z5:W.nsIn K mainGlobals "isinstance"= some none) (z6:W.nsIn K mainGlobals "len"= some none) (z7:W.nsIn K mainGlobals "list"= some none) (z8:W.nsIn K mainGlobals "max"= some none) (z9:W.nsIn K mainGlobals "min"= some none) (z10:W.nsIn K mainGlobals "range"= some none) (z11:W.nsIn K mainGlobals "set"= some none) (z12:W.nsIn K mainGlobals "sorted"= some none) (z13:W.nsIn K mainGlobals "str"= some none) (z14:W.nsIn K mainGlobals "sum"= some none) (z15:W.nsIn K mainGlobals "tuple"= some none) (z16:W.nsIn K mainGlobals "zip"= some none) :
  ∃t:Ad,Txt K mg t:=by
 have F4:=j37 (st:=q0) l4 c4 k4;exact⟨⟨f1,_,f2,_,f3,_,f4,_,T4,f5,_,f6,_,f7,_,f8,_,f9,_,f10,_,f11,_,f12,_,f13,_,f14,_,f15,_,f16,_,f17,_,f18,_,f19,_,f20,_,f21,_,f22,_,f23,_,f24,_,f25,_,f26,_,f27,_,f28,_,f29,_,f30,_,f31,_,f32,_,f33,_,f34,_,C_NoBook,C_PlayError,C_Done,C_NoBeat,C_Long,C_TooLong,C_TwoHands,C_Idle,C_NoLimb,C_NoName,C_NoRow,C_Broad,C_NoPins,_,_,_,_,_⟩,⟨F1,⟨a1,i1,F1.kp⟩,bb2 F1 fun _ _ _ _ _ _ _ _=>rfl,
  F2,W.mg_of X G a2,bb2 F2 fun _ _ _ _ _ _ _ _=>rfl,
  F3,W.mg_of X G a3,bb1 F3 fun _ _ _ _ _ _ _=>rfl,
  F4,W.mg_of X G a4,(FunD.binds (ps:=["text","most"]) (ds:=[]) 2 F4 t4 rfl rfl fun _ _ _ _ _ _ us hl=>match us,hl with | [_,_],_=>⟨_,rfl,rfl⟩),
  F5,W.mg_of X G a5,bb1 F5 fun _ _ _ _ _ _ _=>rfl,
  F6,W.mg_of X G a6,bb2 F6 fun _ _ _ _ _ _ _ _=>rfl,
  F7,W.mg_of X G a7,bb4 F7 fun _ _ _ _ _ _ _ _ _ _=>rfl,
  F8,W.mg_of X G a8,bb3 F8 fun _ _ _ _ _ _ _ _ _=>rfl,
  F9,W.mg_of X G a9,bb4 F9 fun _ _ _ _ _ _ _ _ _ _=>rfl,
  F10,W.mg_of X G a10,bb3 F10 fun _ _ _ _ _ _ _ _ _=>rfl,
  F11,W.mg_of X G a11,bb1 F11 fun _ _ _ _ _ _ _=>rfl,
  F12,W.mg_of X G a12,bb1 F12 fun _ _ _ _ _ _ _=>rfl,
  F13,W.mg_of X G a13,bb2 F13 fun _ _ _ _ _ _ _ _=>rfl,
  F14,W.mg_of X G a14,bb2 F14 fun _ _ _ _ _ _ _ _=>rfl,
  F15,W.mg_of X G a15,bb2 F15 fun _ _ _ _ _ _ _ _=>rfl,
  F16,W.mg_of X G a16,bb2 F16 fun _ _ _ _ _ _ _ _=>rfl,
  F17,W.mg_of X G a17,bb3 F17 fun _ _ _ _ _ _ _ _ _=>rfl,
  F18,W.mg_of X G a18,bb4 F18 fun _ _ _ _ _ _ _ _ _ _=>rfl,
  F19,W.mg_of X G a19,bb3 F19 fun _ _ _ _ _ _ _ _ _=>rfl,
  F20,W.mg_of X G a20,bb2 F20 fun _ _ _ _ _ _ _ _=>rfl,
  F21,W.mg_of X G a21,bb2 F21 fun _ _ _ _ _ _ _ _=>rfl,
  F22,W.mg_of X G a22,bb3 F22 fun _ _ _ _ _ _ _ _ _=>rfl,
  F23,W.mg_of X G a23,bb1 F23 fun _ _ _ _ _ _ _=>rfl,
  F24,W.mg_of X G a24,bb1 F24 fun _ _ _ _ _ _ _=>rfl,
  F25,W.mg_of X G a25,bb2 F25 fun _ _ _ _ _ _ _ _=>rfl,
  F26,W.mg_of X G a26,bb3 F26 fun _ _ _ _ _ _ _ _ _=>rfl,
  F27,W.mg_of X G a27,bb2 F27 fun _ _ _ _ _ _ _ _=>rfl,
  F28,W.mg_of X G a28,bb1 F28 fun _ _ _ _ _ _ _=>rfl,
  F29,W.mg_of X G a29,bb2 F29 fun _ _ _ _ _ _ _ _=>rfl,
  F30,W.mg_of X G a30,bb1 F30 fun _ _ _ _ _ _ _=>rfl,
  F31,W.mg_of X G a31,bb3 F31 fun _ _ _ _ _ _ _ _ _=>rfl,
  F32,W.mg_of X G a32,bb1 F32 fun _ _ _ _ _ _ _=>rfl,
  F33,W.mg_of X G a33,bb1 F33 fun _ _ _ _ _ _ _=>rfl,
  F34,W.mg_of X G a34,bb1 F34 fun _ _ _ _ _ _ _=>rfl,
  W.mg_of X G aX_NoBook,
  W.mg_of X G aX_PlayError,
  W.mg_of X G aX_Done,
  W.mg_of X G aX_NoBeat,
  W.mg_of X G aX_Long,
  W.mg_of X G aX_TooLong,
  W.mg_of X G aX_TwoHands,
  W.mg_of X G aX_Idle,
  W.mg_of X G aX_NoLimb,
  W.mg_of X G aX_NoName,
  W.mg_of X G aX_NoRow,
  W.mg_of X G aX_Broad,
  W.mg_of X G aX_NoPins,
  ⟨xg_PlayError,xr_PlayError,xf_PlayError,rfl⟩,
  ⟨xx_NoBook,⟨⟨xga_NoBook,xnh_NoBook,xcl_NoBook,xba_NoBook,xob_NoBook,xis_NoBook⟩,xsa_NoBook,xov_NoBook⟩,xve_NoBook,i1,xkp_NoBook⟩,
  Jw,
  Jo,
  qu,
  JX,
  qw,
  JH,
  JB,
  qv,
  JZ,
  J0,
  qe,
  qd,
  J1,
  Jl,
  JY,
  W.mg_none_of X G z0,
  W.mg_none_of X G z1,
  W.mg_none_of X G z2,
  W.mg_none_of X G z3,
  W.mg_none_of X G z4,
  W.mg_none_of X G z5,
  W.mg_none_of X G z6,
  W.mg_none_of X G z7,
  W.mg_none_of X G z8,
  W.mg_none_of X G z9,
  W.mg_none_of X G z10,
  W.mg_none_of X G z11,
  W.mg_none_of X G z12,
  W.mg_none_of X G z13,
  W.mg_none_of X G z14,
  W.mg_none_of X G z15,
  W.mg_none_of X G z16,
  W.mg_of X G g_FEWEST_NAMES,kk_FEWEST_NAMES,
  W.mg_of X G g_FIGURES,⟨_,rfl⟩,
  W.mg_of X G g_FORMS,kk_FORMS,
  W.mg_of X G g_LETTERS,⟨_,rfl⟩,
  W.mg_of X G g_MOST_NAMES,kk_MOST_NAMES⟩⟩
end K09
open PySem PySem.W PyProof.Rows
set_option maxRecDepth 100000 in
set_option maxHeartbeats 0 in
theorem PySem.Challenge.cw_camplay_k09_whole_rows_refused_holds : PySem.Challenge.rw_camplay_k09_whole_rows_refused.Holds := by
 w_on;o_law;k_head;(case hw=>w_witness2)
 k_fill
 refine L2.j2M (l:=PySem.Challenge.rw_camplay_k09_whole_rows_refused) (n:=63) (k:=8) (x:="_law_script") (CX:=L2.CX0) (sp:=Pr.sp_law) rfl (by decide) rfl ⟨rfl,by decide,by decide⟩ (fun w h Y=>PySem.W.kIn_of Y) ?F (fun K H a ns hl hb hO hS=>⟨a,ns,rfl,hS,hl,hb,fun _=>rfl⟩) (fun _ _ _ _ z=>z)
 case F=>
  intro w mg fa h KX G hmg;have TT:∃t:K09.Ad,K09.Txt (L2.KOf KX) mg t:=by
   dsimp only[L2.KOf];refine' K09.j4P KX G ?aX_NoBook ?a1 ?i1 (L2.jY ?l1 ?c1 ?k1) ?a2 (L2.jY ?l2 ?c2 ?k2) ?a3 (L2.jY ?l3 ?c3 ?k3) ?a4 ?l4 ?c4 ?k4 ?t4 ?a5 (L2.jY ?l5 ?c5 ?k5) ?a6 (L2.jY ?l6 ?c6 ?k6) ?a7 (L2.jY ?l7 ?c7 ?k7) ?a8 (L2.jY ?l8 ?c8 ?k8) ?a9 (L2.jY ?l9 ?c9 ?k9) ?a10 (L2.jY ?l10 ?c10 ?k10) ?a11 (L2.jY ?l11 ?c11 ?k11) ?a12 (L2.jY ?l12 ?c12 ?k12) ?a13 (L2.jY ?l13 ?c13 ?k13) ?a14 (L2.jY ?l14 ?c14 ?k14) ?a15 (L2.jY ?l15 ?c15 ?k15) ?a16 (L2.jY ?l16 ?c16 ?k16) ?a17 (L2.jY ?l17 ?c17 ?k17) ?a18 (L2.jY ?l18 ?c18 ?k18) ?a19 (L2.jY ?l19 ?c19 ?k19) ?a20 (L2.jY ?l20 ?c20 ?k20) ?a21 (L2.jY ?l21 ?c21 ?k21) ?a22 (L2.jY ?l22 ?c22 ?k22) ?a23 (L2.jY ?l23 ?c23 ?k23) ?a24 (L2.jY ?l24 ?c24 ?k24) ?a25 (L2.jY ?l25 ?c25 ?k25) ?a26 (L2.jY ?l26 ?c26 ?k26) ?a27 (L2.jY ?l27 ?c27 ?k27) ?a28 (L2.jY ?l28 ?c28 ?k28) ?a29 (L2.jY ?l29 ?c29 ?k29) ?a30 (L2.jY ?l30 ?c30 ?k30) ?a31 (L2.jY ?l31 ?c31 ?k31) ?a32 (L2.jY ?l32 ?c32 ?k32) ?a33 (L2.jY ?l33 ?c33 ?k33) ?a34 (L2.jY ?l34 ?c34 ?k34) ?g_FEWEST_NAMES ?kk_FEWEST_NAMES ?g_FIGURES ?g_FORMS ?kk_FORMS ?g_LETTERS ?g_MOST_NAMES ?kk_MOST_NAMES ?aX_PlayError ?aX_Done ?aX_NoBeat ?aX_Long ?aX_TooLong ?aX_TwoHands ?aX_Idle ?aX_NoLimb ?aX_NoName ?aX_NoRow ?aX_Broad ?aX_NoPins ?xg_PlayError ?xr_PlayError ?xf_PlayError ?xga_NoBook ?xnh_NoBook ?xcl_NoBook ?xba_NoBook ?xob_NoBook ?xis_NoBook ?xx_NoBook ?xsa_NoBook ?xov_NoBook ?xve_NoBook ?xkp_NoBook ?Jw ?Jo ?qu ?JX ?qw ?JH ?JB ?qv ?JZ ?J0 ?qe ?qd ?J1 ?Jl ?JY ?z0 ?z1 ?z2 ?z3 ?z4 ?z5 ?z6 ?z7 ?z8 ?z9 ?z10 ?z11 ?z12 ?z13 ?z14 ?z15 ?z16
   (case aX_NoBook=>k_is)
   (case a1=>k_is);(case i1=>k_is)
   (case l1=>k_is);(case c1=>k_is);(case k1=>k_is)
   (case a2=>k_is);(case l2=>k_is);(case c2=>k_is);(case k2=>k_is)
   (case a3=>k_is);(case l3=>k_is);(case c3=>k_is);(case k3=>k_is)
   (case a4=>k_is);(case l4=>k_is);(case c4=>k_is);(case k4=>k_is);(case t4=>k_is)
   (case a5=>k_is);(case l5=>k_is);(case c5=>k_is);(case k5=>k_is)
   (case a6=>k_is);(case l6=>k_is);(case c6=>k_is);(case k6=>k_is)
   (case a7=>k_is);(case l7=>k_is);(case c7=>k_is);(case k7=>k_is)
   (case a8=>k_is);(case l8=>k_is);(case c8=>k_is);(case k8=>k_is)
   (case a9=>k_is);(case l9=>k_is);(case c9=>k_is);(case k9=>k_is)
   (case a10=>k_is);(case l10=>k_is);(case c10=>k_is);(case k10=>k_is)
   (case a11=>k_is);(case l11=>k_is);(case c11=>k_is);(case k11=>k_is)
   (case a12=>k_is);(case l12=>k_is);(case c12=>k_is);(case k12=>k_is)
   (case a13=>k_is);(case l13=>k_is);(case c13=>k_is);(case k13=>k_is)
   (case a14=>k_is);(case l14=>k_is);(case c14=>k_is);(case k14=>k_is)
   (case a15=>k_is);(case l15=>k_is);(case c15=>k_is);(case k15=>k_is)
   (case a16=>k_is);(case l16=>k_is);(case c16=>k_is);(case k16=>k_is)
   (case a17=>k_is);(case l17=>k_is);(case c17=>k_is);(case k17=>k_is)
   (case a18=>k_is);(case l18=>k_is);(case c18=>k_is);(case k18=>k_is)
   (case a19=>k_is);(case l19=>k_is);(case c19=>k_is);(case k19=>k_is)
   (case a20=>k_is);(case l20=>k_is);(case c20=>k_is);(case k20=>k_is)
   (case a21=>k_is);(case l21=>k_is);(case c21=>k_is);(case k21=>k_is)
   (case a22=>k_is);(case l22=>k_is);(case c22=>k_is);(case k22=>k_is)
   (case a23=>k_is);(case l23=>k_is);(case c23=>k_is);(case k23=>k_is)
   (case a24=>k_is);(case l24=>k_is);(case c24=>k_is);(case k24=>k_is)
   (case a25=>k_is);(case l25=>k_is);(case c25=>k_is);(case k25=>k_is)
   (case a26=>k_is);(case l26=>k_is);(case c26=>k_is);(case k26=>k_is)
   (case a27=>k_is);(case l27=>k_is);(case c27=>k_is);(case k27=>k_is)
   (case a28=>k_is);(case l28=>k_is);(case c28=>k_is);(case k28=>k_is)
   (case a29=>k_is);(case l29=>k_is);(case c29=>k_is);(case k29=>k_is)
   (case a30=>k_is);(case l30=>k_is);(case c30=>k_is);(case k30=>k_is)
   (case a31=>k_is);(case l31=>k_is);(case c31=>k_is);(case k31=>k_is)
   (case a32=>k_is);(case l32=>k_is);(case c32=>k_is);(case k32=>k_is)
   (case a33=>k_is);(case l33=>k_is);(case c33=>k_is);(case k33=>k_is)
   (case a34=>k_is);(case l34=>k_is);(case c34=>k_is);(case k34=>k_is)
   (case g_FEWEST_NAMES=>k_is);(case kk_FEWEST_NAMES=>(show PyProof.Rows.KTD.tabLook _ _ _ _=true);kernel_rfl)
   (case g_FIGURES=>k_is)
   (case g_FORMS=>k_is);(case kk_FORMS=>(show PyProof.Rows.KTD.tabLook _ _ _ _=true);kernel_rfl)
   (case g_LETTERS=>k_is)
   (case g_MOST_NAMES=>k_is);(case kk_MOST_NAMES=>(show PyProof.Rows.KTD.tabLook _ _ _ _=true);kernel_rfl)
   (case aX_PlayError=>k_is)
   (case aX_Done=>k_is)
   (case aX_NoBeat=>k_is)
   (case aX_Long=>k_is)
   (case aX_TooLong=>k_is)
   (case aX_TwoHands=>k_is)
   (case aX_Idle=>k_is)
   (case aX_NoLimb=>k_is)
   (case aX_NoName=>k_is)
   (case aX_NoRow=>k_is)
   (case aX_Broad=>k_is)
   (case aX_NoPins=>k_is)
   (case xg_PlayError=>k_is)
   (case xr_PlayError=>k_is)
   (case xf_PlayError=>k_is)
   (case xga_NoBook=>k_is)
   (case xnh_NoBook=>k_is)
   (case xcl_NoBook=>k_is)
   (case xba_NoBook=>k_is)
   (case xob_NoBook=>k_is)
   (case xis_NoBook=>k_is)
   (case xx_NoBook=>kernel_rfl)
   (case xsa_NoBook=>k_is)
   (case xov_NoBook=>kernel_rfl)
   (case xve_NoBook=>k_is)
   (case xkp_NoBook=>k_is)
   (case Jw=>k_is)
   (case Jo=>kts_exm)
   (case qu=>kit_is)
   (case JX=>kit_is)
   (case qw=>kit_is)
   (case JH=>kit_is)
   (case JB=>kit_is)
   (case qv=>kit_is)
   (case JZ=>kit_is)
   (case J0=>kit_is)
   (case qe=>kit_is)
   (case qd=>kit_is)
   (case J1=>kit_is)
   (case Jl=>kit_is)
   (case JY=>kit_is)
   (case z0=>k_is)
   (case z1=>k_is)
   (case z2=>k_is)
   (case z3=>k_is)
   (case z4=>k_is)
   (case z5=>k_is)
   (case z6=>k_is)
   (case z7=>k_is)
   (case z8=>k_is)
   (case z9=>k_is)
   (case z10=>k_is)
   (case z11=>k_is)
   (case z12=>k_is)
   (case z13=>k_is)
   (case z14=>k_is)
   (case z15=>k_is)
   (case z16=>k_is)
  obtain⟨t,T⟩:=TT;obtain⟨_,_,kV,dc,pm,an,cd,ct,_,e,_⟩:=T.j3U.ex;have e0:=hmg.symm.trans T.j4Z;cases e0;refine⟨t.WX,fun s v=>?_,fun base _ _=>K09.j2U T⟩;rw[e];exact .of_eq rfl
#print axioms PySem.Challenge.cw_camplay_k09_whole_rows_refused_holds
