import PyProof.Rows.All
import Wide.All
import OpenK.AllK
import Wide.FinOn
import Lean
import PyProof.EqAt
import PyProof.EqKinds
import PyProof.TupleCall
import PySem.Challenge.RW_camplay_k18_stand_as_told
set_option Elab.async false
set_option linter.all false
set_option maxRecDepth 100000
set_option maxHeartbeats 4000000
open List (all_cons all_eq_true any_cons any_eq_true append_nil concat_eq_append cons_append cons_ne_nil eq_nil_or_concat ext_getElem filterMap_cons filter_append filter_cons filter_cons_of_neg filter_cons_of_pos flatMap_append flatMap_cons flatMap_nil flatten_cons foldl_append foldl_cons foldl_map forIn_cons getD_eq_getElem?_getD getElem_map getElem_mem getElem_range length_cons length_drop length_eq_zero_iff length_filter_le length_flatMap length_map length_nil length_pos_iff length_range length_replicate length_reverse length_set length_take lookup_cons map_append map_congr_left map_cons map_id map_nil map_reverse map_take mem_append mem_append_left mem_append_right mem_cons mem_cons_of_mem mem_cons_self mem_filter mem_flatMap mem_iff_getElem mem_iff_getElem? mem_map mem_of_mem_take mem_or_eq_of_mem_set mem_range mem_singleton nil_append nodup_append nodup_cons nodup_nil of_mem_zip pairwise_cons pairwise_iff_getElem pairwise_map pairwise_singleton range_succ replicate_succ reverse_append reverse_cons size_toArray sum_append sum_cons take_length take_of_length_le)
abbrev Frg := PySem.W.Frag
namespace L2
open PySem PySem.Spec PyProof.Rows
noncomputable abbrev Key:=Sum Int Str
noncomputable def keyIs:Key->Value->Bool
 | .inl k,v=>Value.isInt k v
 | .inr x,v=>Value.isStrOf x v
noncomputable def keyH(w:World):Key->Int
 | .inl k=>hashInt k
 | .inr x=>hashStr w x
theorem Je:∀{k:Key} {v:Value},keyIs k v=true->(∃i t,k=Sum.inl i/\v=Value.int i t)\/(∃x t,k=Sum.inr x/\v=Value.str x t)
 | .inl i,v,h=>by
  obtain⟨t,e⟩:=Value.isInt_shape (k:=i) (v:=v) h;exact .inl ⟨i,t,rfl,e⟩
 | .inr x,v,h=>by
  obtain⟨t,e⟩:=Value.isStrOf_shape (x:=x) (v:=v) h;exact .inr ⟨x,t,rfl,e⟩
theorem Kw(i:Int)(t:Tok):keyIs (.inl i) (.int i t)=true:=by simp[keyIs,Value.isInt]
theorem j0q(x:Str)(t:Tok):keyIs (.inr x) (.str x t)=true:=by simp[keyIs,Value.isStrOf]
theorem j3L(a b:Int):decide ((Sum.inl a:Key)=Sum.inl b)=(a==b):=by
 by_cases e:a=b
 ·subst e;simp
 ·have h:¬(Sum.inl a:Key)=Sum.inl b:=fun q=>e (Sum.inl.inj q)
  rw[decide_eq_false h];exact(beq_eq_false_iff_ne.mpr e).symm
theorem j3O(a b:Str):decide ((Sum.inr a:Key)=Sum.inr b)=decide (a=b):=by
 by_cases e:a=b
 ·subst e;simp
 ·have h:¬(Sum.inr a:Key)=Sum.inr b:=fun q=>e (Sum.inr.inj q)
  rw[decide_eq_false h,decide_eq_false e]
theorem j3M(a:Int)(b:Str):decide ((Sum.inl a:Key)=Sum.inr b)=false:=decide_eq_false (fun q=>nomatch q)
theorem j3N(a:Str)(b:Int):decide ((Sum.inr a:Key)=Sum.inl b)=false:=decide_eq_false (fun q=>nomatch q)
noncomputable def mixKind(prog:Program)(w:World):PySem.KeyKind prog w Key where
 is:=keyIs
 hash:=keyH w
 inj:=fun v a b ha hb=>by
  rcases Je ha with⟨i,t,rfl,rfl⟩ | ⟨x,t,rfl,rfl⟩
  ·rcases Je hb with⟨j,u,rfl,e⟩ | ⟨y,u,rfl,e⟩
   ·injection e with e1 _;rw[e1]
   ·exact nomatch e
  ·rcases Je hb with⟨j,u,rfl,e⟩ | ⟨y,u,rfl,e⟩
   ·exact nomatch e
   ·injection e with e1 _;rw[e1]
 byValue:=fun k v h=>by
  rcases Je h with⟨i,t,rfl,rfl⟩ | ⟨x,t,rfl,rfl⟩<;>rfl
 pyHash:=fun hv h=>by
  rcases Je hv with⟨i,t,rfl,rfl⟩ | ⟨x,t,rfl,rfl⟩
  ·exact wpAny_pyHash_int h
  ·exact wpAny_pyHash_str h
 eqBool:=fun hu hv h=>by
  rcases Je hu with⟨i,t,rfl,rfl⟩ | ⟨x,t,rfl,rfl⟩
  ·rcases Je hv with⟨j,u,rfl,rfl⟩ | ⟨y,u,rfl,rfl⟩
   ·rw[j3L]at h;exact wpAny_eqBool_int h
   ·rw[j3M]at h;exact SeqAt.EqAt.int_str i t y u _ _ _ _ h
  ·rcases Je hv with⟨j,u,rfl,rfl⟩ | ⟨y,u,rfl,rfl⟩
   ·rw[j3N]at h;exact SeqAt.EqAt.str_int x t j u _ _ _ _ h
   ·rw[j3O]at h;exact wpAny_eqBool_str h
 «strs»:=fun k x t v h=>by
  rcases Je h with⟨i,u,rfl,e⟩ | ⟨y,u,rfl,e⟩
  ·exact nomatch e
  ·injection e with e1 _;subst e1;cases v<;>rfl
theorem WU(prog:Program)(w:World)(i:Int)(t:Tok):(mixKind prog w).is (.inl i) (.int i t)=true:=Kw i t
theorem WV(prog:Program)(w:World)(x:Str)(t:Tok):(mixKind prog w).is (.inr x) (.str x t)=true:=j0q x t
inductive V where
 | non | bl (b:Bool) | int (i:Int) | str (x:Str) | byt (b:Array UInt8) | flt (b:UInt64) | ref (a:Addr) | ty (n:String)
 deriving DecidableEq
noncomputable def RelV:V->Value->Prop
 | .non,u=>u=Value.none
 | .bl b,u=>u=Value.bool b
 | .int i,u=>∃t,u=Value.int i t
 | .str x,u=>∃t,u=Value.str x t
 | .byt b,u=>∃t,u=Value.bytes b t
 | .flt b,u=>∃t,u=Value.float b t
 | .ref a,u=>u=Value.ref a
 | .ty n,u=>u=Value.type n
noncomputable abbrev Vals:List V->List Value->Prop:=Paired RelV
theorem Vals.length{xs:List V}{us:List Value}(r:Vals xs us):xs.length=us.length:=Paired.length r
theorem Vals.get:∀{xs:List V} {us:List Value} {i:Nat} {x:V},Vals xs us->xs[i]?=some x->∃u,us[i]?=some u/\RelV x u
 | _,_,_,_,.nil,e=>by simp at e
 | _,_,0,_,.cons r _,e=>by simp at e;subst e;exact⟨_,rfl,r⟩
 | _,_,i+1,x,.cons _ t,e=>by
  obtain⟨u,h1,h2⟩:=Vals.get (i:=i) (x:=x) t (by simpa using e);exact⟨u,by simpa using h1,h2⟩
theorem Vals.set{x:V}{u:Value}(r:RelV x u):∀{xs:List V} {us:List Value} (i:Nat),Vals xs us->Vals (xs.set i x) (us.set i u)
 | _,_,_,.nil=>.nil
 | _,_,0,.cons _ t=>.cons r t
 | _,_,i+1,.cons q t=>.cons q (Vals.set r i t)
theorem Vals.append:∀{xs ys:List V} {us ws:List Value},Vals xs us->Vals ys ws->Vals (xs++ys) (us++ws)
 | _,_,_,_,.nil,s=>s
 | _,_,_,_,.cons r t,s=>.cons r (Vals.append t s)
theorem Vals.take:∀{xs:List V} {us:List Value} (n:Nat),Vals xs us->Vals (xs.take n) (us.take n)
 | _,_,0,_=>.nil
 | _,_,_+1,.nil=>.nil
 | _,_,n+1,.cons r t=>.cons r (Vals.take n t)
theorem Vals.drop:∀{xs:List V} {us:List Value} (n:Nat),Vals xs us->Vals (xs.drop n) (us.drop n)
 | _,_,0,r=>r
 | _,_,_+1,.nil=>.nil
 | _,_,n+1,.cons _ t=>Vals.drop n t
noncomputable def RelO:Option V->Option Value->Prop
 | some v,some u=>RelV v u
 | none,none=>True
 | _,_=>False
noncomputable def KV{κ:Type}:List (κ×V)->List (κ×Value)->Prop:=Paired fun(p:κ×V) (q:κ×Value)=>p.1=q.1/\RelV p.2 q.2
noncomputable def kV:Key->V
 | .inl i=>.int i
 | .inr x=>.str x
inductive HO where
 | lst (xs:List V)
 | tup (xs:List V)
 | dK (kvs:List (Key×V)) | dT (kvs:List (List Key×V))
 | set (S:Int->Bool) (n:Nat)
 | ins (C dx:Addr) (fs:List (Str×V))
 | own (x:Addr)
 | xd (fs:List (Str×V))
 | met (f x:Addr)
 | rng (lo hi:Int)
 | frz (o:Obj) (u:HO)
 | tbl (ps:Array Value)
 | ext (φ:Heap->Prop)
noncomputable abbrev Hp:=Addr->Option HO
noncomputable def upd(H:Hp)(a:Addr)(o:HO):Hp:=fun b=>if b=a then some o else H b
theorem jr{H:Hp}{a:Addr}{o:HO}:upd H a o a=some o:=by unfold upd;rw[if_pos rfl]
theorem jh{H:Hp}{a b:Addr}{o:HO}(h:b≠a):upd H a o b=H b:=by unfold upd;rw[if_neg h]
theorem j1C{H:Hp}{a b:Addr}{o u:HO}(h:H a=some o)(h':H b=some u)(d:o≠u):a≠b:=by
 intro e;subst e;rw[h]at h';exact d (Option.some.inj h')
theorem je{H:Hp}{a b:Addr}{o:HO}(h:H a=some o)(h':H b=none):a≠b:=by
 intro e;subst e;rw[h]at h';cases h'
section
variable(P:Program)(w:World)
noncomputable def ObjOk(H:Hp)(h:Heap)(a:Addr):HO->Prop
 | .lst xs=>xs.length<=sizeLine/\∃(its:List Value) (n:Nat),Vals xs its/\h.get? a=some {cls:=.type "list",data:=.seq its.toArray n}
 | .tup xs=>xs.length<=sizeLine/\∃its:List Value,Vals xs its/\IsTup h a its.toArray
 | .dK kvs=>kvs.length<=sizeLine/\(a==sysModules)=false/\∃vs,KV kvs vs/\h.DictOf (mixKind P w) a vs
 | .dT kvs=>kvs.length<=sizeLine/\(a==sysModules)=false/\∃xs:List (List Key×Addr×Value),
   Paired (fun(p:List Key×V) (q:List Key×Addr×Value)=>p.1=q.1/\H q.2.1=some (.tup (p.1.map kV))/\RelV p.2 q.2.2) kvs xs/\
   ∃o es ep,h.get? a=some o/\o.ExactDict/\o.data = .dict es ep/\es.toList=xs.map (entryOfKey (tupleKind (mixKind P w)))/\(xs.map (·.1)).Nodup
 | .set S n=>h.SetOf (intKind P w) a S n
 | .ins C dx fs=>H dx=some (.own a)/\fs.length<=1000/\dx≠a/\h.get? a=some (PySem.W.instObj C dx)/\
   ∃mA,h.Ns1 dx mA/\(∀f,RelO (fs.lookup f) (mA f))/\PySem.Within mA (fs.map (·.1))
 | .own _=>∃o,h.get? a=some o
 | .xd fs=>∃mA,h.Ns1 a mA/\∀f,RelO (fs.lookup f) (mA f)
 | .rng lo hi=>∃t u v,h.get? a=some {cls:=.type "range",data:=.fields #[.int lo t,.int hi u,.int 1 v]}
 | .frz o u=>h.get? a=some o/\ObjOk H h a u
 | .tbl ps=>h.get? a=some {cls:=.none,data:=.fields ps}
 | .met f x=>h.get? a=some (PySem.W.methodObj (.ref f) (.ref x))
 | .ext φ=>φ h/\(∃o,h.get? a=some o)/\∀h1 h2:Heap,φ h1->(∀o,h1.get? a=some o->h2.get? a=some o)->φ h2
def HOk(H:Hp)(h:Heap):Prop:=∀a o,H a=some o->ObjOk P w H h a o
end
section
variable{P:Program}{w:World}{H H':Hp}{h h':Heap}{a:Addr}{o:HO}
theorem ObjOk.lt(x:ObjOk P w H h a o):a<h.objs.size:=by
 cases o with
 | lst xs=>obtain⟨_,_,_,_,e⟩:=x;exact Heap.lt_size e
 | tup xs=>obtain⟨_,_,_,p⟩:=x;exact p.lt
 | dK kvs=>obtain⟨_,_,_,_,o,_,_,e,_⟩:=x;exact Heap.lt_size e
 | dT kvs=>obtain⟨_,_,_,_,o,_,_,e,_⟩:=x;exact Heap.lt_size e
 | set S n=>obtain⟨o,_,_,_,e,_⟩:=x;exact Heap.lt_size e
 | ins C dx fs=>obtain⟨_,_,_,e,_⟩:=x;exact Heap.lt_size e
 | own y=>obtain⟨_,e⟩:=x;exact Heap.lt_size e
 | xd fs=>obtain⟨_,⟨_,_,_,e,_⟩,_⟩:=x;exact Heap.lt_size e
 | rng lo hi=>obtain⟨_,_,_,e⟩:=x;exact Heap.lt_size e
 | frz ob u=>obtain⟨e,_⟩:=x;exact Heap.lt_size e
 | tbl ps=>exact Heap.lt_size (show h.get? a=some _ from x)
 | met f y=>exact Heap.lt_size (show h.get? a=some _ from x)
 | ext φ=>obtain⟨_,⟨_,e⟩,_⟩:=x;exact Heap.lt_size e
theorem Paired.mapP{α β:Type}{F G:α->β->Prop}:∀{l₁:List α} {l₂:List β},Paired F l₁ l₂->(∀a b,F a b->G a b)->Paired G l₁ l₂
 | _,_,.nil,_=>.nil
 | _,_,.cons r t,f=>.cons (f _ _ r) (Paired.mapP t f)
theorem ObjOk.stay(x:ObjOk P w H h a o)(k:∀b u,(b=a\/H b=some (.own a))->h.get? b=some u->h'.get? b=some u)
  (ho:∀b,H b=some (.own a)->H' b=some (.own a)) (ht:∀b xs,H b=some (.tup xs)->H' b=some (.tup xs)):ObjOk P w H' h' a o:=by
 induction o with
 | lst xs=>obtain⟨z,its,n,r,e⟩:=x;exact⟨z,its,n,r,k _ _ (.inl rfl) e⟩
 | tup xs=>obtain⟨z,its,r,ob,e,c⟩:=x;exact⟨z,its,r,ob,k _ _ (.inl rfl) e,c⟩
 | dK kvs=>obtain⟨z,y,vs,r,ob,es,ep,e,c⟩:=x;exact⟨z,y,vs,r,ob,es,ep,k _ _ (.inl rfl) e,c⟩
 | dT kvs=>
  obtain⟨z,y,xs,r,ob,es,ep,e,c⟩:=x;exact⟨z,y,xs,Paired.mapP r fun p q z=>⟨z.1,ht _ _ z.2.1,z.2.2⟩,ob,es,ep,k _ _ (.inl rfl) e,c⟩
 | set S n=>obtain⟨ob,es,ep,t,e,c⟩:=x;exact⟨ob,es,ep,t,k _ _ (.inl rfl) e,c⟩
 | ins C dx fs=>
  obtain⟨d,z,ne,e,mA,⟨od,es,ep,e2,c⟩,r⟩:=x;exact⟨ho _ d,z,ne,k _ _ (.inl rfl) e,mA,⟨od,es,ep,k _ _ (.inr d) e2,c⟩,r⟩
 | own y=>obtain⟨ob,e⟩:=x;exact⟨ob,k _ _ (.inl rfl) e⟩
 | xd fs=>obtain⟨mA,⟨od,es,ep,e,c⟩,r⟩:=x;exact⟨mA,⟨od,es,ep,k _ _ (.inl rfl) e,c⟩,r⟩
 | rng lo hi=>obtain⟨t,u,v,e⟩:=x;exact⟨t,u,v,k _ _ (.inl rfl) e⟩
 | frz ob u ih=>obtain⟨e,q⟩:=x;exact⟨k _ _ (.inl rfl) e,ih q⟩
 | tbl ps=>
  have e:h.get? a=some {cls:=.none,data:=.fields ps}:=x;show h'.get? a=some {cls:=.none,data:=.fields ps};exact k a _ (.inl rfl) e
 | met f y=>
  have e:h.get? a=some (PySem.W.methodObj (.ref f) (.ref y)):=x;show h'.get? a=some (PySem.W.methodObj (.ref f) (.ref y));exact k a _ (.inl rfl) e
 | ext φ=>obtain⟨p,⟨o,e⟩,st⟩:=x;exact⟨st _ _ p fun o q=>k _ _ (.inl rfl) q,⟨o,k _ _ (.inl rfl) e⟩,st⟩
theorem HOk.lt(x:HOk P w H h)(e:H a=some o):a<h.objs.size:=(x a o e).lt
theorem HOk.fresh(x:HOk P w H h)(e:h.objs.size<=a):H a=none:=by
 cases q:H a with
 | none=>rfl
 | some u=>exact absurd (Nat.lt_of_lt_of_le (x.lt q) e) (Nat.lt_irrefl _)
theorem HOk.kept(x:HOk P w H h)(k:∀b u,h.get? b=some u->h'.get? b=some u):HOk P w H h':=fun a o e=>
 (x a o e).stay (fun b u _ q=>k b u q) (fun _ q=>q) fun _ _ q=>q
theorem HOk.laid(x:HOk P w H h)(k:∀b u,h.get? b=some u->h'.get? b=some u)(hp:h.objs.size<=a)(new:ObjOk P w (upd H a o) h' a o):HOk P w (upd H a o) h':=fun b u e=>by
 have hn:=x.fresh hp;by_cases hb:b=a
 ·subst hb;rw[jr]at e;cases e;exact new
 ·rw[jh hb]at e;exact(x b u e).stay (fun c v _ q=>k c v q) (fun c q=>by rw[jh (je q hn)];exact q) fun c xs q=>by rw[jh (je q hn)];exact q
end
def Rd(H:Hp)(a:Addr)(u:HO):Prop:=H a=some u\/∃o,H a=some (.frz o u)
theorem Rd.ok{P:Program}{w:World}{H:Hp}{h:Heap}{a:Addr}{u:HO}(r:Rd H a u)(x:HOk P w H h):ObjOk P w H h a u:=by
 rcases r with r | ⟨o,r⟩
 ·exact x a u r
 ·obtain⟨_,q⟩:=x a _ r;exact q
noncomputable def Mut:Option HO->Prop
 | some (.lst _)=>True
 | some (.dK _)=>True
 | some (.dT _)=>True
 | some (.set _ _)=>True
 | some (.ins _ _ _)=>True
 | some (.ext _)=>True
 | _=>False
section
variable{P:Program}{w:World}{H:Hp}{h h':Heap}{x e:Addr}{o':HO}
theorem HOk.write(ok:HOk P w H h)(mu:Mut (H x))(he:e=x\/H e=some (.own x))(k:∀b u,b≠e->h.get? b=some u->h'.get? b=some u)(heo:∃u,h'.get? e=some u)
  (new:ObjOk P w (upd H x o') h' x o'):HOk P w (upd H x o') h':=fun b u q=>by
 have nown:∀c y,H c=some (.own y)->c≠x:=fun c y r z=>by subst z;rw[r]at mu;exact mu
 have ntup:∀c xs,H c=some (.tup xs)->c≠x:=fun c xs r z=>by subst z;rw[r]at mu;exact mu
 by_cases hb:b=x
 ·subst hb;rw[jr]at q;cases q;exact new
 ·rw[jh hb]at q;by_cases hbe:b=e
  ·have q':H b=some (.own x):=by
    rcases he with z | z
    ·exact absurd (hbe.trans z) hb
    ·rw[hbe];exact z
   rw[q]at q';cases q';obtain⟨v,hv⟩:=heo;exact⟨v,by rw[hbe];exact hv⟩
  ·refine(ok b u q).stay (fun c v hc r=>k c v ?_ r) (fun c r=>by rw[jh (nown c b r)];exact r) fun c xs r=>by rw[jh (ntup c xs r)];exact r
   rcases hc with rfl | hc
   ·exact hbe
   ·rintro rfl;rcases he with z | z
    ·exact nown c b hc z
    ·rw[hc]at z;cases z;exact hb rfl
end
structure Un(fs ex:List Addr)(H H':Hp)(h h':Heap):Prop where
 keep:∀b o,h.get? b=some o->H b=none->b∉fs->b∉ex->h'.get? b=some o
 slot:∀b o,h.get? b=some o->H b=none->b∈fs->b∉ex->∃sl,h'.get? b=some {o with slots:=sl}
 free:∀b o,h.get? b=some o->H b=none->b∉ex->H' b=none
 there:∀b o,h.get? b=some o->b∉ex->∃o',h'.get? b=some o'
 tups:∀b xs,H b=some (.tup xs)->H' b=some (.tup xs)
 frzs:∀b o u,H b=some (.frz o u)->H' b=some (.frz o u)
 tbls:∀b ps,H b=some (.tbl ps)->∃more,H' b=some (.tbl (ps++more))
section
variable{fs fs' ex ex':List Addr}{H H1 H2:Hp}{h h1 h2 h':Heap}{a x e:Addr}{o:HO}
theorem Un.any(u:Un fs ex H H1 h h1){b:Addr}{ob:Obj}(q:h.get? b=some ob)(n:H b=none)(hx:b∉ex):∃sl,h1.get? b=some {ob with slots:=sl}:=by
 by_cases hb:b∈fs
 ·exact u.slot b ob q n hb hx
 ·exact⟨ob.slots,u.keep b ob q n hb hx⟩
theorem Un.kept(k:∀b u,h.get? b=some u->h'.get? b=some u):Un fs ex H H h h':=
 ⟨fun b ob q _ _ _=>k b ob q,fun b ob q _ _ _=>⟨ob.slots,k b ob q⟩,fun _ _ _ n _=>n,fun b ob q _=>⟨ob,k b ob q⟩,fun _ _ q=>q,fun _ _ _ q=>q,fun _ ps q=>⟨#[],by rw[q];simp⟩⟩
theorem Un.refl:Un fs ex H H h h:=Un.kept fun _ _ q=>q
theorem Un.laid(k:∀b u,h.get? b=some u->h'.get? b=some u)(hp:h.objs.size<=a)(hn:H a=none):Un fs ex H (upd H a o) h h' where
 keep:=fun b u q _ _ _=>k b u q
 slot:=fun b u q _ _ _=>⟨u.slots,k b u q⟩
 free:=fun b u q n _=>by rw[jh (Nat.ne_of_lt (Nat.lt_of_lt_of_le (Heap.lt_size q) hp))];exact n
 there:=fun b u q _=>⟨u,k b u q⟩
 tups:=fun b xs q=>by rw[jh (je q hn)];exact q
 frzs:=fun b u xs q=>by rw[jh (je q hn)];exact q
 tbls:=fun b ps q=>⟨#[],by rw[jh (je q hn),q];simp⟩
theorem Un.write(mu:Mut (H x))(he:e=x\/H e=some (.own x))(k:∀b u,b≠e->h.get? b=some u->h'.get? b=some u)(heo:∃u,h'.get? e=some u):Un fs ex H (upd H x o) h h':=by
 have hx:∀b,H b=none->b≠x:=fun b n z=>by subst z;rw[n]at mu;exact mu
 have hb:∀b,H b=none->b≠e:=fun b n z=>by
  subst z;rcases he with r | r
  ·exact hx b n r
  ·rw[n]at r;cases r
 have hm:∀b u,H b=some u->¬Mut (some u)->b≠x:=fun b u q nm z=>by subst z;rw[q]at mu;exact nm mu
 refine⟨fun b u q n _ _=>k b u (hb b n) q,fun b u q n _ _=>⟨u.slots,k b u (hb b n) q⟩,fun b u q n _=>by rw[jh (hx b n)];exact n,fun b u q _=>?_,
  fun b xs q=>by rw[jh (hm b _ q fun z=>z)];exact q,fun b u xs q=>by rw[jh (hm b _ q fun z=>z)];exact q,fun b ps q=>⟨#[],by rw[jh (hm b _ q fun z=>z),q];simp⟩⟩
 by_cases hbe:b=e
 ·subst hbe;exact heo
 ·exact⟨u,k b u hbe q⟩
end
noncomputable def trk(h:Heap)(H:Hp):List Addr:=(List.range h.objs.size).filter fun a=>(H a).isSome
noncomputable def hidT(h:Heap)(H:Hp):Heap:=PySem.W.hideAll h (trk h H)
theorem j0l(h:Heap)(H:Hp):(hidT h H).objs.size=h.objs.size:=PySem.W.hideAll_size _ _
theorem j1h{h:Heap}{H:Hp}{b:Addr}{o:Obj}(e:h.get? b=some o)(n:H b=none):(hidT h H).get? b=some o:=
 PySem.W.hideAll_get _ e fun hm=>by
  have q:(H b).isSome=true:=(mem_filter.mp hm).2;rw[n]at q;simp at q
theorem j2W{h:Heap}{H:Hp}{b:Addr}{o:Obj}(e:(hidT h H).get? b=some o):h.get? b=some o/\H b=none:=by
 have e':h.get? b=some o:=PySem.W.of_hideAll (trk h H) e;refine⟨e',?_⟩;cases q:H b with
 | none=>rfl
 | some x=>
  have hm:b∈trk h H:=mem_filter.mpr ⟨mem_range.mpr (Heap.lt_size e'),by simp[q]⟩;have z:(hidT h H).get? b=none:=PySem.W.hideAll_none (trk h H) hm;rw[z]at e;cases e
structure Mod(K:Frg)(mg:Str->Option Value)(base:Heap):Prop where
 kin:K.In base
 glob:base.Ns mainGlobals mg
 blt:∃mb,base.Ns builtinsNs mb/\∀x:Str,x≠"__name__"->mb x=bootBuiltins x
 nolimit:base.NoLimit
structure Cx where
 prog:Program
 w:World
 K:Frg
 mg:Str->Option Value
 base:Heap
 A:Around
 N:List Str
 s₀:Shared
 H₀:Hp
 env:Env
 outer:List Env
 stack:List Env
 ex:List Addr
 fn:Str->Bool
 calm:Bool
 pn:List (Addr×Obj)
 xe:Value->Shared->Prop
noncomputable def frs(l:List Env):List Addr:=l.filterMap (·.frame)
noncomputable abbrev Cx.fs(X:Cx):List Addr:=frs X.outer
def Vis(sc:Scope)(x:Str):Prop:=sc.names.lookup x=some .local\/sc.names.lookup x=some .cell\/sc.names.lookup x=some .free
def Loc(sc:Scope)(x:Str):Prop:=sc.names.lookup x=some .local\/sc.names.lookup x=some .cell
def Look(env:Env)(h:Heap)(m:Str->Option Value)(x:Str)(u:Value):Prop:=
 (env.kindOf x=some .local/\m x=some u)\/((env.kindOf x=some .cell\/env.kindOf x=some .free)/\∃c,env.cells.lookup x=some c/\h.IsCell c (some u))
structure Cx.Ok(X:Cx):Prop where
 mod:Mod X.K X.mg X.base
 kind:X.env.scope.kind = .function
 glob:X.env.globals=mainGlobals
 blt:X.env.builtins=builtinsNs
 above:X.s₀.heap.objs.size<=X.env.locals
 inj:∀x y c,X.env.cells.lookup x=some c->X.env.cells.lookup y=some c->x=y
 has:∀x,(X.env.kindOf x=some .cell\/X.env.kindOf x=some .free)->∃c,X.env.cells.lookup x=some c
 cab:∀x c,X.fn x=true->X.env.cells.lookup x=some c->X.s₀.heap.objs.size<=c
 hd:X.calm=true->X.A.handled=none
 frames:X.A.frames=some X.stack
 stk:X.stack=X.outer\/(X.stack=X.env::X.outer/\X.env.frame=some X.env.locals)
 exf:∀b∈X.ex,b≠X.env.locals/\∀x c,X.env.cells.lookup x=some c->c≠b
 bs:∀b o,X.base.get? b=some o->X.s₀.heap.get? b=some o/\X.H₀ b=none
 bsz:X.base.objs.size<=X.s₀.heap.objs.size
 noex:∀b o,X.base.get? b=some o->b∉X.ex
 exfs:∀b∈X.ex,b∉X.fs
 funs:X.s₀.heap.FunFrames X.base X.outer
 frf:∀b∈X.fs,X.H₀ b=none
structure Inv(X:Cx)(pins:List (Addr×Obj))(σ:List (Option V))(H:Hp)(s:Shared):Prop where
 ok:X.Ok
 os:s.os=X.s₀.os
 bare:AllBare s.gens
 base:Un X.fs X.ex X.H₀ H X.s₀.heap s.heap
 loc:∃m,s.heap.Ns X.env.locals m/\∀(i:Nat) (x:Str) (v:V),X.N[i]?=some x->σ[i]?=some (some v)->Vis X.env.scope x->∃u,RelV v u/\Look X.env s.heap m x u
 cell:∀x c,X.env.cells.lookup x=some c->∃v,s.heap.IsCell c v
 free:H X.env.locals=none
 freeC:∀x c,X.env.cells.lookup x=some c->H c=none
 pin:∀p∈X.pn++pins,s.heap.get? p.1=some p.2/\H p.1=none/\p.1≠X.env.locals/\p.1∉X.fs/\∀v,p.2.data≠.cell v
 hok:HOk X.prog X.w H s.heap
 len:σ.length=X.N.length
section
variable{X:Cx}{pins:List (Addr×Obj)}{σ:List (Option V)}{H H':Hp}{s:Shared}{h':Heap}
theorem Cx.Ok.nofr(ok:X.Ok){b:Addr}{o:Obj}(e:X.base.get? b=some o):b∉X.fs:=fun hb=>by
 have:=(ok.funs.mem hb).1;rw[e]at this;cases this
theorem Inv.bs(I:Inv X pins σ H s):∀b o,X.base.get? b=some o->s.heap.get? b=some o/\H b=none:=fun b o e=>
 ⟨I.base.keep b o (I.ok.bs b o e).1 (I.ok.bs b o e).2 (I.ok.nofr e) (I.ok.noex b o e),I.base.free b o (I.ok.bs b o e).1 (I.ok.bs b o e).2 (I.ok.noex b o e)⟩
theorem Inv.bk(I:Inv X pins σ H s):∀b o,X.base.get? b=some o->s.heap.get? b=some o:=fun b o e=>(I.bs b o e).1
theorem Inv.mod(I:Inv X pins σ H s):Mod X.K X.mg X.base:=I.ok.mod
theorem Inv.kIn(I:Inv X pins σ H s):X.K.In s.heap:=I.ok.mod.kin.keeps I.bk
theorem Inv.lt(I:Inv X pins σ H s):X.env.locals<s.heap.objs.size:=let ⟨_,hn,_⟩:=I.loc;hn.lt
theorem Inv.sz(I:Inv X pins σ H s):X.s₀.heap.objs.size<=s.heap.objs.size:=Nat.le_trans I.ok.above (Nat.le_of_lt I.lt)
theorem Inv.nofs(I:Inv X pins σ H s){a:Addr}(h:s.heap.objs.size<=a):a∉X.fs:=fun hb=>by
 obtain⟨_,o,ho,_⟩:=I.ok.funs.mem hb;exact absurd (Nat.lt_of_lt_of_le (Heap.lt_size ho) (Nat.le_trans I.sz h)) (Nat.lt_irrefl _)
theorem Inv.cne(I:Inv X pins σ H s):∀x c,X.env.cells.lookup x=some c->c≠X.env.locals:=fun x c e z=>by
 obtain⟨v,o,ho,hd⟩:=I.cell x c e;obtain⟨m,⟨o',es,ep,ho',hd',_⟩,_⟩:=I.loc;rw[z,ho']at ho;cases ho;rw[hd']at hd;cases hd
theorem Inv.funs(I:Inv X pins σ H s):s.heap.FunFrames X.base X.outer:=by
 have all:∀(l:List Env),(∀b∈frs l,b∈X.fs)->X.s₀.heap.FunFrames X.base l->s.heap.FunFrames X.base l:=by
  intro l
  induction l with
  | nil=>intro _ _;trivial
  | cons env r ih=>
   intro hs hl;obtain⟨hk,⟨L,o,hf,hn,ho,hd⟩,hr⟩:=hl;have hL:L∈X.fs:=hs L (by unfold frs;rw[filterMap_cons,hf];exact mem_cons_self);obtain⟨sl,e⟩:=I.base.slot L o ho (I.ok.frf L hL) hL fun z=>I.ok.exfs L z hL
   exact⟨hk,⟨L,_,hf,hn,e,hd⟩,ih (fun b hb=>hs b (by unfold frs;rw[filterMap_cons,hf];exact mem_cons_of_mem _ hb)) hr⟩
 exact all X.outer (fun _ hb=>hb) I.ok.funs
theorem Inv.stack(I:Inv X pins σ H s):s.heap.FunFrames X.base X.stack:=by
 rcases I.ok.stk with e | ⟨e,hf⟩
 ·rw[e];exact I.funs
 ·rw[e];obtain⟨m,hn,_⟩:=I.loc;refine .cons (by rw[I.ok.kind];decide) hf hn ?_ I.funs;exact Heap.get?_none_of_le (Nat.le_trans I.ok.bsz I.ok.above)
theorem Inv.stkSub(I:Inv X pins σ H s):∀b∈frs X.stack,b∈X.env.locals::X.fs:=fun b hb=>by
 rcases I.ok.stk with e | ⟨e,hf⟩
 ·rw[e]at hb;exact mem_cons_of_mem _ hb
 ·rw[e]at hb;unfold frs at hb;rw[filterMap_cons,hf]at hb;exact hb
theorem Inv.stkFree(I:Inv X pins σ H s):∀b∈frs X.stack,H b=none:=fun b hb=>by
 rcases mem_cons.mp (I.stkSub b hb)with e | hb
 ·rw[e];exact I.free
 ·obtain⟨_,o,ho,_⟩:=I.ok.funs.mem hb;exact I.base.free b o ho (I.ok.frf b hb) fun z=>I.ok.exfs b z hb
theorem Inv.step{g':Array GenState}{t':Nat}{d':Drawn}{ch:List Addr}(I:Inv X pins σ H s)
  (hch:∀b∈ch,(b∈X.ex\/X.s₀.heap.objs.size<=b)/\b≠X.env.locals/\(∀x c,X.env.cells.lookup x=some c->c≠b)/\∀p∈X.pn++pins,p.1≠b)
  (keep:∀b o,b≠X.env.locals->b∉X.fs->b∉ch->s.heap.get? b=some o->H b=none->h'.get? b=some o)
  (slot:∀b o,b≠X.env.locals->b∈X.fs->b∉ch->s.heap.get? b=some o->H b=none->∃sl,h'.get? b=some {o with slots:=sl}) (free:∀b o,b∉ch->s.heap.get? b=some o->H b=none->H' b=none)
  (there:∀b o,b∉ch->s.heap.get? b=some o->∃o',h'.get? b=some o')
  (tups:∀b xs,H b=some (.tup xs)->H' b=some (.tup xs)) (frzs:∀b o u,H b=some (.frz o u)->H' b=some (.frz o u)) (tbls:∀b ps,H b=some (.tbl ps)->∃more,H' b=some (.tbl (ps++more)))
  (ns:∀m,s.heap.Ns X.env.locals m->h'.Ns X.env.locals m) (hok:HOk X.prog X.w H' h') (hg:AllBare g') :
  Inv X pins σ H' {s with heap:=h',gens:=g',drawn:=d',toks:=t'}:=by
 have neL:∀b o,X.s₀.heap.get? b=some o->b≠X.env.locals:=fun b o e=>Nat.ne_of_lt (Nat.lt_of_lt_of_le (Heap.lt_size e) I.ok.above)
 have neC:∀b o,X.s₀.heap.get? b=some o->b∉X.ex->b∉ch:=fun b o e hx hb=>by
  rcases(hch b hb).1 with z | z
  ·exact hx z
  ·exact absurd (Nat.lt_of_lt_of_le (Heap.lt_size e) z) (Nat.lt_irrefl _)
 have cellK:∀x c,X.env.cells.lookup x=some c->∀v,s.heap.IsCell c v->h'.IsCell c v:=fun x c e v ⟨o,ho,hd⟩=>by
  have nch:c∉ch:=fun z=>(hch c z).2.2.1 x c e rfl
  by_cases hc:c∈X.fs
  ·obtain⟨sl,q⟩:=slot c o (I.cne x c e) hc nch ho (I.freeC x c e);exact⟨_,q,hd⟩
  ·exact⟨o,keep c o (I.cne x c e) hc nch ho (I.freeC x c e),hd⟩
 refine⟨I.ok,I.os,hg,⟨fun b o e n hb hx=>?_,fun b o e n hb hx=>?_,fun b o e n hx=>?_,fun b o e hx=>?_,fun b xs e=>tups b xs (I.base.tups b xs e),fun b o xs e=>frzs b o xs (I.base.frzs b o xs e),fun b ps e=>?_⟩,?_,fun x c e=>?_,?_,fun x c e=>?_,fun p hp=>?_,hok,I.len⟩
 ·exact keep b o (neL b o e) hb (neC b o e hx) (I.base.keep b o e n hb hx) (I.base.free b o e n hx)
 ·obtain⟨sl,e1⟩:=I.base.slot b o e n hb hx;obtain⟨sl',e2⟩:=slot b _ (neL b o e) hb (neC b o e hx) e1 (I.base.free b o e n hx);exact⟨sl',e2⟩
 ·obtain⟨o',e1⟩:=I.base.there b o e hx;exact free b o' (neC b o e hx) e1 (I.base.free b o e n hx)
 ·obtain⟨o',e1⟩:=I.base.there b o e hx;exact there b o' (neC b o e hx) e1
 ·obtain⟨m1,e1⟩:=I.base.tbls b ps e;obtain⟨m2,e2⟩:=tbls b _ e1;exact⟨m1++m2,by rw[e2,Array.append_assoc]⟩
 ·obtain⟨m,hn,hl⟩:=I.loc;refine⟨m,ns m hn,fun i x v e1 e2 e3=>?_⟩;obtain⟨u,r,l⟩:=hl i x v e1 e2 e3;refine⟨u,r,?_⟩;rcases l with l | ⟨k,c,e,z⟩
  ·exact .inl l
  ·exact .inr ⟨k,c,e,cellK x c e _ z⟩
 ·obtain⟨v,z⟩:=I.cell x c e;exact⟨v,cellK x c e v z⟩
 ·obtain⟨m,⟨o,_,_,ho,_⟩,_⟩:=I.loc;exact free _ o (fun z=>(hch _ z).2.1 rfl) ho I.free
 ·obtain⟨v,o,ho,hd⟩:=I.cell x c e;exact free c o (fun z=>(hch c z).2.2.1 x c e rfl) ho (I.freeC x c e)
 ·obtain⟨e,n,ne,nf,d⟩:=I.pin p hp;have nch:p.1∉ch:=fun z=>(hch p.1 z).2.2.2 p hp rfl
  exact⟨keep p.1 p.2 ne nf nch e n,free p.1 p.2 nch e n,ne,nf,d⟩
theorem Inv.un{t':Nat}(I:Inv X pins σ H s)(u:Un X.fs [] H H' s.heap h')(hok:HOk X.prog X.w H' h'):Inv X pins σ H' {s with heap:=h',toks:=t'}:=by
 obtain⟨m,⟨o,es,ep,ho,r⟩,_⟩:=id I.loc;obtain⟨sl,hL⟩:=u.any ho I.free (by simp);exact I.step (g':=s.gens) (d':=s.drawn) (ch:=[]) (fun _ z=>nomatch z) (fun b o _ hb _ e n=>u.keep b o e n hb (by simp)) (fun b o _ hb _ e n=>u.slot b o e n hb (by simp)) (fun b o _ e n=>u.free b o e n (by simp)) (fun b o _ e=>u.there b o e (by simp)) u.tups u.frzs u.tbls (fun m' hm=>by
  obtain⟨o',es',ep',ho',r'⟩:=hm;rw[ho]at ho';cases ho';exact⟨_,es',ep',hL,r'⟩) hok I.bare
theorem Inv.call{g':Array GenState}{t':Nat}{d':Drawn}{ch:List Addr}(I:Inv X pins σ H s)(u:Un (frs X.stack) ch H H' s.heap h')(hok:HOk X.prog X.w H' h')(hg:AllBare g')
  (hch:∀b∈ch,(b∈X.ex\/X.s₀.heap.objs.size<=b)/\b≠X.env.locals/\(∀x c,X.env.cells.lookup x=some c->c≠b)/\∀p∈X.pn++pins,p.1≠b) :
  Inv X pins σ H' {s with heap:=h',gens:=g',drawn:=d',toks:=t'}:=by
 obtain⟨m,⟨o,es,ep,ho,r⟩,_⟩:=id I.loc;obtain⟨sl,hL⟩:=u.any ho I.free fun z=>(hch _ z).2.1 rfl
 exact I.step (ch:=ch) hch (fun b o hL hb hc e n=>u.keep b o e n (fun z=>(mem_cons.mp (I.stkSub b z)).elim hL hb) hc) (fun b o _ _ hc e n=>u.any e n hc) (fun b o hc e n=>u.free b o e n hc) (fun b o hc e=>u.there b o e hc) u.tups u.frzs u.tbls (fun m' hm=>by
  obtain⟨o',es',ep',ho',r'⟩:=hm;rw[ho]at ho';cases ho';exact⟨_,es',ep',hL,r'⟩) hok hg
theorem Inv.turned{t':Nat}{it:Addr}(I:Inv X pins σ H s)(k:∀b o,b≠it->s.heap.get? b=some o->h'.get? b=some o)(hn:H it=none)(hL:it≠X.env.locals)
  (h1:it∈X.ex\/X.s₀.heap.objs.size<=it) (h2:∀x c,X.env.cells.lookup x=some c->c≠it) (h3:∀p∈X.pn++pins,p.1≠it):Inv X pins σ H {s with heap:=h',toks:=t'}:=by
 have nit:∀b u,H b=some u->b≠it:=fun b u e z=>by rw[z,hn]at e;cases e
 refine I.step (g':=s.gens) (d':=s.drawn) (ch:=[it]) (fun b hb=>?_) (fun b o _ _ hc e _=>k b o (fun z=>hc (by simp[z])) e) (fun b o _ _ hc e _=>⟨o.slots,k b o (fun z=>hc (by simp[z])) e⟩) (fun _ _ _ _ n=>n)
  (fun b o hc e=>⟨o,k b o (fun z=>hc (by simp[z])) e⟩) (fun _ _ e=>e) (fun _ _ _ e=>e) (fun b ps e=>⟨#[],by rw[e];simp⟩) (fun m hm=>?_) (fun b u e=>?_) I.bare
 ·have e:b=it:=by simpa using hb
  subst e;exact⟨h1,hL,h2,h3⟩
 ·obtain⟨o,es,ep,ho,r⟩:=hm;exact⟨o,es,ep,k _ o (Ne.symm hL) ho,r⟩
 ·refine(I.hok b u e).stay (fun c v hc q=>k c v ?_ q) (fun _ q=>q) fun _ _ q=>q
  rcases hc with z | z
  ·rw[z];exact nit b u e
  ·exact nit c _ z
theorem Inv.tok(I:Inv X pins σ H s)(t:Nat):Inv X pins σ H {s with toks:=t}:=I.un (h':=s.heap) (t':=t) Un.refl I.hok
theorem Inv.kept{t':Nat}(I:Inv X pins σ H s)(k:∀b u,s.heap.get? b=some u->h'.get? b=some u):Inv X pins σ H {s with heap:=h',toks:=t'}:=I.un (Un.kept k) (I.hok.kept k)
theorem Inv.laid{a:Addr}{o:HO}{t':Nat}(I:Inv X pins σ H s)(k:∀b u,s.heap.get? b=some u->h'.get? b=some u)(hp:s.heap.objs.size<=a)(new:ObjOk X.prog X.w (upd H a o) h' a o) :
  Inv X pins σ (upd H a o) {s with heap:=h',toks:=t'}:=I.un (Un.laid k hp (I.hok.fresh hp)) (I.hok.laid k hp new)
theorem Inv.write{x e:Addr}{o:HO}{t':Nat}(I:Inv X pins σ H s)(mu:Mut (H x))(he:e=x\/H e=some (.own x))(k:∀b u,b≠e->s.heap.get? b=some u->h'.get? b=some u)(heo:∃u,h'.get? e=some u)
  (new:ObjOk X.prog X.w (upd H x o) h' x o):Inv X pins σ (upd H x o) {s with heap:=h',toks:=t'}:=I.un (Un.write mu he k heo) (I.hok.write mu he k heo new)
theorem Inv.weak{σ':List (Option V)}(I:Inv X pins σ H s)(hl:σ'.length=σ.length)(w:∀(i:Nat) v,σ'[i]?=some (some v)->σ[i]?=some (some v)):Inv X pins σ' H s:=
 ⟨I.ok,I.os,I.bare,I.base,let ⟨m,hn,hl'⟩:=I.loc;⟨m,hn,fun i x v e1 e2 e3=>hl' i x v e1 (w i v e2) e3⟩,I.cell,I.free,I.freeC,I.pin,I.hok,hl.trans I.len⟩
theorem Inv.pins_of{pins':List (Addr×Obj)}(I:Inv X pins σ H s)(h:∀p∈pins',s.heap.get? p.1=some p.2/\H p.1=none/\p.1≠X.env.locals/\p.1∉X.fs/\∀v,p.2.data≠.cell v):Inv X pins' σ H s:=
 ⟨I.ok,I.os,I.bare,I.base,I.loc,I.cell,I.free,I.freeC,fun p hp=>(mem_append.mp hp).elim (fun z=>I.pin p (mem_append_left _ z)) (h p),I.hok,I.len⟩
theorem WZ{N:List Str}(hN:N.Nodup){i j:Nat}{x:Str}(a:N[i]?=some x)(b:N[j]?=some x):i=j:=by
 obtain⟨h1,e1⟩:=List.getElem?_eq_some_iff.mp a;obtain⟨h2,e2⟩:=List.getElem?_eq_some_iff.mp b;exact(List.getElem_inj hN).mp (e1.trans e2.symm)
theorem KM{M:Model}{A:Around}{E:Value->Shared->Prop}{i:Nat}{x:Str}{v:V}{u:Value}{Q:Unit->Shared->Prop}(I:Inv X pins σ H s)(hN:X.N.Nodup)(hi:X.N[i]?=some x)(hx:Loc X.env.scope x)(r:RelV v u)
  (h:∀s',Inv X pins (σ.set i (some v)) H s'->(∃a,Heap.SameBut a s.heap s'.heap/\(a=X.env.locals\/X.env.cells.lookup x=some a))->Q () s') (hf:X.fn x=true\/X.env.scope.names.lookup x=some .local:=by first | exact .inl rfl | exact .inr rfl | assumption):wpAny M A (storeName X.env x u) Q E s:=by
 obtain⟨m,hn,hl⟩:=id I.loc;have hcls:(X.env.scope.kind == .class||(X.env.scope.kind == .module&&X.env.locals != X.env.globals))=false:=by rw[I.ok.kind];rfl
 have hiσ:i<σ.length:=by rw[I.len];exact(List.getElem?_eq_some_iff.mp hi).1
 have cne:=I.cne;have tracked:∀{a:Addr} {h':Heap},(∃o,s.heap.get? a=some o/\H a=none)->Heap.SameBut a s.heap h'->HOk X.prog X.w H h':=fun {a h'} ha hs b ob e=>by
  obtain⟨_,_,hfree⟩:=ha;refine(I.hok b ob e).stay (fun c w' hc q=>(hs.2 c ?_).trans q) (fun _ q=>q) fun _ _ q=>q
  rintro rfl;rcases hc with rfl | hc
  ·rw[hfree]at e;cases e
  ·rw[hfree]at hc;cases hc
 rcases hx with hk | hk
 ·refine wpAny_storeName_local hk hn (fun h' hn' hs=>?_) hcls;obtain⟨oL,_,_,hoL,_⟩:=id hn;refine h _ ⟨I.ok,I.os,I.bare,⟨fun b o e n hb hx=>?_,fun b o e n hb hx=>?_,I.base.free,fun b o e hx=>?_,I.base.tups,I.base.frzs,I.base.tbls⟩,⟨_,hn',fun j y v' e1 e2 e3=>?_⟩,fun y c e=>?_,I.free,I.freeC,fun p hp=>?_,tracked ⟨oL,hoL,I.free⟩ hs,by simpa using I.len⟩ ⟨_,hs,.inl rfl⟩
  ·exact(hs.2 b (Nat.ne_of_lt (Nat.lt_of_lt_of_le (Heap.lt_size e) I.ok.above))).trans (I.base.keep b o e n hb hx)
  ·obtain⟨sl,e1⟩:=I.base.slot b o e n hb hx;exact⟨sl,(hs.2 b (Nat.ne_of_lt (Nat.lt_of_lt_of_le (Heap.lt_size e) I.ok.above))).trans e1⟩
  ·obtain⟨o',e1⟩:=I.base.there b o e hx;exact⟨o',(hs.2 b (Nat.ne_of_lt (Nat.lt_of_lt_of_le (Heap.lt_size e) I.ok.above))).trans e1⟩
  ·by_cases hj:j=i
   ·subst hj;rw[hi]at e1;cases e1;rw[List.getElem?_set_self hiσ]at e2;cases e2;exact⟨u,r,.inl ⟨hk,by simp⟩⟩
   ·rw[List.getElem?_set_ne (Ne.symm hj)]at e2;obtain⟨u',r',q⟩:=hl j y v' e1 e2 e3;refine⟨u',r',?_⟩;rcases q with⟨k,e⟩ | ⟨k,c,e,z⟩
    ·refine .inl ⟨k,?_⟩;have:y≠x:=fun e=>hj (WZ hN e1 (e▸hi))
     simp[this,e]
    ·exact .inr ⟨k,c,e,z.sameBut hs (cne y c e)⟩
  ·obtain⟨w',z⟩:=I.cell y c e;exact⟨w',z.sameBut hs (cne y c e)⟩
  ·obtain⟨e,n,ne,nf,d⟩:=I.pin p hp;exact⟨(hs.2 p.1 ne).trans e,n,ne,nf,d⟩
 ·have hfn:X.fn x=true:=by
   rcases hf with z | z
   ·exact z
   ·rw[z]at hk;cases hk
  obtain⟨c,hc⟩:=I.ok.has x (.inl hk);obtain⟨w',z⟩:=I.cell x c hc;refine wpAny_storeName_cell I.ok.kind hk hc z (fun h' hc' hs=>?_);obtain⟨oc,hoc,hocd⟩:=id z;refine h {s with heap:=h'} ⟨I.ok,I.os,I.bare,⟨fun b o e n hb hx=>?_,fun b o e n hb hx=>?_,I.base.free,fun b o e hx=>?_,I.base.tups,I.base.frzs,I.base.tbls⟩,⟨m,hn.sameBut hs (Ne.symm (cne x c hc)),fun j y v' e1 e2 e3=>?_⟩,fun y c' e=>?_,I.free,I.freeC,fun p hp=>?_,tracked ⟨oc,hoc,I.freeC x c hc⟩ hs,by simpa using I.len⟩ ⟨c,hs,.inr hc⟩
  ·exact(hs.2 b (Nat.ne_of_lt (Nat.lt_of_lt_of_le (Heap.lt_size e) (I.ok.cab x c hfn hc)))).trans (I.base.keep b o e n hb hx)
  ·obtain⟨sl,e1⟩:=I.base.slot b o e n hb hx;exact⟨sl,(hs.2 b (Nat.ne_of_lt (Nat.lt_of_lt_of_le (Heap.lt_size e) (I.ok.cab x c hfn hc)))).trans e1⟩
  ·obtain⟨o',e1⟩:=I.base.there b o e hx;exact⟨o',(hs.2 b (Nat.ne_of_lt (Nat.lt_of_lt_of_le (Heap.lt_size e) (I.ok.cab x c hfn hc)))).trans e1⟩
  ·by_cases hj:j=i
   ·subst hj;rw[hi]at e1;cases e1;rw[List.getElem?_set_self hiσ]at e2;cases e2;exact⟨u,r,.inr ⟨.inl hk,c,hc,hc'⟩⟩
   ·rw[List.getElem?_set_ne (Ne.symm hj)]at e2;obtain⟨u',r',q⟩:=hl j y v' e1 e2 e3;refine⟨u',r',?_⟩;rcases q with q | ⟨k,c',e,z'⟩
    ·exact .inl q
    ·refine .inr ⟨k,c',e,z'.sameBut hs ?_⟩;rintro rfl;exact hj (WZ hN e1 (I.ok.inj _ _ _ e hc▸hi))
  ·by_cases hcc:c'=c
   ·subst hcc;exact⟨_,hc'⟩
   ·obtain⟨w2,z2⟩:=I.cell y c' e;exact⟨w2,z2.sameBut hs hcc⟩
  ·obtain⟨e,n,ne,nf,d⟩:=I.pin p hp;refine⟨(hs.2 p.1 ?_).trans e,n,ne,nf,d⟩;intro q;rw[q,hoc]at e;have q':oc=p.2:=Option.some.inj e;exact d w' (by rw[<-q'];exact hocd)
theorem kA{M:Model}{A:Around}{E:Value->Shared->Prop}{i:Nat}{x:Str}{v:V}{u:Value}{Q:Unit->Shared->Prop}(I:Inv X pins σ H s)(hN:X.N.Nodup)(hi:X.N[i]?=some x)(hx:Loc X.env.scope x)(r:RelV v u)
  (h:∀s',Inv X pins (σ.set i (some v)) H s'->Q () s') (hf:X.fn x=true\/X.env.scope.names.lookup x=some .local:=by first | exact .inl rfl | exact .inr rfl | assumption):wpAny M A (storeName X.env x u) Q E s:=
 KM I hN hi hx r (fun s' I' _=>h s' I') hf
theorem Inv.call'{s':Shared}{ch:List Addr}(I:Inv X pins σ H s)(ho:s'.os=s.os)(u:Un (frs X.stack) ch H H' s.heap s'.heap)(hok:HOk X.prog X.w H' s'.heap)(hg:AllBare s'.gens)
  (hch:∀b∈ch,(b∈X.ex\/X.s₀.heap.objs.size<=b)/\b≠X.env.locals/\(∀x c,X.env.cells.lookup x=some c->c≠b)/\∀p∈X.pn++pins,p.1≠b):Inv X pins σ H' s':=by
 obtain⟨h',g',d',t',o'⟩:=s';have e:o'=s.os:=ho;subst e;exact I.call (g':=g') (t':=t') (d':=d') u hok hg hch
end
noncomputable abbrev XK:=Value->Option Addr->Hp->Prop
noncomputable abbrev St:=List (Option V)
noncomputable abbrev VK:=V->Hp->Prop
noncomputable abbrev TE:=St->Hp->VK->Prop
noncomputable abbrev TT:=St->Hp->(Bool->Hp->Prop)->Prop
noncomputable abbrev TA:=St->Hp->(List V->Hp->Prop)->Prop
structure Ends where
 nx:St->Hp->Prop
 rt:VK
 bk:St->Hp->Prop:=fun _ _=>False
 ct:St->Hp->Prop:=fun _ _=>False
noncomputable abbrev TS:=Ends->St->Hp->Prop
def EP(X:Cx)(pins:List (Addr×Obj))(σ:St)(Q:VK)(u:Value)(s':Shared):Prop:=∃v H',Inv X pins σ H' s'/\RelV v u/\Q v H'
def TP(X:Cx)(pins:List (Addr×Obj))(σ:St)(Q:Bool->Hp->Prop)(b:Bool)(s':Shared):Prop:=∃H',Inv X pins σ H' s'/\Q b H'
def AP(X:Cx)(pins:List (Addr×Obj))(σ:St)(Q:List V->Hp->Prop)(us:List Value)(s':Shared):Prop:=∃vs H',Inv X pins σ H' s'/\Vals vs us/\Q vs H'
def SP(X:Cx)(pins:List (Addr×Obj))(D:Ends)(f:Flow)(s':Shared):Prop:=
 match f with
 | .next=>∃σ' H',Inv X pins σ' H' s'/\D.nx σ' H'
 | .brk=>∃σ' H',Inv X pins σ' H' s'/\D.bk σ' H'
 | .cont=>∃σ' H',Inv X pins σ' H' s'/\D.ct σ' H'
 | .ret u=>∃v σ' H',Inv X pins σ' H' s'/\RelV v u/\D.rt v H'
def PE(X:Cx)(e:Expr)(t:TE):Prop:=
 ∀(pins:List (Addr×Obj)) (s:Shared) (σ:St) (H:Hp) (Q:VK),Inv X pins σ H s->t σ H Q->wpAny (model X.prog X.w) X.A (eval e X.env) (EP X pins σ Q) X.xe s
def PT(X:Cx)(e:Expr)(t:TT):Prop:=
 ∀(pins:List (Addr×Obj)) (s:Shared) (σ:St) (H:Hp) (Q:Bool->Hp->Prop),Inv X pins σ H s->t σ H Q->wpAny (model X.prog X.w) X.A (isTrue e X.env (eval e X.env)) (TP X pins σ Q) X.xe s
def PW(X:Cx)(e:Expr)(t:TT):Prop:=
 ∀(whole:Sem Value) (pins:List (Addr×Obj)) (s:Shared) (σ:St) (H:Hp) (Q:Bool->Hp->Prop),Inv X pins σ H s->t σ H Q->wpAny (model X.prog X.w) X.A (isTrue e X.env whole) (TP X pins σ Q) X.xe s
theorem PW.pt{X:Cx}{e:Expr}{t:TT}(h:PW X e t):PT X e t:=h _
def PA(X:Cx)(es:List Expr)(t:TA):Prop:=
 ∀(pos:Pos) (pins:List (Addr×Obj)) (s:Shared) (σ:St) (H:Hp) (Q:List V->Hp->Prop),Inv X pins σ H s->t σ H Q->wpAny (model X.prog X.w) X.A (spliced (backTo pos (starEach es X.env))) (AP X pins σ Q) X.xe s
def PS(X:Cx)(st:Stmt)(t:TS):Prop:=
 ∀(pins:List (Addr×Obj)) (s:Shared) (σ:St) (H:Hp) (D:Ends),Inv X pins σ H s->t D σ H->wpAny (model X.prog X.w) X.A (exec st X.env) (SP X pins D) X.xe s
def PSs(X:Cx)(st:List Stmt)(t:TS):Prop:=
 ∀(pins:List (Addr×Obj)) (s:Shared) (σ:St) (H:Hp) (D:Ends),Inv X pins σ H s->t D σ H->wpAny (model X.prog X.w) X.A (execs st X.env) (SP X pins D) X.xe s
theorem thn{α:Type}{t:Sem α}{Q Q':α->Shared->Prop}{M:Model}{A:Around}{E:Value->Shared->Prop}{s:Shared}(h:wpAny M A t Q E s)(hQ:∀a s,Q a s->Q' a s):wpAny M A t Q' E s:=wpAny_mono h hQ fun _ _ x=>x
section
variable{X:Cx}
def tVar(i:Nat):TE:=fun σ H Q=>∃v,σ[i]?=some (some v)/\Q v H
def tC(v:V):TE:=fun _ H Q=>Q v H
theorem j42{i:Nat}{x:Str}{pos:Pos}(hN:X.N[i]?=some x)(hv:Vis X.env.scope x)(hd:(x==("__debug__" : Str))=false:=by decide)(hcd:(x==("__classdict__" : Str))=false:=by decide):PE X (.Name x pos) (tVar i):=by
 intro pins s σ H Q I h;obtain⟨v,e,h⟩:=h;obtain⟨m,hn,hl⟩:=I.loc;obtain⟨u,r,l⟩:=hl i x v hN e hv;have fin:EP X pins σ Q u s:=⟨v,H,I,r,h⟩
 rcases l with⟨hk,hm⟩ | ⟨hk,c,hc,hcell⟩
 ·exact wpAny_Name (wpAny_loadName_local I.ok.kind hk hn hm fin) hd
 ·rcases hk with hk | hk
  ·exact wpAny_Name (wpAny_loadName_cell I.ok.kind hk hc hcell fin) hd
  ·exact wpAny_Name (wpAny_loadName_free I.ok.kind hk hc hcell fin hcd) hd
theorem jd{i j pos}:PE X (.Constant (.int i) j pos) (tC (.int i)):=fun _ _ _ H _ I h=>wpAny_Constant_int ⟨.int i,H,I.tok _,⟨_,rfl⟩,h⟩
theorem Yr{b j pos}:PE X (.Constant (.bool b) j pos) (tC (.bl b)):=fun _ _ _ H _ I h=>Constant_bool ⟨.bl b,H,I,rfl,h⟩
theorem j1P{j pos}:PE X (.Constant .none j pos) (tC .non):=fun _ _ _ H _ I h=>Constant_none ⟨.non,H,I,rfl,h⟩
theorem jL{x j pos}:PE X (.Constant (.str x) j pos) (tC (.str x)):=fun _ _ _ H _ I h=>Calls.Constant_str ⟨.str x,H,I.tok _,⟨_,rfl⟩,h⟩
def Gl(X:Cx)(x:Str):Prop:=X.env.kindOf x=some .globalImplicit
theorem wu{E:Value->Shared->Prop}{pins:List (Addr×Obj)}{s:Shared}{σ:St}{H:Hp}{x:Str}{u:Value}{pos:Pos}{Q:Value->Shared->Prop}(I:Inv X pins σ H s)(hg:Gl X x)(hm:X.mg x=some u)(h:Q u s)
  (hd:(x==("__debug__" : Str))=false:=by decide):wpAny (model X.prog X.w) X.A (eval (.Name x pos) X.env) Q E s:=
 Calls.Name_function_global I.ok.kind hg (Calls.loadGlobal_global (by rw[I.ok.glob];exact I.mod.glob.keeps I.bk) hm h) hd
theorem qQ{E:Value->Shared->Prop}{pins:List (Addr×Obj)}{s:Shared}{σ:St}{H:Hp}{x:Str}{u:Value}{pos:Pos}{Q:Value->Shared->Prop}(I:Inv X pins σ H s)(hg:Gl X x)(hm:X.mg x=none)(hv:bootBuiltins x=some u)(h:Q u s)
  (hn:x≠"__name__":=by decide) (hd:(x==("__debug__" : Str))=false:=by decide):wpAny (model X.prog X.w) X.A (eval (.Name x pos) X.env) Q E s:=by
 obtain⟨mb,h1,h2⟩:=I.mod.blt;exact Calls.Name_function_global I.ok.kind hg (Calls.loadGlobal_builtin (by rw[I.ok.glob];exact I.mod.glob.keeps I.bk) hm (by rw[I.ok.blt];exact h1.keeps I.bk) ((h2 x hn).trans hv) h) hd
theorem j35{x:Str}{v:V}{u:Value}{pos:Pos}(hg:Gl X x)(hm:X.mg x=some u)(r:RelV v u)(hd:(x==("__debug__" : Str))=false:=by decide):PE X (.Name x pos) (tC v):=
 fun _ _ _ H _ I h=>wu I hg hm ⟨v,H,I,r,h⟩ hd
theorem yu{x:Str}{v:V}{u:Value}{pos:Pos}(hg:Gl X x)(hm:X.mg x=none)(hv:bootBuiltins x=some u)(r:RelV v u)(hn:x≠"__name__":=by decide)(hd:(x==("__debug__" : Str))=false:=by decide):PE X (.Name x pos) (tC v):=
 fun _ _ _ H _ I h=>qQ I hg hm hv ⟨v,H,I,r,h⟩ hn hd
variable{a b:Expr}{ta tb:TE}{pos:Pos}
def tB(t:TE):TT:=fun σ H Q=>t σ H fun x H1=>∃c,x = .bl c/\Q c H1
theorem ZQ{e:Expr}{t:TE}(h:PE X e t)(he:∀whole,isTrue e X.env whole=(do let v <-whole;standAt e.pos;holding [v] (truthy v)):=by intro _;rfl):PT X e (tB t):=by
 intro pins s σ H Q I hw;refine isTrue_plain (thn (h pins s σ H _ I hw) fun v s1 ⟨x,H1,I1,r1,q1⟩=>?_) (he _);obtain⟨d,rfl,q⟩:=q1;cases r1;exact wpAny_truthy_bool ⟨H1,I1,q⟩
variable{tA tB':TT}{rest:List Expr}
def tAnd(t u:TT):TT:=fun σ H Q=>t σ H fun c H1=>if c=true then u σ H1 Q else Q false H1
def tOr(t u:TT):TT:=fun σ H Q=>t σ H fun c H1=>if c=true then Q true H1 else u σ H1 Q
def tNot(t:TT):TT:=fun σ H Q=>t σ H fun c H1=>Q (!c) H1
theorem yv(ha:PT X a tA):PW X (.BoolOp .And [a] pos) tA:=by
 intro wh pins s σ H Q I h;refine isTrue_and (thn (ha pins s σ H Q I h) fun c s1 e=>?_);cases c with
 | true=>exact isTrue_and_nil e
 | false=>exact e
theorem Yd(ha:PT X a tA):PW X (.BoolOp .Or [a] pos) tA:=by
 intro wh pins s σ H Q I h;refine isTrue_or (thn (ha pins s σ H Q I h) fun c s1 e=>?_);cases c with
 | false=>exact isTrue_or_nil e
 | true=>exact e
theorem kn(ha:PT X a tA)(hb:PW X (.BoolOp .And (b::rest) pos) tB'):PW X (.BoolOp .And (a::b::rest) pos) (tAnd tA tB'):=by
 intro wh pins s σ H Q I h;refine isTrue_and (thn (ha pins s σ H _ I h) fun c s1 ⟨H1,I1,q1⟩=>?_);cases c with
 | true=>exact hb wh pins s1 σ H1 Q I1 q1
 | false=>exact⟨H1,I1,q1⟩
theorem ko(ha:PT X a tA)(hb:PW X (.BoolOp .Or (b::rest) pos) tB'):PW X (.BoolOp .Or (a::b::rest) pos) (tOr tA tB'):=by
 intro wh pins s σ H Q I h;refine isTrue_or (thn (ha pins s σ H _ I h) fun c s1 ⟨H1,I1,q1⟩=>?_);cases c with
 | true=>exact⟨H1,I1,q1⟩
 | false=>exact hb wh pins s1 σ H1 Q I1 q1
theorem Yb(ha:PT X a tA):PT X (.UnaryOp .Not a pos) (tNot tA):=by
 intro pins s σ H Q I h;exact isTrue_not (ha pins s σ H (fun c H1=>Q (!c) H1) I h)
def tAndV(ta tb:TE):TE:=fun σ H Q=>ta σ H fun x H1=>∃c,x = .bl c/\if c=true then tb σ H1 Q else Q (.bl false) H1
theorem j41{op}{t:TE}(h:PE X a t):PE X (.BoolOp op [a] pos) t:=fun pins s σ H Q I hw=>BoolOp_one (h pins s σ H Q I hw)
theorem j1O(ha:PE X a ta)(hb:PE X (.BoolOp .And (b::rest) pos) tb):PE X (.BoolOp .And (a::b::rest) pos) (tAndV ta tb):=by
 intro pins s σ H Q I h;refine BoolOp_and (thn (ha pins s σ H _ I h) fun v s1 ⟨x,H1,I1,r1,q1⟩=>?_);obtain⟨c,rfl,q1⟩:=q1;cases r1;refine wpAny_truthy_bool ?_;cases c with
 | true=>exact hb pins s1 σ H1 Q I1 q1
 | false=>exact⟨.bl false,H1,I1,rfl,q1⟩
def tIf(t:TT)(ta tb:TE):TE:=fun σ H Q=>t σ H fun c H1=>if c=true then ta σ H1 Q else tb σ H1 Q
theorem kj{c:Expr}(hc:PT X c tA)(ha:PE X a ta)(hb:PE X b tb):PE X (.IfExp c a b pos) (tIf tA ta tb):=by
 intro pins s σ H Q I h;refine wpAny_IfExp (thn (hc pins s σ H _ I h) fun d s1 ⟨H1,I1,q1⟩=>?_);cases d with
 | true=>exact ha pins s1 σ H1 Q I1 q1
 | false=>exact hb pins s1 σ H1 Q I1 q1
end
def SqL(K:Frg)(H:Hp)(a:Addr)(xs:List V):Prop:=
 Rd H a (.lst xs)\/
  ∃(o:Obj) (its:Array Value) (n:Nat),K.lookup a=some o/\o.cls = .type "list"/\o.dict=none/\o.data = .seq its n/\its.size<=sizeLine/\Vals xs its.toList
def SqT(K:Frg)(H:Hp)(a:Addr)(xs:List V):Prop:=
 Rd H a (.tup xs)\/
  ∃(o:Obj) (its:Array Value) (n:Nat),K.lookup a=some o/\o.cls = .type "tuple"/\o.data = .seq its n/\its.size<=sizeLine/\Vals xs its.toList
noncomputable def absV:Value->Option V
 | .none=>some .non
 | .bool b=>some (.bl b)
 | .int i _=>some (.int i)
 | .str x _=>some (.str x)
 | .bytes b _=>some (.byt b)
 | .float b _=>some (.flt b)
 | .ref a=>some (.ref a)
 | .type n=>some (.ty n)
 | _=>none
theorem RelV.abs{x:V}{u:Value}(r:RelV x u):absV u=some x:=by
 cases x with
 | non=>cases r;rfl
 | bl _=>cases r;rfl
 | int _=>obtain⟨t,rfl⟩:=r;rfl
 | str _=>obtain⟨t,rfl⟩:=r;rfl
 | byt _=>obtain⟨t,rfl⟩:=r;rfl
 | flt _=>obtain⟨t,rfl⟩:=r;rfl
 | ref _=>cases r;rfl
 | ty _=>cases r;rfl
theorem RelV.inj{x y:V}{u:Value}(r:RelV x u)(q:RelV y u):x=y:=Option.some.inj (r.abs.symm.trans q.abs)
theorem Vals.inj:∀{xs ys:List V} {us:List Value},Vals xs us->Vals ys us->xs=ys
 | _,_,_,.nil,.nil=>rfl
 | _,_,_,.cons r t,.cons r' t'=>by rw[r.inj r',Vals.inj t t']
section
variable{X:Cx}{pins:List (Addr×Obj)}{σ:St}{H:Hp}{s:Shared}{a:Addr}{xs ys:List V}
theorem SqL.of{K:Frg}(h:H a=some (.lst xs)):SqL K H a xs:=.inl (.inl h)
theorem SqT.of{K:Frg}(h:H a=some (.tup xs)):SqT K H a xs:=.inl (.inl h)
theorem Inv.list(I:Inv X pins σ H s)(h:SqL X.K H a xs):∃its:List Value,Vals xs its/\PlainL s.heap a its.toArray/\xs.length<=sizeLine:=by
 rcases h with h | ⟨o,its,n,hk,hc,hd,hs,hz,r⟩
 ·obtain⟨z,its,n,r,e⟩:=h.ok I.hok;exact⟨its,r,⟨_,n,e,rfl,rfl,rfl⟩,z⟩
 ·refine⟨its.toList,r,⟨o,n,I.kIn a o hk,hc,hd,by simpa using hs⟩,?_⟩;have e:=r.length;simp only[Array.length_toList]at e;omega
theorem Inv.tuple(I:Inv X pins σ H s)(h:SqT X.K H a xs):∃its:List Value,Vals xs its/\IsTup s.heap a its.toArray/\xs.length<=sizeLine:=by
 rcases h with h | ⟨o,its,n,hk,hc,hs,hz,r⟩
 ·obtain⟨z,its,r,p⟩:=h.ok I.hok;exact⟨its,r,p,z⟩
 ·refine⟨its.toList,r,⟨o,I.kIn a o hk,hc,n,by simpa using hs⟩,?_⟩;have e:=r.length;simp only[Array.length_toList]at e;omega
theorem Inv.list_inj(I:Inv X pins σ H s)(h:SqL X.K H a xs)(h':SqL X.K H a ys):xs=ys:=by
 obtain⟨its,r,⟨o,n,e,_,_,d⟩,_⟩:=I.list h;obtain⟨its',r',⟨o',n',e',_,_,d'⟩,_⟩:=I.list h';rw[e]at e';cases e';rw[d]at d';injection d' with d1 _;have:its=its':=by simpa using congrArg Array.toList d1
 subst this;exact r.inj r'
theorem Inv.tuple_inj(I:Inv X pins σ H s)(h:SqT X.K H a xs)(h':SqT X.K H a ys):xs=ys:=by
 obtain⟨its,r,⟨o,e,_,n,d⟩,_⟩:=I.tuple h;obtain⟨its',r',⟨o',e',_,n',d'⟩,_⟩:=I.tuple h';rw[e]at e';cases e';rw[d]at d';injection d' with d1 _;have:its=its':=by simpa using congrArg Array.toList d1
 subst this;exact r.inj r'
end
noncomputable abbrev Cx.wish(X:Cx)(E:Value->Shared->Prop):Cx:={X with xe:=E}
noncomputable abbrev Cx.nox(X:Cx):Cx:=X.wish fun _ _=>False
theorem Cx.Ok.wish{X:Cx}(ok:X.Ok)(E:Value->Shared->Prop):(X.wish E).Ok:=
 ⟨ok.mod,ok.kind,ok.glob,ok.blt,ok.above,ok.inj,ok.has,ok.cab,ok.hd,ok.frames,ok.stk,ok.exf,ok.bs,ok.bsz,ok.noex,ok.exfs,ok.funs,ok.frf⟩
theorem Cx.Ok.unwish{X:Cx}{E:Value->Shared->Prop}(ok:(X.wish E).Ok):X.Ok:=
 ⟨ok.mod,ok.kind,ok.glob,ok.blt,ok.above,ok.inj,ok.has,ok.cab,ok.hd,ok.frames,ok.stk,ok.exf,ok.bs,ok.bsz,ok.noex,ok.exfs,ok.funs,ok.frf⟩
section
variable{X:Cx}{pins:List (Addr×Obj)}{σ:St}{H:Hp}{s:Shared}{E:Value->Shared->Prop}
theorem Inv.wish(I:Inv X pins σ H s)(E:Value->Shared->Prop):Inv (X.wish E) pins σ H s:=⟨I.ok.wish E,I.os,I.bare,I.base,I.loc,I.cell,I.free,I.freeC,I.pin,I.hok,I.len⟩
theorem Inv.unwish(I:Inv (X.wish E) pins σ H s):Inv X pins σ H s:=⟨I.ok.unwish,I.os,I.bare,I.base,I.loc,I.cell,I.free,I.freeC,I.pin,I.hok,I.len⟩
theorem SP.unwish{D:Ends}{f:Flow}{s':Shared}(h:SP (X.wish E) pins D f s'):SP X pins D f s':=by
 cases f with
 | next=>obtain⟨σ',H',I,q⟩:=h;exact⟨σ',H',I.unwish,q⟩
 | brk=>obtain⟨σ',H',I,q⟩:=h;exact⟨σ',H',I.unwish,q⟩
 | cont=>obtain⟨σ',H',I,q⟩:=h;exact⟨σ',H',I.unwish,q⟩
 | ret u=>obtain⟨v,σ',H',I,r,q⟩:=h;exact⟨v,σ',H',I.unwish,r,q⟩
theorem PSs.nox{st:List Stmt}{t:TS}(h:PSs X.nox st t):PSs X st t:=fun pins s σ H D I hw=>
 wpAny_mono (h pins s σ H D (I.wish _) hw) (fun _ _ q=>q.unwish) fun _ _ z=>False.elim z
end
section
variable{X:Cx}{st:Stmt}{rest:List Stmt}{t u:TS}{e:Expr}{te:TE}{pos:Pos}
def tNext:TS:=fun D σ H=>D.nx σ H
def tSeq(t u:TS):TS:=fun D σ H=>t {D with nx:=u D} σ H
theorem ju:PSs X [] tNext:=fun _ _ σ H _ I h=>wpAny_execs_nil ⟨σ,H,I,h⟩
theorem jb(h1:PS X st t)(h2:PSs X rest u):PSs X (st::rest) (tSeq t u):=by
 intro pins s σ H D I h;refine wpAny_execs_cons (thn (h1 pins s σ H {D with nx:=u D} I h) fun f s1 q=>?_);cases f with
 | next=>
  obtain⟨σ',H',I',q⟩:=q;exact h2 pins s1 σ' H' D I' q
 | ret v=>exact q
 | brk=>exact q
 | cont=>exact q
theorem jf(h1:PS X st t):PSs X [st] t:=by
 intro pins s σ H D I h;refine wpAny_execs_cons (thn (h1 pins s σ H D I h) fun f s1 q=>?_);cases f with
 | next=>exact wpAny_execs_nil q
 | ret v=>exact q
 | brk=>exact q
 | cont=>exact q
theorem Inv.quiet{pins:List (Addr×Obj)}{σ:St}{H:Hp}{s:Shared}(I:Inv X pins σ H s):interactive X.env=false:=by simp[interactive,I.ok.kind]
def tDrop(te:TE):TS:=fun D σ H=>te σ H fun _ H1=>D.nx σ H1
theorem jB(he:PE X e te)(hs:swapsWith e none pos.line X.env=pure false:=by rfl):PS X (.Expr e pos) (tDrop te):=by
 intro pins s σ H D I h;exact wpAny_Expr_any (thn (he pins s σ H _ I h) fun v s1 ⟨x,H1,I1,r1,q1⟩=>⟨σ,H1,I1,q1⟩) I.quiet hs
def tRet(te:TE):TS:=fun D σ H=>te σ H D.rt
theorem jw(he:PE X e te):PS X (.Return (some e) pos) (tRet te):=by
 intro pins s σ H D I h;exact wpAny_Return_some (thn (he pins s σ H _ I h) fun v s1 ⟨x,H1,I1,r1,q1⟩=>⟨x,σ,H1,I1,r1,q1⟩)
def tIfS(c:TT)(t u:TS):TS:=fun D σ H=>c σ H fun b H1=>if b=true then t D σ H1 else u D σ H1
theorem jS{c:Expr}{a b:List Stmt}{tc:TT}(hc:PT X c tc)(ha:PSs X a t)(hb:PSs X b u):PS X (.If c a b pos) (tIfS tc t u):=by
 intro pins s σ H D I h;refine wpAny_If (thn (hc pins s σ H _ I h) fun d s1 ⟨H1,I1,q1⟩=>?_);cases d with
 | true=>exact ha pins s1 σ H1 D I1 q1
 | false=>exact hb pins s1 σ H1 D I1 q1
def tNever:TS:=fun _ _ _=>False
theorem Zh:PS X st tNever:=fun _ _ _ _ _ _ h=>h.elim
end
noncomputable abbrev TG:=V->St->Hp->(St->Hp->Prop)->Prop
noncomputable abbrev TGs:=List V->St->Hp->(St->Hp->Prop)->Prop
def PG(X:Cx)(target:Expr)(t:TG):Prop:=
 ∀(pins:List (Addr×Obj)) (s:Shared) (σ:St) (H:Hp) (v:V) (u:Value) (Q:St->Hp->Prop),Inv X pins σ H s->RelV v u->t v σ H Q->
  wpAny (model X.prog X.w) X.A (assign target X.env u) (fun _ s'=>∃σ' H',Inv X pins σ' H' s'/\Q σ' H') X.xe s
def PGs(X:Cx)(ts:List Expr)(t:TGs):Prop:=
 ∀(pins:List (Addr×Obj)) (s:Shared) (σ:St) (H:Hp) (vs:List V) (us:List Value) (Q:St->Hp->Prop),Inv X pins σ H s->Vals vs us->t vs σ H Q->
  wpAny (model X.prog X.w) X.A (assignInOrder ((assignEach ts X.env).map (·.2)) us) (fun _ s'=>∃σ' H',Inv X pins σ' H' s'/\Q σ' H') X.xe s
noncomputable abbrev TSet:=V->V->V->Hp->(Hp->Prop)->Prop
def PSet(X:Cx)(t:TSet):Prop:=
 ∀(pins:List (Addr×Obj)) (s:Shared) (σ:St) (H:Hp) (o i v:V) (ov iv u:Value) (Q:Hp->Prop),Inv X pins σ H s->RelV o ov->RelV i iv->RelV v u->t o i v H Q->
  wpAny (model X.prog X.w) X.A (setItem ov iv u) (fun _ s'=>∃H',Inv X pins σ H' s'/\Q H') X.xe s
noncomputable abbrev TIp:=V->V->Hp->VK->Prop
def PIp(X:Cx)(op:Operator)(t:TIp):Prop:=
 ∀(pins:List (Addr×Obj)) (s:Shared) (σ:St) (H:Hp) (x y:V) (v u:Value) (Q:VK),Inv X pins σ H s->RelV x v->RelV y u->t x y H Q->
  wpAny (model X.prog X.w) X.A (inplaceOp op v u) (EP X pins σ Q) X.xe s
section
variable{X:Cx}{pos:Pos}
def gName(i:Nat):TG:=fun v σ H Q=>Q (σ.set i (some v)) H
theorem jk{i:Nat}{x:Str}(hN:X.N.Nodup)(hi:X.N[i]?=some x)(hx:Loc X.env.scope x)(hf:X.fn x=true\/X.env.scope.names.lookup x=some .local:=by first | exact .inl rfl | exact .inr rfl | assumption):PG X (.Name x pos) (gName i):=by
 intro pins s σ H v u Q I r h;exact wpAny_assign_Name (kA I hN hi hx r (fun s' I'=>⟨_,H,I',h⟩) hf)
def gNil:TGs:=fun vs σ H Q=>vs=[]/\Q σ H
def gCons(t:TG)(u:TGs):TGs:=fun vs σ H Q=>∃v r,vs=v::r/\t v σ H fun σ' H'=>u r σ' H' Q
theorem jZ:PGs X [] gNil:=by
 intro pins s σ H vs us Q I r h;obtain⟨e,h⟩:=h;subst e;cases r;exact assignInOrder_nil ⟨σ,H,I,h⟩
theorem jq{e:Expr}{es:List Expr}{t:TG}{u:TGs}(h1:PG X e t)(h2:PGs X es u)
  (hs:(assignEach (e::es) X.env).map (·.2)=assign e X.env::(assignEach es X.env).map (·.2):=by rfl):PGs X (e::es) (gCons t u):=by
 intro pins s σ H vs us Q I r h;obtain⟨v,vr,e1,h⟩:=h;subst e1;cases r with
 | cons r rr=>
  rw[hs];refine assignInOrder_cons (thn (h1 pins s σ H _ _ _ I r h) fun _ s1 ⟨σ1,H1,I1,q1⟩=>?_);exact h2 pins s1 σ1 H1 _ _ Q I1 rr q1
def gTup(K:Frg)(n:Nat)(t:TGs):TG:=fun v σ H Q=>∃a xs,v = .ref a/\SqT K H a xs/\xs.length=n/\t xs σ H Q
theorem Jz{es:List Expr}{k:Nat}{t:TGs}{n:Nat}(hc:X.calm=true)(h:PGs X es t)
  (hn:(assignEach es X.env).length=n:=by rfl) (hst:(assignEach es X.env).findIdx? (·.1)=none:=by rfl):PG X (.Tuple es k pos) (gTup X.K n t):=by
 intro pins s σ H v u Q I r hw;obtain⟨a,xs,e1,hq,hl,hw⟩:=hw;subst e1;cases r;obtain⟨its,rv,ht,hz⟩:=I.tuple hq;refine assign_Tuple_tuple (I.ok.hd hc) ht (by simp[hn,<-hl,rv.length]) hst fun h' hx=>?_
 have I1:Inv X pins σ H {s with heap:=h'}:=I.kept (t':=s.toks) fun b o e=>hx b o (Nat.ne_of_lt (Heap.lt_size e)) e
 exact h pins _ σ H xs _ Q I1 (by simpa using rv) hw
def gSub(to ti:TE)(t:TSet):TG:=fun v σ H Q=>to σ H fun o H1=>ti σ H1 fun i H2=>t o i v H2 fun H3=>Q σ H3
theorem Xo{o i:Expr}{to ti:TE}{t:TSet}(ho:PE X o to)(hi:PE X i ti)(hs:PSet X t)
  (ha:∀v,assign (.Subscript o i pos) X.env v=(do
   let ov <-holding [v] (eval o X.env)
   let iv <-holding [v,ov] (eval i X.env)
   standAt pos
   holding [v,ov,iv] (setItem ov iv v)
   release [v,ov,iv] []):=by intro _;rfl):PG X (.Subscript o i pos) (gSub to ti t):=by
 intro pins s σ H v u Q I r h;rw[ha];refine wpAny_bind (wpAny_holding (thn (ho pins s σ H _ I h) fun ov s1 ⟨x,H1,I1,r1,q1⟩=>?_));refine wpAny_bind (wpAny_holding (thn (hi pins s1 σ H1 _ I1 q1) fun iv s2 ⟨y,H2,I2,r2,q2⟩=>?_));refine wpAny_bind (wpAny_standAt (wpAny_bind (wpAny_holding (thn (hs pins s2 σ H2 x y v ov iv u _ I2 r1 r2 r q2) fun _ s3 ⟨H3,I3,q3⟩=>?_))));exact wpAny_release ⟨σ,H3,I3,q3⟩
def tAsg(te:TE)(g:TG):TS:=fun D σ H=>te σ H fun x H1=>g x σ H1 D.nx
theorem km{tg e:Expr}{te:TE}{g:TG}(he:PE X e te)(hg:PG X tg g)(hs:swapsWithSole [tg] e pos.line X.env=pure false:=by rfl)(hw:swappedStores [tg] e X.env=pure none:=by rfl)
  (h1:(assignEach [tg] X.env).map (·.2)=[assign tg X.env]:=by rfl):PS X (.Assign [tg] e pos) (tAsg te g):=by
 intro pins s σ H D I h;refine wpAny_Assign_stores (thn (he pins s σ H _ I h) fun v s1 ⟨x,H1,I1,r1,q1⟩=>?_) hs hw;rw[h1];exact thn (hg pins s1 σ H1 x v _ I1 r1 q1) fun _ s2 q=>q
theorem jm{i:Nat}{x:Str}{e:Expr}{te:TE}{pos':Pos}(hN:X.N.Nodup)(hi:X.N[i]?=some x)(hx:Loc X.env.scope x)(he:PE X e te)(hs:swapsWith e (some (.Name x pos')) pos.line X.env=pure false:=by rfl)(hf:X.fn x=true\/X.env.scope.names.lookup x=some .local:=by first | exact .inl rfl | exact .inr rfl | assumption) :
  PS X (.Assign [.Name x pos'] e pos) (tAsg te (gName i)):=by
 intro pins s σ H D I h;refine wpAny_Assign_Name (thn (he pins s σ H _ I h) fun v s1 ⟨y,H1,I1,r1,q1⟩=>?_) hs;exact kA I1 hN hi hx r1 (fun s2 I2=>⟨_,H1,I2,q1⟩) hf
def tAug(i:Nat)(te:TE)(ti:TIp):TS:=fun D σ H=>∃x,σ[i]?=some (some x)/\te σ H fun y H1=>ti x y H1 fun z H2=>D.nx (σ.set i (some z)) H2
theorem j46{i:Nat}{x:Str}{e:Expr}{te:TE}{op:Operator}{ti:TIp}{pos':Pos}(hN:X.N.Nodup)(hi:X.N[i]?=some x)(hx:Loc X.env.scope x)(he:PE X e te)(ho:PIp X op ti)(hf:X.fn x=true\/X.env.scope.names.lookup x=some .local:=by first | exact .inl rfl | exact .inr rfl | assumption) :
  PS X (.AugAssign (.Name x pos') op e pos) (tAug i te ti):=by
 intro pins s σ H D I h;obtain⟨v,e1,h⟩:=h;obtain⟨m,hn,hl⟩:=I.loc;have vis:Vis X.env.scope x:=by rcases hx with k | k;exact .inl k;exact .inr (.inl k)
 obtain⟨u,r,l⟩:=hl i x v hi e1 vis;refine wpAny_AugAssign_Name ?_;have go:wpAny (model X.prog X.w) X.A (eval e X.env) (fun w s₂=>wpAny (model X.prog X.w) X.A (inplaceOp op u w) (fun r s₃=>wpAny (model X.prog X.w) X.A (storeName X.env x r) (fun _=>SP X pins D .next) X.xe s₃) X.xe s₂) X.xe s:=by
  refine thn (he pins s σ H _ I h) fun w s1 ⟨y,H1,I1,r1,q1⟩=>?_
  refine thn (ho pins s1 σ H1 v y u w _ I1 r r1 q1) fun z s2 ⟨zv,H2,I2,r2,q2⟩=>?_
  exact kA I2 hN hi hx r2 (fun s3 I3=>⟨_,H2,I3,q2⟩) hf
 rcases l with⟨hk,hm⟩ | ⟨hk,c,hc,hcell⟩
 ·exact wpAny_loadName_local I.ok.kind hk hn hm go
 ·rcases hk with hk | hk
  ·exact wpAny_loadName_cell I.ok.kind hk hc hcell go
  ·rcases hx with k | k
   ·have:X.env.scope.names.lookup x=some .free:=hk;rw[k]at this;cases this
   ·have:X.env.scope.names.lookup x=some .free:=hk;rw[k]at this;cases this
noncomputable def ipI(f:Int->Int->Int):TIp:=fun x y H Q=>∃i j,x = .int i/\y = .int j/\Q (.int (f i j)) H
theorem j3J:PIp X .Add (ipI fun i j=>i+j):=by
 intro pins s σ H x y v u Q I r1 r2 h;obtain⟨i,j,e1,e2,q⟩:=h;subst e1;subst e2;obtain⟨t,rfl⟩:=r1;obtain⟨t',rfl⟩:=r2;exact iadd_int ⟨.int _,H,I.tok _,⟨_,rfl⟩,q⟩
end
section
variable{X:Cx}{pos:Pos}
def tWhile(c:TT)(tb:TS):TS:=fun D σ H=>∃W:Nat->St->Hp->Prop,(∃m,W m σ H)/\∀m σ H,W m σ H->
 c σ H fun b H1=>if b=true then∃N:St->Hp->Prop,(∀σ' H',N σ' H'->∃m',m'<m/\W m' σ' H')/\tb {D with nx:=N,ct:=N,bk:=D.nx} σ H1 else D.nx σ H1
theorem W5{c:Expr}{body:List Stmt}{tc:TT}{tb:TS}(hp:PassesOwn (model X.prog X.w) X.A X.env X.xe)(hc:PT X c tc)(hb:PSs X body tb):PS X (.While c body [] pos) (tWhile tc tb):=by
 intro pins s σ H D I h;obtain⟨W,⟨m0,w0⟩,turn⟩:=h;refine wpAny_While (codeAny_whileLoop (fun n s'=>∃σ' H',Inv X pins σ' H' s'/\W n σ' H') ?_ m0 ⟨σ,H,I,w0⟩);rintro n s1 ⟨σ1,H1,I1,w1⟩;refine wpAny_passesOwn hp (thn (hc pins s1 σ1 H1 _ I1 (turn n σ1 H1 w1)) fun b s2 ⟨H2,I2,q2⟩=>?_);cases b with
 | true=>
  obtain⟨N,hN,q2⟩:=q2;rw[if_pos rfl];refine wpAny_passesOwn hp (thn (hb pins s2 σ1 H2 _ I2 q2) fun f s3 q3=>?_);cases f with
  | next=>
   obtain⟨σ3,H3,I3,n3⟩:=q3;obtain⟨m',hm,w3⟩:=hN σ3 H3 n3;exact⟨m',hm,σ3,H3,I3,w3⟩
  | cont=>
   obtain⟨σ3,H3,I3,n3⟩:=q3;obtain⟨m',hm,w3⟩:=hN σ3 H3 n3;exact⟨m',hm,σ3,H3,I3,w3⟩
  | brk=>exact q3
  | ret v=>exact q3
 | false=>
  rw[if_neg Bool.false_ne_true];exact wpAny_execs_nil ⟨σ1,H2,I2,q2⟩
end
structure It where
 go:Nat->Hp->Prop
 yld:Nat->Hp->V->Hp->Prop
 stop:Nat->Hp->Prop
def FpOk(X:Cx)(pins:List (Addr×Obj))(H:Hp)(b:Addr):Prop:=
 H b=none/\b≠X.env.locals/\b∉X.fs/\(b∈X.ex\/X.s₀.heap.objs.size<=b)/\(∀x c,X.env.cells.lookup x=some c->c≠b)/\∀p∈X.pn++pins,p.1≠b
theorem Inv.fpOk{X:Cx}{pins:List (Addr×Obj)}{σ:St}{H H':Hp}{s:Shared}{b:Addr}(I:Inv X pins σ H s)(hb:s.heap.objs.size<=b)(hn:H' b=none):FpOk X pins H' b:=by
 refine⟨hn,Nat.ne_of_gt (Nat.lt_of_lt_of_le I.lt hb),I.nofs hb,.inr (Nat.le_trans I.sz hb),fun x c e z=>?_,fun p hp z=>?_⟩
 ·obtain⟨v,q⟩:=I.cell x c e;exact absurd (Nat.lt_of_lt_of_le q.lt (by rw[z];exact hb)) (Nat.lt_irrefl _)
 ·exact absurd (Nat.lt_of_lt_of_le (Heap.lt_size (I.pin p hp).1) (by rw[z];exact hb)) (Nat.lt_irrefl _)
structure Turn(P:Program)(w:World)(K:Frg)(tg:Expr)(J:It)(fp:List Addr)(it:Addr)(tn:Nat->Heap->Prop):Prop where
 mem:it∈fp
 obj:∀i h,tn i h->∀b∈fp,∃o,h.get? b=some o/\∀v,o.data≠.cell v
 keep:∀i h h',tn i h->(∀b∈fp,∀o,h.get? b=some o->h'.get? b=some o)->tn i h'
 item:∀(X:Cx),X.prog=P->X.w=w->X.K=K->X.calm=true->∀(i:Nat) (pins:List (Addr×Obj)) (s:Shared) (σ:St) (H:Hp) (E:Value->Shared->Prop),Inv X pins σ H s->(∀b∈fp,FpOk X pins H b)->tn i s.heap->J.go i H->
  wpAny (model P w) X.A (pyNext (.ref it)) (fun r s1=>∃u,r=some u/\
   wpAny (model P w) X.A (letOwnedTupleGo tg (.ref it) u) (fun _ s2=>∃x H',Inv X pins σ H' s2/\RelV x u/\J.yld i H x H'/\tn (i+1) s2.heap/\∀b∈fp,H' b=none) E s1) E s
 done:∀(X:Cx),X.prog=P->X.w=w->X.K=K->X.calm=true->∀(i:Nat) (pins:List (Addr×Obj)) (s:Shared) (σ:St) (H:Hp) (E:Value->Shared->Prop),Inv X pins σ H s->(∀b∈fp,FpOk X pins H b)->tn i s.heap->J.stop i H->
  wpAny (model P w) X.A (pyNext (.ref it)) (fun r s1=>r=none/\Inv X pins σ H s1) E s
 self:∀(A:Around) (i:Nat) (s:Shared) (Q:Value->Shared->Prop) (E:Value->Shared->Prop),tn i s.heap->Q (.ref it) s->wpAny (model P w) A (pyIter (.ref it)) Q E s
noncomputable abbrev TI:=St->Hp->(It->Hp->Prop)->Prop
def PIE(X:Cx)(pins:List (Addr×Obj))(σ:St)(tg:Expr)(R:It->Hp->Prop)(itv:Value)(s2:Shared):Prop:=
 ∃(it:Addr) (fp:List Addr) (tn:Nat->Heap->Prop) (J:It) (H':Hp),itv = .ref it/\Inv X pins σ H' s2/\Turn X.prog X.w X.K tg J fp it tn/\tn 0 s2.heap/\(∀b∈fp,FpOk X pins H' b)/\R J H'
def PI(X:Cx)(tg iter:Expr)(wi:TI):Prop:=
 ∀(pins:List (Addr×Obj)) (s:Shared) (σ:St) (H:Hp) (R:It->Hp->Prop),Inv X pins σ H s->wi σ H R->
  wpAny (model X.prog X.w) X.A (eval iter X.env) (fun v s1=>wpAny (model X.prog X.w) X.A (pyIter v) (PIE X pins σ tg R) X.xe s1) X.xe s
theorem XW{M:Model}{A:Around}{E:Value->Shared->Prop}{s:Shared}{tg:Expr}{it:Addr}{u:Value}{o:Obj}{n:String}{vs:Array Value}{Q:Unit->Shared->Prop}(ho:s.heap.get? it=some o)(hc:o.cls = .type n)(hd:o.data = .fields vs)
    (hn:["enumerate","zip","dict_itemiterator","dict_reverseitemiterator","odict_iterator","itertools.zip_longest","itertools.pairwise"].contains n=false) (hQ:Q () s):wpAny M A (letOwnedTupleGo tg (.ref it) u) Q E s:=by
  unfold letOwnedTupleGo;cases tg<;>first
    | exact wpAny_pure hQ
    | (cases u<;>first
        | exact wpAny_pure hQ
        | (refine wpAny_bind (wpAny_load ho ?_)
           rw[hc,hd];show wpAny M A (if(["enumerate","zip","dict_itemiterator","dict_reverseitemiterator","odict_iterator","itertools.zip_longest","itertools.pairwise"].contains n&&vs[0]?==some (rawInt _))=true then _ else _) Q E s;rw[if_neg (by intro h;rw[hn,Bool.false_and]at h;cases h)];exact wpAny_pure hQ))
def Itl(K:Frg)(a:Addr):It:=
 ⟨fun i H=>∃xs x,SqL K H a xs/\xs[i]?=some x,fun i H x H'=>H'=H/\∀xs,SqL K H a xs->xs[i]?=some x,fun i H=>∃xs,SqL K H a xs/\xs.length<=i⟩
def Itt(K:Frg)(a:Addr):It:=
 ⟨fun i H=>∃xs x,SqT K H a xs/\xs[i]?=some x,fun i H x H'=>H'=H/\∀xs,SqT K H a xs->xs[i]?=some x,fun i H=>∃xs,SqT K H a xs/\xs.length<=i⟩
def Itr(lo:Int)(n:Nat):It:=⟨fun i _=>i<n,fun i H x H'=>H'=H/\x = .int (lo+i),fun i _=>n<=i⟩
theorem j0R{P:Program}{w:World}{K:Frg}{tg:Expr}(a it:Addr):Turn P w K tg (Itl K a) [it] it (fun i h=>h.IsListIter it a i) where
 mem:=by simp
 obj:=fun i h st b hb=>by
  have e:b=it:=by simpa using hb
  subst e;obtain⟨o,e,c,d⟩:=st;exact⟨o,e,fun v z=>by rw[d]at z;cases z⟩
 keep:=fun i h h' st k=>st.at fun o e=>k it (by simp) o e
 item:=by
  intro X hP hw hK hc i pins s σ H E I hf st hg;subst hP hw hK;obtain⟨xs,x,hq,hx⟩:=hg;obtain⟨its,rv,p,hz⟩:=I.list hq;obtain⟨u,hu,ru⟩:=rv.get hx;obtain⟨f0,f1,f2,f3,f4,f5⟩:=hf it (by simp);refine wpAny_pyNext_list_item st p.isList (x:=u) (by simpa using hu) fun h' st' sb=>?_
  have I1:Inv X pins σ H {s with heap:=h'}:=I.turned (t':=s.toks) (fun b o hb e=>(sb.2 b hb).trans e) f0 f1 f3 f4 f5;obtain⟨o,e,c,d⟩:=id st';exact⟨u,rfl,XW (s:={s with heap:=h'}) e c d (by decide) ⟨x,H,I1,ru,⟨rfl,fun ys hy=>by rw[I.list_inj hy hq];exact hx⟩,st',fun b hb=>(hf b hb).1⟩⟩
 done:=by
  intro X hP hw hK hc i pins s σ H E I hf st hg;subst hP hw hK;obtain⟨xs,hq,hx⟩:=hg;obtain⟨its,rv,p,hz⟩:=I.list hq;obtain⟨f0,f1,f2,f3,f4,f5⟩:=hf it (by simp);have hl:=rv.length;exact wpAny_pyNext_list_end (I.ok.hd hc) st p.isList (by simp;omega) fun h' eb=>⟨rfl,I.turned (t':=s.toks) (fun b o hb e=>eb b o hb e) f0 f1 f3 f4 f5⟩
 self:=fun _ _ _ _ _ st h=>wpAny_pyIter_listiter st h
theorem Xz{P:Program}{w:World}{K:Frg}{tg:Expr}(a it:Addr):Turn P w K tg (Itt K a) [it] it (fun i h=>h.IsTupleIter it a i) where
 mem:=by simp
 obj:=fun i h st b hb=>by
  have e:b=it:=by simpa using hb
  subst e;obtain⟨o,e,c,d⟩:=st;exact⟨o,e,fun v z=>by rw[d]at z;cases z⟩
 keep:=fun i h h' st k=>st.at fun o e=>k it (by simp) o e
 item:=by
  intro X hP hw hK hc i pins s σ H E I hf st hg;subst hP hw hK;obtain⟨xs,x,hq,hx⟩:=hg;obtain⟨its,rv,p,hz⟩:=I.tuple hq;obtain⟨u,hu,ru⟩:=rv.get hx;obtain⟨f0,f1,f2,f3,f4,f5⟩:=hf it (by simp);refine wpAny_pyNext_tuple_item st (show s.heap.IsTuple a its.toArray from p) (x:=u) (by simpa using hu) fun h' st' sb=>?_
  have I1:Inv X pins σ H {s with heap:=h'}:=I.turned (t':=s.toks) (fun b o hb e=>(sb.2 b hb).trans e) f0 f1 f3 f4 f5;obtain⟨o,e,c,d⟩:=id st';exact⟨u,rfl,XW (s:={s with heap:=h'}) e c d (by decide) ⟨x,H,I1,ru,⟨rfl,fun ys hy=>by rw[I.tuple_inj hy hq];exact hx⟩,st',fun b hb=>(hf b hb).1⟩⟩
 done:=by
  intro X hP hw hK hc i pins s σ H E I hf st hg;subst hP hw hK;obtain⟨xs,hq,hx⟩:=hg;obtain⟨its,rv,p,hz⟩:=I.tuple hq;obtain⟨f0,f1,f2,f3,f4,f5⟩:=hf it (by simp);have hl:=rv.length;exact wpAny_pyNext_tuple_end (I.ok.hd hc) st (show s.heap.IsTuple a its.toArray from p) (by simp;omega) fun h' eb=>⟨rfl,I.turned (t':=s.toks) (fun b o hb e=>eb b o hb e) f0 f1 f3 f4 f5⟩
 self:=fun _ _ _ _ _ st h=>wpAny_pyIter_tupleiter st h
theorem Xy{P:Program}{w:World}{K:Frg}{tg:Expr}(it:Addr)(lo:Int)(n:Nat):Turn P w K tg (Itr lo n) [it] it (fun i h=>IsRangeIter h it (lo+(i:Nat)*1) ((n:Int)-(i:Nat)) 1) where
 mem:=by simp
 obj:=fun i h st b hb=>by
  have e:b=it:=by simpa using hb
  subst e;exact⟨_,st,fun v z=>by
   have z':Data.fields _=Data.cell v:=z;cases z'⟩
 keep:=fun i h h' st k=>k it (by simp) _ st
 item:=by
  intro X hP hw hK hc i pins s σ H E I hf st hg;subst hP hw hK;obtain⟨f0,f1,f2,f3,f4,f5⟩:=hf it (by simp);have W:=Walks.range (prog:=X.prog) (w:=X.w) (I.ok.hd hc) it lo 1 n;refine W.item i s _ _ hg st fun v h' tk hv st' kk=>?_
  obtain⟨t,rfl⟩:=hv;have I1:Inv X pins σ H {s with heap:=h',toks:=tk}:=I.turned (fun b o hb e=>kk b o (by simpa using hb) e) f0 f1 f3 f4 f5;refine⟨_,rfl,XW (s:={s with heap:=h',toks:=tk}) (n:="range_iterator") st' rfl rfl (by decide) ⟨.int (lo+i),H,I1,⟨t,?_⟩,⟨rfl,rfl⟩,st',fun b hb=>(hf b hb).1⟩⟩;rw[Int.mul_one]
 done:=by
  intro X hP hw hK hc i pins s σ H E I hf st hg;subst hP hw hK;obtain⟨f0,f1,f2,f3,f4,f5⟩:=hf it (by simp);exact wpAny_pyNext_range_end (I.ok.hd hc) st (by have:n<=i:=hg;omega) fun h' eb=>⟨rfl,I.turned (t':=s.toks) (fun b o hb e=>eb b o hb e) f0 f1 f3 f4 f5⟩
 self:=fun _ _ _ _ _ st h=>wpAny_pyIter_rangeiter st h
section
variable{X:Cx}{tg:Expr}
def iList(K:Frg)(tl:TE):TI:=fun σ H R=>tl σ H fun x H1=>∃a,x = .ref a/\(∃xs,SqL K H1 a xs)/\R (Itl K a) H1
def iTup(K:Frg)(tl:TE):TI:=fun σ H R=>tl σ H fun x H1=>∃a,x = .ref a/\(∃xs,SqT K H1 a xs)/\R (Itt K a) H1
theorem jG{l:Expr}{tl:TE}(hl:PE X l tl):PI X tg l (iList X.K tl):=by
 intro pins s σ H R I h;refine thn (hl pins s σ H _ I h) fun v s1 ⟨x,H1,I1,r1,q1⟩=>?_
 obtain⟨a,e,⟨xs,hq⟩,q⟩:=q1;subst e;cases r1;obtain⟨its,rv,p,hz⟩:=I1.list hq;refine wpAny_pyIter_list p.isList ?_;refine⟨s1.heap.objs.size,[s1.heap.objs.size],_,_,H1,rfl,I1.kept (t':=s1.toks) fun b o e=>Heap.get?_push_of_some _ e,j0R a _,⟨_,Heap.get?_push_size _ rfl,rfl,rfl⟩,fun b hb=>?_,q⟩;have e:b=s1.heap.objs.size:=by simpa using hb
 subst e;exact I1.fpOk (Nat.le_refl _) (I1.hok.fresh (Nat.le_refl _))
theorem j43{l:Expr}{tl:TE}(hl:PE X l tl):PI X tg l (iTup X.K tl):=by
 intro pins s σ H R I h;refine thn (hl pins s σ H _ I h) fun v s1 ⟨x,H1,I1,r1,q1⟩=>?_
 obtain⟨a,e,⟨xs,hq⟩,q⟩:=q1;subst e;cases r1;obtain⟨its,rv,p,hz⟩:=I1.tuple hq;refine wpAny_pyIter_tuple (show s1.heap.IsTuple a its.toArray from p) ?_;refine⟨s1.heap.objs.size,[s1.heap.objs.size],_,_,H1,rfl,I1.kept (t':=s1.toks) fun b o e=>Heap.get?_push_of_some _ e,Xz a _,⟨_,Heap.get?_push_size _ rfl,rfl,rfl⟩,fun b hb=>?_,q⟩;have e:b=s1.heap.objs.size:=by simpa using hb
 subst e;exact I1.fpOk (Nat.le_refl _) (I1.hok.fresh (Nat.le_refl _))
theorem W6{pins:List (Addr×Obj)}{σ:St}{H:Hp}{s:Shared}{R:It->Hp->Prop}{E:Value->Shared->Prop}{lo hi:Int}{t u v:Tok}{tk:Nat}(I:Inv X pins σ H s)(h1 : -(2^62)<=lo)(h2:lo<2^62)(h3 : -(2^62)<=hi)(h4:hi<2^62)
  (q:R (Itr lo (hi-lo).toNat) H):wpAny (model X.prog X.w) X.A (pyIter (.ref s.heap.objs.size)) (PIE X pins σ tg R) E {s with heap:=s.heap.push {cls:=.type "range",data:=.fields #[.int lo t,.int hi u,.int 1 v]},toks:=tk}:=by
 refine wpAny_pyIter_range (IsRange.new ..) (small_one h1 h2 h3 h4) ?_;have I1:Inv X pins σ H {s with heap:=s.heap.push {cls:=.type "range",data:=.fields #[.int lo t,.int hi u,.int 1 v]},toks:=tk}:=I.kept fun b o e=>Heap.get?_push_of_some _ e
 refine⟨(s.heap.push {cls:=.type "range",data:=.fields #[.int lo t,.int hi u,.int 1 v]}).objs.size,[(s.heap.push {cls:=.type "range",data:=.fields #[.int lo t,.int hi u,.int 1 v]}).objs.size],_,_,H,rfl,
  I1.kept (t':=tk) fun b o e=>Heap.get?_push_of_some _ e,Xy _ lo (hi-lo).toNat,?_,fun b hb=>?_,q⟩
 ·have e1:lo+((0:Nat):Int)*1=lo:=by simp
  have e2:(((hi-lo).toNat:Nat):Int)-((0:Nat):Int)=Builtin.Range.rangeSize lo hi 1:=by rw[rangeSize_one];split<;>omega
  show IsRangeIter _ _ (lo+((0:Nat):Int)*1) ((((hi-lo).toNat:Nat):Int)-((0:Nat):Int)) 1;rw[e1,e2];exact Heap.get?_push_size _ rfl
 ·have e:b=(s.heap.push {cls:=.type "range",data:=.fields #[.int lo t,.int hi u,.int 1 v]}).objs.size:=by simpa using hb
  subst e;exact I1.fpOk (Nat.le_refl _) (I1.hok.fresh (Nat.le_refl _))
def iRng1(ta:TA):TI:=fun σ H R=>ta σ H fun vs H1=>∃j:Int,vs=[.int j]/\-(2^62)<=j/\j<2^62/\R (Itr 0 j.toNat) H1
def iRng2(ta:TA):TI:=fun σ H R=>ta σ H fun vs H1=>∃i j:Int,vs=[.int i,.int j]/\(-(2^62)<=i/\i<2^62/\-(2^62)<=j/\j<2^62)/\R (Itr i (j-i).toNat) H1
theorem JU{a:Expr}{ta:TA}{p pos:Pos}(hg:Gl X "range")(hm:X.mg "range"= none)(ha:PA X [a] ta)(hs:starEach [a] X.env=[(false,eval a X.env)]:=by rfl):PI X tg (.Call (.Name "range" p) [a] [] pos) (iRng1 ta):=by
 intro pins s σ H R I h;refine Call_ (qQ I hg hm boot_range (PyProof.Rows.callWith_type1 (thn (ha pos pins s σ H _ I h) fun us s1 ⟨vs,H1,I1,r1,q1⟩=>?_) hs rfl));obtain⟨j,e,q1,q2,q⟩:=q1;subst e;cases r1 with
 | cons r rr=>
  cases rr;obtain⟨t,rfl⟩:=r;exact call_range_1 (W6 I1 (by omega) (by omega) q1 q2 (by simpa using q))
theorem j0F{a b:Expr}{ta:TA}{p pos:Pos}(hg:Gl X "range")(hm:X.mg "range"= none)(ha:PA X [a,b] ta)(hs:starEach [a,b] X.env=[(false,eval a X.env),(false,eval b X.env)]:=by rfl)(hs2:starEach [b] X.env=[(false,eval b X.env)]:=by rfl) :
  PI X tg (.Call (.Name "range" p) [a,b] [] pos) (iRng2 ta):=by
 intro pins s σ H R I h;refine Call_ (qQ I hg hm boot_range (PyProof.Rows.callWith_type1 (thn (ha pos pins s σ H _ I h) fun us s1 ⟨vs,H1,I1,r1,q1⟩=>?_) (by rw[hs,hs2]) (by rw[hs2];rfl)));obtain⟨i,j,e,⟨q1,q2,q3,q4⟩,q⟩:=q1;subst e;cases r1 with
 | cons r rr=>
  cases rr with
  | cons r' rr=>
   cases rr;obtain⟨t,rfl⟩:=r;obtain⟨t',rfl⟩:=r';exact call_range_2 (W6 I1 q1 q2 q3 q4 q)
def tFor(wi:TI)(g:TG)(tb:TS):TS:=fun D σ H=>wi σ H fun J H1=>∃W:Nat->Nat->St->Hp->Prop,(∃m,W 0 m σ H1)/\∀i m σ H,W i m σ H->
 (J.stop i H/\D.nx σ H)\/(J.go i H/\∃N:St->Hp->Prop,(∀σ' H',N σ' H'->∃m',m'<m/\W (i+1) m' σ' H')/\∀x H',J.yld i H x H'->g x σ H' fun σ2 H2=>tb {D with nx:=N,ct:=N,bk:=D.nx} σ2 H2)
noncomputable def pinsAt(fp:List Addr)(h:Heap):List (Addr×Obj):=fp.filterMap fun b=>(h.get? b).map fun o=>(b,o)
theorem zE{fp:List Addr}{h:Heap}{b:Addr}{o:Obj}(hb:b∈fp)(e:h.get? b=some o):(b,o)∈pinsAt fp h:=List.mem_filterMap.mpr ⟨b,hb,by rw[e];rfl⟩
theorem j0B{fp:List Addr}{h:Heap}{p:Addr×Obj}(hp:p∈pinsAt fp h):p.1∈fp/\h.get? p.1=some p.2:=by
 obtain⟨b,hb,e⟩:=List.mem_filterMap.mp hp;cases q:h.get? b with
 | none=>rw[q]at e;cases e
 | some o=>
  rw[q]at e;have e':(b,o)=p:=Option.some.inj e;subst e';exact⟨hb,q⟩
theorem Inv.pinned{pins:List (Addr×Obj)}{σ:St}{H:Hp}{s:Shared}{fp:List Addr}(I:Inv X pins σ H s)(hf:∀b∈fp,FpOk X pins H b)(ho:∀b∈fp,∃o,s.heap.get? b=some o/\∀v,o.data≠.cell v):Inv X (pins++pinsAt fp s.heap) σ H s:=
 I.pins_of fun p hp=>(mem_append.mp hp).elim (fun z=>I.pin p (mem_append_right _ z)) fun z=>by
  obtain⟨hb,e⟩:=j0B z;obtain⟨f0,f1,f2,_⟩:=hf p.1 hb;obtain⟨o,e',d⟩:=ho p.1 hb;rw[e]at e';cases e';exact⟨e,f0,f1,f2,d⟩
theorem Inv.unpinned{pins pl:List (Addr×Obj)}{σ:St}{H:Hp}{s:Shared}(I:Inv X (pins++pl) σ H s):Inv X pins σ H s:=I.pins_of fun p hp=>I.pin p (mem_append_right _ (mem_append_left _ hp))
theorem j7{iter:Expr}{body:List Stmt}{wi:TI}{g:TG}{tb:TS}{pos:Pos}(hp:PassesOwn (model X.prog X.w) X.A X.env X.xe)(hc:X.calm=true)(hi:PI X tg iter wi)(hg:PG X tg g)(hb:PSs X body tb)
  (hs:∀x,foldedSetIterable iter X.env x=pure x:=by intro _;rfl):PS X (.For tg iter body [] pos) (tFor wi g tb):=by
 intro pins s σ H D I h;refine wpAny_For (thn (hi pins s σ H _ I h) fun v s1 h1=>thn h1 fun itv s2 h2=>?_) hs;obtain⟨it,fp,tn,J,H2,e,I2,T,st2,f2,W,⟨m0,w0⟩,turn⟩:=h2;subst e;have stat:∀{H':Hp},(∀b∈fp,H' b=none)->∀b∈fp,FpOk X pins H' b:=fun hn b hb=>⟨hn b hb,(f2 b hb).2⟩
 refine codeAny_forLoop_any (fun n s'=>∃i σ' H',Inv X pins σ' H' s'/\tn i s'.heap/\(∀b∈fp,H' b=none)/\W i n σ' H') ?_ m0 ⟨0,σ,H2,I2,st2,fun b hb=>(f2 b hb).1,w0⟩;rintro n s3 ⟨i,σ3,H3,I3,st3,fr3,w3⟩;rcases turn i n σ3 H3 w3 with⟨stop,qn⟩ | ⟨go,N,hN,step⟩
 ·refine wpAny_passesOwn hp (thn (T.done X rfl rfl rfl hc i pins s3 σ3 H3 X.xe I3 (stat fr3) st3 stop) fun r s4 ⟨hr,I4⟩=>?_);subst hr;exact wpAny_execs_nil ⟨σ3,H3,I4,qn⟩
 ·refine wpAny_passesOwn hp (thn (T.item X rfl rfl rfl hc i pins s3 σ3 H3 X.xe I3 (stat fr3) st3 go) fun r s4 ⟨u,hr,h4⟩=>?_);subst hr;refine wpAny_passesOwn hp (thn h4 fun _ s5 ⟨x,H5,I5,r5,y5,st5,fr5⟩=>?_);have I5':=I5.pinned (stat fr5) (T.obj _ _ st5);refine wpAny_passesOwn hp (thn (hg _ s5 σ3 H5 x u _ I5' r5 (step x H5 y5)) fun _ s6 ⟨σ6,H6,I6,q6⟩=>?_);refine wpAny_passesOwn hp (thn (hb _ s6 σ6 H6 _ I6 q6) fun f s7 q7=>?_);have again:∀{σ7:St} {H7:Hp},Inv X (pins++pinsAt fp s5.heap) σ7 H7 s7->N σ7 H7->∃m,m<n/\∃i σ' H',Inv X pins σ' H' s7/\tn i s7.heap/\(∀b∈fp,H' b=none)/\W i m σ' H':=fun {σ7 H7} I7 n7=>by
   obtain⟨m',hm,w7⟩:=hN σ7 H7 n7;refine⟨m',hm,i+1,σ7,H7,I7.unpinned,T.keep _ _ _ st5 fun b hb o e=>(I7.pin (b,o) (mem_append_right _ (mem_append_right _ (zE hb e)))).1,fun b hb=>?_,w7⟩;obtain⟨o,e,d⟩:=T.obj _ _ st5 b hb;exact(I7.pin (b,o) (mem_append_right _ (mem_append_right _ (zE hb e)))).2.1
  cases f with
  | next=>obtain⟨σ7,H7,I7,n7⟩:=q7;exact again I7 n7
  | cont=>obtain⟨σ7,H7,I7,n7⟩:=q7;exact again I7 n7
  | brk=>obtain⟨σ7,H7,I7,q7⟩:=q7;exact⟨σ7,H7,I7.unpinned,q7⟩
  | ret v=>obtain⟨x7,σ7,H7,I7,r7,q7⟩:=q7;exact⟨x7,σ7,H7,I7.unpinned,r7,q7⟩
end
theorem j9{K:Frg}{a:Addr}{xs:List V}{g:TG}{tb:TS}{D:Ends}{σ:St}{H:Hp}(Pv:Nat->St->Hp->Prop)(h0:Pv 0 σ H)(hl:∀i σ H,i<=xs.length->Pv i σ H->SqL K H a xs)
  (hs:∀i x σ H,xs[i]?=some x->Pv i σ H->g x σ H fun σ2 H2=>tb {D with nx:=Pv (i+1),ct:=Pv (i+1),bk:=D.nx} σ2 H2) (hd:∀σ H,Pv xs.length σ H->D.nx σ H) :
  ∃W:Nat->Nat->St->Hp->Prop,(∃m,W 0 m σ H)/\∀i m σ H,W i m σ H->
   ((Itl K a).stop i H/\D.nx σ H)\/((Itl K a).go i H/\∃N:St->Hp->Prop,(∀σ' H',N σ' H'->∃m',m'<m/\W (i+1) m' σ' H')/\∀x H',(Itl K a).yld i H x H'->g x σ H' fun σ2 H2=>tb {D with nx:=N,ct:=N,bk:=D.nx} σ2 H2):=by
 refine⟨fun i m σ H=>m=xs.length-i/\i<=xs.length/\Pv i σ H,⟨xs.length,by simp,Nat.zero_le _,h0⟩,?_⟩;rintro i m σ H ⟨rfl,hi,p⟩;have q:=hl i σ H hi p;by_cases hlt:i<xs.length
 ·refine .inr ⟨⟨xs,xs[i],q,by simp[hlt]⟩,Pv (i+1),fun σ' H' p'=>⟨xs.length-(i+1),by omega,rfl,hlt,p'⟩,fun x H' y=>?_⟩;obtain⟨e,y⟩:=y;subst e;exact hs i x σ _ (y xs q) p
 ·have e:i=xs.length:=by omega
  subst e;exact .inl ⟨⟨xs,q,Nat.le_refl _⟩,hd σ H p⟩
theorem Zv{lo:Int}{n:Nat}{g:TG}{tb:TS}{D:Ends}{σ:St}{H:Hp}(Pv:Nat->St->Hp->Prop)(h0:Pv 0 σ H)
  (hs:∀i σ H,i<n->Pv i σ H->g (.int (lo+i)) σ H fun σ2 H2=>tb {D with nx:=Pv (i+1),ct:=Pv (i+1),bk:=D.nx} σ2 H2) (hd:∀σ H,Pv n σ H->D.nx σ H) :
  ∃W:Nat->Nat->St->Hp->Prop,(∃m,W 0 m σ H)/\∀i m σ H,W i m σ H->
   ((Itr lo n).stop i H/\D.nx σ H)\/((Itr lo n).go i H/\∃N:St->Hp->Prop,(∀σ' H',N σ' H'->∃m',m'<m/\W (i+1) m' σ' H')/\∀x H',(Itr lo n).yld i H x H'->g x σ H' fun σ2 H2=>tb {D with nx:=N,ct:=N,bk:=D.nx} σ2 H2):=by
 refine⟨fun i m σ H=>m=n-i/\i<=n/\Pv i σ H,⟨n,by simp,Nat.zero_le _,h0⟩,?_⟩;rintro i m σ H ⟨rfl,hi,p⟩;by_cases hlt:i<n
 ·refine .inr ⟨hlt,Pv (i+1),fun σ' H' p'=>⟨n-(i+1),by omega,rfl,hlt,p'⟩,fun x H' y=>?_⟩;obtain⟨e,y⟩:=y;subst e y;exact hs i σ _ hlt p
 ·have e:i=n:=by omega
  subst e;exact .inl ⟨Nat.le_refl _,hd σ H p⟩
noncomputable abbrev R2:=V->V->Hp->VK->Prop
def OpR(X:Cx)(f:Value->Value->Sem Value)(r:R2):Prop:=
 ∀(pins:List (Addr×Obj)) (s:Shared) (σ:St) (H:Hp) (x y:V) (v u:Value) (Q:VK),Inv X pins σ H s->RelV x v->RelV y u->r x y H Q->
  wpAny (model X.prog X.w) X.A (f v u) (EP X pins σ Q) X.xe s
def UnR(X:Cx)(f:Value->Sem Value)(r:V->Hp->VK->Prop):Prop:=
 ∀(pins:List (Addr×Obj)) (s:Shared) (σ:St) (H:Hp) (x:V) (v:Value) (Q:VK),Inv X pins σ H s->RelV x v->r x H Q->
  wpAny (model X.prog X.w) X.A (f v) (EP X pins σ Q) X.xe s
def CallR(X:Cx)(f:Value)(r:List V->Hp->VK->Prop):Prop:=
 ∀(pins:List (Addr×Obj)) (s:Shared) (σ:St) (H:Hp) (xs:List V) (us:List Value) (Q:VK),Inv X pins σ H s->Vals xs us->r xs H Q->
  wpAny (model X.prog X.w) X.A (call f us) (EP X pins σ Q) X.xe s
def TruR(X:Cx)(r:V->Hp->(Bool->Hp->Prop)->Prop):Prop:=
 ∀(pins:List (Addr×Obj)) (s:Shared) (σ:St) (H:Hp) (x:V) (v:Value) (Q:Bool->Hp->Prop),Inv X pins σ H s->RelV x v->r x H Q->
  wpAny (model X.prog X.w) X.A (truthy v) (TP X pins σ Q) X.xe s
def tOp(r:R2)(ta tb:TE):TE:=fun σ H Q=>ta σ H fun x H1=>tb σ H1 fun y H2=>r x y H2 Q
def tUn(r:V->Hp->VK->Prop)(ta:TE):TE:=fun σ H Q=>ta σ H fun x H1=>r x H1 Q
def rI(C:Int->Int->Prop)(g:Int->Int->V):R2:=fun x y H Q=>∃i j,x = .int i/\y = .int j/\C i j/\Q (g i j) H
def rI0(g:Int->Int->V):R2:=fun x y H Q=>∃i j,x = .int i/\y = .int j/\Q (g i j) H
noncomputable def rU(g:Int->V):V->Hp->VK->Prop:=fun x H Q=>∃i,x = .int i/\Q (g i) H
section
variable{X:Cx}{a b c:Expr}{ta tb tc:TE}{pos:Pos}
theorem binT(ha:PE X a ta)(hb:PE X b tb){pins:List (Addr×Obj)}{s:Shared}{σ:St}{H:Hp}{R:V->V->Hp->Prop}(I:Inv X pins σ H s)
  (h:ta σ H fun x H1=>tb σ H1 fun y H2=>R x y H2) {Q:Value->Shared->Prop} {f:Value->Value->Sem Value}
  (hf:∀v u s2 x y H2,Inv X pins σ H2 s2->RelV x v->RelV y u->R x y H2->wpAny (model X.prog X.w) X.A (f v u) Q X.xe s2) :
  wpAny (model X.prog X.w) X.A (eval a X.env) (fun v s₁=>wpAny (model X.prog X.w) X.A (eval b X.env) (fun u s₂=>wpAny (model X.prog X.w) X.A (f v u) Q X.xe s₂) X.xe s₁) X.xe s:=by
 refine thn (ha pins s σ H _ I h) fun v s1 ⟨x,H1,I1,r1,q1⟩=>?_
 refine thn (hb pins s1 σ H1 _ I1 q1) fun u s2 ⟨y,H2,I2,r2,q2⟩=>?_
 exact hf v u s2 x y H2 I2 r1 r2 q2
theorem jp{op:Operator}{r:R2}(ho:OpR X (binaryOp op) r)(ha:PE X a ta)(hb:PE X b tb):PE X (.BinOp a op b pos) (tOp r ta tb):=by
 intro pins s σ H Q I h;exact wpAny_BinOp (binT ha hb I h fun v u s2 x y H2 I2 rx ry q=>ho pins s2 σ H2 x y v u Q I2 rx ry q)
theorem zo{op:UnaryOp}{r:V->Hp->VK->Prop}(ho:UnR X (unaryOp op) r)(ha:PE X a ta):PE X (.UnaryOp op a pos) (tUn r ta):=by
 intro pins s σ H Q I h;exact UnaryOp_ (thn (ha pins s σ H _ I h) fun v s1 ⟨x,H1,I1,r1,q1⟩=>ho pins s1 σ H1 x v Q I1 r1 q1)
theorem opI{f:Value->Value->Sem Value}{C:Int->Int->Prop}{g:Int->Int->Int}
  (rule:∀(i j:Int) (t u:Tok) (s:Shared) (Q:Value->Shared->Prop) (E:Value->Shared->Prop),C i j->Q (.int (g i j) s.toks) {s with toks:=s.toks+1}->wpAny (model X.prog X.w) X.A (f (.int i t) (.int j u)) Q E s) :
  OpR X f (rI C fun i j=>.int (g i j)):=by
 intro pins s σ H x y v u Q I rx ry h;obtain⟨i,j,rfl,rfl,hc,q⟩:=h;obtain⟨t,rfl⟩:=rx;obtain⟨t',rfl⟩:=ry;exact rule i j t t' s _ _ hc ⟨.int (g i j),H,I.tok _,⟨_,rfl⟩,q⟩
theorem opI0{f:Value->Value->Sem Value}{g:Int->Int->Int}
  (rule:∀(i j:Int) (t u:Tok) (s:Shared) (Q:Value->Shared->Prop) (E:Value->Shared->Prop),Q (.int (g i j) s.toks) {s with toks:=s.toks+1}->wpAny (model X.prog X.w) X.A (f (.int i t) (.int j u)) Q E s) :
  OpR X f (rI0 fun i j=>.int (g i j)):=by
 intro pins s σ H x y v u Q I rx ry h;obtain⟨i,j,rfl,rfl,q⟩:=h;obtain⟨t,rfl⟩:=rx;obtain⟨t',rfl⟩:=ry;exact rule i j t t' s _ _ ⟨.int (g i j),H,I.tok _,⟨_,rfl⟩,q⟩
theorem opB0{f:Value->Value->Sem Value}{g:Int->Int->Bool}
  (rule:∀(i j:Int) (t u:Tok) (s:Shared) (Q:Value->Shared->Prop) (E:Value->Shared->Prop),Q (.bool (g i j)) s->wpAny (model X.prog X.w) X.A (f (.int i t) (.int j u)) Q E s) :
  OpR X f (rI0 fun i j=>.bl (g i j)):=by
 intro pins s σ H x y v u Q I rx ry h;obtain⟨i,j,rfl,rfl,q⟩:=h;obtain⟨t,rfl⟩:=rx;obtain⟨t',rfl⟩:=ry;exact rule i j t t' s _ _ ⟨.bl (g i j),H,I,rfl,q⟩
def CPow(i j:Int):Prop:=0<=j/\j<=1000000/\i.natAbs<2^64
def CMul(i j:Int):Prop:=(-(2^64)<i/\i<2^64)\/(-(2^64)<j/\j<2^64)
theorem CMul.ok{i j:Int}(h:CMul i j):IntMulOk i j:=by
 rcases h with⟨h1,h2⟩ | ⟨h1,h2⟩
 ·exact .of_left (intBits_le_64 h1 h2)
 ·exact .of_right (intBits_le_64 h1 h2)
theorem jQ:OpR X (binaryOp .Add) (rI0 fun i j=>.int (i+j)):=opI0 fun _ _ _ _ _ _ _ q=>add_int q
theorem Qw:OpR X (binaryOp .Sub) (rI0 fun i j=>.int (i-j)):=opI0 fun _ _ _ _ _ _ _ q=>sub_int q
theorem Jp:OpR X (binaryOp .Mod) (rI (fun _ j=>0<j) fun i j=>.int (i%j)):=opI fun i j _ _ _ _ _ hc q=>by
 have h1:(0:Int)<j:=hc;exact mod_int' (by omega) (by rw[Int.fmod_eq_emod_of_nonneg i (by omega)];exact q)
theorem wS:OpR X (binaryOp .Pow) (rI CPow fun i j=>.int (i^j.toNat)):=opI fun _ _ _ _ _ _ _ hc q=>pow_int_small hc.1 hc.2.1 hc.2.2 q
theorem unI{f:Value->Sem Value}{g:Int->Int}
  (rule:∀(i:Int) (t:Tok) (s:Shared) (Q:Value->Shared->Prop) (E:Value->Shared->Prop),Q (.int (g i) s.toks) {s with toks:=s.toks+1}->wpAny (model X.prog X.w) X.A (f (.int i t)) Q E s) :
  UnR X f (rU fun i=>.int (g i)):=by
 intro pins s σ H x v Q I rx h;obtain⟨i,rfl,q⟩:=h;obtain⟨t,rfl⟩:=rx;exact rule i t s _ _ ⟨.int (g i),H,I.tok _,⟨_,rfl⟩,q⟩
theorem qZ:UnR X (unaryOp .USub) (rU fun i=>.int (-i)):=unI fun _ _ _ _ _ q=>neg_int q
end
noncomputable def scal:V->V->Bool
 | .non,.non=>true | .non,.int _=>true | .int _,.non=>true | .non,.bl _=>true | .bl _,.non=>true | .non,.str _=>true | .str _,.non=>true
 | .int _,.int _=>true | .bl _,.bl _=>true | .str _,.str _=>true | .byt _,.byt _=>true
 | .int _,.str _=>true | .str _,.int _=>true | .bl _,.str _=>true | .str _,.bl _=>true
 | _,_=>false
def rEq:R2:=fun x y H Q=>scal x y=true/\Q (.bl (decide (x=y))) H
def rNe:R2:=fun x y H Q=>scal x y=true/\Q (.bl (!decide (x=y))) H
theorem XR{i j:Int}:decide (V.int i=V.int j)=(i==j):=by
 rw[Bool.eq_iff_iff];simp
theorem j19{i j:Bool}:decide (V.bl i=V.bl j)=(i==j):=by
 rw[Bool.eq_iff_iff];simp
theorem XS{i j:Str}:decide (V.str i=V.str j)=(i==j):=by
 rw[Bool.eq_iff_iff];simp
theorem XQ{i j:Array UInt8}:decide (V.byt i=V.byt j)=(i.toList==j.toList):=by
 rw[Bool.eq_iff_iff];cases i;cases j;simp
section
variable{X:Cx}{a b c:Expr}{ta tb tc:TE}{pos:Pos}
theorem jT{pins:List (Addr×Obj)}{σ:St}{H:Hp}{s:Shared}{Q:VK}{k k':Bool}(I:Inv X pins σ H s)(q:Q (.bl k) H)(e:k=k'):EP X pins σ Q (.bool k') s:=by
 subst e;exact⟨.bl k,H,I,rfl,q⟩
theorem Jn:OpR X (compareOp .Eq) rEq:=by
 intro pins s σ H x y v u Q I rx ry h;obtain⟨hs,q⟩:=h;cases x with
 | non=>
  cases rx;cases y with
  | non=>cases ry;exact PySem.EqNone.eq_none_none (jT I q (by simp))
  | bl j=>cases ry;exact PySem.EqNone.eq_none_bool (jT I q (by simp))
  | int j=>obtain⟨t',rfl⟩:=ry;exact PySem.EqNone.eq_none_int (jT I q (by simp))
  | str j=>obtain⟨t',rfl⟩:=ry;exact PySem.EqNone.eq_none_str (jT I q (by simp))
  | _=>exact absurd (show false=true from hs) Bool.false_ne_true
 | bl i=>
  cases rx;cases y with
  | non=>cases ry;exact PySem.EqNone.eq_bool_none (jT I q (by simp))
  | bl j=>cases ry;exact eq_bool (jT I q j19)
  | str j=>obtain⟨t',rfl⟩:=ry;exact PySem.EqMixed.eq_bool_str (jT I q (by simp))
  | _=>exact absurd (show false=true from hs) Bool.false_ne_true
 | int i=>
  obtain⟨t,rfl⟩:=rx;cases y with
  | non=>cases ry;exact PySem.EqNone.eq_int_none (jT I q (by simp))
  | int j=>obtain⟨t',rfl⟩:=ry;exact eq_int (jT I q XR)
  | str j=>obtain⟨t',rfl⟩:=ry;exact PySem.EqMixed.eq_int_str (jT I q (by simp))
  | _=>exact absurd (show false=true from hs) Bool.false_ne_true
 | str i=>
  obtain⟨t,rfl⟩:=rx;cases y with
  | non=>cases ry;exact PySem.EqNone.eq_str_none (jT I q (by simp))
  | bl j=>cases ry;exact PySem.EqMixed.eq_str_bool (jT I q (by simp))
  | int j=>obtain⟨t',rfl⟩:=ry;exact PySem.EqMixed.eq_str_int (jT I q (by simp))
  | str j=>obtain⟨t',rfl⟩:=ry;exact eq_str (jT I q XS)
  | _=>exact absurd (show false=true from hs) Bool.false_ne_true
 | byt i=>
  obtain⟨t,rfl⟩:=rx;cases y with
  | byt j=>obtain⟨t',rfl⟩:=ry;exact PySem.W.eq_bytes (jT I q XQ)
  | _=>exact absurd (show false=true from hs) Bool.false_ne_true
 | _=>cases y<;>exact absurd (show false=true from hs) Bool.false_ne_true
theorem X8:OpR X (compareOp .NotEq) rNe:=by
 intro pins s σ H x y v u Q I rx ry h;obtain⟨hs,q⟩:=h;cases x with
 | non=>
  cases rx;cases y with
  | non=>cases ry;exact PySem.EqNone.ne_none_none (jT I q (by simp))
  | bl j=>cases ry;exact PySem.EqNone.ne_none_bool (jT I q (by simp))
  | int j=>obtain⟨t',rfl⟩:=ry;exact PySem.EqNone.ne_none_int (jT I q (by simp))
  | str j=>obtain⟨t',rfl⟩:=ry;exact PySem.EqNone.ne_none_str (jT I q (by simp))
  | _=>exact absurd (show false=true from hs) Bool.false_ne_true
 | bl i=>
  cases rx;cases y with
  | non=>cases ry;exact PySem.EqNone.ne_bool_none (jT I q (by simp))
  | bl j=>cases ry;exact ne_bool (jT I q (congrArg not j19))
  | str j=>obtain⟨t',rfl⟩:=ry;exact PySem.EqMixed.ne_bool_str (jT I q (by simp))
  | _=>exact absurd (show false=true from hs) Bool.false_ne_true
 | int i=>
  obtain⟨t,rfl⟩:=rx;cases y with
  | non=>cases ry;exact PySem.EqNone.ne_int_none (jT I q (by simp))
  | int j=>obtain⟨t',rfl⟩:=ry;exact ne_int (jT I q (congrArg not XR))
  | str j=>obtain⟨t',rfl⟩:=ry;exact PySem.EqMixed.ne_int_str (jT I q (by simp))
  | _=>exact absurd (show false=true from hs) Bool.false_ne_true
 | str i=>
  obtain⟨t,rfl⟩:=rx;cases y with
  | non=>cases ry;exact PySem.EqNone.ne_str_none (jT I q (by simp))
  | bl j=>cases ry;exact PySem.EqMixed.ne_str_bool (jT I q (by simp))
  | int j=>obtain⟨t',rfl⟩:=ry;exact PySem.EqMixed.ne_str_int (jT I q (by simp))
  | str j=>obtain⟨t',rfl⟩:=ry;exact ne_str (jT I q (congrArg not XS))
  | _=>exact absurd (show false=true from hs) Bool.false_ne_true
 | byt i=>
  obtain⟨t,rfl⟩:=rx;cases y with
  | byt j=>obtain⟨t',rfl⟩:=ry;exact PySem.W.ne_bytes (jT I q (congrArg not XQ))
  | _=>exact absurd (show false=true from hs) Bool.false_ne_true
 | _=>cases y<;>exact absurd (show false=true from hs) Bool.false_ne_true
theorem X7:OpR X (compareOp .Lt) (rI0 fun i j=>.bl (decide (i<j))):=opB0 fun _ _ _ _ _ _ _ q=>lt_int q
theorem X6:OpR X (compareOp .LtE) (rI0 fun i j=>.bl (decide (i<=j))):=opB0 fun _ _ _ _ _ _ _ q=>le_int q
theorem Zf:OpR X (compareOp .Gt) (rI0 fun i j=>.bl (decide (j<i))):=opB0 fun _ _ _ _ _ _ _ q=>gt_int q
theorem j4p:OpR X (compareOp .GtE) (rI0 fun i j=>.bl (decide (j<=i))):=opB0 fun _ _ _ _ _ _ _ q=>ge_int q
theorem j34:OpR X (compareOp .IsNot) (fun x y H Q=>y = .non/\Q (.bl (!decide (x = .non))) H):=by
 intro pins s σ H x y v u Q I rx ry h;obtain⟨rfl,q⟩:=h;cases ry;refine isnot_none_gen (jT I q ?_);cases x<;>first
  | (cases rx;rfl)
  | (obtain⟨t,rfl⟩:=rx;rfl)
theorem nomark(b:Expr){op:CmpOp}(h:op≠.In:=by decide)(h2:op≠.NotIn:=by decide):behindInMarks op b=false:=by
 have e1:(op==CmpOp.In)=false:=by cases op<;>first | rfl | exact absurd rfl h
 have e2:(op==CmpOp.NotIn)=false:=by cases op<;>first | rfl | exact absurd rfl h2
 cases b<;>simp[behindInMarks,e1,e2]
theorem wU{op:CmpOp}{r:R2}(ho:OpR X (compareOp op) r)(ha:PE X a ta)(hb:PE X b tb)(hm:behindInMarks op b=false):PE X (.Compare a [op] [b] pos) (tOp r ta tb):=by
 intro pins s σ H Q I h;exact wpAny_Compare1 (binT ha hb I h fun v u s2 x y H2 I2 rx ry q=>ho pins s2 σ H2 x y v u Q I2 rx ry q) hm
def tTest(t:TE):TT:=fun σ H Q=>t σ H fun x H'=>∃k,x = .bl k/\Q k H'
theorem jt{op:CmpOp}{r:R2}(ho:OpR X (compareOp op) r)(ha:PE X a ta)(hb:PE X b tb)(hm:behindInMarks op b=false):PT X (.Compare a [op] [b] pos) (tTest (tOp r ta tb)):=by
 intro pins s σ H Q I h;refine wpAny_isTrue_Compare1 (thn (ha pins s σ H _ I h) fun v s1 ⟨x,H1,I1,r1,q1⟩=>thn (hb pins s1 σ H1 _ I1 q1) fun u s2 ⟨y,H2,I2,r2,q2⟩=>
  thn (ho pins s2 σ H2 x y v u _ I2 r1 r2 q2) fun c s3 ⟨z,H3,I3,r3,k,e,q3⟩=>?_) hm
 subst e;cases r3;exact wpAny_truthy_bool ⟨H3,I3,q3⟩
def tChain(r r':R2)(ta tb tc:TE):TE:=fun σ H Q=>ta σ H fun x H1=>tb σ H1 fun y H2=>r x y H2 fun z H3=>∃k,z = .bl k/\
 (if k=true then tc σ H3 fun w' H4=>r' y w' H4 Q else Q (.bl false) H3)
theorem j1T{op op':CmpOp}{r r':R2}(ho:OpR X (compareOp op) r)(ho':OpR X (compareOp op') r')(ha:PE X a ta)(hb:PE X b tb)(hc:PE X c tc)
  (hm:lastMarks [op,op'] [b,c]=false:=by with_unfolding_all rfl):PT X (.Compare a [op,op'] [b,c] pos) (tTest (tChain r r' ta tb tc)):=by
 intro pins s σ H Q I h;refine isTrue_chain (thn (ha pins s σ H _ I h) fun v s1 ⟨x,H1,I1,r1,q1⟩=>test_link (thn (hb pins s1 σ H1 _ I1 q1) fun u s2 ⟨y,H2,I2,r2,q2⟩=>
  thn (ho pins s2 σ H2 x y v u _ I2 r1 r2 q2) fun d s3 ⟨z,H3,I3,r3,k,e,q3⟩=>?_)) hm
 subst e;cases r3;refine wpAny_truthy_bool ?_;cases k with
 | false=>
  obtain⟨k',e',q'⟩:=q3;cases e';exact ite_ff ⟨H3,I3,q'⟩
 | true=>
  refine ite_tt (test_last (thn (hc pins s3 σ H3 _ I3 q3) fun w' s4 ⟨z',H4,I4,r4,q4⟩=>thn (ho' pins s4 σ H4 y z' u w' _ I4 r2 r4 q4) fun d' s5 ⟨z2,H5,I5,r5,k2,e2,q5⟩=>?_));subst e2;cases r5;exact wpAny_truthy_bool ⟨H5,I5,q5⟩
def TruV(K:Frg)(x:V)(H:Hp)(k:Bool):Prop:=
 match x with
 | .non=>k=false
 | .bl b=>k=b
 | .int i=>k=(i != 0)
 | .str y=>y.length<=sizeLine/\k=((y.length:Int) != 0)
 | .byt y=>y.size<=sizeLine/\k=((y.size:Int) != 0)
 | .ref p=>(∃xs,SqL K H p xs/\k = !xs.isEmpty)\/(∃xs,SqT K H p xs/\k = !xs.isEmpty)\/∃kvs,H p=some (.dK kvs)/\k = !kvs.isEmpty
 | _=>False
theorem xS{κ:Type}{kvs:List (κ×V)}{vs:List (κ×Value)}(r:KV kvs vs):(!vs.isEmpty) = !kvs.isEmpty:=by
 cases r<;>rfl
theorem Y9{xs:List V}{its:List Value}(r:Vals xs its):(!its.toArray.isEmpty) = !xs.isEmpty:=by
 cases r<;>simp
theorem line63:(sizeLine:Nat)<2^63:=by rw[sizeLine_eq];decide
theorem j4d:TruR X (fun x H Q=>∃k,TruV X.K x H k/\Q k H):=by
 intro pins s σ H x v Q I rx h;obtain⟨k,e,q⟩:=h;have hl:=line63;have hs:sizeLine=16777216:=sizeLine_eq;cases x with
 | non=>
  cases rx;have e':k=false:=e;subst e';exact truthy_none ⟨H,I,q⟩
 | bl b=>
  cases rx;have e':k=b:=e;subst e';exact wpAny_truthy_bool ⟨H,I,q⟩
 | int i=>
  obtain⟨t,rfl⟩:=rx;have e':k=(i != 0):=e;subst e';exact PySem.P.truthy_int ⟨H,I,q⟩
 | str y=>
  obtain⟨t,rfl⟩:=rx;obtain⟨hy,e'⟩:y.length<=sizeLine/\k=((y.length:Int) != 0):=e;subst e';exact PySem.P.truthy_str (by omega) ⟨H,I.tok _,q⟩
 | byt y=>
  obtain⟨t,rfl⟩:=rx;obtain⟨hy,e'⟩:y.size<=sizeLine/\k=((y.size:Int) != 0):=e;subst e';exact PySem.W.truthy_bytes (by omega) ⟨H,I.tok _,q⟩
 | ref p=>
  cases rx;have e':(∃xs,SqL X.K H p xs/\k = !xs.isEmpty)\/(∃xs,SqT X.K H p xs/\k = !xs.isEmpty)\/∃kvs,H p=some (.dK kvs)/\k = !kvs.isEmpty:=e;rcases e' with⟨xs,hx,e'⟩ | ⟨xs,hx,e'⟩ | ⟨kvs,hx,e'⟩
  ·subst e';obtain⟨its,r,pl,hz⟩:=I.list hx;have hlen:=r.length;exact wpAny_truthy_list pl.isList (by simp only[size_toArray];omega) ⟨H,I.tok _,by rw[Y9 r];exact q⟩
  ·subst e';obtain⟨its,r,pl,hz⟩:=I.tuple hx;have hlen:=r.length;exact truthy_tuple pl (by simp only[size_toArray];omega) ⟨H,I.tok _,by rw[Y9 r];exact q⟩
  ·subst e';obtain⟨hz,hS,vs,r,m⟩:kvs.length<=sizeLine/\(p==sysModules)=false/\∃vs,KV kvs vs/\s.heap.DictOf (mixKind X.prog X.w) p vs:=I.hok p _ hx;have hlen:kvs.length=vs.length:=Paired.length r;exact wpAny_truthy_dict hS m (by omega) ⟨H,I.tok _,by rw[xS r];exact q⟩
 | _=>exact(show False from e).elim
theorem j1U(ha:PE X a ta)(he:∀whole,isTrue a X.env whole=(do let v <-whole;standAt a.pos;holding [v] (truthy v))) :
  PT X a (fun σ H Q=>ta σ H fun x H'=>∃k,TruV X.K x H' k/\Q k H'):=by
 intro pins s σ H Q I h;exact isTrue_plain (thn (ha pins s σ H _ I h) fun v s1 ⟨x,H1,I1,r1,q1⟩=>j4d pins s1 σ H1 x v Q I1 r1 q1) (he _)
theorem zF:OpR X (binaryOp .Add) (fun x y H Q=>∃i j,x = .str i/\y = .str j/\i.length+j.length<=sizeLine/\Q (.str (i++j)) H):=by
 intro pins s σ H x y v u Q I rx ry h;obtain⟨i,j,rfl,rfl,hz,q⟩:=h;obtain⟨t,rfl⟩:=rx;obtain⟨t',rfl⟩:=ry;exact add_str (fun t' tk=>⟨.str (i++j),H,I.tok _,⟨_,rfl⟩,q⟩) hz
theorem vals1{x:V}{us:List Value}(r:Vals [x] us):∃u,us=[u]/\RelV x u:=by
 cases r with
 | cons r1 r2=>cases r2;exact⟨_,rfl,r1⟩
theorem vals2{x y:V}{us:List Value}(r:Vals [x,y] us):∃u w',us=[u,w']/\RelV x u/\RelV y w':=by
 cases r with
 | cons r1 r2=>
  cases r2 with
  | cons r3 r4=>cases r4;exact⟨_,_,rfl,r1,r3⟩
theorem j0e(hc:X.calm=true):CallR X (.builtin "max") (fun xs H Q=>∃i j,xs=[.int i,.int j]/\Q (.int (if j>i then j else i)) H):=by
 intro pins s σ H xs us Q I r h;obtain⟨i,j,rfl,q⟩:=h;obtain⟨u,w',rfl,⟨t,rfl⟩,⟨t',rfl⟩⟩:=vals2 r;refine max_two_ints (I.ok.hd hc) fun h' tk k=>⟨_,H,I.kept k,?_,q⟩
 by_cases hj:j>i
 ·rw[if_pos hj,if_pos hj];exact⟨_,rfl⟩
 ·rw[if_neg hj,if_neg hj];exact⟨_,rfl⟩
theorem Kj(hc:X.calm=true):CallR X (.builtin "min") (fun xs H Q=>∃i j,xs=[.int i,.int j]/\Q (.int (if j<i then j else i)) H):=by
 intro pins s σ H xs us Q I r h;obtain⟨i,j,rfl,q⟩:=h;obtain⟨u,w',rfl,⟨t,rfl⟩,⟨t',rfl⟩⟩:=vals2 r;refine min_two_ints (I.ok.hd hc) fun h' tk k=>⟨_,H,I.kept k,?_,q⟩
 by_cases hj:j<i
 ·rw[if_pos hj,if_pos hj];exact⟨_,rfl⟩
 ·rw[if_neg hj,if_neg hj];exact⟨_,rfl⟩
def LenV(K:Frg)(x:V)(H:Hp)(n:Nat):Prop:=
 match x with
 | .str y=>y.length<=sizeLine/\n=y.length
 | .byt y=>y.size<=sizeLine/\n=y.size
 | .ref p=>(∃xs,SqL K H p xs/\n=xs.length)\/∃xs,SqT K H p xs/\n=xs.length
 | _=>False
theorem jJ:CallR X (.builtin "len") (fun xs H Q=>∃x n,xs=[x]/\LenV X.K x H n/\Q (.int n) H):=by
 intro pins s σ H xs us Q I r h;obtain⟨x,n,rfl,e,q⟩:=h;obtain⟨u,rfl,rx⟩:=vals1 r;have hl:=line63;have hs:sizeLine=16777216:=sizeLine_eq;cases x with
 | str y=>
  obtain⟨t,rfl⟩:=rx;obtain⟨hy,e'⟩:y.length<=sizeLine/\n=y.length:=e;subst e';exact len_str (by omega) ⟨.int _,H,I.tok _,⟨_,rfl⟩,q⟩
 | byt y=>
  obtain⟨t,rfl⟩:=rx;obtain⟨hy,e'⟩:y.size<=sizeLine/\n=y.size:=e;subst e';exact PySem.W.len_bytes (by omega) ⟨.int _,H,I.tok _,⟨_,rfl⟩,q⟩
 | ref p=>
  cases rx;have e':(∃xs,SqL X.K H p xs/\n=xs.length)\/∃xs,SqT X.K H p xs/\n=xs.length:=e;rcases e' with⟨xs,hx,e'⟩ | ⟨xs,hx,e'⟩
  ·subst e';obtain⟨its,r',pl,hz⟩:=I.list hx;have hlen:=r'.length;exact Calls.call_len_list pl.isList (by simp only[size_toArray];omega) ⟨.int xs.length,H,I.tok _,⟨_,by simp only[size_toArray];rw[hlen]⟩,q⟩
  ·subst e';obtain⟨its,r',pl,hz⟩:=I.tuple hx;have hlen:=r'.length;exact len_tuple pl (by simp only[size_toArray];omega) ⟨.int xs.length,H,I.tok _,⟨_,by simp only[size_toArray];rw[hlen]⟩,q⟩
 | _=>exact(show False from e).elim
end
structure ObjM(h:Heap)(x dx C:Addr)(mA:Str->Option Value):Prop where
 obj:h.get? x=some (PySem.W.instObj C dx)
 ns:h.Ns1 dx mA
 ne:dx≠x
theorem j0v{h:Heap}{dx:Addr}{mA:Str->Option Value}(n:h.Ns1 dx mA):∃od,h.get? dx=some od/\∀name,PySem.W.lookIn name od=some (mA name):=by
 obtain⟨o,es,ep,ho,hd,hk,_,hm⟩:=n;refine⟨o,ho,fun name=>?_⟩;have e:=hm name;unfold nsFind findBy at e;rw[<-Array.find?_toList]at e;unfold PySem.W.lookIn;rw[hd];dsimp only;split
 ·rename_i y q;rw[q]at e;exact congrArg some e
 ·rename_i q;rw[q]at e;have a:es.toList.any (·.refKey)=false:=by
   rw[List.any_eq_false];intro y hy;obtain⟨z,t,hkey⟩:=hk y (Array.mem_toList_iff.mp hy);simp[DictEntry.refKey,hkey]
  have a':¬es.toList.any (·.refKey)=true:=by rw[a];exact Bool.false_ne_true
  rw[if_neg a'];exact congrArg some e
theorem ObjM.look{h:Heap}{x dx C:Addr}{mA:Str->Option Value}(I:ObjM h x dx C mA):∃od,PySem.W.InstAt h x (PySem.W.instObj C dx) C (some od)/\∀name,PySem.W.lookIn name od=some (mA name):=
 let ⟨od,ho,hl⟩:=j0v I.ns
 ⟨od,⟨I.obj,rfl,rfl,ho⟩,hl⟩
section
variable{prog:Program}{w:World}{A:Around}{E:Value->Shared->Prop}{s:Shared}{K:Frg}{x dx C f:Addr}{mA:Str->Option Value}{name:Str}{v:Value}
theorem j2G{expr:Bool}{Q:Value->Shared->Prop}(X:K.In s.heap)(I:ObjM s.heap x dx C mA)(hg:PySem.W.plainGet K C name=true)(hh:PySem.W.hasDictIn K C=true)
  (ha:PySem.W.findIn K (.ref C) name=some none) (hv:mA name=some v) (hv':PySem.W.handedIn v=true) (h:Q v {s with toks:=s.toks+1}) :
  wpAny (model prog w) A (getAttr (.ref x) name expr) Q E s:=by
 obtain⟨od,J,hl⟩:=I.look;exact PySem.W.get_value X J (PySem.W.plainGet_of hg).1 (PySem.W.findObj_own hh ha rfl (by rw[hl,hv])) hv' h
theorem j1f{pl:Sem Bool}{Q:Value×List Value->Shared->Prop}(X:K.In s.heap)(I:ObjM s.heap x dx C mA)(hg:PySem.W.plainGet K C name=true)
  (hf:PySem.W.findIn K (.ref C) name=some (some (.ref f))) (ht:PySem.W.isFn K (.ref f)=true) (hv:mA name=none) (h:Q (.ref f,[.ref x]) s) :
  wpAny (model prog w) A (getMethod (.ref x) name pl) Q E s:=by
 obtain⟨od,J,hl⟩:=I.look;exact PySem.W.method_fn X J (PySem.W.plainGet_of hg).1 (PySem.W.plainGet_of hg).2 hf (beq_iff_eq.mp ht) (by show(PySem.W.lookIn name od).map (·.isSome)=some false;rw[hl,hv];rfl) h
theorem j3d{ns:List Str}{Q:Unit->Shared->Prop}(X:K.In s.heap)(I:ObjM s.heap x dx C mA)
  (hs:PySem.W.findIn K (.ref C) "__setattr__"= some (some (.builtin "object.__setattr__"))) (hp:PySem.W.plainOver K C=true) (ht:PySem.W.takerIn K C name=some none) (hh:PySem.W.hasDictIn K C=true)
  (hw:PySem.Within mA ns) (hsz:ns.length<=sizeLine)
  (h:∀h',ObjM h' x dx C (fun y=>if y=name then some v else mA y)->Heap.SameBut dx s.heap h'->Q () {s with heap:=h',toks:=s.toks+2}) :
  wpAny (model prog w) A (setAttr (.ref x) name v) Q E s:=by
 obtain⟨od,J,hl⟩:=I.look;refine PySem.W.set_plain X J hs (PySem.W.osa_open (s:={s with toks:=s.toks+1}) (r:=none) X J hp ht fun b=>?_);obtain⟨cd,hc,hd'⟩:=PySem.W.any_some hh;have hx:s.heap.get? x=some ⟨.ref C,some dx,.plain,#[]⟩:=I.obj;refine wpAny_bind (wpAny_pure (wpAny_bind (wpAny_bind (wpAny_loadPart hx (wpAny_bind (PySem.W.Looks.here (s:={s with toks:=s.toks+1}) (PySem.W.looks_clsIn X hc) ?_))))));rw[hd'];refine wpAny_pure (a:=some dx) (wpAny_bind (wpAny_pure (wpAny_bind ?_)));refine wpAny_nsSet1 (s:={s with toks:=s.toks+1}) I.ns fun h' hn2 hs2=>?_
 obtain⟨oD,esD,epD,hoD,hdD,hcD⟩:=hn2.count (PySem.Within.cons name v hw);refine wpAny_bind (wpAny_lookBehind hoD (by rw[hdD];exact pastItsLine_dict (Nat.le_trans hcD (by rw[length_cons];omega))) ?_);exact wpAny_pure (h _ ⟨(hs2.2 _ (Ne.symm I.ne)).trans I.obj,hn2,I.ne⟩ hs2)
theorem j1v{R:Result->Shared->Prop}{vs:List Value}{kw:List (Str×Value)}(X:K.In s.heap)(hm:PySem.W.makesIn K C=true)
  (hi:PySem.W.findIn K (.ref C) "__init__"= some (some (.ref f))) (hf:PySem.W.typeIn K (.ref f)=some (.type "function"))
  (h:codeAny (model prog w) (A.under (.builtin "type.__call__" ⟨.ref C::vs,kw⟩)) (.call (.ref f) ⟨.ref (s.heap.objs.size+1)::vs,kw⟩) (PySem.W.InitBack (s.heap.objs.size+1) R)
   {s with heap:=(s.heap.push PySem.W.emptyDict).push (PySem.W.instObj C s.heap.objs.size)}) :
  codeAny (model prog w) A (.call (.ref C) ⟨vs,kw⟩) R s:=by
 obtain⟨hh,g,d,t,os⟩:=s;exact PySem.W.make_core (PySem.W.makes_of X hm) (PySem.W.looks_findIn X hi) (fun self=>PySem.W.bind_fn X self hf) (.inl rfl) h
end
noncomputable def putF(f:Str)(v:V):List (Str×V)->List (Str×V)
 | []=>[(f,v)]
 | (g,x)::r=>if g=f then(g,v)::r else(g,x)::putF f v r
theorem Q4(f g:Str)(v:V):∀fs:List (Str×V),(putF f v fs).lookup g=if g=f then some v else fs.lookup g
 | []=>by
  show List.lookup g [(f,v)]=_;by_cases h:g=f
  ·have hb:(g==f)=true:=beq_iff_eq.mpr h;simp only[List.lookup,hb,if_pos h]
  ·have hb:(g==f)=false:=beq_eq_false_iff_ne.mpr h;simp only[List.lookup,hb,if_neg h]
 | (k,x)::r=>by
  have ih:=Q4 f g v r;rw[show putF f v ((k,x)::r)=(if k=f then(k,v)::r else(k,x)::putF f v r)from rfl];by_cases hk:k=f
  ·rw[if_pos hk];by_cases h:g=k
   ·have hb:(g==k)=true:=beq_iff_eq.mpr h;simp only[List.lookup,hb,if_pos (h.trans hk)]
   ·have hb:(g==k)=false:=beq_eq_false_iff_ne.mpr h;simp only[List.lookup,hb,if_neg (fun e:g=f=>h (e.trans hk.symm))]
  ·rw[if_neg hk];by_cases h:g=k
   ·have hb:(g==k)=true:=beq_iff_eq.mpr h;simp only[List.lookup,hb,if_neg (fun e:g=f=>hk (h.symm.trans e))]
   ·have hb:(g==k)=false:=beq_eq_false_iff_ne.mpr h;simp only[List.lookup,hb];exact ih
theorem yW(f:Str)(v:V):∀fs:List (Str×V),f∈(putF f v fs).map (·.1)/\∀g,g∈fs.map (·.1)->g∈(putF f v fs).map (·.1)
 | []=>⟨by simp[putF],fun g h=>by simp at h⟩
 | (k,x)::r=>by
  obtain⟨i1,i2⟩:=yW f v r;rw[show putF f v ((k,x)::r)=(if k=f then(k,v)::r else(k,x)::putF f v r)from rfl];by_cases hk:k=f
  ·rw[if_pos hk];subst hk;exact⟨by simp,fun g h=>by simpa using h⟩
  ·rw[if_neg hk];refine⟨?_,fun g h=>?_⟩
   ·rw[map_cons];exact mem_cons_of_mem _ i1
   ·rw[map_cons]at h|-;rcases mem_cons.mp h with e | e
    ·exact mem_cons.mpr (.inl e)
    ·exact mem_cons_of_mem _ (i2 g e)
theorem Yo(f:Str)(v:V):∀fs:List (Str×V),(putF f v fs).length<=fs.length+1
 | []=>by simp[putF]
 | (k,x)::r=>by
  have ih:=Yo f v r;rw[show putF f v ((k,x)::r)=(if k=f then(k,v)::r else(k,x)::putF f v r)from rfl];by_cases hk:k=f
  ·rw[if_pos hk,length_cons,length_cons];omega
  ·rw[if_neg hk,length_cons,length_cons];omega
theorem RelO.some_of{v:V}{o:Option Value}(r:RelO (some v) o):∃u,o=some u/\RelV v u:=by
 cases o with
 | none=>exact(show False from r).elim
 | some u=>exact⟨u,rfl,r⟩
theorem RelO.none_of{o:Option Value}(r:RelO none o):o=none:=by
 cases o with
 | none=>rfl
 | some u=>exact(show False from r).elim
theorem j0k{v:V}{u:Value}(r:RelV v u):PySem.W.handedIn u=true:=by
 cases v with
 | non=>cases(show u=Value.none from r);rfl
 | bl b=>cases(show u=Value.bool b from r);rfl
 | int i=>obtain⟨t,e⟩:=(show∃t,u=Value.int i t from r);cases e;rfl
 | str x=>obtain⟨t,e⟩:=(show∃t,u=Value.str x t from r);cases e;rfl
 | byt b=>obtain⟨t,e⟩:=(show∃t,u=Value.bytes b t from r);cases e;rfl
 | flt b=>obtain⟨t,e⟩:=(show∃t,u=Value.float b t from r);cases e;rfl
 | ref a=>cases(show u=Value.ref a from r);rfl
 | ty n=>cases(show u=Value.type n from r);rfl
section
variable{P:Program}{w:World}{H H':Hp}{h h':Heap}{a C dx:Addr}{fs fs':List (Str×V)}
theorem YE(hok:HOk P w H h)(e:H a=some (.ins C dx fs)):∃mA,ObjM h a dx C mA/\(∀f,RelO (fs.lookup f) (mA f))/\PySem.Within mA (fs.map (·.1))/\fs.length<=1000/\H dx=some (.own a):=by
 obtain⟨d,z,ne,ob,mA,n,r,q⟩:=(show ObjOk P w H h a (.ins C dx fs)from hok a _ e)
 exact⟨mA,⟨ob,n,ne⟩,r,q,z,d⟩
end
structure Cls(K:Frg)(C:Addr):Prop where
 pg:PySem.W.plainGet K C Str.empty=true
 hd:PySem.W.hasDictIn K C=true
 po:PySem.W.plainOver K C=true
 sa:PySem.W.findIn K (.ref C) "__setattr__"= some (some (.builtin "object.__setattr__"))
theorem Cls.get{K:Frg}{C:Addr}(c:Cls K C)(f:Str):PySem.W.plainGet K C f=true:=c.pg
def NoAttr(K:Frg)(C:Addr)(f:Str):Prop:=PySem.W.findIn K (.ref C) f=some none
theorem NoAttr.taker{K:Frg}{C:Addr}{f:Str}(n:NoAttr K C f):PySem.W.takerIn K C f=some none:=by
 unfold PySem.W.takerIn;rw[show PySem.W.findIn K (.ref C) f=some none from n];rfl
structure Meth(K:Frg)(C:Addr)(m:Str)(f:Addr):Prop where
 at_:PySem.W.findIn K (.ref C) m=some (some (.ref f))
 fn:PySem.W.isFn K (.ref f)=true
 kp:PySem.W.keepIn K (.ref f)=true
section
variable{X:Cx}{pins:List (Addr×Obj)}{σ:St}{H:Hp}{s:Shared}{a C dx:Addr}{fs:List (Str×V)}{f:Str}{v:V}{A:Around}{E:Value->Shared->Prop}
theorem xN{b:Bool}{Q:Value->Shared->Prop}(I:Inv X pins σ H s)(e:H a=some (.ins C dx fs))(c:Cls X.K C)(n:NoAttr X.K C f)(l:fs.lookup f=some v)
  (h:∀u s',Inv X pins σ H s'->RelV v u->Q u s'):wpAny (model X.prog X.w) A (getAttr (.ref a) f b) Q E s:=by
 obtain⟨mA,O,r,_,_,_⟩:=YE I.hok e;obtain⟨u,hu,ru⟩:=RelO.some_of (v:=v) (o:=mA f) (by rw[<-l];exact r f);exact j2G I.kIn O (c.get f) c.hd n hu (j0k ru) (h u _ (I.tok _) ru)
theorem xO{m:Str}{g:Addr}{pl:Sem Bool}{Q:Value×List Value->Shared->Prop}(I:Inv X pins σ H s)(e:H a=some (.ins C dx fs))(c:Cls X.K C)(k:Meth X.K C m g)(l:fs.lookup m=none)
  (h:Q (.ref g,[.ref a]) s):wpAny (model X.prog X.w) A (getMethod (.ref a) m pl) Q E s:=by
 obtain⟨mA,O,r,_,_,_⟩:=YE I.hok e;have hn:mA m=none:=RelO.none_of (by rw[<-l];exact r m);exact j1f I.kIn O (c.get m) k.at_ k.fn hn h
theorem Xv{y:V}{u:Value}{Q:Unit->Shared->Prop}(I:Inv X pins σ H s)(e:H a=some (.ins C dx fs))(c:Cls X.K C)(n:NoAttr X.K C f)(hl:fs.length<1000)(ry:RelV y u)
  (h:∀s',Inv X pins σ (upd H a (.ins C dx (putF f y fs))) s'->Q () s'):wpAny (model X.prog X.w) A (setAttr (.ref a) f u) Q E s:=by
 obtain⟨mA,O,r,wi,_,ho⟩:=YE I.hok e;have hz:(fs.map (·.1)).length<=sizeLine:=by rw[length_map,sizeLine_eq];omega
 refine j3d I.kIn O c.sa c.po n.taker c.hd wi hz fun h' O' sb=>h _ ?_
 have hd:∃o,h'.get? dx=some o:=let ⟨o,_,_,e',_⟩:=O'.ns;⟨o,e'⟩;refine I.write (x:=a) (e:=dx) (by rw[e];exact True.intro) (.inr ho) (fun b q hb z=>(sb.2 b hb).trans z) hd ?_;refine⟨by rw[jh O.ne];exact ho,?_,O.ne,O'.obj,_,O'.ns,fun g=>?_,fun g hg=>?_⟩
 ·have:=Yo f y fs;omega
 ·show RelO ((putF f y fs).lookup g) (if g=f then some u else mA g);rw[Q4];by_cases q:g=f
  ·rw[if_pos q,if_pos q];exact ry
  ·rw[if_neg q,if_neg q];exact r g
 ·by_cases q:g=f
  ·rw[q];exact(yW f y fs).1
  ·refine(yW f y fs).2 g (wi g fun z=>hg ?_);show(if g=f then some u else mA g)=none;rw[if_neg q];exact z
theorem Inv.made(I:Inv X pins σ H s):Inv X pins σ (upd (upd H s.heap.objs.size (.own (s.heap.objs.size+1))) (s.heap.objs.size+1) (.ins C s.heap.objs.size []))
  {s with heap:=(s.heap.push PySem.W.emptyDict).push (PySem.W.instObj C s.heap.objs.size)}:=by
 have e1:(s.heap.push PySem.W.emptyDict).get? s.heap.objs.size=some PySem.W.emptyDict:=Heap.get?_push_size s.heap rfl;have e2:((s.heap.push PySem.W.emptyDict).push (PySem.W.instObj C s.heap.objs.size)).get? (s.heap.objs.size+1)=some (PySem.W.instObj C s.heap.objs.size):=by
  have:=Heap.get?_push_size (s.heap.push PySem.W.emptyDict) (o:=PySem.W.instObj C s.heap.objs.size) rfl
  rwa [Heap.size_push]at this
 have e3:(s.heap.push PySem.W.emptyDict).Ns s.heap.objs.size (fun _=>none):=⟨PySem.W.emptyDict,#[],_,e1,rfl,(fun e he=>absurd he (by simp)),fun _=>rfl⟩
 have I1:=I.laid (a:=s.heap.objs.size) (o:=.own (s.heap.objs.size+1)) (h':=s.heap.push PySem.W.emptyDict) (t':=s.toks) (fun b u q=>Heap.get?_push_of_some _ q) (Nat.le_refl _) ⟨_,e1⟩;refine I1.laid (a:=s.heap.objs.size+1) (o:=.ins C s.heap.objs.size []) (t':=s.toks) (fun b u q=>Heap.get?_push_of_some _ q) (Nat.le_of_eq (Heap.size_push _ _)) ?_;have ne:s.heap.objs.size≠s.heap.objs.size+1:=Nat.ne_of_lt (Nat.lt_succ_self _);refine⟨by rw[jh ne,jr],Nat.zero_le _,ne,e2,fun _=>none,(Heap.Ns1.of_empty e3).at fun o q=>Heap.get?_push_of_some _ q,fun _=>True.intro,fun y hy=>absurd rfl hy⟩
theorem j2x{prog:Program}{w:World}{env:Env}{e:Expr}{f:Str}{pos:Pos}{s:Shared}{Q:Value->Shared->Prop}(hb:attributeBase e f env (eval e env)=eval e env)
  (h:wpAny (model prog w) A (eval e env) (fun o s₁=>wpAny (model prog w) A (getAttr o f true) Q E s₁) E s):wpAny (model prog w) A (eval (.Attribute e f pos) env) Q E s:=
 Attribute_any_ h (by rw[arm_eval_Attribute,hb])
end
def tFld(K:Frg)(ta:TE)(f:Str):TE:=fun σ H Q=>ta σ H fun x H1=>∃a C dx fs v,x = .ref a/\H1 a=some (.ins C dx fs)/\Cls K C/\NoAttr K C f/\fs.lookup f=some v/\Q v H1
def sFld(K:Frg)(ta tv:TE)(f:Str):TS:=fun D σ H=>tv σ H fun y H1=>ta σ H1 fun x H2=>∃a C dx fs,x = .ref a/\H2 a=some (.ins C dx fs)/\Cls K C/\NoAttr K C f/\fs.length<1000/\
 D.nx σ (upd H2 a (.ins C dx (putF f y fs)))
section
variable{X:Cx}{o e value:Expr}{f:Str}{pos pos' tpos:Pos}{ta tv:TE}
theorem QX(he:PE X e ta)(hb:attributeBase e f X.env (eval e X.env)=eval e X.env):PE X (.Attribute e f pos) (tFld X.K ta f):=by
 intro pins s σ H Q I h;refine j2x hb (thn (he pins s σ H _ I h) fun u s1 ⟨x,H1,I1,rx,a,C,dx,fs,v,ex,ea,c,n,l,q⟩=>?_);subst ex;obtain rfl:u=Value.ref a:=rx;exact xN I1 ea c n l fun u' s2 I2 ru=>⟨v,H1,I2,ru,q⟩
theorem Ya(ha:PE X o ta)(hv:PE X value tv)(hs:swapsWith value (some (.Attribute o f pos')) pos.line X.env=pure false):PS X (.Assign [.Attribute o f pos'] value pos) (sFld X.K ta tv f):=by
 intro pins s σ H D I h;refine plainObj_wpAny_Assign_Attribute (thn (hv pins s σ H _ I h) fun u s1 ⟨y,H1,I1,ry,q⟩=>thn (ha pins s1 σ H1 _ I1 q) fun ov s2 ⟨x,H2,I2,rx,a,C,dx,fs,ex,ea,c,n,l,q2⟩=>?_) hs;subst ex;obtain rfl:ov=Value.ref a:=rx;exact Xv I2 ea c n l ry fun s3 I3=>⟨σ,_,I3,q2⟩
end
section
variable{X:Cx}{pins:List (Addr×Obj)}{σ:St}{H:Hp}{s:Shared}{A:Around}{E:Value->Shared->Prop}{Q:Value->Shared->Prop}{c:Value}{b:Bool}
inductive TyOf(K:Frg)(H:Hp):V->Value->Prop where
 | non:TyOf K H .non (.type "NoneType")
 | bl (x:Bool):TyOf K H (.bl x) (.type "bool")
 | int (i:Int):TyOf K H (.int i) (.type "int")
 | str (x:Str):TyOf K H (.str x) (.type "str")
 | flt (x:UInt64):TyOf K H (.flt x) (.type "float")
 | lst {a:Addr} {xs:List V} (e:H a=some (.lst xs)):TyOf K H (.ref a) (.type "list")
 | frz {a:Addr} {o:Obj} {xs:List V} (e:H a=some (.frz o (.lst xs))):TyOf K H (.ref a) (.type "list")
 | tup {a:Addr} {xs:List V} (e:H a=some (.tup xs)):TyOf K H (.ref a) (.type "tuple")
 | dK {a:Addr} {kvs:List (Key×V)} (e:H a=some (.dK kvs)):TyOf K H (.ref a) (.type "dict")
 | dT {a:Addr} {kvs:List (List Key×V)} (e:H a=some (.dT kvs)):TyOf K H (.ref a) (.type "dict")
 | ins {a C dx:Addr} {fs:List (Str×V)} (e:H a=some (.ins C dx fs)) (cl:Cls K C) (ha:PySem.W.findIn K (.ref C) "__class__"= some (some (.builtin "object.__class__")))
   (hn:PySem.W.specialIn K (.builtin "object.__class__") "__get__"= some (some (.builtin "getset_descriptor.__get__"))) (htk:PySem.W.takesIn K (.builtin "object.__class__")=some true)
   (hm:PySem.W.mroIn K C (.type "object")=some true):TyOf K H (.ref a) (.ref C)
theorem j0p{x:V}{u t:Value}(I:Inv X pins σ H s)(rx:RelV x u)(ty:TyOf X.K H x t)(e:PySem.W.kitOne X.K t c=some b)(h:∀tk,Q (.bool b) {s with toks:=tk}) :
  wpAny (model X.prog X.w) A (call (.builtin "isinstance") [u,c]) Q E s:=by
 cases ty with
 | non=>cases(show u=Value.none from rx);exact PySem.W.kia_one PySem.W.kitx_none I.kIn True.intro e (fun z=>nomatch z) h
 | bl y=>cases(show u=Value.bool y from rx);exact PySem.W.kia_one PySem.W.kitx_bool I.kIn True.intro e (fun z=>nomatch z) h
 | int i=>obtain⟨t,q⟩:=(show∃t,u=Value.int i t from rx);cases q;exact PySem.W.kia_one PySem.W.kitx_int I.kIn True.intro e (fun z=>nomatch z) h
 | str y=>obtain⟨t,q⟩:=(show∃t,u=Value.str y t from rx);cases q;exact PySem.W.kia_one PySem.W.kitx_str I.kIn True.intro e (fun z=>nomatch z) h
 | flt y=>obtain⟨t,q⟩:=(show∃t,u=Value.float y t from rx);cases q;exact PySem.W.kia_one PySem.W.kitx_float I.kIn True.intro e (fun z=>nomatch z) h
 | @lst a xs ea=>
  cases(show u=Value.ref a from rx);obtain⟨_,_,n,_,h1⟩:=(show ObjOk X.prog X.w H s.heap a (.lst xs)from I.hok a _ ea)
  exact PySem.W.kia_one PySem.W.kitx_list I.kIn ⟨_,h1,rfl⟩ e (fun z=>nomatch z) h
 | @frz a ob xs ea=>
  cases(show u=Value.ref a from rx);obtain⟨_,_,_,n,_,h1⟩:=(show ObjOk X.prog X.w H s.heap a (.frz ob (.lst xs))from I.hok a _ ea)
  exact PySem.W.kia_one PySem.W.kitx_list I.kIn ⟨_,h1,rfl⟩ e (fun z=>nomatch z) h
 | @tup a xs ea=>
  cases(show u=Value.ref a from rx);obtain⟨_,_,_,p⟩:=(show ObjOk X.prog X.w H s.heap a (.tup xs)from I.hok a _ ea)
  obtain⟨o,h1,h2,_⟩:=p;exact PySem.W.kia_one PySem.W.kitx_tuple I.kIn ⟨o,h1,h2⟩ e (fun z=>nomatch z) h
 | @dK a kvs ea=>
  cases(show u=Value.ref a from rx);obtain⟨_,_,vs,_,p⟩:=(show ObjOk X.prog X.w H s.heap a (.dK kvs)from I.hok a _ ea)
  obtain⟨o,es,ep,h1,h2,_⟩:=p;exact PySem.W.kia_one PySem.W.kitx_dict I.kIn ⟨o,h1,h2.1⟩ e (fun z=>nomatch z) h
 | @dT a kvs ea=>
  cases(show u=Value.ref a from rx);obtain⟨_,_,xs,_,o,es,ep,h1,h2,_⟩:=(show ObjOk X.prog X.w H s.heap a (.dT kvs)from I.hok a _ ea)
  exact PySem.W.kia_one PySem.W.kitx_dict I.kIn ⟨o,h1,h2.1⟩ e (fun z=>nomatch z) h
 | @ins a C dx fs ea cl ha hn htk hm=>
  cases(show u=Value.ref a from rx);obtain⟨mA,O,_⟩:=YE I.hok ea;obtain⟨od,J,_⟩:=O.look;exact PySem.W.kia_one (PySem.W.kitx_own (cl.get _) cl.hd ha hn htk hm) I.kIn J e (fun z=>nomatch z) h
end
structure Room(k:Nat)(A:Around):Prop where
 hd:A.handled=none
 dp:A.depth+3*k+5<recursionLimit
 un:A.units+16*k+200<cLine
theorem Room.mono{j k:Nat}{A:Around}(r:Room k A)(h:j<=k):Room j A:=⟨r.hd,by have:=r.dp;omega,by have:=r.un;omega⟩
theorem Room.deeper{k:Nat}{A:Around}(r:Room (k+1) A)(env:Env):Room k (A.deeper env):=
 ⟨r.hd,by have:=r.dp;show A.depth+1+3*k+5<_;omega,by have:=r.un;show A.units+3+16*k+200<_;omega⟩
theorem Xa{A:Around}{C:Addr}{us:List Value}{kw:List (Str×Value)}:(A.under (.builtin "type.__call__" ⟨.ref C::us,kw⟩)).depth=A.depth+1:=by
 first | rfl | simp[Around.under,Code.weight,Code.isCreation,Code.isGuard,Code.isCaller,Code.frames,Code.isFrame,guardIds]
theorem Xb{A:Around}{C:Addr}{us:List Value}{kw:List (Str×Value)}:(A.under (.builtin "type.__call__" ⟨.ref C::us,kw⟩)).units=A.units+1:=by
 first | rfl | simp[Around.under,Code.cUnits,Code.frames,Code.isFrame]
theorem Room.make{k:Nat}{A:Around}(r:Room (k+1) A)(C:Addr)(us:List Value)(kw:List (Str×Value)):Room k (A.under (.builtin "type.__call__" ⟨.ref C::us,kw⟩)):=
 ⟨r.hd,by have:=r.dp;rw[Xa];omega,by have:=r.un;rw[Xb];omega⟩
theorem Room.depth{k:Nat}{A:Around}(r:Room k A):A.depth<recursionLimit:=by have:=r.dp;omega
theorem Room.units{k:Nat}{A:Around}(r:Room k A):A.units+64<cLine:=by have:=r.un;omega
def tNil:TA:=fun _ H Q=>Q [] H
def tCons(ta:TE)(tr:TA):TA:=fun σ H Q=>ta σ H fun x H1=>tr σ H1 fun xs H2=>Q (x::xs) H2
section
variable{X:Cx}{e:Expr}{es:List Expr}{te:TE}{t:TA}{pos:Pos}
theorem jc:PA X [] tNil:=fun _ _ _ _ H Q I h=>Calls.spliced_nil ⟨[],H,I,.nil,h⟩
theorem ja(ha:PE X e te)(hr:PA X es t)(hs:starEach (e::es) X.env=(false,eval e X.env)::starEach es X.env:=by rfl):PA X (e::es) (tCons te t):=by
 intro pos pins s σ H Q I h;rw[hs];show wpAny _ _ (spliced ((false,eval e X.env)::backTo pos (starEach es X.env))) _ _ s;refine Calls.spliced_cons (thn (ha pins s σ H _ I h) fun u s1 ⟨x,H1,I1,r1,q1⟩=>?_);exact thn (hr pos pins s1 σ H1 _ I1 q1) fun us s2 ⟨xs,H2,I2,r2,q2⟩=>⟨x::xs,H2,I2,.cons r1 r2,q2⟩
def tTup(t:TA):TE:=fun σ H Q=>t σ H fun xs H1=>xs.length<=sizeLine/\∀p,H1 p=none->Q (.ref p) (upd H1 p (.tup xs))
def tLst(t:TA):TE:=fun σ H Q=>t σ H fun xs H1=>xs.length<=sizeLine/\∀p,H1 p=none->Q (.ref p) (upd H1 p (.lst xs))
theorem Ja{x1}(h:PA X es t):PE X (.Tuple es x1 pos) (tTup t):=by
 intro pins s σ H Q I hq;refine wpAny_Tuple_spliced (thn (h pos pins s σ H _ I hq) fun us s1 ⟨xs,H1,I1,r,z,q⟩=>⟨by rw[<-r.length];exact z,?_⟩);have hf:H1 s1.heap.objs.size=none:=I1.hok.fresh (Nat.le_refl _);refine⟨.ref s1.heap.objs.size,upd H1 s1.heap.objs.size (.tup xs),I1.laid (t':=s1.toks) (fun b u e=>Heap.get?_push_of_some _ e) (Nat.le_refl _) ?_,rfl,q _ hf⟩;exact⟨z,us,r,⟨_,Heap.get?_push_size _ rfl,rfl,_,rfl⟩⟩
theorem jF(h:PA X es t):PE X (.List es pos) (tLst t):=by
 intro pins s σ H Q I hq;refine wpAny_List_spliced (thn (h pos pins s σ H _ I hq) fun us s1 ⟨xs,H1,I1,r,z,q⟩=>⟨by rw[<-r.length];exact z,?_⟩);have hf:H1 s1.heap.objs.size=none:=I1.hok.fresh (Nat.le_refl _);refine⟨.ref s1.heap.objs.size,upd H1 s1.heap.objs.size (.lst xs),I1.laid (t':=s1.toks) (fun b u e=>Heap.get?_push_of_some _ e) (Nat.le_refl _) ?_,rfl,q _ hf⟩;exact⟨z,us,0,r,Heap.get?_push_size _ rfl⟩
end
noncomputable abbrev Sp:=List V->Hp->VK->XK->Prop
noncomputable abbrev CXT:=List Env->Hp->Shared->XK->Value->Shared->Prop
structure Env0(P:Program)(w:World)(K:Frg)(mg:Str->Option Value)(base:Heap)(A:Around)(outer:List Env)(s:Shared)(H:Hp):Prop where
 frames:A.frames=some outer
 mod:Mod K mg base
 bs:∀b o,base.get? b=some o->s.heap.get? b=some o/\H b=none
 bsz:base.objs.size<=s.heap.objs.size
 funs:s.heap.FunFrames base outer
 frf:∀b∈frs outer,H b=none
 hok:HOk P w H s.heap
 bare:AllBare s.gens
def CE(outer:List Env)(P:Program)(w:World)(H:Hp)(s:Shared)(Q:VK)(u:Value)(s':Shared):Prop:=
 ∃v H',s'.os=s.os/\AllBare s'.gens/\Un (frs outer) [] H H' s.heap s'.heap/\HOk P w H' s'.heap/\RelV v u/\Q v H'
def CR(CX:CXT)(outer:List Env)(P:Program)(w:World)(H:Hp)(s:Shared)(Q:VK)(E:XK)(r:Result)(s':Shared):Prop:=
 match r with
 | .ok (.ret u)=>CE outer P w H s Q u s'
 | .ok _=>False
 | .error e=>CX outer H s E e s'
structure FnOk(P:Program)(w:World)(K:Frg)(mg:Str->Option Value)(base:Heap)(CX:CXT)(k:Nat)(f:Addr)(fd:FuncData)(ps:List Str)(sp:Sp):Prop where
 len:∀vs H Q E,sp vs H Q E->vs.length=ps.length
 run:∀(A:Around) (outer:List Env) (s:Shared) (H:Hp) (args:Args) (us:List Value) (vs:List V) (Q:VK) (E:XK),Room k A->Env0 P w K mg base A outer s H->BindsTo s fd args (ps.zip us)->Vals vs us->sp vs H Q E->
  codeAny (model P w) A (.call (.ref f) args) (CR CX outer P w H s Q E) s
theorem FnOk.mono{P:Program}{w:World}{K:Frg}{mg:Str->Option Value}{base:Heap}{CX:CXT}{j k:Nat}{f:Addr}{fd:FuncData}{ps:List Str}{sp:Sp}(F:FnOk P w K mg base CX j f fd ps sp)(h:j<=k) :
  FnOk P w K mg base CX k f fd ps sp:=⟨F.len,fun A outer s H args us vs Q E hr=>F.run A outer s H args us vs Q E (hr.mono h)⟩
theorem Env0.make{P:Program}{w:World}{K:Frg}{mg:Str->Option Value}{base:Heap}{A:Around}{outer:List Env}{s:Shared}{H:Hp}(e:Env0 P w K mg base A outer s H)(C:Addr)(us:List Value)(kw:List (Str×Value)) :
  Env0 P w K mg base (A.under (.builtin "type.__call__" ⟨.ref C::us,kw⟩)) outer s H:=⟨by first | exact e.frames | (simpa [Around.under,Code.envs,Code.isFrame,pushEnvs]using e.frames),e.mod,e.bs,e.bsz,e.funs,e.frf,e.hok,e.bare⟩
section
variable{X:Cx}{pins:List (Addr×Obj)}{σ:St}{H:Hp}{s s':Shared}
theorem Inv.env0(I:Inv X pins σ H s):Env0 X.prog X.w X.K X.mg X.base X.A X.stack s H:=
 ⟨I.ok.frames,I.ok.mod,I.bs,Nat.le_trans I.ok.bsz I.sz,I.stack,I.stkFree,I.hok,I.bare⟩
theorem Inv.after{Q:VK}{u:Value}(I:Inv X pins σ H s)(h:CE X.stack X.prog X.w H s Q u s'):EP X pins σ Q u s':=by
 obtain⟨v,H',os,bare,un,hok,r,q⟩:=h;obtain⟨hh,g,d,t,os'⟩:=s';obtain rfl:os'=s.os:=os;exact⟨v,H',I.call (h':=hh) (g':=g) (d':=d) (t':=t) (ch:=[]) un hok bare (fun b z=>absurd z (by simp)),r,q⟩
end
def tCall(sp:Sp)(dvs:List V)(E:XK)(t:TA):TE:=fun σ H Q=>t σ H fun vs H1=>sp (vs++dvs) H1 Q E
def tMeth(C:Addr)(m:Str)(sp:Sp)(dvs:List V)(E:XK)(ta:TE)(t:TA):TE:=fun σ H Q=>ta σ H fun x H1=>∃a dx fs,x = .ref a/\H1 a=some (.ins C dx fs)/\fs.lookup m=none/\
 t σ H1 fun vs H2=>sp (x::(vs++dvs)) H2 Q E
def tMake(C:Addr)(sp:Sp)(dvs:List V)(E:XK)(t:TA):TE:=fun σ H Q=>t σ H fun vs H1=>∀x dx,H1 x=none->H1 dx=none->dx≠x->
 sp (.ref x::(vs++dvs)) (upd (upd H1 dx (.own x)) x (.ins C dx [])) (fun v H2=>v = .non/\Q (.ref x) H2) E
def Binds(K:Frg)(fd:FuncData)(ps:List Str)(ds:List Value):Prop:=
 ∀(s:Shared) (us:List Value),K.In s.heap->(us++ds).length=ps.length->BindsTo s fd ⟨us,[]⟩ (ps.zip (us++ds))
theorem Binds.all{K:Frg}{fd:FuncData}{ps:List Str}(h:∀us:List Value,us.length=ps.length->bindArgs fd ⟨us,[]⟩=pure (ps.zip us)):Binds K fd ps []:=fun s us _ hl=>by
 rw[append_nil]at hl|-;exact .of_eq (h us hl)
def Passes(CX:CXT)(X:Cx)(E:XK):Prop:=∀(pins:List (Addr×Obj)) (σ:St) (H:Hp) (s:Shared) (e:Value) (s':Shared),Inv X pins σ H s->CX X.stack H s E e s'->X.xe e s'
section
variable{X:Cx}{CX:CXT}{k:Nat}{f C:Addr}{fd:FuncData}{ps:List Str}{sp:Sp}{dvs:List V}{ds:List Value}{E:XK}{x m:Str}{p pos apos:Pos}{e o:Expr}{es:List Expr}{ta:TE}{t:TA}
theorem j24{pins:List (Addr×Obj)}{σ:St}{H:Hp}{s:Shared}{Q:VK}{us:List Value}{vs:List V}(F:FnOk X.prog X.w X.K X.mg X.base CX k f fd ps sp)(hr:Room k X.A)(hb:Binds X.K fd ps ds)(hd:Vals dvs ds)(hx:Passes CX X E)
  (I:Inv X pins σ H s) (r:Vals vs us) (h:sp (vs++dvs) H Q E):wpAny (model X.prog X.w) X.A (call (.ref f) us) (EP X pins σ Q) X.xe s:=by
 have r2:Vals (vs++dvs) (us++ds):=r.append hd;have hl:(us++ds).length=ps.length:=by rw[<-r2.length];exact F.len _ _ _ _ h
 refine wpAny_call (codeAny_mono (F.run X.A X.stack s H ⟨us,[]⟩ (us++ds) (vs++dvs) Q E hr I.env0 (hb s us I.kIn hl) r2 h) fun r s' hq=>?_);cases r with
 | error e=>exact hx pins σ H s e s' I hq
 | ok fl=>
  cases fl with
  | ret u=>exact I.after hq
  | next=>exact False.elim hq
  | brk=>exact False.elim hq
  | cont=>exact False.elim hq
theorem jn(F:FnOk X.prog X.w X.K X.mg X.base CX k f fd ps sp)(hr:Room k X.A)(hg:Gl X x)(hm:X.mg x=some (.ref f))(hk:PySem.W.keepIn X.K (.ref f)=true)(hb:Binds X.K fd ps ds)(hd:Vals dvs ds)(hx:Passes CX X E)
  (ha:PA X (e::es) t) (hdb:(x==("__debug__" : Str))=false:=by decide) (he:starEach (e::es) X.env=(false,eval e X.env)::starEach es X.env:=by rfl) (hpl:(backTo pos (starEach es X.env)).any (·.1)=false:=by rfl) :
  PE X (.Call (.Name x p) (e::es) [] pos) (tCall sp dvs E t):=by
 intro pins s σ H Q I h;refine wpAny_Call_Name_kw (wu I hg hm ?_ hdb);refine PySem.W.callWith_K (h₀:=X.base) I.ok.mod.kin hk (thn (ha pos pins s σ H _ I h) fun us s1 ⟨vs,H1,I1,r,q⟩=>⟨I1.kIn,?_⟩) he hpl;exact j24 F hr hb hd hx I1 r q
theorem YG{pl:Sem Bool}(he:PE X o ta)(c:Cls X.K C)(hm:Meth X.K C m f)(F:FnOk X.prog X.w X.K X.mg X.base CX k f fd ps sp)(hr:Room k X.A)(hb:Binds X.K fd ps ds)(hd:Vals dvs ds)(hx:Passes CX X E)(ha:PA X (e::es) t)
  (hst:starEach (e::es) X.env=(false,eval e X.env)::starEach es X.env:=by rfl) (hpl:(backTo pos (starEach es X.env)).any (·.1)=false:=by rfl)
  (ht:eval (.Call (.Attribute o m apos) (e::es) [] pos) X.env=(do
   let ov <-eval o X.env
   standAt apos.atName
   let (f,first) <-holding [ov] (getMethod ov m pl)
   callWith pos f first (backTo pos (starEach (e::es) X.env)) (backToKw pos (keywordEach [] X.env))):=by rfl) :
  PE X (.Call (.Attribute o m apos) (e::es) [] pos) (tMeth C m sp dvs E ta t):=by
 intro pins s σ H Q I h;refine PySem.W.methodCall_KW (pl:=pl) (thn (he pins s σ H _ I h) fun u s1 ⟨x,H1,I1,rx,a,dx,fs,ex,ea,l,q⟩=>?_) ht;subst ex;obtain rfl:u=Value.ref a:=rx;refine xO I1 ea c hm l ?_;refine PySem.W.callWith_K (first:=[.ref a]) (h₀:=X.base) I.ok.mod.kin hm.kp (thn (ha pos pins s1 σ H1 _ I1 q) fun us s2 ⟨vs,H2,I2,r,q2⟩=>⟨I2.kIn,?_⟩) hst hpl;exact j24 (us:=.ref a::us) (vs:=.ref a::vs) F hr hb hd hx I2 (.cons rfl r) q2
structure Mk(K:Frg)(C f:Addr):Prop where
 makes:PySem.W.makesIn K C=true
 init:PySem.W.findIn K (.ref C) "__init__"= some (some (.ref f))
 fn:PySem.W.isFn K (.ref f)=true
 kp:PySem.W.keepIn K (.ref C)=true
theorem j25{pins:List (Addr×Obj)}{σ:St}{H:Hp}{s:Shared}{Q:VK}{us:List Value}{vs:List V}(M:Mk X.K C f)(F:FnOk X.prog X.w X.K X.mg X.base CX k f fd ps sp)(hr:Room (k+1) X.A)(hb:Binds X.K fd ps ds)(hd:Vals dvs ds)
  (hx:Passes CX X E) (I:Inv X pins σ H s) (r:Vals vs us)
  (h:∀x dx,H x=none->H dx=none->dx≠x->sp (.ref x::(vs++dvs)) (upd (upd H dx (.own x)) x (.ins C dx [])) (fun v H2=>v = .non/\Q (.ref x) H2) E) :
  wpAny (model X.prog X.w) X.A (call (.ref C) us) (EP X pins σ Q) X.xe s:=by
 have hq:=h (s.heap.objs.size+1) s.heap.objs.size (I.hok.fresh (Nat.le_succ _)) (I.hok.fresh (Nat.le_refl _)) (Nat.ne_of_lt (Nat.lt_succ_self _));have I2:=Inv.made (C:=C) I;have r2:Vals (V.ref (s.heap.objs.size+1)::(vs++dvs)) (Value.ref (s.heap.objs.size+1)::(us++ds)):=.cons rfl (r.append hd);have hl:(Value.ref (s.heap.objs.size+1)::us++ds).length=ps.length:=by
  have e:=r2.length;rw[F.len _ _ _ _ hq]at e;exact e.symm
 refine wpAny_call (j1v (f:=f) I.kIn M.makes M.init (beq_iff_eq.mp M.fn) (codeAny_mono (F.run _ X.stack _ _ ⟨Value.ref (s.heap.objs.size+1)::us,[]⟩ (Value.ref (s.heap.objs.size+1)::(us++ds)) _ _ E (hr.make C us [])
  (I2.env0.make C us []) (hb _ (Value.ref (s.heap.objs.size+1)::us) I2.kIn hl) r2 hq) fun r s' hq'=>?_))
 cases r with
 | error e=>exact hx pins σ _ _ e s' I2 hq'
 | ok fl=>
  cases fl with
  | ret u=>
   obtain⟨v,H',I3,rv,ev,q3⟩:=I2.after hq';subst ev;exact⟨rv,⟨V.ref (s.heap.objs.size+1),H',I3,rfl,q3⟩⟩
  | next=>exact False.elim hq'
  | brk=>exact False.elim hq'
  | cont=>exact False.elim hq'
theorem X9(M:Mk X.K C f)(F:FnOk X.prog X.w X.K X.mg X.base CX k f fd ps sp)(hr:Room (k+1) X.A)(hg:Gl X x)(hm:X.mg x=some (.ref C))(hb:Binds X.K fd ps ds)(hd:Vals dvs ds)(hx:Passes CX X E)
  (ha:PA X (e::es) t) (hdb:(x==("__debug__" : Str))=false:=by decide) (he:starEach (e::es) X.env=(false,eval e X.env)::starEach es X.env:=by rfl) (hpl:(backTo pos (starEach es X.env)).any (·.1)=false:=by rfl) :
  PE X (.Call (.Name x p) (e::es) [] pos) (tMake C sp dvs E t):=by
 intro pins s σ H Q I h;refine wpAny_Call_Name_kw (wu I hg hm ?_ hdb);refine PySem.W.callWith_K (h₀:=X.base) I.ok.mod.kin M.kp (thn (ha pos pins s σ H _ I h) fun us s1 ⟨vs,H1,I1,r,q⟩=>⟨I1.kIn,?_⟩) he hpl;exact j25 M F hr hb hd hx I1 r q
end
section
variable{X:Cx}{CX:CXT}{k:Nat}{f C:Addr}{fd:FuncData}{ps ks:List Str}{sp:Sp}{E:XK}{x m:Str}{p pos apos kpos:Pos}{e o:Expr}{es:List Expr}{kws:List Keyword}{te ta:TE}{t tk:TA}{nm:Option Str}
variable{g:List Value->List Value->List Value}{gV:List V->List V->List V}
end
structure FnScope(N P:List Str)(sc:Scope):Prop where
 kind:sc.kind = .function
 co:sc.isCoroutine=false
 gen:sc.isGenerator=false
 nd:N.Nodup
 pre:N.take P.length=P
 par:∀x∈P,sc.names.lookup x=some .local\/sc.names.lookup x=some .cell
 nofree:∀y∈sc.names,y.2≠.free
theorem Kg{kindOf:Str->Option NameKind}{x:Str}:∀{binds:List (Str×Value)} {m:Str->Option Value},(∀v,(x,v)∉binds)->bindL kindOf binds m x=m x
 | [],_,_=>rfl
 | (n,v)::r,m,h=>by
  unfold bindL;rw[Kg fun w hw=>h w (mem_cons_of_mem _ hw)];split
  ·have:x≠n:=by rintro rfl;exact h v mem_cons_self
   simp[this]
  ·rfl
theorem Ke{kindOf:Str->Option NameKind}{x:Str}:∀{binds:List (Str×Value)} {m:Str->Option Value},(∀v,(x,v)∉binds)->bindC kindOf binds m x=m x
 | [],_,_=>rfl
 | (n,v)::r,m,h=>by
  unfold bindC;rw[Ke fun w hw=>h w (mem_cons_of_mem _ hw)];split
  ·rfl
  ·have:x≠n:=by rintro rfl;exact h v mem_cons_self
   simp[this]
theorem Kf{kindOf:Str->Option NameKind}{x:Str}{v:Value}:∀{P:List Str} {vs:List Value} {i:Nat} {m:Str->Option Value},P.Nodup->P[i]?=some x->vs[i]?=some v->kindOf x=some .local->
  bindL kindOf (P.zip vs) m x=some v
 | [],_,_,_,_,h,_,_=>by simp at h
 | _::_,[],_,_,_,_,h,_=>by simp at h
 | p::P,w::vs,0,m,nd,h1,h2,hk=>by
  simp at h1 h2;subst h1;subst h2;show bindL kindOf ((p,w)::P.zip vs) m p=_;unfold bindL;rw[Kg fun v hv=>(nodup_cons.mp nd).1 (of_mem_zip hv).1,if_pos hk];simp
 | p::P,w::vs,i+1,m,nd,h1,h2,hk=>by
  show bindL kindOf ((p,w)::P.zip vs) m x=_;unfold bindL;exact Kf (i:=i) (nodup_cons.mp nd).2 (by simpa using h1) (by simpa using h2) hk
theorem Kd{kindOf:Str->Option NameKind}{x:Str}{v:Value}:∀{P:List Str} {vs:List Value} {i:Nat} {m:Str->Option Value},P.Nodup->P[i]?=some x->vs[i]?=some v->kindOf x≠some .local->
  bindC kindOf (P.zip vs) m x=some v
 | [],_,_,_,_,h,_,_=>by simp at h
 | _::_,[],_,_,_,_,h,_=>by simp at h
 | p::P,w::vs,0,m,nd,h1,h2,hk=>by
  simp at h1 h2;subst h1;subst h2;show bindC kindOf ((p,w)::P.zip vs) m p=_;unfold bindC;rw[Ke fun v hv=>(nodup_cons.mp nd).1 (of_mem_zip hv).1,if_neg hk];simp
 | p::P,w::vs,i+1,m,nd,h1,h2,hk=>by
  show bindC kindOf ((p,w)::P.zip vs) m x=_;unfold bindC;exact Kd (i:=i) (nodup_cons.mp nd).2 (by simpa using h1) (by simpa using h2) hk
noncomputable def start(N:List Str)(vs:List V):St:=vs.map some++List.replicate (N.length-vs.length) none
noncomputable def cxOf(CX:CXT)(P:Program)(w:World)(K:Frg)(mg:Str->Option Value)(base:Heap)(N:List Str)(qual:Str)(scope:Scope)(f:Addr)(cd:Value)(A:Around)(outer:List Env)(s:Shared)(H:Hp)(E:XK):Cx where
 prog:=P
 w:=w
 K:=K
 mg:=mg
 base:=base
 A:=A.deeper (envOfC qual scope s.heap.objs.size f cd)
 N:=N
 s₀:=s
 H₀:=H
 env:=envOfC qual scope s.heap.objs.size f cd
 outer:=outer
 stack:=envOfC qual scope s.heap.objs.size f cd::outer
 ex:=[]
 calm:=true
 fn:=fun _=>true
 pn:=[]
 xe:=fun e s'=>wpAny (model P w) (A.deeper (envOfC qual scope s.heap.objs.size f cd)) (leaving (envOfC qual scope s.heap.objs.size f cd) e) (fun _ s''=>CX outer H s E e s'') (fun e' s''=>CX outer H s E e' s'') s'
theorem Wz{sc:Scope}{n:Nat}{x:Str}(h:sc.names.lookup x=some .cell):∃c,(cellsFrom n sc.names []).lookup x=some c:=by
 have q:=PySem.W.cellsFrom_some sc.names n [] (.inl h);exact Option.isSome_iff_exists.mp q
theorem j0o{CX:CXT}{P:Program}{w:World}{K:Frg}{mg:Str->Option Value}{base:Heap}{N ps:List Str}{qual:Str}{scope:Scope}{f:Addr}{cd:Value}{A:Around}{outer:List Env}{s s1:Shared}{H:Hp}{E:XK}{us:List Value}{vs:List V}
  (S:FnScope N ps scope) (hd:A.handled=none) (e0:Env0 P w K mg base A outer s H) (hl:vs.length=ps.length) (r:Vals vs us)
  (x:InCallC s s.heap.objs.size (bindL (envOfC qual scope s.heap.objs.size f cd).kindOf (ps.zip us) fun _=>none) (cellsFrom (s.heap.objs.size+1) scope.names []) (bindC (envOfC qual scope s.heap.objs.size f cd).kindOf (ps.zip us) fun _=>none) s1) :
  Inv (cxOf CX P w K mg base N qual scope f cd A outer s H E) [] (start N vs) H s1:=by
 have hpl:ps.length<=N.length:=by have:=congrArg List.length S.pre;rw[length_take]at this;omega
 obtain⟨h1,tk,rfl,hk⟩:=x.done;have noA:∀b:Addr,b∉(cxOf CX P w K mg base N qual scope f cd A outer s H E).ex:=fun b z=>absurd (show b∈([]:List Addr)from z) (by simp)
 refine⟨⟨e0.mod,S.kind,rfl,rfl,Nat.le_refl _,fun y z c h1 h2=>?_,fun y hy=>?_,fun y c _ h=>?_,fun _=>hd,Around.frames_deeper e0.frames,.inr ⟨rfl,rfl⟩,fun b z=>absurd z (noA b),e0.bs,e0.bsz,fun b _ _=>noA b,fun b z=>absurd z (noA b),e0.funs,e0.frf⟩,
  rfl,e0.bare,Un.kept hk,⟨_,x.toInCall.ns,fun i y v h1 h2 h3=>?_⟩,fun y c h=>⟨_,x.cell y c h⟩,e0.hok.fresh (Nat.le_refl _),fun y c h=>?_,fun p hp=>absurd (show p∈([]:List (Addr×Obj))from hp) (by simp),e0.hok.kept hk,?_⟩
 ·exact name_of_addr x.apart (PySem.mem_of_lookup h1) (PySem.mem_of_lookup h2)
 ·have hy:scope.names.lookup y=some .cell\/scope.names.lookup y=some .free:=hy;rcases hy with hy | hy
  ·exact Wz hy
  ·exact absurd rfl (S.nofree _ (PySem.mem_of_lookup hy))
 ·exact Nat.le_of_lt (x.above y c (PySem.mem_of_lookup h))
 ·have hi:i<vs.length:=by
   unfold start at h2;by_cases hi:i<vs.length
   ·exact hi
   ·rw[List.getElem?_append_right (by simpa using hi)]at h2;rw[List.getElem?_replicate]at h2;split at h2<;>cases h2
  have ha:vs[i]?=some v:=by
   unfold start at h2;rw[List.getElem?_append_left (by simpa using hi),List.getElem?_map]at h2;cases e:vs[i]? with
   | none=>rw[e]at h2;cases h2
   | some a=>rw[e]at h2;cases h2;rfl
  obtain⟨u,hu,rv⟩:=r.get ha;have hp:ps[i]?=some y:=by
   rw[<-S.pre,List.getElem?_take_of_lt (by omega)];exact h1
  have ndP:ps.Nodup:=by rw[<-S.pre];exact S.nd.sublist (List.take_sublist _ _)
  refine⟨u,rv,?_⟩;rcases S.par y (List.mem_of_getElem? hp)with k | k
  ·exact .inl ⟨k,Kf ndP hp hu k⟩
  ·obtain⟨c,e⟩:=Wz (n:=s.heap.objs.size+1) k;refine .inr ⟨.inl k,c,e,?_⟩;have q:=x.cell y c e;rw[Kd ndP hp hu (by show scope.names.lookup y≠_;rw[k];decide)]at q;exact q
 ·exact e0.hok.fresh (Nat.le_of_lt (x.above y c (PySem.mem_of_lookup h)))
 ·unfold start;show _=N.length;rw[List.length_append,length_map,length_replicate];omega
theorem j4m{CX:CXT}{P:Program}{w:World}{K:Frg}{mg:Str->Option Value}{base:Heap}{k:Nat}{f:Addr}{name qual:Str}{params:Arguments}{body:List Stmt}{scope:Scope}{dV kV doc pm cdv ct oc:Value}{an od:Option Addr}
  {osl:Array (Option Value)} {N ps:List Str} {sp:Sp} (lk:K.lookup f=some ⟨oc,od,.func (PySem.W.fnOf name qual params body scope dV kV doc pm an cdv ct),osl⟩) (hcd:PySem.W.codeIn K cdv qual=true) (S:FnScope N ps scope)
  (len:∀vs H Q E,sp vs H Q E->vs.length=ps.length)
  (hbody:∀(A:Around) (outer:List Env) (s:Shared) (H:Hp) (vs:List V) (Q:VK) (E:XK),Room k (A.deeper (envOfC qual scope s.heap.objs.size f cdv))->sp vs H Q E->
   ∃t,PSs (cxOf CX P w K mg base N qual scope f cdv A outer s H E) body t/\t {nx:=fun _ H'=>Q .non H',rt:=Q} (start N vs) H) :
  FnOk P w K mg base CX (k+1) f (PySem.W.fnOf name qual params body scope dV kV doc pm an cdv ct) ps sp:=by
 refine⟨len,fun A outer s H args us vs Q E hr e0 hb r hsp=>?_⟩;have hl:=len _ _ _ _ hsp;have KX:K.In s.heap:=e0.mod.kin.keeps fun b o e=>(e0.bs b o e).1
 have lim:s.heap.NoLimit:=e0.mod.nolimit.keeps fun b o e=>(e0.bs b o e).1
 have hkind:∀y∈ps.zip us,scope.names.lookup y.1=some .local\/(scope.names.lookup y.1=some .cell/\((cellsFrom (s.heap.objs.size+1) scope.names []).lookup y.1).isSome=true):=fun⟨n,v⟩ hy=>by
  rcases S.par n (of_mem_zip hy).1 with q | q
  ·exact .inl q
  ·exact .inr ⟨q,PySem.W.cellsFrom_some _ _ _ (.inl q)⟩
 refine codeAny_call_function hr.depth (KX _ _ lk) rfl S.co S.gen rfl (PySem.W.codeRec_of KX hcd) (hb _ _ _ _ ?_);refine wpAny_newFunctionEnv_cells S.kind hkind fun env he s1 x=>?_
 subst he;refine⟨lim.keeps x.toInCall.keep,codeAny_func ?_⟩;obtain⟨t,ht,hq⟩:=hbody A outer s H vs Q E (hr.deeper _) hsp;have I:Inv (cxOf CX P w K mg base N qual scope f cdv A outer s H E) [] (start N vs) H s1:=j0o S hr.hd e0 hl r x;refine wpAny_mono (ht [] s1 (start N vs) H _ I hq) (fun fl s' hs=>?_) fun e s' hs=>hs
 have fin:∀{σ':St} {H':Hp} {v:V} {u:Value},Inv (cxOf CX P w K mg base N qual scope f cdv A outer s H E) [] σ' H' s'->RelV v u->Q v H'->CE outer P w H s Q u s':=
  fun {σ' H' v u} J rv q=>⟨v,H',J.os,J.bare,J.base,J.hok,rv,q⟩
 cases fl with
 | ret u=>
  obtain⟨v,σ',H',J,rv,q⟩:=hs;exact fin J rv q
 | next=>
  obtain⟨σ',H',J,q⟩:=hs;exact fin (v:=V.non) (u:=Value.none) J rfl q
 | brk=>
  obtain⟨_,_,_,q⟩:=hs;exact False.elim q
 | cont=>
  obtain⟨_,_,_,q⟩:=hs;exact False.elim q
section
variable{X:Cx}{x:Str}{p pos:Pos}{e:Expr}{es:List Expr}{t:TA}{id T:String}{r:List V->Hp->VK->Prop}
def tCB(r:List V->Hp->VK->Prop)(t:TA):TE:=fun σ H Q=>t σ H fun vs H1=>r vs H1 Q
theorem jy(hc:CallR X (.builtin id) r)(hg:Gl X x)(hm:X.mg x=none)(hv:bootBuiltins x=some (.builtin id))(ha:PA X (e::es) t)(hn:x≠"__name__":=by decide)(hdb:(x==("__debug__" : Str))=false:=by decide)
  (he:starEach (e::es) X.env=(false,eval e X.env)::starEach es X.env:=by rfl) (hpl:(backTo pos (starEach es X.env)).any (·.1)=false:=by rfl):PE X (.Call (.Name x p) (e::es) [] pos) (tCB r t):=by
 intro pins s σ H Q I h;refine wpAny_Call_Name_kw (qQ I hg hm hv ?_ hn hdb);exact PyProof.Rows.callWith_builtin1 (thn (ha pos pins s σ H _ I h) fun us s1 ⟨vs,H1,I1,r1,q1⟩=>hc pins s1 σ H1 vs us Q I1 r1 q1) he hpl
theorem QM(hc:CallR X (.type T) r)(hg:Gl X x)(hm:X.mg x=none)(hv:bootBuiltins x=some (.type T))(ha:PA X (e::es) t)(hn:x≠"__name__":=by decide)(hdb:(x==("__debug__" : Str))=false:=by decide)
  (he:starEach (e::es) X.env=(false,eval e X.env)::starEach es X.env:=by rfl) (hpl:(backTo pos (starEach es X.env)).any (·.1)=false:=by rfl):PE X (.Call (.Name x p) (e::es) [] pos) (tCB r t):=by
 intro pins s σ H Q I h;refine wpAny_Call_Name_kw (qQ I hg hm hv ?_ hn hdb);exact PyProof.Rows.callWith_type1 (thn (ha pos pins s σ H _ I h) fun us s1 ⟨vs,H1,I1,r1,q1⟩=>hc pins s1 σ H1 vs us Q I1 r1 q1) he hpl
end
end L2
namespace HT
open PySem PyProof.Rows
section
open PySem.SeqAt
open PySem.AutoSeq1 (wpAny_loadPart')
open PySem.MeetsSeq PySem.MeetsSeq2 PySem.MeetsSeq3
end
section
variable{prog:Program}{w:World}{A:Around}{E:Value->Shared->Prop}{s:Shared}
noncomputable def sIx(n d:Nat):Option Int->Nat
 | none=>d
 | some v=>if v<0 then(v+(n:Int)).toNat else min v.toNat n
theorem j4a(n d:Nat)(hd:d<=n)(o:Option Int):sIx n d o<=n:=by
 cases o with
 | none=>exact hd
 | some v=>
  show(if v<0 then(v+(n:Int)).toNat else min v.toNat n)<=n;by_cases hv:v<0
  ·rw[if_pos hv];omega
  ·rw[if_neg hv];exact Nat.min_le_right _ _
theorem XO(v:Int)(n d:Nat):(if v<0 then max (v+(n:Int)) 0 else min v (n:Int))=((sIx n d (some v):Nat):Int):=by
 show(if v<0 then max (v+(n:Int)) 0 else min v (n:Int))=(((if v<0 then(v+(n:Int)).toNat else min v.toNat n):Nat):Int)
 by_cases hv:v<0
 ·simp only[if_pos hv];omega
 ·simp only[if_neg hv];omega
theorem xD(lo hi:Option Int)(n:Nat):Builtin.Slice.sliceAdjust lo hi 1 (n:Int)=(((sIx n 0 lo:Nat):Int),((sIx n n hi:Nat):Int)):=by
 have h1:¬((1:Int)<0):=by omega
 unfold Builtin.Slice.sliceAdjust;simp only[h1,if_false];refine Prod.ext ?_ ?_
 ·cases lo with
  | none=>rfl
  | some v=>exact XO v n 0
 ·cases hi with
  | none=>rfl
  | some v=>exact XO v n n
theorem Xq(i j:Nat):Builtin.Slice.slicePlaces (i:Int) (j:Int) 1=j-i:=by
 unfold Builtin.Slice.slicePlaces;have h1:(1:Int)>0:=by omega
 simp only[h1,if_true,Int.ediv_one];split<;>omega
theorem slicePart_{v:Value}{o:Option Int}{Q:Option Int->Shared->Prop}(p:IsPart v o)(h:Q o s):wpAny (model prog w) A (Builtin.Slice.slicePartIndex v) Q E s:=by
 cases p with
 | none=>exact slicePart_none h
 | int i t=>exact slicePart_int h
theorem Ye{sl:Addr}{vl vu:Value}{lo hi:Option Int}{n:Nat}{Q:Int×Int×Nat->Shared->Prop}(hs:s.heap.IsSliceOf sl vl vu .none)(pl:IsPart vl lo)(pu:IsPart vu hi)
  (h:Q (((sIx n 0 lo:Nat):Int),1,sIx n n hi-sIx n 0 lo) s):wpAny (model prog w) A (Builtin.Slice.sliceApplied (.ref sl) (pure (n:Int))) Q E s:=by
 obtain⟨os,hos,hcs,hds⟩:=id hs;unfold Builtin.Slice.sliceApplied Builtin.Slice.sliceFields;refine wpAny_bind (wpAny_bind (wpAny_field hos hds (x:=vl) rfl (wpAny_bind (wpAny_field hos hds (x:=vu) rfl (wpAny_bind (wpAny_field hos hds (x:=.none) rfl (wpAny_pure ?_)))))));refine wpAny_bind (slicePart_none ?_);show wpAny _ _ (if((1:Int)==0)=true then _ else _) _ _ s;rw[if_neg (by decide)];refine wpAny_bind (slicePart_ pl (wpAny_bind (slicePart_ pu (wpAny_bind (wpAny_pure ?_)))));show wpAny _ _ (match Builtin.Slice.sliceAdjust lo hi 1 (n:Int)with | (lo,hi)=>pure (lo,(1:Int),Builtin.Slice.slicePlaces lo hi 1)) _ _ s;rw[xD lo hi n];show wpAny _ _ (pure (((sIx n 0 lo:Nat):Int),(1:Int),Builtin.Slice.slicePlaces ((sIx n 0 lo:Nat):Int) ((sIx n n hi:Nat):Int) 1)) _ _ s;rw[Xq];exact wpAny_pure h
theorem j1R(xs:Array Value)(i k:Nat):((List.range k).filterMap fun(m:Nat)=>xs[((i:Int)+(m:Int)*1).toNat]?).toArray=((xs.toList.drop i).take k).toArray:=by
 have e:(fun(m:Nat)=>xs[((i:Int)+(m:Int)*1).toNat]?)=fun m=>xs[i+m]?:=by
  funext m;have:((i:Int)+(m:Int)*1).toNat=i+m:=by omega
  rw[this]
 rw[e];have:=pick_run xs i k;rw[List.filterMap_map]at this;have e2:((fun x=>xs[x]?)∘fun x=>i+x)=fun m=>xs[i+m]?:=rfl
 rw[e2]at this;rw[this]
theorem yj{t sl:Addr}{items:Array Value}{vl vu:Value}{lo hi:Option Int}{Q:Value->Shared->Prop}(ht:IsTup s.heap t items)(hs:s.heap.IsSliceOf sl vl vu .none)(pl:IsPart vl lo)(pu:IsPart vu hi)
  (hw:¬(sIx items.size 0 lo=0/\sIx items.size items.size hi=items.size))
  (h:Q (.ref s.heap.objs.size) {s with heap:=s.heap.push {cls:=.type "tuple",data:=.seq ((items.toList.drop (sIx items.size 0 lo)).take (sIx items.size items.size hi-sIx items.size 0 lo)).toArray}})
  (hsz:items.size<=sizeLine):wpAny (model prog w) A (getItem (.ref t) (.ref sl)) Q E s:=by
 have htake:sizeOk (.seq ((items.toList.drop (sIx items.size 0 lo)).take (sIx items.size items.size hi-sIx items.size 0 lo)).toArray):=by
  show((items.toList.drop (sIx items.size 0 lo)).take (sIx items.size items.size hi-sIx items.size 0 lo)).toArray.size<=sizeLine;rw[size_toArray,length_take,length_drop,Array.length_toList];omega
 have hj:sIx items.size items.size hi<=items.size:=j4a _ _ (Nat.le_refl _) hi;obtain⟨os,hos,hcs,hds⟩:=id hs;have hTs:s.TypeIs (.ref sl) "slice":=⟨os,hos,hcs⟩
 unfold getItem
 try with_reducible refine wpAny_holding ?_
 first | refine wpAny_bind (wpAny_pure ?_) | skip
 refine wpAny_bind (wpAny_sequenceKey ht.typeIs (by decide) ?_);refine wpAny_bind (wpAny_callSpecial?_slot (name:=Str.ofString "__getitem__") ht.typeIs PyProof.Rows.slot_tuple_getitem
  (wpAny_call_entry PyProof.Rows.slot_tuple_getitem ht.typeIs entry_tuple_getitem ?_ (args_tuple_getitem _ _)))
 show wpAny _ _ (Builtin.Tuple.tupleItemsOf (.ref t) >>= _) _ _ s;refine wpAny_bind (tupleItemsOf_ ht ?_);refine wpAny_bind (wpAny_typeOf hTs ?_);rw[if_pos (by decide)];refine wpAny_bind (Ye hs pl pu ?_);have hno:¬((((sIx items.size 0 lo:Nat):Int)==0&&(1:Int)==1&&(sIx items.size items.size hi-sIx items.size 0 lo)==items.size)=true):=by
  intro q;rw[Bool.and_eq_true,Bool.and_eq_true]at q;have q1:((sIx items.size 0 lo:Nat):Int)=0:=eq_of_beq q.1.1;have q2:sIx items.size items.size hi-sIx items.size 0 lo=items.size:=eq_of_beq q.2;exact hw ⟨by omega,by omega⟩
 show wpAny _ _ (if(((sIx items.size 0 lo:Nat):Int)==0&&(1:Int)==1&&(sIx items.size items.size hi-sIx items.size 0 lo)==items.size)=true then _ else _) _ _ s;rw[if_neg hno,j1R]
 first
  | exact wpAny_bind (m:=Builtin.Tuple.tupleExact _) (wpAny_newObj_type (wpAny_pure ⟨_,rfl,wpAny_pure h⟩) htake)
  | exact wpAny_bind (m:=Builtin.Tuple.tupleExact _) (wpAny_newObj_type (wpAny_bind (wpAny_pure (wpAny_pure ⟨_,rfl,wpAny_pure h⟩))) htake)
  | exact wpAny_bind (wpAny_bind (m:=Builtin.Tuple.tupleExact _) (wpAny_newObj_type (wpAny_pure (wpAny_pure ⟨_,rfl,wpAny_pure h⟩)) htake))
  | exact wpAny_bind (wpAny_bind (m:=Builtin.Tuple.tupleExact _) (wpAny_newObj_type (wpAny_pure ⟨_,rfl,wpAny_pure h⟩) htake))
end
end HT
namespace L2
open PySem PySem.Spec PyProof.Rows
noncomputable abbrev TO:=St->Hp->(Option Int->Hp->Prop)->Prop
def PO(X:Cx)(e:Option Expr)(t:TO):Prop:=
 ∀(pins:List (Addr×Obj)) (s:Shared) (σ:St) (H:Hp) (Q:Option Int->Hp->Prop),Inv X pins σ H s->t σ H Q->
  wpAny (model X.prog X.w) X.A (evalPart e X.env) (fun u s'=>∃o H',Inv X pins σ H' s'/\IsPart u o/\Q o H') X.xe s
def tNoPart:TO:=fun _ H Q=>Q none H
def tPart(t:TE):TO:=fun σ H Q=>t σ H fun x H1=>∃i,x = .int i/\Q (some i) H1
theorem intsAre_of{ns:List Int}:∀{us:List Value},Vals (ns.map V.int) us->IntsAre us ns:=by
 induction ns with
 | nil=>intro us r;rw[map_nil]at r;cases r;exact .nil
 | cons n ns ih=>
  intro us r;rw[map_cons]at r;cases r with
  | cons r1 r2=>
   obtain⟨t,e⟩:=r1;subst e;exact .cons n t (ih r2)
section
variable{X:Cx}{e:Expr}{te:TE}{lo hi:Option Expr}{tl th:TO}{pos p2:Pos}
theorem YJ:PO X none tNoPart:=by
 intro pins s σ H Q I h;rw[evalPart_none];exact wpAny_pure ⟨none,H,I,.none,h⟩
theorem Q5(h:PE X e te):PO X (some e) (tPart te):=by
 intro pins s σ H Q I hw;rw[evalPart_some];refine thn (h pins s σ H _ I hw) fun u s1 ⟨x,H1,I1,r1,q1⟩=>?_
 obtain⟨i,rfl,q⟩:=q1;obtain⟨t,rfl⟩:=r1;exact⟨some i,H1,I1,.int i t,q⟩
def SlR(X:Cx)(r:V->Option Int->Option Int->Hp->VK->Prop):Prop:=
 ∀(pins:List (Addr×Obj)) (s:Shared) (σ:St) (H:Hp) (x:V) (v vl vu:Value) (lo hi:Option Int) (sl:Addr) (Q:VK),Inv X pins σ H s->RelV x v->s.heap.IsSliceOf sl vl vu .none->IsPart vl lo->IsPart vu hi->r x lo hi H Q->
  ∃T id,typeLookup (.type T) "__getitem__"= pure (some (.builtin id))/\s.TypeIs v T/\wpAny (model X.prog X.w) X.A (getItem v (.ref sl)) (EP X pins σ Q) X.xe s
def tSl(r:V->Option Int->Option Int->Hp->VK->Prop)(te:TE)(tl th:TO):TE:=fun σ H Q=>te σ H fun x H1=>tl σ H1 fun l H2=>th σ H2 fun u H3=>r x l u H3 Q
theorem Zg{r:V->Option Int->Option Int->Hp->VK->Prop}(hr:SlR X r)(he:PE X e te)(hl:PO X lo tl)(hu:PO X hi th):PE X (.Subscript e (.Slice lo hi none p2) pos) (tSl r te tl th):=by
 intro pins s σ H Q I h;refine Subscript_ (thn (he pins s σ H _ I h) fun v s1 ⟨x,H1,I1,r1,q1⟩=>?_);refine wpAny_Slice (thn (hl pins s1 σ H1 _ I1 q1) fun vl s2 ⟨l,H2,I2,pl,q2⟩=>thn (hu pins s2 σ H2 _ I2 q2) fun vu s3 ⟨u,H3,I3,pu,q3⟩=>?_);rw[evalPart_none];refine wpAny_pure ?_;have I4:Inv X pins σ H3 {s3 with heap:=s3.heap.push {cls:=.type "slice",data:=.fields #[vl,vu,.none]}}:=I3.kept (t':=s3.toks) fun b ob q=>Heap.get?_push_of_some _ q
 obtain⟨T,id,hT,ht,hg⟩:=hr pins {s3 with heap:=s3.heap.push {cls:=.type "slice",data:=.fields #[vl,vu,.none]}} σ H3 x v vl vu l u s3.heap.objs.size Q I4 r1 (Heap.IsSliceOf.new ..) pl pu q3;show wpAny (model X.prog X.w) X.A (subscriptTail e (.Slice lo hi none p2) v (.ref s3.heap.objs.size)) (EP X pins σ Q) X.xe {s3 with heap:=s3.heap.push {cls:=.type "slice",data:=.fields #[vl,vu,.none]}};exact tail_any (ops:=[.ref s3.heap.objs.size,v]) ht hT hg (by with_unfolding_all rfl)
noncomputable def cutV(xs:List V)(lo hi:Option Int):List V:=(xs.drop (HT.sIx xs.length 0 lo)).take (HT.sIx xs.length xs.length hi-HT.sIx xs.length 0 lo)
theorem Yn(xs:List V)(lo hi:Option Int):(cutV xs lo hi).length<=xs.length:=by
 unfold cutV;rw[length_take,length_drop];omega
noncomputable def rSlT(K:Frg):V->Option Int->Option Int->Hp->VK->Prop:=fun x lo hi H Q=>∃a xs,x = .ref a/\SqT K H a xs/\
 ¬(HT.sIx xs.length 0 lo=0/\HT.sIx xs.length xs.length hi=xs.length)/\∀p,H p=none->Q (.ref p) (upd H p (.tup (cutV xs lo hi)))
theorem j4b:SlR X (rSlT X.K):=by
 intro pins s σ H x v vl vu lo hi sl Q I rx hs pl pu h;obtain⟨a,xs,rfl,hx,hw,q⟩:=h;cases rx;obtain⟨its,r,ht,hz⟩:=I.tuple hx;have hlen:its.toArray.size=xs.length:=by rw[size_toArray];exact r.length.symm
 refine⟨"tuple",_,PyProof.Rows.slot_tuple_getitem.lookup,ht.typeIs,?_⟩;refine HT.yj ht hs pl pu (by rw[hlen];exact hw) ?_ (by rw[hlen];exact hz);rw[hlen];refine⟨.ref s.heap.objs.size,_,I.laid (t':=s.toks) (o:=.tup (cutV xs lo hi)) (fun b ob q=>Heap.get?_push_of_some _ q) (Nat.le_refl _) ?_,rfl,q _ (I.hok.fresh (Nat.le_refl _))⟩;exact⟨Nat.le_trans (Yn xs lo hi) hz,_,(r.drop (HT.sIx xs.length 0 lo)).take (HT.sIx xs.length xs.length hi-HT.sIx xs.length 0 lo),IsTup.new _ _⟩
end
noncomputable def ixN(n:Nat)(i:Int):Option Nat:=if 0<=i then(if i<n then some i.toNat else none)else if -(n:Int)<=i then some (i+n).toNat else none
noncomputable def atI{α:Type}(xs:List α)(i:Int):Option α:=(ixN xs.length i).bind fun j=>xs[j]?
theorem XX{n:Nat}{i:Int}{j:Nat}(h:ixN n i=some j):seqIndex? i n=some j/\j<n/\-(n:Int)<=i/\i<n:=by
 unfold ixN at h;by_cases h0:0<=i
 ·rw[if_pos h0]at h;by_cases h1:i<n
  ·rw[if_pos h1]at h;have e:i.toNat=j:=Option.some.inj h;exact⟨by rw[seqIndex_of h0 h1,e],by omega,by omega,h1⟩
  ·rw[if_neg h1]at h;cases h
 ·rw[if_neg h0]at h;by_cases h1 : -(n:Int)<=i
  ·rw[if_pos h1]at h;have e:(i+n).toNat=j:=Option.some.inj h;exact⟨by rw[seqIndex_neg (by omega) h1,e],by omega,h1,by omega⟩
  ·rw[if_neg h1]at h;cases h
theorem K6{α:Type}{xs:List α}{i:Int}{v:α}(h:atI xs i=some v):∃j,seqIndex? i xs.length=some j/\xs[j]?=some v/\j<xs.length/\-(xs.length:Int)<=i/\i<xs.length:=by
 unfold atI at h;cases e:ixN xs.length i with
 | none=>rw[e]at h;cases h
 | some j=>
  rw[e]at h;obtain⟨h1,h2,h3,h4⟩:=XX e;exact⟨j,h1,h,h2,h3,h4⟩
theorem jO{α:Type}{xs:List α}{j:Nat}{v:α}(h:xs[j]?=some v):atI xs (j:Int)=some v:=by
 have hj:j<xs.length:=(List.getElem?_eq_some_iff.mp h).1;have e:ixN xs.length (j:Int)=some j:=by
  unfold ixN;rw[if_pos (by omega),if_pos (by omega)];simp
 unfold atI;rw[e];exact h
def PlainIx(b:Expr):Prop:=∀o i,subscripted b false o i=operate [o,i] (getItem o i)
def IxR(X:Cx)(r:R2):Prop:=
 ∀(value slice:Expr) (pins:List (Addr×Obj)) (s:Shared) (σ:St) (H:Hp) (x y:V) (v u:Value) (Q:VK),Inv X pins σ H s->RelV x v->RelV y u->r x y H Q->
  subscripted slice false v u=operate [v,u] (getItem v u)->wpAny (model X.prog X.w) X.A (subscriptTail value slice v u) (EP X pins σ Q) X.xe s
def MtR(X:Cx)(id:String)(r:V->List V->Hp->VK->Prop):Prop:=
 ∀(pins:List (Addr×Obj)) (s:Shared) (σ:St) (H:Hp) (x:V) (xs:List V) (v:Value) (us:List Value) (Q:VK),Inv X pins σ H s->RelV x v->Vals xs us->r x xs H Q->
  wpAny (model X.prog X.w) X.A (call (.builtin id) (v::us)) (EP X pins σ Q) X.xe s
section
variable{X:Cx}{a b:Expr}{ta tb:TE}{pos:Pos}
theorem ji{r:R2}(hr:IxR X r)(ha:PE X a ta)(hb:PE X b tb)(hs:PlainIx b:=by exact fun _ _=>rfl):PE X (.Subscript a b pos) (tOp r ta tb):=by
 intro pins s σ H Q I h;exact Subscript_ (binT ha hb I h fun v u s2 x y H2 I2 rx ry q=>hr a b pins s2 σ H2 x y v u Q I2 rx ry q (hs _ _))
def rIxL(K:Frg):R2:=fun x y H Q=>∃p xs i v,x = .ref p/\y = .int i/\SqL K H p xs/\atI xs i=some v/\Q v H
def rIxT(K:Frg):R2:=fun x y H Q=>∃p xs i v,x = .ref p/\y = .int i/\SqT K H p xs/\atI xs i=some v/\Q v H
def rIxS:R2:=fun x y H Q=>∃z i c,x = .str z/\y = .int i/\z.length<=sizeLine/\atI z.cps.toList i=some c/\Q (.str ⟨#[c]⟩) H
theorem jv:IxR X (rIxL X.K):=by
 intro value slice pins s σ H x y v u Q I rx ry h hs;obtain⟨p,xs,i,z,rfl,rfl,hq,he,q⟩:=h;cases rx;obtain⟨t,rfl⟩:=ry;obtain⟨its,r,pl,hz⟩:=I.list hq;obtain⟨j,h1,h2,h3,h4,h5⟩:=K6 he;obtain⟨w,ew,rw'⟩:=r.get h2;have hl:=r.length;have hn:=line63;have fin:EP X pins σ Q w s:=⟨z,H,I,rw',q⟩
 by_cases h0:0<=i
 ·have hj:i.toNat=j:=by
   rw[seqIndex_of h0 h5]at h1;exact Option.some.inj h1
  exact item_listR pl.isList h0 (by omega) (by rw[hj];simpa using ew) fin hs
 ·have hj:(i+(its.toArray.size:Int)).toNat=j:=by
   rw[seqIndex_neg (by omega) h4]at h1;rw[size_toArray,<-hl];exact Option.some.inj h1
  exact subscriptTail_builtinR (x:=w) pl.isList.typeIs slot_list_getitem.lookup
   (wpAny_getItem_list_neg (Q:=fun r s'=>r=w/\EP X pins σ Q r s') pl.isList (by omega) (by rw[size_toArray]<;>omega) (by omega) (by rw[hj];simpa using ew) ⟨rfl,fin⟩) hs
theorem jo:IxR X (rIxT X.K):=by
 intro value slice pins s σ H x y v u Q I rx ry h hs;obtain⟨p,xs,i,z,rfl,rfl,hq,he,q⟩:=h;cases rx;obtain⟨t,rfl⟩:=ry;obtain⟨its,r,pl,hz⟩:=I.tuple hq;obtain⟨j,h1,h2,h3,h4,h5⟩:=K6 he;obtain⟨w,ew,rw'⟩:=r.get h2;have hl:=r.length;have hn:=line63;have fin:EP X pins σ Q w s:=⟨z,H,I,rw',q⟩
 exact subscriptTail_builtinR (x:=w) pl.typeIs slot_tuple_getitem.lookup
  (getItem_tuple (j:=j) (Q:=fun r s'=>r=w/\EP X pins σ Q r s') pl (by omega) (by omega) (by rw[size_toArray,<-hl];exact h1) (by simpa using ew) ⟨rfl,fin⟩) hs
theorem xT:IxR X rIxS:=by
 intro value slice pins s σ H x y v u Q I rx ry h hs;obtain⟨z,i,c,rfl,rfl,hz,he,q⟩:=h;obtain⟨t,rfl⟩:=rx;obtain⟨t',rfl⟩:=ry;obtain⟨j,h1,h2,h3,h4,h5⟩:=K6 he;have hl:z.cps.toList.length=z.length:=by simp[Str.length]
 rw[hl]at h1 h4 h5;have hn:=line63;exact tail_any (typeIs_str s z t) slot_str_getitem.lookup (getItem_str (c:=c) (by
  have e1:decide (i < -(2^63:Int))=false:=decide_eq_false (by omega);have e2:decide (i>=2^63)=false:=decide_eq_false (by omega);rw[e1,e2,Bool.or_false]) (by rw[h1];simpa using h2) ⟨.str ⟨#[c]⟩,H,I.tok _,⟨_,rfl⟩,q⟩) hs
theorem Xc(its:List Value)(n j:Nat)(u:Value):Obj.mapSeq (·.setIfInBounds j u) {cls:=.type "list",data:=.seq its.toArray n}={cls:=.type "list",data:=.seq (its.set j u).toArray n}:=by
 simp[Obj.mapSeq]
theorem Inv.lst{pins:List (Addr×Obj)}{σ:St}{H:Hp}{s:Shared}{p:Addr}{xs:List V}(I:Inv X pins σ H s)(h:H p=some (.lst xs)) :
  ∃(its:List Value) (n:Nat),Vals xs its/\s.heap.get? p=some {cls:=.type "list",data:=.seq its.toArray n}/\xs.length<=sizeLine:=by
 obtain⟨z,its,n,r,e⟩:=I.hok p _ h;exact⟨its,n,r,e,z⟩
theorem Inv.lstUpd{pins:List (Addr×Obj)}{σ:St}{H:Hp}{s:Shared}{p:Addr}{xs ys:List V}{its its':List Value}{n n':Nat}{f:Obj->Obj}(I:Inv X pins σ H s)(h:H p=some (.lst xs))
  (ho:s.heap.get? p=some {cls:=.type "list",data:=.seq its.toArray n}) (hf:f {cls:=.type "list",data:=.seq its.toArray n}={cls:=.type "list",data:=.seq its'.toArray n'}) (r:Vals ys its') (hz:ys.length<=sizeLine) (t:Nat) :
  Inv X pins σ (upd H p (.lst ys)) {s with heap:=s.heap.update p f,toks:=t}:=by
 have e:(s.heap.update p f).get? p=some {cls:=.type "list",data:=.seq its'.toArray n'}:=by
  rw[Heap.get?_update_self f ho (by rw[hf]<;>rfl),hf]
 refine I.write (x:=p) (e:=p) (by rw[h];trivial) (.inl rfl) (fun b u hb q=>(Heap.get?_update_other _ _ (Ne.symm hb)).trans q) ⟨_,e⟩ ?_;exact⟨hz,its',n',r,e⟩
noncomputable def rSetL:V->V->V->Hp->(Hp->Prop)->Prop:=fun o i v H Q=>∃p xs k j,o = .ref p/\i = .int k/\H p=some (.lst xs)/\ixN xs.length k=some j/\Q (upd H p (.lst (xs.set j v)))
theorem set_list:PSet X rSetL:=by
 intro pins s σ H o i v ov iv u Q I ro ri rv h;obtain⟨p,xs,k,j,rfl,rfl,hp,hj,q⟩:=h;cases ro;obtain⟨t,rfl⟩:=ri;obtain⟨its,n,r,ho,hz⟩:=I.lst hp;obtain⟨h1,h2,h3,h4⟩:=XX hj;have hl:=r.length;have hn:=line63;have I':Inv X pins σ (upd H p (.lst (xs.set j v))) {s with heap:=s.heap.update p (Obj.mapSeq (·.setIfInBounds j u))}:=
  I.lstUpd hp ho (Xc its n j u) (r.set rv j) (by rw[length_set];exact hz) s.toks
 by_cases h0:0<=k
 ·have hk:k.toNat=j:=by
   rw[seqIndex_of h0 h4]at h1;exact Option.some.inj h1
  exact PySem.W.ki_setAt ho h0 (by omega) (by rw[size_toArray,<-hl];exact h4) (by rw[hk];exact⟨_,I',q⟩)
 ·have hk:(k+(its.toArray.size:Int)).toNat=j:=by
   rw[seqIndex_neg (by omega) h3]at h1;rw[size_toArray,<-hl];exact Option.some.inj h1
  exact PySem.W.ki_setBack ho (by omega) (by rw[size_toArray,<-hl];exact h3) (by omega) (by rw[hk];exact⟨_,I',q⟩)
theorem Wg(lo hi:Option Int)(n:Nat):(sliceBounds lo hi none n).1=((HT.sIx n 0 lo:Nat):Int)/\(sliceBounds lo hi none n).2.1=((HT.sIx n n hi:Nat):Int)/\(sliceBounds lo hi none n).2.2=1:=by
 refine⟨?_,?_,rfl⟩
 ·cases lo with
  | none=>simp[sliceBounds,HT.sIx]
  | some i=>
   simp only[sliceBounds,HT.sIx,Option.getD_none,show(1:Int)>0 by decide,if_true];by_cases h:i<0
   ·simp only[h,if_true]<;>omega
   ·simp only[h,if_false]<;>omega
 ·cases hi with
  | none=>simp[sliceBounds,HT.sIx]
  | some i=>
   simp only[sliceBounds,HT.sIx,Option.getD_none,show(1:Int)>0 by decide,if_true];by_cases h:i<0
   ·simp only[h,if_true]<;>omega
   ·simp only[h,if_false]<;>omega
theorem kY(its:List Value)(lo hi:Option Int):slicePick its.toArray lo hi none=((its.drop (HT.sIx its.length 0 lo)).take (HT.sIx its.length its.length hi-HT.sIx its.length 0 lo)).toArray:=by
 obtain⟨h1,h2,h3⟩:=Wg lo hi its.toArray.size;unfold slicePick;rw[h1,h2,h3];simp only[sliceRange_one,pick_run,size_toArray]<;>rfl
noncomputable def rSlL(K:Frg):V->Option Int->Option Int->Hp->VK->Prop:=fun x lo hi H Q=>∃a xs,x = .ref a/\SqL K H a xs/\∀p,H p=none->Q (.ref p) (upd H p (.lst (cutV xs lo hi)))
theorem j3e:SlR X (rSlL X.K):=by
 intro pins s σ H x v vl vu lo hi sl Q I rx hs pl pu h;obtain⟨a,xs,rfl,hx,q⟩:=h;cases rx;obtain⟨its,r,ht,hz⟩:=I.list hx;have hlen:=r.length;refine⟨"list",_,slot_list_getitem.lookup,ht.isList.typeIs,?_⟩;refine wpAny_getItem_list_slice ht.isList hs pl pu .none (by simp) ?_ (by rw[size_toArray]<;>omega);rw[kY,<-hlen];refine⟨.ref s.heap.objs.size,_,I.laid (t':=s.toks) (o:=.lst (cutV xs lo hi)) (fun b ob q=>Heap.get?_push_of_some _ q) (Nat.le_refl _) ?_,rfl,q _ (I.hok.fresh (Nat.le_refl _))⟩;exact⟨Nat.le_trans (Yn xs lo hi) hz,_,0,(r.drop (HT.sIx xs.length 0 lo)).take (HT.sIx xs.length xs.length hi-HT.sIx xs.length 0 lo),Heap.get?_push_size _ rfl⟩
noncomputable def flatV:V->Bool
 | .non=>true
 | .bl _=>true
 | .int _=>true
 | .str _=>true
 | _=>false
noncomputable def eqV:V->V->Bool
 | .non,.non=>true
 | .bl a,.bl b=>a==b
 | .bl a,.int b=>(if a then 1 else 0)==b
 | .int a,.bl b=>a==(if b then 1 else 0)
 | .int a,.int b=>a==b
 | .str a,.str b=>a==b
 | _,_=>false
theorem j3I{A:Around}{s:Shared}{y x:V}{u v:Value}(ry:RelV y u)(rx:RelV x v)(fy:flatV y=true)(fx:flatV x=true):SeqAt.EqAt A s u v (eqV y x):=by
 cases y with
 | non=>
  cases ry;cases x with
  | non=>cases rx;exact SeqAt.EqAt.same _
  | bl b=>cases rx;exact SeqAt.EqAt.none_bool b
  | int b=>obtain⟨t,rfl⟩:=rx;exact SeqAt.EqAt.none_int b t
  | str b=>obtain⟨t,rfl⟩:=rx;exact SeqAt.EqAt.none_str b t
  | _=>exact absurd (show false=true from fx) Bool.false_ne_true
 | bl a=>
  cases ry;cases x with
  | non=>cases rx;exact SeqAt.EqAt.bool_none a
  | bl b=>cases rx;exact SeqAt.EqAt.bool_bool a b
  | int b=>obtain⟨t,rfl⟩:=rx;exact SeqAt.EqAt.bool_int a b t
  | str b=>obtain⟨t,rfl⟩:=rx;exact SeqAt.EqAt.bool_str a b t
  | _=>exact absurd (show false=true from fx) Bool.false_ne_true
 | int a=>
  obtain⟨t',rfl⟩:=ry;cases x with
  | non=>cases rx;exact SeqAt.EqAt.int_none a t'
  | bl b=>cases rx;exact SeqAt.EqAt.int_bool a t' b
  | int b=>obtain⟨t,rfl⟩:=rx;exact SeqAt.EqAt.int_int a t' b t
  | str b=>obtain⟨t,rfl⟩:=rx;exact SeqAt.EqAt.int_str a t' b t
  | _=>exact absurd (show false=true from fx) Bool.false_ne_true
 | str a=>
  obtain⟨t',rfl⟩:=ry;cases x with
  | non=>cases rx;exact SeqAt.EqAt.str_none a t'
  | bl b=>cases rx;exact SeqAt.EqAt.str_bool a t' b
  | int b=>obtain⟨t,rfl⟩:=rx;exact SeqAt.EqAt.str_int a t' b t
  | str b=>obtain⟨t,rfl⟩:=rx;exact SeqAt.EqAt.str_str a t' b t
  | _=>exact absurd (show false=true from fx) Bool.false_ne_true
 | _=>exact absurd (show false=true from fy) Bool.false_ne_true
noncomputable def eqU(x:V)(u:Value):Bool:=match u with
 | .none=>eqV .non x
 | .bool b=>eqV (.bl b) x
 | .int i _=>eqV (.int i) x
 | .str z _=>eqV (.str z) x
 | _=>false
theorem wk{x y:V}{u:Value}(r:RelV y u)(f:flatV y=true):eqU x u=eqV y x:=by
 cases y with
 | non=>cases r;rfl
 | bl b=>cases r;rfl
 | int i=>obtain⟨t,rfl⟩:=r;rfl
 | str z=>obtain⟨t,rfl⟩:=r;rfl
 | _=>exact absurd (show false=true from f) Bool.false_ne_true
theorem Z5{x:V}:∀{xs:List V} {us:List Value},Vals xs us->xs.all flatV=true->us.any (eqU x)=xs.any fun y=>eqV y x
 | _,_,.nil,_=>rfl
 | y::xs,u::us,.cons r t,f=>by
  rw[all_cons,Bool.and_eq_true]at f;rw[any_cons,any_cons,wk r f.1,Z5 t f.2]
theorem zm{A:Around}{s:Shared}{x:V}{v:Value}(rx:RelV x v)(fx:flatV x=true):∀{xs:List V} {us:List Value},Vals xs us->xs.all flatV=true->∀u∈us,SeqAt.EqAt A s u v (eqU x u)
 | _,_,.nil,_=>fun u hu=>by cases hu
 | y::xs,u::us,.cons r t,f=>fun u' hu=>by
  rw[all_cons,Bool.and_eq_true]at f;rcases mem_cons.mp hu with rfl | hu
  ·rw[wk r f.1];exact j3I r rx f.1 fx
  ·exact zm rx fx t f.2 u' hu
noncomputable def inV(x:V)(xs:List V):Bool:=xs.any fun y=>eqV y x
def rIn(K:Frg)(neg:Bool):R2:=fun x y H Q=>∃p xs,y = .ref p/\(SqL K H p xs\/SqT K H p xs)/\flatV x=true/\xs.all flatV=true/\Q (.bl (if neg then !inV x xs else inV x xs)) H
theorem j0E:OpR X (compareOp .In) (rIn X.K false):=by
 intro pins s σ H x y v u Q I rx ry h;obtain⟨p,xs,rfl,hq,fx,fs,q⟩:=h;cases ry;rcases hq with hq | hq
 ·obtain⟨its,r,pl,hz⟩:=I.list hq;refine SeqAt.in_listAt (eqU x) pl.isList (fun w hw=>zm rx fx r fs w (by simpa using hw)) ⟨.bl _,H,I,rfl,?_⟩;rw[show its.toArray.any (eqU x)=its.any (eqU x) by simp,Z5 r fs];exact q
 ·obtain⟨its,r,pl,hz⟩:=I.tuple hq;refine SeqAt.in_tupleAt (eqU x) pl (fun w hw=>zm rx fx r fs w (by simpa using hw)) ⟨.bl _,H,I,rfl,?_⟩;rw[show its.toArray.any (eqU x)=its.any (eqU x) by simp,Z5 r fs];exact q
theorem wR:OpR X (compareOp .NotIn) (rIn X.K true):=by
 intro pins s σ H x y v u Q I rx ry h;obtain⟨p,xs,rfl,hq,fx,fs,q⟩:=h;cases ry;rcases hq with hq | hq
 ·obtain⟨its,r,pl,hz⟩:=I.list hq;refine SeqAt.notIn_listAt (eqU x) pl.isList (fun w hw=>zm rx fx r fs w (by simpa using hw)) ⟨.bl _,H,I,rfl,?_⟩;rw[show its.toArray.any (eqU x)=its.any (eqU x) by simp,Z5 r fs];exact q
 ·obtain⟨its,r,pl,hz⟩:=I.tuple hq;refine SeqAt.notIn_tupleAt (eqU x) pl (fun w hw=>zm rx fx r fs w (by simpa using hw)) ⟨.bl _,H,I,rfl,?_⟩;rw[show its.toArray.any (eqU x)=its.any (eqU x) by simp,Z5 r fs];exact q
theorem QB:CallR X (.type "list") (fun xs H Q=>∃p ys,xs=[.ref p]/\(SqL X.K H p ys\/SqT X.K H p ys)/\∀l,H l=none->Q (.ref l) (upd H l (.lst ys))):=by
 intro pins s σ H xs us Q I r h;obtain⟨p,ys,rfl,hq,q⟩:=h;obtain⟨u,rfl,rx⟩:=vals1 r;cases rx;have fin:∀(its:List Value),Vals ys its->ys.length<=sizeLine->∀(h':Heap) (c':Nat),(∀b o',s.heap.get? b=some o'->h'.get? b=some o')->
   h'.get? s.heap.objs.size=some {cls:=.type "list",dict:=none,data:=.seq its.toArray c',slots:=#[]}->EP X pins σ Q (.ref s.heap.objs.size) {s with heap:=h'}:=fun its r' hz h' c' kp e=>
  ⟨.ref s.heap.objs.size,_,I.laid (t':=s.toks) kp (Nat.le_refl _) (show ObjOk X.prog X.w _ h' _ (.lst ys)from⟨hz,its,c',r',e⟩),rfl,q _ (I.hok.fresh (Nat.le_refl _))⟩
 rcases hq with hq | hq
 ·obtain⟨its,r',pl,hz⟩:=I.list hq;have hlen:=r'.length;obtain⟨o,ho,hc,n,hd⟩:=pl.isList;exact call_list_seq p (.inl rfl) ho hc hd (fun h' c' kp e=>fin its r' hz h' c' kp e) (by simp only[size_toArray]<;>omega)
 ·obtain⟨its,r',pl,hz⟩:=I.tuple hq;have hlen:=r'.length;obtain⟨o,ho,hc,n,hd⟩:=pl;exact call_list_seq p (.inr rfl) ho hc hd (fun h' c' kp e=>fin its r' hz h' c' kp e) (by simp only[size_toArray]<;>omega)
theorem kN:CallR X (.type "tuple") (fun xs H Q=>∃p ys,xs=[.ref p]/\((SqL X.K H p ys/\∀l,H l=none->Q (.ref l) (upd H l (.tup ys)))\/(SqT X.K H p ys/\Q (.ref p) H))):=by
 intro pins s σ H xs us Q I r h;obtain⟨p,ys,rfl,h⟩:=h;obtain⟨u,rfl,rx⟩:=vals1 r;cases rx;rcases h with⟨hq,q⟩ | ⟨hq,q⟩
 ·obtain⟨its,r',pl,hz⟩:=I.list hq;have hlen:=r'.length;refine call_tuple_list pl.isList (fun h' kp=>?_) (by simp only[size_toArray]<;>omega);have I1:Inv X pins σ H {s with heap:=h'}:=I.kept (t':=s.toks) kp;have I2:Inv X pins σ (upd H h'.objs.size (.tup ys)) {s with heap:=h'.push {cls:=.type "tuple",data:=.seq its.toArray}}:=
   I1.laid (t':=s.toks) (fun b o e=>Heap.get?_push_of_some _ e) (Nat.le_refl _) (show ObjOk X.prog X.w _ _ _ (.tup ys)from⟨hz,its,r',IsTup.new _ _⟩)
  exact⟨.ref h'.objs.size,_,I2,rfl,q _ (I1.hok.fresh (Nat.le_refl _))⟩
 ·obtain⟨its,r',pl,hz⟩:=I.tuple hq;exact call_tuple_same pl ⟨.ref p,H,I,rfl,q⟩
def tyV(K:Frg)(T:String)(x:V)(H:Hp):Prop:=match x with
 | .str _=>T = "str"
 | .int _=>T = "int"
 | .ref p=>(T = "list"/\∃xs,SqL K H p xs)\/(T = "tuple"/\∃o,K.lookup p=some o/\o.cls = .type "tuple"/\o.dict=none)\/
   (T = "dict"/\((∃kvs,H p=some (.dK kvs))\/∃kvs,H p=some (.dT kvs)))\/(T = "set"/\∃S n,H p=some (.set S n))
 | _=>False
theorem j2j{pins:List (Addr×Obj)}{σ:St}{H:Hp}{s:Shared}{T:String}{x:V}{v:Value}(I:Inv X pins σ H s)(r:RelV x v)(ty:tyV X.K T x H) :
  s.TypeIs v T/\∀a,v = .ref a->∃ob,s.heap.get? a=some ob/\ob.dict=none:=by
 cases x with
 | str z=>
  obtain⟨t,rfl⟩:=r;cases(show T = "str" from ty);exact⟨typeIs_str s z t,fun _ e=>nomatch e⟩
 | int i=>
  obtain⟨t,rfl⟩:=r;cases(show T = "int" from ty);exact⟨typeIs_int s i t,fun _ e=>nomatch e⟩
 | ref p=>
  cases r;rcases ty with⟨rfl,xs,hq⟩ | ⟨rfl,o,hk,hc,hd⟩ | ⟨rfl,hk⟩ | ⟨rfl,S,n,hk⟩
  ·obtain⟨its,_,pl,_⟩:=I.list hq;refine⟨pl.isList.typeIs,fun a e=>?_⟩;cases e;obtain⟨o,n,e,c,hd,_⟩:=pl;exact⟨o,e,hd⟩
  ·refine⟨⟨o,I.kIn p o hk,hc⟩,fun a e=>?_⟩;cases e;exact⟨o,I.kIn _ o hk,hd⟩
  ·have z:∃o,s.heap.get? p=some o/\o.ExactDict:=by
    rcases hk with⟨kvs,hk⟩ | ⟨kvs,hk⟩
    ·obtain⟨_,_,_,_,o,_,_,e,ex,_⟩:=I.hok p _ hk;exact⟨o,e,ex⟩
    ·obtain⟨_,_,_,_,o,_,_,e,ex,_⟩:=I.hok p _ hk;exact⟨o,e,ex⟩
   obtain⟨o,e,ex⟩:=z;refine⟨⟨o,e,ex.1⟩,fun a e2=>?_⟩;cases e2;exact⟨o,e,ex.2.1⟩
  ·obtain⟨o,_,_,_,e,ex,_⟩:=I.hok p _ hk;refine⟨⟨o,e,ex.1⟩,fun a e2=>?_⟩;cases e2;exact⟨o,e,ex.2.1⟩
 | _=>exact False.elim ty
def tBM0(K:Frg)(T:String)(r:V->List V->Hp->VK->Prop)(to:TE):TE:=fun σ H Q=>to σ H fun x H1=>tyV K T x H1/\r x [] H1 Q
def tBM(K:Frg)(T:String)(r:V->List V->Hp->VK->Prop)(to:TE)(t:TA):TE:=fun σ H Q=>to σ H fun x H1=>tyV K T x H1/\t σ H1 fun xs H2=>r x xs H2 Q
variable{o e:Expr}{es:List Expr}{to:TE}{t:TA}{name:Str}{apos cpos:Pos}{T id:String}{r:V->List V->Hp->VK->Prop}
theorem Xj(pa:PlainAttrs T)(slot:Slot T name id)(hty:typeOf (.builtin id)=pure (.type "method_descriptor"))(hm:MtR X id r)(ho:PE X o to)
  (hbase:attributeBase o name X.env (eval o X.env)=eval o X.env:=by rfl) (hline:(apos.endLine==cpos.line)=true:=by rfl):PE X (.Call (.Attribute o name apos) [] [] cpos) (tBM0 X.K T r to):=by
 intro pins s σ H Q I h;refine wpAny_Call_method0_late hbase hline (thn (ho pins s σ H _ I h) fun v s1 ⟨x,H1,I1,r1,ty,q1⟩=>?_);obtain⟨h1,h2⟩:=j2j I1 r1 ty;exact⟨T,id,pa,slot,hty,h1,h2,Calls.callWith_builtin rfl (PySem.evalArgs_none (hm pins s1 σ H1 x [] v [] Q I1 r1 .nil q1))⟩
theorem Jf(pa:PlainAttrs T)(slot:Slot T name id)(hty:typeOf (.builtin id)=pure (.type "method_descriptor"))(hm:MtR X id r)(ho:PE X o to)(ha:PA X (e::es) t)
  (hbase:attributeBase o name X.env (eval o X.env)=eval o X.env:=by rfl)
  (hfew:((backTo cpos (starEach (e::es) X.env)).all (fun x=>!x.1)&&(backToKw cpos (keywordEach [] X.env)).all (fun x=>x.1.isSome)
   && decide ((e::es).length+([]:List Keyword).length+(if([]:List Keyword).isEmpty then 0 else 1)<30))=true:=by rfl)
  (hline:(apos.endLine==cpos.line)=true:=by rfl) (hs:starEach (e::es) X.env=(false,eval e X.env)::starEach es X.env:=by rfl) (hplain:(backTo cpos (starEach es X.env)).any (·.1)=false:=by rfl) :
  PE X (.Call (.Attribute o name apos) (e::es) [] cpos) (tBM X.K T r to t):=by
 intro pins s σ H Q I h;refine wpAny_Call_method_late hbase hfew hline rfl (thn (ho pins s σ H _ I h) fun v s1 ⟨x,H1,I1,r1,ty,q1⟩=>?_);obtain⟨h1,h2⟩:=j2j I1 r1 ty;refine⟨T,id,pa,slot,hty,h1,h2,?_⟩;have hA:=ha cpos pins s1 σ H1 _ I1 q1;rw[hs]at hA|-;refine Calls.callWith_builtin (by show(false||(backTo cpos (starEach es X.env)).any (·.1))=false;rw[hplain]<;>rfl) (Calls.evalArgs_plain ?_);exact thn hA fun us s2 ⟨vs,H2,I2,r2,q2⟩=>hm pins s2 σ H2 x vs v us Q I2 r1 r2 q2
end
def MtM(X:Cx)(id:String)(r:V->List V->Hp->VK->Prop):Prop:=
 ∀(pins:List (Addr×Obj)) (s:Shared) (σ:St) (H:Hp) (x:V) (xs:List V) (v:Value) (us:List Value) (Q:VK),Inv X pins σ H s->RelV x v->Vals xs us->r x xs H Q->
  wpAny (model X.prog X.w) X.A (call (.builtin id) (v::us)) (EP X pins σ Q) X.xe s
theorem Vals.one:∀{x:V} {us:List Value},Vals [x] us->∃u,us=[u]/\RelV x u
 | _,_,.cons r .nil=>⟨_,rfl,r⟩
theorem Vals.zero:∀{us:List Value},Vals [] us->us=[]
 | _,.nil=>rfl
theorem Vals.dropLast{xs:List V}{us:List Value}(h:Vals xs us):Vals xs.dropLast us.dropLast:=by
 induction h with
 | nil=>exact .nil
 | cons r t ih=>
  cases t with
  | nil=>exact .nil
  | cons q t'=>exact .cons r ih
theorem Vals.rep{xs:List V}{us:List Value}(h:Vals xs us):∀k:Nat,Vals (List.replicate k xs).flatten (List.replicate k us).flatten
 | 0=>.nil
 | k+1=>by
  rw[replicate_succ,replicate_succ,flatten_cons,flatten_cons];exact Vals.append h (Vals.rep h k)
theorem xK{α:Type}(l:List α):l.eraseIdx (l.length-1)=l.dropLast:=by
 induction l with
 | nil=>rfl
 | cons a r ih=>
  cases r with
  | nil=>rfl
  | cons b r=>
   have e:(a::b::r).length-1=((b::r).length-1)+1:=by
    have h1:(a::b::r).length=r.length+2:=rfl;have h2:(b::r).length=r.length+1:=rfl;omega
   rw[e,List.eraseIdx_cons_succ,ih]
   all_goals rfl
theorem Kr(its:List Value):∀(k:Nat) (acc:List Value),
  List.foldl (fun x1 x2=>x1++x2) acc.toArray (List.replicate k its.toArray)=(acc++(List.replicate k its).flatten).toArray
 | 0,acc=>by simp
 | k+1,acc=>by
  have e:acc.toArray++its.toArray=(acc++its).toArray:=by simp
  have e2:(acc++its)++(List.replicate k its).flatten=acc++(List.replicate (k+1) its).flatten:=by
   rw[replicate_succ,flatten_cons,List.append_assoc]
  rw[<-e2,<-Kr its k (acc++its),<-e,replicate_succ,foldl_cons]
section
variable{X:Cx}{pins:List (Addr×Obj)}{σ:St}{H:Hp}{s:Shared}{l b:Addr}{xs ys zs:List V}
theorem Inv.lset{its its':List Value}{n:Nat}{f:Array Value->Array Value}{t':Nat}(I:Inv X pins σ H s)(hH:H l=some (.lst xs))
  (e:s.heap.get? l=some {cls:=.type "list",data:=.seq its.toArray n}) (hf:f its.toArray=its'.toArray) (hv:Vals ys its') (hz:ys.length<=sizeLine) :
  Inv X pins σ (upd H l (.lst ys)) {s with heap:=s.heap.update l (Obj.mapSeq f),toks:=t'}:=by
 have q:=PySem.IsL.update e f;rw[hf]at q;refine I.write (x:=l) (e:=l) (by rw[hH];exact trivial) (.inl rfl) (fun b' u hb hu=>(Heap.get?_update_other s.heap (Obj.mapSeq f) (Ne.symm hb)).trans hu) ⟨_,q⟩ ?_;exact⟨hz,its',_,hv,q⟩
theorem Inv.lnew{its:List Value}{t':Nat}(I:Inv X pins σ H s)(hv:Vals ys its)(hz:ys.length<=sizeLine) :
  Inv X pins σ (upd H s.heap.objs.size (.lst ys)) {s with heap:=s.heap.push {cls:=.type "list",data:=.seq its.toArray},toks:=t'}:=
 I.laid (fun _ _ q=>Heap.get?_push_of_some _ q) (Nat.le_refl _) ⟨hz,its,0,hv,Heap.get?_push_size _ rfl⟩
theorem Inv.fresh(I:Inv X pins σ H s):H s.heap.objs.size=none:=I.hok.fresh (Nat.le_refl _)
theorem Inv.lstM(I:Inv X pins σ H s)(hH:H l=some (.lst xs)):xs.length<=sizeLine/\∃(its:List Value) (n:Nat),Vals xs its/\xs.length=its.length/\s.heap.get? l=some {cls:=.type "list",data:=.seq its.toArray n}:=by
 obtain⟨z,its,n,r,e⟩:=I.hok l _ hH;exact⟨z,its,n,r,r.length,e⟩
theorem notLongL{n:Nat}(h:n<=sizeLine):Builtin.List.listTooLong n=false:=by
 unfold Builtin.List.listTooLong;exact decide_eq_false (by omega)
end
section
variable{X:Cx}
noncomputable def rAppend:V->List V->Hp->VK->Prop:=fun x vs H Q=>∃l xs y,x = .ref l/\vs=[y]/\H l=some (.lst xs)/\xs.length<sizeLine/\Q .non (upd H l (.lst (xs++[y])))
theorem jA:MtM X "list.append" rAppend:=by
 intro pins s σ H x vs v us Q I rx rv h;obtain⟨l,xs,y,rfl,rfl,hH,hz,q⟩:=h;cases rx;obtain⟨u,rfl,ru⟩:=rv.one;obtain⟨z,its,n,r,hl,e⟩:=I.lstM hH;refine call_meets F.slot_list_append ⟨_,e,rfl⟩ F.entry_list_append (F.args_list_append_2 _ _) (PySem.list_append l its.toArray n u (by rw[size_toArray];omega)) ⟨e,?_⟩;refine⟨.non,_,I.lset (its':=its++[u]) hH e (by simp) (r.append (.cons ru .nil)) ?_,rfl,q⟩;rw[List.length_append,List.length_singleton];omega
noncomputable def rExtend:V->List V->Hp->VK->Prop:=fun x vs H Q=>∃l b xs zs,x = .ref l/\vs=[.ref b]/\H l=some (.lst xs)/\H b=some (.lst zs)/\xs.length+zs.length<=sizeLine/\Q .non (upd H l (.lst (xs++zs)))
theorem zn:MtM X "list.extend" rExtend:=by
 intro pins s σ H x vs v us Q I rx rv h;obtain⟨l,b,xs,zs,rfl,rfl,hH,hB,hz,q⟩:=h;cases rx;obtain⟨u,rfl,ru⟩:=rv.one;cases ru;obtain⟨z,its,n,r,hl,e⟩:=I.lstM hH;obtain⟨z2,its2,n2,r2,hl2,e2⟩:=I.lstM hB;have hsz:its.toArray.size+its2.toArray.size<=sizeLine:=by rw[size_toArray,size_toArray];omega
 have hlong:¬(!its.toArray.isEmpty&&Builtin.List.listTooLong (its.toArray.size+its2.toArray.size))=true:=by
  rw[notLongL hsz,Bool.and_false];exact Bool.false_ne_true
 refine call_meets F.slot_list_extend ⟨_,e,rfl⟩ F.entry_list_extend (F.args_list_extend_2 _ _)
  (AutoSeq1.list_extend_list_list_0 l its.toArray n b its2.toArray n2 hlong (by rw[size_toArray];omega) (by omega)) ⟨e,e2,?_⟩
 refine⟨.non,_,I.lset (its':=its++its2) hH e (by simp) (r.append r2) ?_,rfl,q⟩;rw[List.length_append];omega
noncomputable def rPop:V->List V->Hp->VK->Prop:=fun x vs H Q=>∃l xs y,x = .ref l/\vs=[]/\H l=some (.lst xs)/\xs[xs.length-1]?=some y/\Q y (upd H l (.lst xs.dropLast))
theorem j1B:MtM X "list.pop" rPop:=by
 intro pins s σ H x vs v us Q I rx rv h;obtain⟨l,xs,y,rfl,rfl,hH,hy,q⟩:=h;cases rx;have hus:=rv.zero;subst hus;obtain⟨z,its,n,r,hl,e⟩:=I.lstM hH;obtain⟨u,hu,ru⟩:=r.get hy;have hy':its.toArray[its.toArray.size-1]?=some u:=by
  show its.toArray[its.length-1]?=some u;rw[<-Array.getElem?_toList,<-hl];exact hu
 refine call_meets F.slot_list_pop ⟨_,e,rfl⟩ F.entry_list_pop (F.args_list_pop_1 _) (MeetsSeq.list_pop_last l its.toArray n u hy' (by rw[size_toArray];omega)) ⟨e,?_⟩;refine⟨y,_,I.lset (its':=its.dropLast) hH e ?_ r.dropLast ?_,ru,q⟩
 ·show its.toArray.eraseIdxIfInBounds (its.toArray.size-1)=its.dropLast.toArray;rw[size_toArray,List.eraseIdxIfInBounds_toArray,xK]
 ·rw[List.length_dropLast];omega
def rCat:R2:=fun x y H Q=>∃l b xs zs,x = .ref l/\y = .ref b/\H l=some (.lst xs)/\H b=some (.lst zs)/\xs.length+zs.length<=sizeLine/\∀p,H p=none->Q (.ref p) (upd H p (.lst (xs++zs)))
theorem Xg:OpR X (binaryOp .Add) rCat:=by
 intro pins s σ H x y v u Q I rx ry h;obtain⟨l,b,xs,zs,rfl,rfl,hH,hB,hz,q⟩:=h;cases rx;cases ry;obtain⟨z,its,n,r,hl,e⟩:=I.lstM hH;obtain⟨z2,its2,n2,r2,hl2,e2⟩:=I.lstM hB;refine PySem.P.add_list e e2 ?_ (by rw[size_toArray,size_toArray];omega);have ea:its.toArray++its2.toArray=(its++its2).toArray:=by simp
 rw[ea];exact⟨.ref _,_,I.lnew (t':=s.toks) (r.append r2) (by rw[List.length_append];omega),rfl,q _ I.fresh⟩
def rRep:R2:=fun x y H Q=>∃l k xs,x = .ref l/\y = .int k/\H l=some (.lst xs)/\-(2^63)<=k/\k<2^63/\xs.length*k.toNat<=sizeLine/\
 ∀p,H p=none->Q (.ref p) (upd H p (.lst (List.replicate k.toNat xs).flatten))
theorem j2K{α:Type}(xs:List α)(k:Nat):(List.replicate k xs).flatten.length=k*xs.length:=by
 induction k with
 | zero=>simp
 | succ k ih=>rw[replicate_succ,flatten_cons,List.length_append,ih,Nat.succ_mul,Nat.add_comm]
theorem j40:OpR X (binaryOp .Mult) rRep:=by
 intro pins s σ H x y v u Q I rx ry h;obtain⟨l,k,xs,rfl,rfl,hH,h1,h2,hz,q⟩:=h;cases rx;obtain⟨t,rfl⟩:=ry;obtain⟨z,its,n,r,hl,e⟩:=I.lstM hH;have hlen:its.toArray.size*k.toNat<=sizeLine:=by rw[size_toArray,<-hl];exact hz
 have hcap:¬its.toArray.size*k.toNat>(2^63-1)/8:=by
  have:(sizeLine:Nat)<=(2^63-1)/8:=by decide
  omega
 have hfit:¬(!Builtin.List.listFitsIndex k)=true:=by
  rw[fitsIndex_both h1 h2];exact Bool.false_ne_true
 have hlong:¬Builtin.List.listTooLong (its.toArray.size*k.toNat)=true:=by
  rw[notLongL hlen];exact Bool.false_ne_true
 have hnew:List.foldl (fun x1 x2=>x1++x2) #[] (List.replicate (if its.toArray.isEmpty=true then 0 else k.toNat) its.toArray)=(List.replicate k.toNat its).flatten.toArray:=by
  have f0:∀m:Nat,List.foldl (fun x1 x2=>x1++x2) #[] (List.replicate m its.toArray)=(List.replicate m its).flatten.toArray:=fun m=>by
   have:=Kr its m [];rw[nil_append]at this;exact this
  rw[f0];cases its with
  | nil=>simp
  | cons a r'=>rw[if_neg (by simp)]
 refine wpAny_binaryOp_repeat_ref (T:="list") (U:="int") (by decide) ⟨_,e,rfl⟩ (fun s'=>typeIs_int s' k t) noFill_list_mul F.fills_int_mul F.slot_int_rmul repeat_list F.slot_int_index.lookup
  (call_meets F.slot_int_rmul (typeIs_int s k t) F.entry_int_rmul (F.args_int_rmul_2 _ _) (int___rmul___int_list k t l its.toArray n)
   ⟨e,rfl,⟨_,e,rfl⟩,call_meets F.slot_list_mul ⟨_,e,rfl⟩ F.entry_list_mul (F.args_list_mul_2 _ _) (AutoListH.list___mul___list_int_3 l its.toArray n k t hfit hcap hlong) ⟨e,?_⟩⟩)
 rw[hnew];exact⟨.ref _,_,I.lnew (t':=s.toks) (r.rep k.toNat) (by rw[j2K,Nat.mul_comm];exact hz),rfl,q _ I.fresh⟩
end
section
variable{prog:Program}{w:World}{A:Around}{E:Value->Shared->Prop}{s:Shared}
end
section
variable{X:Cx}
end
end L2
namespace Att
open PySem PySem.W PySem.Calls PyProof.Rows
theorem Yx{P:Params}{h:Heap}:∀(ns:List Int) (vs:List Value),WellAll P h vs (ns.map WData.int)->IntsAre vs ns:=by
 intro ns
 induction ns with
 | nil=>
  intro vs w;rw[map_nil]at w;cases w;exact .nil
 | cons n ns ih=>
  intro vs w;rw[map_cons]at w;cases w with
  | cons a b=>
   cases a;exact .cons _ _ (ih _ b)
theorem j0N{l:OpenLaw}{n:Nat}(hn:l.most=some n){P:Params}{h:Heap}{args:List WData}{vals:List Value}
  (hpre:l.row.toRowW.claim.pre args=true) (hwl:WellAll P h vals args) :
  ∃a vs ns,vals=[Value.ref a]/\args=[WData.list (ns.map WData.int)]/\h.get? a=some {cls:=.type "list",data:=.seq vs.toArray}/\IntsAre vs ns/\ns.length<=n:=by
 have hsh:WShape.hasAll [] args [.list .int]=true:=(pre_splitW hpre).1;have hc:l.pre.holds [] {args:=args}=true:=(pre_splitW hpre).2;obtain⟨d,r,rfl,h1,h2⟩:=hasAllW_cons hsh;obtain rfl:=hasAllW_nil h2;obtain⟨xs,rfl,h3⟩:=hasW_list h1;obtain⟨ns,rfl⟩:=items_int h3;have hlen:ns.length<=n:=by
  unfold OpenLaw.pre at hc;have h4:(WTm.not (.lt (.lit (.int (n:Int))) (.len (.arg 0)))).holds [] {args:=[.list (ns.map .int)]}=true:=by
   have h4:=(holds_andW hc).1;rw[hn]at h4;exact h4
  have h5:=condW_of h4 (w_not (w_lt w_lit (w_len_list (w_arg rfl))));rw[length_map]at h5;refine Nat.le_of_not_lt fun q=>?_
  have q':(n:Int)<((ns.length:Nat):Int):=by omega
  first
   | (rw[decide_eq_true q']at h5;exact absurd h5 (by decide))
   | (simp at h5;omega)
 cases hwl with
 | cons w1 w2=>
  cases w2;cases w1 with
  | list ho hall=>exact⟨_,_,ns,rfl,rfl,ho,Yx ns _ hall,hlen⟩
theorem j0H(l:OpenLaw)(args:List WData):l.row.toRowW.claim.post args (.bool true) args=true:=
 postW_of (r:=l.row.toRowW) (X:=(true==true))
  (show WShape.has [] (.bool true) .bool=true by first | rfl | decide | simp[WShape.has,WShape.arms,WShape.armsAll])
  (show(WTm.eq .res (.lit (.bool true))).value [] {args:=args,res:=some (.bool true),after:=args}=some (.bool (true==true))from w_eq_bool (w_res rfl) w_lit) rfl
section
variable{prog:Program}{w:World}{A:Around}{E:Value->Shared->Prop}{s:Shared}{K:Frag}
end
end Att
namespace L2
open PySem PySem.Spec PyProof.Rows
theorem KO:∀{vs:List Value} {ns:List Int},IntsAre vs ns->Vals (ns.map V.int) vs
 | _,_,.nil=>.nil
 | _,_,.cons n t h=>.cons ⟨t,rfl⟩ (KO h)
def Only(H:Hp):Prop:=∀b,H b=none\/∃o xs,H b=some (.frz o (.lst xs))
theorem j1k{P:Program}{w:World}{K:Frg}{mg mb:Str->Option Value}{CX:CXT}{k:Nat}{fa a:Addr}{fd:FuncData}{x:Str}{sp:Sp}{s₁:Shared}{vs:List Value}{ns:List Int}
  (KX:K.In s₁.heap) (hns:s₁.heap.Ns mainGlobals mg) (hb:s₁.heap.Ns builtinsNs mb) (hbb:∀x:Str,x≠"__name__"->mb x=bootBuiltins x) (hlim:s₁.heap.NoLimit) (hg:s₁.gens = #[])
  (ha:s₁.heap.get? a=some {cls:=.type "list",data:=.seq vs.toArray}) (hi:IntsAre vs ns) (hl:ns.length<=sizeLine) (hr:Room k callerA)
  (F:∀base:Heap,K.In base->base.Ns mainGlobals mg->FnOk P w K mg base CX k fa fd [x] sp) (hbind:∀(s:Shared) (u:Value),BindsTo s fd ⟨[u],[]⟩ [(x,u)])
  (hsp:∀H:Hp,Only H->SqL K H a (ns.map V.int)->sp [.ref a] H (fun v _=>v = .bl true) fun _ _ _=>False)
  (hCX:∀H e s',CX [] H s₁ (fun _ _ _=>False) e s'->False) :
  codeAny (model P w) callerA (.call (.ref fa) ⟨[.ref a],[]⟩) (fun r s'=>r = .ok (.ret (.bool true))/\OldK s₁.heap s'.heap/\s'.os=s₁.os/\AllBare s'.gens) s₁:=by
 have rv:=KO hi;have lenV:=hi.length;have core:∀H:Hp,Only H->SqL K H a (ns.map V.int)->HOk P w H s₁.heap->(∀b,H b≠none->b=a)->(H a≠none->K.lookup a=none)->
   codeAny (model P w) callerA (.call (.ref fa) ⟨[.ref a],[]⟩) (fun r s'=>r = .ok (.ret (.bool true))/\OldK s₁.heap s'.heap/\s'.os=s₁.os/\AllBare s'.gens) s₁:=by
  intro H hO hS hok hA hK;have base_of:∀{b:Addr} {o:Obj},s₁.heap.get? b=some o->H b=none->(hidT s₁.heap H).get? b=some o:=fun e n=>j1h e n
  have noA:∀{b:Addr} {o:Obj} {es:Array DictEntry} {ep:Nat},s₁.heap.get? b=some o->o.data = .dict es ep->H b=none:=fun {b o es ep} e d=>by
   cases q:H b with
   | none=>rfl
   | some u=>
    have e':b=a:=hA b (by rw[q];simp);subst e';rw[ha]at e;cases e;have d':Data.seq vs.toArray _=Data.dict es ep:=d;cases d'
  have nsK:∀{b:Addr} {m:Str->Option Value},s₁.heap.Ns b m->(hidT s₁.heap H).Ns b m:=fun {b m} ⟨o,es,ep,e,d,r⟩=>⟨o,es,ep,base_of e (noA e d),d,r⟩
  have hKb:K.In (hidT s₁.heap H):=fun b o e=>base_of (KX b o e) (by
   cases q:H b with
   | none=>rfl
   | some u=>
    have e':b=a:=hA b (by rw[q];simp);subst e';rw[hK (by rw[q];simp)]at e;cases e)
  have hM:Mod K mg (hidT s₁.heap H):=⟨hKb,nsK hns,⟨mb,nsK hb,hbb⟩,let ⟨mc,h1,h2⟩:=hlim;⟨mc,nsK h1,h2⟩⟩
  have e0:Env0 P w K mg (hidT s₁.heap H) callerA [] s₁ H:=⟨rfl,hM,fun b o e=>j2W e,Nat.le_of_eq (j0l _ _),trivial,fun b hb=>absurd (show b∈([]:List Addr)from hb) (by simp),hok,.of_eq hg⟩
  refine codeAny_mono ((F _ hKb (nsK hns)).run callerA [] s₁ H ⟨[.ref a],[]⟩ [.ref a] [.ref a] _ _ hr e0 (hbind s₁ (.ref a)) (.cons rfl .nil) (hsp H hO hS)) fun r s' h=>?_
  cases r with
  | error e=>exact(hCX H e s' h).elim
  | ok fl=>
   cases fl with
   | next=>exact False.elim h
   | brk=>exact False.elim h
   | cont=>exact False.elim h
   | ret u=>
    obtain⟨v,H',os,bare,un,hok',r',q⟩:=h;have q':v = .bl true:=q;subst q';obtain rfl:u=Value.bool true:=r';refine⟨rfl,OldK.of_keep fun b o e=>?_,os,bare⟩;cases q:H b with
    | none=>exact un.keep b o e q (by intro z;exact absurd (show b∈([]:List Addr)from z) (by simp)) (by simp)
    | some u=>
     rcases hO b with z | ⟨ob,xs,z⟩
     ·rw[q]at z;cases z
     ·have z2:=un.frzs b ob _ z;obtain⟨e1,_⟩:=hok b _ z;obtain⟨e2,_⟩:=hok' b _ z2;rw[e]at e1;cases e1;exact e2
 cases hk:K.lookup a with
 | some o=>
  have e:=KX a o hk;rw[ha]at e;cases e;refine core (fun _=>none) (fun _=>.inl rfl) (.inr ⟨_,vs.toArray,_,hk,rfl,rfl,rfl,by rw[size_toArray,lenV];exact hl,by simpa using rv⟩) (fun b u z=>by have z':(none:Option HO)=some u:=z;cases z') (fun b z=>absurd rfl z) fun z=>absurd rfl z
 | none=>
  refine core (fun b=>if b=a then some (.frz {cls:=.type "list",data:=.seq vs.toArray} (.lst (ns.map V.int)))else none) (fun b=>?_) (.inl (.inr ⟨{cls:=.type "list",data:=.seq vs.toArray},if_pos rfl⟩)) (fun b u z=>?_) (fun b z=>?_) fun _=>hk
  ·by_cases hb:b=a
   ·exact .inr ⟨_,_,if_pos hb⟩
   ·exact .inl (if_neg hb)
  ·by_cases hb:b=a
   ·have z':=(if_pos hb).symm.trans z;cases z';subst hb;exact⟨ha,by rw[length_map];exact hl,vs,_,rv,ha⟩
   ·have z':=(if_neg hb).symm.trans z;cases z'
  ·by_cases hb:b=a
   ·exact hb
   ·exact absurd (if_neg hb) z
noncomputable abbrev KOf{K:Frg}{h:Heap}(_:K.In h):Frg:=K
noncomputable def inClass(s:Stmt)(j:Nat):Stmt:=match s with
 | .ClassDef _ _ _ body _ _ _ _ _ _ _=>body.getD j (.Pass ⟨0,0,0,0⟩)
 | _=>.Pass ⟨0,0,0,0⟩
noncomputable def defArgs(s:Stmt):Arguments:=match s with
 | .FunctionDef _ a _ _ _ _ _ _ _ _=>a
 | _=>{posonlyargs:=[],args:=[],vararg:=none,kwonlyargs:=[],kw_defaults:=[],kwarg:=none,defaults:=[]}
noncomputable def defBody(s:Stmt):List Stmt:=match s with
 | .FunctionDef _ _ b _ _ _ _ _ _ _=>b
 | _=>[]
noncomputable def defScope(s:Stmt):Scope:=match s with
 | .FunctionDef _ _ _ _ _ _ sc _ _ _=>sc
 | _=>{kind:=.function,names:=[],isGenerator:=false,isCoroutine:=false}
noncomputable abbrev CX0:CXT:=fun _ _ _ _ _ _=>False
noncomputable abbrev E0:XK:=fun _ _ _=>False
theorem pass0{X:Cx}:Passes CX0 X E0:=fun _ _ _ _ _ _ _ h=>h.elim
structure Fun(K:Frg)(x qual:Str)(st:Stmt)(f:Addr)(fd:FuncData):Prop where
 ex:∃(oc:Value) (od:Option Addr) (kV doc pm:Value) (an:Option Addr) (cdv ct:Value) (osl:Array (Option Value)),
  fd=PySem.W.fnOf x qual (defArgs st) (defBody st) (defScope st) .none kV doc pm an cdv ct/\K.lookup f=some ⟨oc,od,.func fd,osl⟩/\PySem.W.codeIn K cdv qual=true
 kp:PySem.W.keepIn K (.ref f)=true
section
variable{P:Program}{w:World}{K:Frg}{mg:Str->Option Value}{base:Heap}
theorem Fun.ok{x qual:Str}{st:Stmt}{f:Addr}{fd:FuncData}{N ps:List Str}{k:Nat}{sp:Sp}(F:Fun K x qual st f fd)(S:FnScope N ps (defScope st))(len:∀vs H Q E,sp vs H Q E->vs.length=ps.length)
  (hbody:∀(cdv:Value) (A:Around) (outer:List Env) (s:Shared) (H:Hp) (vs:List V) (Q:VK) (E:XK),Room k (A.deeper (envOfC qual (defScope st) s.heap.objs.size f cdv))->sp vs H Q E->
   ∃t,PSs (cxOf CX0 P w K mg base N qual (defScope st) f cdv A outer s H E).nox (defBody st) t/\t {nx:=fun _ H'=>Q .non H',rt:=Q} (start N vs) H):FnOk P w K mg base CX0 (k+1) f fd ps sp:=by
 obtain⟨oc,od,kV,doc,pm,an,cdv,ct,osl,rfl,lk,hcd⟩:=F.ex;refine j4m lk hcd S len fun A outer s H vs Q E hr hsp=>?_
 obtain⟨t,h,q⟩:=hbody cdv A outer s H vs Q E hr hsp;exact⟨t,h.nox,q⟩
theorem Fun.binds{x qual:Str}{st:Stmt}{f:Addr}{fd:FuncData}{ps:List Str}(F:Fun K x qual st f fd)
  (h:∀(kV doc pm:Value) (an:Option Addr) (cdv ct:Value) (us:List Value),us.length=ps.length->bindArgs (PySem.W.fnOf x qual (defArgs st) (defBody st) (defScope st) .none kV doc pm an cdv ct) ⟨us,[]⟩=pure (ps.zip us)):Binds K fd ps []:=by
 obtain⟨oc,od,kV,doc,pm,an,cdv,ct,osl,rfl,lk,hcd⟩:=F.ex;exact .all (h kV doc pm an cdv ct)
theorem jD{x qual:Str}{st:Stmt}{f:Addr}{oc:Value}{od an:Option Addr}{osl:Array (Option Value)}{kV doc pm cdv ct:Value}(l:K.lookup f=some ⟨oc,od,.func (PySem.W.fnOf x qual (defArgs st) (defBody st) (defScope st) .none kV doc pm an cdv ct),osl⟩)
  (c:PySem.W.codeIn K cdv qual=true) (k:PySem.W.keepIn K (.ref f)=true):Fun K x qual st f (PySem.W.fnOf x qual (defArgs st) (defBody st) (defScope st) .none kV doc pm an cdv ct):=⟨⟨oc,od,kV,doc,pm,an,cdv,ct,osl,rfl,l,c⟩,k⟩
end
theorem Kt{A:Around}{k:Nat}(hr:Room k A):A.units+1<cLine:=Nat.lt_of_le_of_lt (Nat.add_le_add_left (by decide:1<=64) _) hr.units
section
variable{X:Cx}
theorem pv(i:Nat){x:Str}{pos:Pos}(hN:X.N[i]?=some x:=by rfl)(hv:Vis X.env.scope x:=by first | exact Or.inl rfl | exact Or.inr (Or.inl rfl) | exact Or.inr (Or.inr rfl))(hd:(x==("__debug__" : Str))=false:=by decide)
  (hcd:(x==("__classdict__" : Str))=false:=by decide):PE X (.Name x pos) (tVar i):=j42 hN hv hd hcd
end
theorem iteF{A B:Prop}(h:B):if false=true then A else B:=by
 rw[if_neg Bool.false_ne_true];exact h
theorem iteT{A B:Prop}(h:A):if true=true then A else B:=by
 rw[if_pos rfl];exact h
def Same(H H':Hp):Prop:=∀b o,H b=some o->H' b=some o
theorem Same.refl(H:Hp):Same H H:=fun _ _ h=>h
theorem Same.trans{H H1 H2:Hp}(a:Same H H1)(b:Same H1 H2):Same H H2:=fun c o h=>b c o (a c o h)
theorem Same.seq{K:Frg}{H H':Hp}{a:Addr}{xs:List V}(e:Same H H')(h:SqL K H a xs):SqL K H' a xs:=by
 rcases h with(h | ⟨o,h⟩) | h
 ·exact .inl (.inl (e _ _ h))
 ·exact .inl (.inr ⟨o,e _ _ h⟩)
 ·exact .inr h
section
variable{κ:Type}[DecidableEq κ]
noncomputable def valV(kvs:List (κ×V))(k:κ):Option V:=(kvs.find? fun kv=>decide (kv.1=k)).map (·.2)
noncomputable def putK(kvs:List (κ×V))(k:κ)(v:V):List (κ×V):=
 if(kvs.any fun kv=>decide (kv.1=k))=true then kvs.map (fun kv=>if kv.1=k then(kv.1,v)else kv)else kvs++[(k,v)]
theorem kG{p:κ×V}{r:List (κ×V)}{k:κ}(e:p.1=k):valV (p::r) k=some p.2:=by simp[valV,List.find?_cons,e]
theorem kF{p:κ×V}{r:List (κ×V)}{k:κ}(e:¬p.1=k):valV (p::r) k=valV r k:=by simp[valV,List.find?_cons,e]
theorem xt(k:κ):∀kvs:List (κ×V),(kvs.any fun kv=>decide (kv.1=k))=(valV kvs k).isSome
 | []=>rfl
 | p::r=>by
  rw[any_cons];by_cases e:p.1=k
  ·simp only[kG e,decide_eq_true e,Bool.true_or,Option.isSome_some]
  ·rw[kF e,decide_eq_false e,Bool.false_or];exact xt k r
theorem Zc(kvs:List (κ×V))(k:κ)(v:V):(putK kvs k v).length<=kvs.length+1:=by
 unfold putK;split
 ·rw[length_map];omega
 ·rw[List.length_append,length_cons,length_nil];omega
theorem RelO.isSome_eq{o:Option V}{u:Option Value}(r:RelO o u):o.isSome=u.isSome:=by
 cases o with
 | none=>cases u with
  | none=>rfl
  | some _=>exact(show False from r).elim
 | some _=>cases u with
  | none=>exact(show False from r).elim
  | some _=>rfl
theorem KV.val{kvs:List (κ×V)}{vs:List (κ×Value)}(r:KV kvs vs)(k:κ):RelO (valV kvs k) (valueAt vs k):=by
 unfold KV at r
 induction r with
 | nil=>exact True.intro
 | @cons p q ps qs h t ih=>
  obtain⟨h1,h2⟩:=h;by_cases e:p.1=k
  ·have e':q.1=k:=h1.symm.trans e;have b:valueAt (q::qs) k=some q.2:=by simp[valueAt,List.find?_cons,e']
   rw[kG e,b];exact h2
  ·have e':¬q.1=k:=fun z=>e (h1.trans z)
   have b:valueAt (q::qs) k=valueAt qs k:=by simp[valueAt,List.find?_cons,e']
   rw[kF e,b];exact ih
theorem KV.any{kvs:List (κ×V)}{vs:List (κ×Value)}(r:KV kvs vs)(k:κ):(kvs.any fun kv=>decide (kv.1=k))=vs.any fun kv=>decide (kv.1=k):=by
 unfold KV at r
 induction r with
 | nil=>rfl
 | cons h t ih=>rw[any_cons,any_cons,ih,h.1]
theorem KV.repl{kvs:List (κ×V)}{vs:List (κ×Value)}(r:KV kvs vs)(k:κ){y:V}{u:Value}(ry:RelV y u) :
  KV (kvs.map fun kv=>if kv.1=k then(kv.1,y)else kv) (vs.map fun kv=>if kv.1=k then(kv.1,u)else kv):=by
 unfold KV at r|-
 induction r with
 | nil=>exact .nil
 | @cons p q ps qs h t ih=>
  rw[map_cons,map_cons];refine .cons ?_ ih;obtain⟨h1,h2⟩:=h;by_cases e:p.1=k
  ·rw[if_pos e,if_pos (h1.symm.trans e)];exact⟨h1,ry⟩
  ·rw[if_neg e,if_neg (fun z=>e (h1.trans z))];exact⟨h1,h2⟩
theorem KV.put{kvs:List (κ×V)}{vs:List (κ×Value)}(r:KV kvs vs)(k:κ){y:V}{u:Value}(ry:RelV y u):KV (putK kvs k y) (stored vs k u):=by
 unfold putK stored;rw[r.any k];by_cases e:(vs.any fun kv=>decide (kv.1=k))=true
 ·rw[if_pos e,if_pos e];exact r.repl k ry
 ·rw[if_neg e,if_neg e];exact Paired.snoc r ⟨rfl,ry⟩
theorem KV.keys{kvs:List (κ×V)}{vs:List (κ×Value)}(r:KV kvs vs):kvs.map (·.1)=vs.map (·.1):=by
 unfold KV at r
 induction r with
 | nil=>rfl
 | cons h t ih=>rw[map_cons,map_cons,ih,h.1]
theorem KV.length{kvs:List (κ×V)}{vs:List (κ×Value)}(r:KV kvs vs):kvs.length=vs.length:=Paired.length r
end
theorem j1j{P:Program}{w:World}{k:Key}{u:Value}(r:RelV (kV k) u):(mixKind P w).is k u=true:=by
 cases k with
 | inl i=>obtain⟨t,e⟩:=(show∃t,u=Value.int i t from r);subst e;exact WU P w i t
 | inr x=>obtain⟨t,e⟩:=(show∃t,u=Value.str x t from r);subst e;exact WV P w x t
theorem Kv{P:Program}{w:World}:∀{ks:List Key} {us:List Value},Vals (ks.map kV) us->ItemsAre (mixKind P w) ks us
 | [],_,r=>by rw[map_nil]at r;cases r;exact .nil
 | k::ks,_,r=>by
  rw[map_cons]at r;cases r with
  | cons h t=>exact .cons (j1j h) (Kv t)
noncomputable abbrev KT(H:Hp):List (List Key×V)->List (List Key×Addr×Value)->Prop:=Paired fun p q=>p.1=q.1/\H q.2.1=some (.tup (p.1.map kV))/\RelV p.2 q.2.2
theorem KT.val{H:Hp}{kvs:List (List Key×V)}{xs:List (List Key×Addr×Value)}(r:KT H kvs xs)(k:List Key):RelO (valV kvs k) ((atKey xs k).map (·.2)):=by
 induction r with
 | nil=>exact True.intro
 | @cons p q ps qs h t ih=>
  obtain⟨h1,_,h2⟩:=h;by_cases e:p.1=k
  ·have e':q.1=k:=h1.symm.trans e;have b:atKey (q::qs) k=some q.2:=by simp[atKey,List.find?_cons,e']
   rw[kG e,b];exact h2
  ·have e':¬q.1=k:=fun z=>e (h1.trans z)
   have b:atKey (q::qs) k=atKey qs k:=by simp[atKey,List.find?_cons,e']
   rw[kF e,b];exact ih
theorem KT.repl{H:Hp}{kvs:List (List Key×V)}{xs:List (List Key×Addr×Value)}(r:KT H kvs xs)(k:List Key){y:V}{u:Value}(ry:RelV y u) :
  KT H (kvs.map fun kv=>if kv.1=k then(kv.1,y)else kv) (xs.map (putAt k u)):=by
 induction r with
 | nil=>exact .nil
 | @cons p q ps qs h t ih=>
  rw[map_cons,map_cons];refine .cons ?_ ih;obtain⟨h1,h2,h3⟩:=h;unfold putAt;by_cases e:p.1=k
  ·rw[if_pos e,if_pos (h1.symm.trans e)];exact⟨h1,h2,ry⟩
  ·rw[if_neg e,if_neg (fun z=>e (h1.trans z))];exact⟨h1,h2,h3⟩
theorem KT.put{H:Hp}{kvs:List (List Key×V)}{xs:List (List Key×Addr×Value)}(r:KT H kvs xs)(k:List Key){b:Addr}{y:V}{u:Value}(hb:H b=some (.tup (k.map kV)))(ry:RelV y u) :
  KT H (putK kvs k y) (storedH xs k b u):=by
 have e:(kvs.any fun kv=>decide (kv.1=k))=(atKey xs k).isSome:=by
  rw[xt,(r.val k).isSome_eq,Option.isSome_map]
 unfold putK storedH;rw[e];by_cases q:(atKey xs k).isSome=true
 ·rw[if_pos q,if_pos q];exact r.repl k ry
 ·rw[if_neg q,if_neg q];exact Paired.snoc r ⟨rfl,hb,ry⟩
theorem KT.keeps{H H':Hp}{kvs:List (List Key×V)}{xs:List (List Key×Addr×Value)}(r:KT H kvs xs)(ht:∀b ys,H b=some (.tup ys)->H' b=some (.tup ys)):KT H' kvs xs:=
 Paired.mapP r fun _ _ z=>⟨z.1,ht _ _ z.2.1,z.2.2⟩
section
variable{P:Program}{w:World}{H:Hp}{h:Heap}{a:Addr}
theorem j3s{u:HO}(ok:HOk P w H h)(e:Rd H a u):ObjOk P w H h a u:=e.ok ok
theorem j1b{kvs:List (Key×V)}(ok:HOk P w H h)(e:Rd H a (.dK kvs)):kvs.length<=sizeLine/\(a==sysModules)=false/\∃vs,KV kvs vs/\h.DictOf (mixKind P w) a vs:=
 show ObjOk P w H h a (.dK kvs)from j3s ok e
theorem WD{kvs:List (Key×V)}(ok:HOk P w H h)(e:H a=some (.dK kvs)):kvs.length<=sizeLine/\(a==sysModules)=false/\∃vs,KV kvs vs/\h.DictOf (mixKind P w) a vs:=j1b ok (.inl e)
theorem xU{ks:List Key}(ok:HOk P w H h)(e:H a=some (.tup (ks.map kV))):(tupleKind (mixKind P w)).is h ks a:=by
 obtain⟨_,its,r,o,h1,h2,n,h3⟩:=(show ObjOk P w H h a (.tup (ks.map kV))from ok a _ e)
 exact⟨o,its.toArray,n,h1,h2,h3,by simpa using Kv r⟩
theorem j1c{kvs:List (List Key×V)}(ok:HOk P w H h)(e:Rd H a (.dT kvs)):kvs.length<=sizeLine/\(a==sysModules)=false/\
  ∃xs,KT H kvs xs/\h.DictOfH (tupleKind (mixKind P w)) a xs:=by
 obtain⟨z,y,xs,r,o,es,ep,h1,h2,h3,h4,h5⟩:=(show ObjOk P w H h a (.dT kvs)from j3s ok e)
 refine⟨z,y,xs,r,o,es,ep,h1,h2,h3,h4,fun x hx=>?_,h5⟩;have all:∀{l:List (List Key×V)} {m:List (List Key×Addr×Value)},KT H l m->∀x∈m,(tupleKind (mixKind P w)).is h x.1 x.2.1:=by
  intro l m q
  induction q with
  | nil=>intro x hx;exact nomatch hx
  | @cons p q ps qs hq t ih=>
   intro x hx;rcases mem_cons.mp hx with e | hx
   ·subst e;exact xU ok (by rw[<-hq.1];exact hq.2.1)
   ·exact ih x hx
 exact all r x hx
theorem j4k{kvs:List (List Key×V)}(ok:HOk P w H h)(e:H a=some (.dT kvs)):kvs.length<=sizeLine/\(a==sysModules)=false/\
  ∃xs,KT H kvs xs/\h.DictOfH (tupleKind (mixKind P w)) a xs:=j1c ok (.inl e)
end
def DGet(H:Hp)(a:Addr)(y:V)(r:Option V):Prop:=
 (∃kvs k,Rd H a (.dK kvs)/\y=kV k/\r=valV kvs k)\/∃kvs k b,Rd H a (.dT kvs)/\y = .ref b/\H b=some (.tup (k.map kV))/\r=valV kvs k
def DPut(H:Hp)(a:Addr)(y v:V)(H':Hp):Prop:=
 (∃kvs k,H a=some (.dK kvs)/\y=kV k/\kvs.length<sizeLine/\H'=upd H a (.dK (putK kvs k v)))\/
 ∃kvs k b,H a=some (.dT kvs)/\y = .ref b/\H b=some (.tup (k.map kV))/\kvs.length<sizeLine/\H'=upd H a (.dT (putK kvs k v))
theorem DGet.k{H:Hp}{a:Addr}{kvs:List (Key×V)}{k:Key}(e:H a=some (.dK kvs)):DGet H a (kV k) (valV kvs k):=.inl ⟨kvs,k,.inl e,rfl,rfl⟩
theorem DPut.k{H:Hp}{a:Addr}{kvs:List (Key×V)}{k:Key}{v:V}(e:H a=some (.dK kvs))(hl:kvs.length<sizeLine):DPut H a (kV k) v (upd H a (.dK (putK kvs k v))):=.inl ⟨kvs,k,e,rfl,hl,rfl⟩
section
variable{X:Cx}{pins:List (Addr×Obj)}{σ:St}{H:Hp}{s:Shared}{a:Addr}{y v:V}{u r:Value}{o:Option V}{A:Around}{E:Value->Shared->Prop}
theorem Inv.big(I:Inv X pins σ H s):sysModules<s.heap.objs.size:=by
 have h:mainGlobals<s.heap.objs.size:=(I.mod.glob.keeps I.bk).lt;exact Nat.lt_trans (by decide) h
theorem j0g{Q:Value->Shared->Prop}(hu:A.units+1<cLine)(I:Inv X pins σ H s)(g:DGet H a y (some v))(ry:RelV y u)(h:∀w' s',Inv X pins σ H s'->RelV v w'->Q w' s') :
  wpAny (model X.prog X.w) A (getItem (.ref a) u) Q E s:=by
 rcases g with⟨kvs,k,e,ey,l⟩ | ⟨kvs,k,b,e,ey,eb,l⟩
 ·subst ey;obtain⟨z,hd,vs,rel,dd⟩:=j1b I.hok e;obtain⟨w',hw,rw'⟩:=RelO.some_of (v:=v) (o:=valueAt vs k) (by rw[l];exact rel.val k);exact wpAny_getItem_of (j1j ry) dd.mapOf hw (h w' _ (I.tok _) rw')
 ·subst ey;cases(show u=Value.ref b from ry);obtain⟨z,hd,xs,rel,dd⟩:=j1c I.hok e;obtain⟨w',hw,rw'⟩:=RelO.some_of (v:=v) (o:=(atKey xs k).map (·.2)) (by rw[l];exact rel.val k);obtain⟨p,hp,hp2⟩:=Option.map_eq_some_iff.mp hw;refine wpAny_getItem_heap (tupleKind_room_in1 hu) (xU I.hok eb) dd hp ?_;rw[hp2];exact h w' _ (I.tok _) rw'
theorem wj{h':Heap}{t':Nat}{ob:HO}(I:Inv X pins σ H s)(mu:Mut (H a))(hs:Heap.SameBut a s.heap h')(he:∃q,h'.get? a=some q)(new:ObjOk X.prog X.w (upd H a ob) h' a ob) :
  Inv X pins σ (upd H a ob) {s with heap:=h',toks:=t'}:=
 I.write (x:=a) (e:=a) mu (.inl rfl) (fun b q hb z=>(hs.2 b hb).trans z) he new
theorem xJ{P:Program}{w:World}{H':Hp}{h':Heap}{kvs:List (Key×V)}{vs:List (Key×Value)}(z:kvs.length<=sizeLine)(hd:(a==sysModules)=false)(rel:KV kvs vs)(dd:h'.DictOf (mixKind P w) a vs) :
  ObjOk P w H' h' a (.dK kvs):=⟨z,hd,vs,rel,dd⟩
theorem j0h{H':Hp}{Q:Unit->Shared->Prop}(hu:A.units+1<cLine)(I:Inv X pins σ H s)(g:DPut H a y v H')(ry:RelV y u)(rv:RelV v r)(h:∀s',Inv X pins σ H' s'->Q () s') :
  wpAny (model X.prog X.w) A (setItem (.ref a) u r) Q E s:=by
 rcases g with⟨kvs,k,e,ey,l,eH⟩ | ⟨kvs,k,b,e,ey,eb,l,eH⟩
 ·subst ey eH;obtain⟨z,hd,vs,rel,dd⟩:=WD I.hok e;have hz:vs.length<=sizeLine:=by rw[<-rel.length];exact z
  have hl:(putK kvs k v).length<=sizeLine:=by have:=Zc kvs k v;omega
  refine wpAny_setItem_pairs (hsz:=hz) (j1j ry) dd fun h' dd' hs=>h _ ?_
  have he:∃q,h'.get? a=some q:=let ⟨q,_,_,hq,_⟩:=dd';⟨q,hq⟩;exact wj I (by rw[e];exact True.intro) hs he (xJ hl hd (rel.put k rv) dd')
 ·subst ey eH;cases(show u=Value.ref b from ry);obtain⟨z,hd,xs,rel,dd⟩:=j4k I.hok e;have hz:xs.length<=sizeLine:=by rw[<-Paired.length rel];exact z
  have hl:(putK kvs k v).length<=sizeLine:=by have:=Zc kvs k v;omega
  refine wpAny_setItem_heap (hsz:=hz) (tupleKind_room_in1 hu) (xU I.hok eb) dd fun h' dd' hs=>h _ ?_
  obtain⟨q,es,ep,hq,h2,h3,h4,_,h5⟩:=dd';refine wj I (by rw[e];exact True.intro) hs ⟨q,hq⟩ ⟨hl,hd,_,(rel.put k eb rv).keeps fun c ys ec=>?_,q,es,ep,hq,h2,h3,h4,h5⟩;rw[jh (j1C ec e (fun z=>nomatch z))];exact ec
end
section
variable{X:Cx}{pins:List (Addr×Obj)}{σ:St}{H:Hp}{s:Shared}{a:Addr}{kvs:List (Key×V)}{k:Key}{u:Value}{A:Around}{E:Value->Shared->Prop}
end
def NoSl(i:Expr):Prop:=∀ov iv,subscripted i false ov iv=operate [ov,iv] (getItem ov iv)
theorem j3f{prog:Program}{w:World}{A:Around}{E:Value->Shared->Prop}{s:Shared}{env:Env}{value slice:Expr}{pos:Pos}{T id:String}{Q:Value->Shared->Prop}
  (hl:typeLookup (.type T) "__getitem__"= pure (some (.builtin id))) (hs:NoSl slice)
  (h:wpAny (model prog w) A (eval value env) (fun o s₁=>wpAny (model prog w) A (eval slice env) (fun i s₂=>s₂.TypeIs o T/\wpAny (model prog w) A (getItem o i) Q E s₂) E s₁) E s) :
  wpAny (model prog w) A (eval (.Subscript value slice pos) env) Q E s:=by
 refine Subscript_ (wpAny_mono h (fun o s₁ h₁=>wpAny_mono h₁ (fun i s₂ h₂=>?_) fun _ _ x=>x) fun _ _ x=>x);obtain⟨hT,h₂⟩:=h₂;unfold subscriptTail;refine wpAny_bind ?_;rw[getitemInPython_of_ne hT.not_modules];refine wpAny_bind (wpAny_specialOf hT hl ?_);have fin:wpAny (model prog w) A (subscripted slice false o i) (fun r s₃=>wpAny (model prog w) A (letTemporaryGo value o r >>= fun _=>pure r) Q E s₃) E s₂:=by
  rw[hs o i];exact wpAny_operating (wpAny_mono h₂ (fun r s₃ h₃=>wpAny_bind (wpAny_letTemporaryGo (wpAny_pure h₃))) fun _ _ x=>x)
 first
  | exact wpAny_pure (wpAny_bind fin)
  | exact wpAny_bind (wpAny_pure (wpAny_bind fin))
  | exact wpAny_bind fin
theorem WC{X:Cx}{pins:List (Addr×Obj)}{σ:St}{H:Hp}{s:Shared}{a:Addr}{y:V}{o:Option V}(I:Inv X pins σ H s)(g:DGet H a y o):s.TypeIs (.ref a) "dict":=by
 rcases g with⟨kvs,k,e,_,_⟩ | ⟨kvs,k,b,e,_,_,_⟩
 ·obtain⟨_,_,vs,_,dd⟩:=j1b I.hok e;exact dd.typeIs
 ·obtain⟨_,_,xs,_,dd⟩:=j1c I.hok e;exact dd.typeIs
def tDGet(td ty:TE):TE:=fun σ H Q=>td σ H fun x H1=>ty σ H1 fun y H2=>∃a v,x = .ref a/\DGet H2 a y (some v)/\Q v H2
def sDPut(td ty tv:TE):TS:=fun D σ H=>tv σ H fun v H1=>td σ H1 fun x H2=>ty σ H2 fun y H3=>∃a H4,x = .ref a/\DPut H3 a y v H4/\D.nx σ H4
section
variable{X:Cx}{o i e value:Expr}{pos pos' tpos:Pos}{td ty tv:TE}
theorem YF(hu:X.A.units+1<cLine)(ho:PE X o td)(hi:PE X i ty)(hs:NoSl i:=by exact fun _ _=>rfl):PE X (.Subscript o i pos) (tDGet td ty):=by
 intro pins s σ H Q I h;refine j3f PySem.F.slot_dict_getitem.lookup hs (thn (ho pins s σ H _ I h) fun u s1 ⟨x,H1,I1,rx,q1⟩=>thn (hi pins s1 σ H1 _ I1 q1) fun iv s2 ⟨y,H2,I2,ry,a,v,ex,g,q2⟩=>?_);subst ex;obtain rfl:u=Value.ref a:=rx;exact⟨WC I2 g,j0g hu I2 g ry fun w' s3 I3 rw'=>⟨v,H2,I3,rw',q2⟩⟩
theorem j02(hu:X.A.units+1<cLine)(ho:PE X o td)(hi:PE X i ty)(hv:PE X value tv)(hs:swapsWith value (some (.Subscript o i pos')) pos.line X.env=pure false) :
  PS X (.Assign [.Subscript o i pos'] value pos) (sDPut td ty tv):=by
 intro pins s σ H D I h;refine wpAny_Assign_Subscript (thn (hv pins s σ H _ I h) fun r s1 ⟨v,H1,I1,rv,q1⟩=>thn (ho pins s1 σ H1 _ I1 q1) fun u s2 ⟨x,H2,I2,rx,q2⟩=>thn (hi pins s2 σ H2 _ I2 q2) fun iv s3 ⟨y,H3,I3,ry,a,H4,ex,g,q3⟩=>?_) hs;subst ex;obtain rfl:u=Value.ref a:=rx;exact j0h hu I3 g ry rv fun s4 I4=>⟨σ,H4,I4,q3⟩
end
theorem j1a{P:Program}{w:World}{H:Hp}(h:Heap)(hb:sysModules<h.objs.size):ObjOk P w H (h.push {cls:=.type "dict",data:=.dict #[]}) h.objs.size (.dK []):=
 ⟨Nat.zero_le _,beq_eq_false_iff_ne.mpr (Ne.symm (Nat.ne_of_lt hb)),[],.nil,Heap.DictOf.new h⟩
def tDNewK:TE:=fun _ H Q=>∀p,H p=none->Q (.ref p) (upd H p (.dK []))
section
variable{X:Cx}{pos:Pos}
theorem W3:PE X (.Dict [] [] pos) tDNewK:=fun pins s σ H Q I h=>
 wpAny_Dict_empty ⟨.ref s.heap.objs.size,_,I.laid (a:=s.heap.objs.size) (o:=.dK []) (t':=s.toks) (fun _ _ q=>Heap.get?_push_of_some _ q) (Nat.le_refl _) (j1a s.heap I.big),rfl,h _ (I.hok.fresh (Nat.le_refl _))⟩
end
noncomputable def mergeK(kvs more:List (Key×V)):List (Key×V):=more.foldl (fun acc kv=>putK acc kv.1 kv.2) kvs
theorem KV.merge:∀{more:List (Key×V)} {rs:List (Key×Value)} {kvs:List (Key×V)} {vs:List (Key×Value)},KV more rs->KV kvs vs->KV (mergeK kvs more) (merged vs rs):=by
 intro more rs kvs vs r;unfold KV at r
 induction r generalizing kvs vs with
 | nil=>intro q;exact q
 | @cons p q ps qs h t ih=>
  intro r0;have e:KV (putK kvs p.1 p.2) (stored vs q.1 q.2):=by
   have:=r0.put p.1 h.2;rw[<-h.1];exact this
  exact ih e
theorem zd:∀(more kvs:List (Key×V)),(mergeK kvs more).length<=kvs.length+more.length
 | [],kvs=>by show kvs.length<=kvs.length+0;omega
 | p::r,kvs=>by
  have h1:=zd r (putK kvs p.1 p.2);have h2:=Zc kvs p.1 p.2;show(mergeK (putK kvs p.1 p.2) r).length<=_;rw[length_cons];omega
section
variable{X:Cx}{pins:List (Addr×Obj)}{σ:St}{H:Hp}{s:Shared}{a:Addr}{y d:V}{u r:Value}{o:Option V}{A:Around}{E:Value->Shared->Prop}
end
section
variable{X:Cx}{o e f:Expr}{apos cpos:Pos}{td ty tx:TE}
end
section
variable{X:Cx}{pins:List (Addr×Obj)}{σ:St}{H:Hp}{s:Shared}{a:Addr}{kvs:List (Key×V)}{A:Around}{E:Value->Shared->Prop}
end
section
variable{X:Cx}{pins:List (Addr×Obj)}{σ:St}{H:Hp}{s:Shared}{a:Addr}{y:V}{u:Value}{A:Around}{E:Value->Shared->Prop}
end
section
variable{X:Cx}
end
section
variable{κ:Type}[DecidableEq κ]
end
theorem compLoopT{prog:Program}{w:World}{A:Around}{R:Result->Shared->Prop}{s:Shared}{elt target iter:Expr}{ifs:List Expr}{scope:Scope}{pos:Pos}{it acc:Value}{env:Env}(I:Nat->Shared->Prop)
  (turn:∀n s,I n s->wpAny (model prog w) A (pyNext it) (fun r s₁=>match r with
   | none=>R (.ok .next) s₁
   | some v=>wpAny (model prog w) A (letOwnedTupleGo target it v) (fun _ s₂=>wpAny (model prog w) A (assign target env v) (fun _ s₃=>
     wpAny (model prog w) A (forIn ifs true fun c r=>if r=true then do let ok <-isTrue c env (eval c env);pure (ForInStep.yield ok)else pure (ForInStep.yield r)) (fun ok s₄=>
      if ok=true then wpAny (model prog w) A (eval elt env) (fun x s₅=>
       wpAny (model prog w) A (call (.builtin "list.append") [acc,x]) (fun _ s₆=>∃m,m<n/\I m s₆) (fun _ _=>False) s₅) (fun _ _=>False) s₄
      else∃m,m<n/\I m s₄) (fun _ _=>False) s₃) (fun _ _=>False) s₂) (fun _ _=>False) s₁) (fun _ _=>False) s)
  (n:Nat) (h:I n s) :
  codeAny (model prog w) A (.compLoop (.ListComp elt [⟨target,iter,ifs,0⟩] scope pos) 0 it acc env) R s:=by
 refine codeAny_loop rfl I (fun n s hI=>?_) n h;show wpAny _ A ((compTurn (.ListComp elt [⟨target,iter,ifs,0⟩] scope pos) 0 it acc env).onRaise (fun x=>do noteFrame x env;theTreesLotGoes x)) _ _ s;refine wpAny_noted ?_;rw[compTurn_list];refine wpAny_bind (wpAny_standAt (wpAny_bind (wpAny_mono (turn n s hI) (fun r s₁ h₁=>?_) fun _ _ h'=>h'.elim)));cases r with
 | none=>exact wpAny_pure h₁
 | some v=>
  refine wpAny_bind (wpAny_mono h₁ (fun _ s₂ h₂=>?_) fun _ _ h'=>h'.elim);refine wpAny_bind (wpAny_mono h₂ (fun _ s₃ h₃=>wpAny_bind (wpAny_mono h₃ (fun ok s₄ h₄=>?_) fun _ _ h'=>h'.elim)) fun _ _ h'=>h'.elim);cases ok with
  | false=>exact wpAny_pure ⟨rfl,h₄⟩
  | true=>
   exact wpAny_bind (wpAny_bind (wpAny_mono h₄ (fun x s₅ h₅=>wpAny_bind (wpAny_mono h₅ (fun _ s₆ h₆=>wpAny_pure (wpAny_pure ⟨rfl,h₆⟩)) fun _ _ h'=>h'.elim)) fun _ _ h'=>h'.elim))
def PF(X:Cx)(ifs:List Expr)(t:TT):Prop:=
 ∀(pins:List (Addr×Obj)) (s:Shared) (σ:St) (H:Hp) (Q:Bool->Hp->Prop),Inv X pins σ H s->t σ H Q->
  wpAny (model X.prog X.w) X.A (forIn ifs true fun c r=>if r=true then do let ok <-isTrue c X.env (eval c X.env);pure (ForInStep.yield ok)else pure (ForInStep.yield r)) (TP X pins σ Q) X.xe s
def tYes:TT:=fun _ H Q=>Q true H
theorem JK{X:Cx}:PF X [] tYes:=fun _ _ _ H _ I h=>wpAny_tests_nil ⟨H,I,h⟩
theorem Xn{X:Cx}{c:Expr}{t:TT}(hc:PT X c t):PF X [c] t:=fun pins s σ H Q I h=>wpAny_tests_one (hc pins s σ H Q I h)
noncomputable def closL(env:Env):List (Str×NameKind)->List (Str×Addr)->List (Str×Addr)
 | [],acc=>acc
 | (n,k)::r,acc=>closL env r (if k == .free then(n,(env.cells.lookup n).getD 0)::acc else acc)
theorem Z9{scope:Scope}{env:Env}(h:∀y∈scope.names,y.2 = .free->∃c,env.cells.lookup y.1=some c):closureFor scope env=pure (closL env scope.names []):=by
 have go:∀(names:List (Str×NameKind)) (acc:List (Str×Addr)),(∀y∈names,y.2 = .free->∃c,env.cells.lookup y.1=some c)->
   (forIn (m:=Sem) names acc fun x r=>(match x with | (name,kind)=>if(kind == .free)=true then do let a <-cellOf env name;pure (ForInStep.yield ((name,a)::r))else pure (ForInStep.yield r)))=pure (closL env names acc):=by
  intro names
  induction names with
  | nil=>intro acc _;rfl
  | cons y r ih=>
   obtain⟨n,k⟩:=y;intro acc hh;rw[forIn_cons];cases hk:(k==NameKind.free)with
   | true=>
    have hk':k = .free:=by simpa using hk
    obtain⟨c,hc⟩:=hh (n,k) mem_cons_self hk';have ec:cellOf env n=pure c:=by unfold cellOf;rw[hc]
    simp only[hk,if_true,ec,pure_bind,closL,hc,Option.getD_some];exact ih _ fun y hy=>hh y (mem_cons_of_mem _ hy)
   | false=>
    simp only[hk,Bool.false_eq_true,if_false,pure_bind,closL];exact ih _ fun y hy=>hh y (mem_cons_of_mem _ hy)
 have g:=go scope.names [] h;unfold closureFor;simp only[g,pure_bind]
theorem Km{env:Env}:∀(names:List (Str×NameKind)) (acc:List (Str×Addr)),(∀y∈names,y.2 = .free->∃c,env.cells.lookup y.1=some c)->(∀x c,acc.lookup x=some c->env.cells.lookup x=some c)->
  ∀x c,(closL env names acc).lookup x=some c->env.cells.lookup x=some c
 | [],_,_,ha,x,c,h=>ha x c h
 | (n,k)::r,acc,hh,ha,x,c,h=>by
  refine Km r _ (fun y hy=>hh y (mem_cons_of_mem _ hy)) (fun x c e=>?_) x c h;cases hk:(k==NameKind.free)with
  | false=>rw[hk]at e;exact ha x c e
  | true=>
   rw[hk]at e;have hk':k = .free:=by simpa using hk
   obtain⟨c',hc⟩:=hh (n,k) mem_cons_self hk';simp only[if_true,hc,Option.getD_some]at e;rw[lookup_cons]at e;cases hx:(x==n)with
   | true=>
    rw[hx]at e;have:x=n:=by simpa using hx
    rw[this,hc];exact e
   | false=>rw[hx]at e;exact ha x c e
theorem Kl{env:Env}:∀(names:List (Str×NameKind)) (acc:List (Str×Addr)) (x:Str),(∃c,acc.lookup x=some c)->∃c,(closL env names acc).lookup x=some c
 | [],_,_,h=>h
 | (n,k)::r,acc,x,h=>by
  refine Kl r _ x ?_;cases hk:(k==NameKind.free)with
  | false=>exact h
  | true=>
   simp only[if_true];rw[lookup_cons];cases hx:(x==n)with
   | true=>exact⟨_,rfl⟩
   | false=>exact h
theorem yQ{env:Env}:∀(names:List (Str×NameKind)) (acc:List (Str×Addr)) (x:Str),(x,NameKind.free)∈names->∃c,(closL env names acc).lookup x=some c
 | [],_,_,h=>by simp at h
 | (n,k)::r,acc,x,h=>by
  rcases mem_cons.mp h with e | h
  ·cases e;refine Kl r _ _ ?_;simp
  ·exact yQ r _ x h
theorem QW{env:Env}:∀{names:List (Str×NameKind)} {x:Str} {k:NameKind},(names.map fun(n,k)=>if(k==NameKind.free&&env.scope.kind == .function&&env.kindOf n==some .cell)then(n,NameKind.cell)else(n,k)).lookup x=some k->
  ∃k',(x,k')∈names/\names.lookup x=some k'/\(k'=k\/(k' = .free/\k = .cell))
 | [],_,_,h=>by simp at h
 | (n,k₀)::r,x,k,h=>by
  have ih:=@QW env r x k;rw[map_cons]at h;dsimp only at h;cases hx:x==n with
  | true=>
   have e:x=n:=by simpa using hx
   subst e;refine⟨k₀,mem_cons_self,by simp,?_⟩;by_cases hc:(k₀==NameKind.free&&env.scope.kind == .function&&env.kindOf x==some .cell)=true
   ·rw[if_pos hc]at h;simp only[lookup_cons,beq_self_eq_true]at h;simp only[Bool.and_eq_true,beq_iff_eq]at hc;exact .inr ⟨hc.1.1,(Option.some.inj h).symm⟩
   ·rw[if_neg hc]at h;simp only[lookup_cons,beq_self_eq_true]at h;exact .inl (Option.some.inj h)
  | false=>
   have h':(r.map fun(n,k)=>if(k==NameKind.free&&env.scope.kind == .function&&env.kindOf n==some .cell)then(n,NameKind.cell)else(n,k)).lookup x=some k:=by
    by_cases hc:(k₀==NameKind.free&&env.scope.kind == .function&&env.kindOf n==some .cell)=true
    ·rw[if_pos hc]at h;simpa only[lookup_cons,hx]using h
    ·rw[if_neg hc]at h;simpa only[lookup_cons,hx]using h
   obtain⟨k',h1,h2,h3⟩:=ih h';exact⟨k',mem_cons_of_mem _ h1,by simpa only[lookup_cons,hx]using h2,h3⟩
noncomputable def blk(X:Cx)(scope:Scope)(ow:List Str)(ci:List Nat)(C:Addr)(s₀:Shared)(H₀:Hp)(ex:List Addr)(pn:List (Addr×Obj)):Cx:=
 {X with N:=ow++ci.map fun j=>X.N.getD j "",s₀:=s₀,H₀:=H₀,env:=compEnvC scope (closL X.env scope.names []) C X.env,outer:=X.stack,stack:=X.stack,ex:=ex,fn:=fun _=>false,pn:=pn,xe:=fun _ _=>False}
structure CompScope(X:Cx)(scope:Scope)(ow:List Str)(ci:List Nat):Prop where
 kind:scope.kind = .function
 cell:∀y∈scope.names,y.2≠.cell
 names:∀y∈scope.names,y.2 = .local->scope.names.lookup y.1=some .local
 free:∀y∈scope.names,y.2 = .free->X.env.kindOf y.1=some .cell\/X.env.kindOf y.1=some .free
 ix:∀j∈ci,j<X.N.length/\scope.names.lookup (X.N.getD j "")=some .free
noncomputable def compOk(fsc:Scope)(N:List Str)(scope:Scope)(ci:List Nat):Bool:=
 scope.kind == .function&&scope.names.all (fun y=>y.2 != .cell)&&scope.names.all (fun y=>y.2 != .local||scope.names.lookup y.1==some .local) &&
 scope.names.all (fun y=>y.2 != .free||fsc.names.lookup y.1==some .cell||fsc.names.lookup y.1==some .free)&&ci.all (fun j=>decide (j<N.length)&&scope.names.lookup (N.getD j "")==some .free)
theorem CompScope.of{X:Cx}{scope:Scope}{ow:List Str}{ci:List Nat}(fsc:Scope)(N:List Str)(e1:X.env.scope=fsc)(e2:X.N=N)(h:compOk fsc N scope ci=true):CompScope X scope ow ci:=by
 subst e1 e2;unfold compOk at h;simp only[Bool.and_eq_true,all_eq_true,Bool.or_eq_true,bne_iff_ne,ne_eq,beq_iff_eq,decide_eq_true_eq]at h;obtain⟨⟨⟨⟨h1,h2⟩,h3⟩,h4⟩,h5⟩:=h;refine⟨h1,h2,fun y hy e=>?_,fun y hy e=>?_,fun j hj=>h5 j hj⟩
 ·rcases h3 y hy with z | z
  ·exact absurd e z
  ·exact z
 ·rcases h4 y hy with(z | z) | z
  ·exact absurd e z
  ·exact .inl z
  ·exact .inr z
theorem j5{X:Cx}{scope:Scope}{ow:List Str}{ci:List Nat}{C:Addr}{s₀:Shared}{H₀:Hp}{ex:List Addr}{pn:List (Addr×Obj)}(N:List Str)(e:X.N=N)(h:(ow++ci.map fun j=>N.getD j "").Nodup):(blk X scope ow ci C s₀ H₀ ex pn).N.Nodup:=by
 subst e;exact h
noncomputable def capAt(σ:St)(j:Nat):Option V:=match σ[j]? with | some o=>o | none=>none
noncomputable def capS(n:Nat)(ci:List Nat)(σ:St):St:=List.replicate n none++ci.map (capAt σ)
def tComp(wi:TI)(n:Nat)(ci:List Nat)(g:TG)(tf:TT)(te:TE):TE:=fun σ H Q=>wi σ H fun J H1=>∃W:Nat->Nat->List V->Hp->Prop,(∃m,W 0 m [] H1)/\∀i m ys H,W i m ys H->
 (J.stop i H/\ys.length<=sizeLine/\∀p,H p=none->Q (.ref p) (upd H p (.lst ys)))\/
 (J.go i H/\∃N:List V->Hp->Prop,(∀ys' H',N ys' H'->∃m',m'<m/\W (i+1) m' ys' H')/\∀x H',J.yld i H x H'->g x (capS n ci σ) H' fun σ2 H2=>tf σ2 H2 fun b H3=>
  if b=true then te σ2 H3 fun v H4=>ys.length<sizeLine/\N (ys++[v]) H4 else N ys H3)
section
variable{X:Cx}{pins:List (Addr×Obj)}{σ:St}{H:Hp}{s:Shared}{elt iter tg:Expr}{ifs:List Expr}{scope:Scope}{pos:Pos}{ow:List Str}{ci:List Nat}{g:TG}{tf:TT}{te:TE}
theorem CompScope.cells(S:CompScope X scope ow ci)(ok:X.Ok):∀y∈scope.names,y.2 = .free->∃c,X.env.cells.lookup y.1=some c:=fun y hy e=>ok.has y.1 (S.free y hy e)
theorem CompScope.sub(S:CompScope X scope ow ci)(ok:X.Ok):∀x c,(closL X.env scope.names []).lookup x=some c->X.env.cells.lookup x=some c:=
 Km scope.names [] (S.cells ok) fun _ _ e=>by simp at e
theorem j3F(S:CompScope X scope ow ci)(I:Inv X pins σ H s){C:Addr}{ex:List Addr}{pn:List (Addr×Obj)}(hC:s.heap.objs.size<=C)
  (hex:∀b∈ex,b<s.heap.objs.size/\FpOk X pins H b):(blk X scope ow ci C s H ex pn).Ok where
 mod:=I.ok.mod
 kind:=S.kind
 glob:=I.ok.glob
 blt:=I.ok.blt
 above:=hC
 inj:=fun x y c h1 h2=>I.ok.inj x y c (S.sub I.ok x c h1) (S.sub I.ok y c h2)
 has:=fun x h=>by
  have h':∃k,(relabel scope X.env).names.lookup x=some k/\(k = .cell\/k = .free):=by
   rcases h with h | h
   ·exact⟨_,h,.inl rfl⟩
   ·exact⟨_,h,.inr rfl⟩
  obtain⟨k,hl,hk⟩:=h';obtain⟨k',hm,_,e⟩:=QW (env:=X.env) hl;have hf:k' = .free:=by
   rcases e with e | ⟨e,_⟩
   ·subst e;rcases hk with hk | hk
    ·exact absurd hk (S.cell _ hm)
    ·exact hk
   ·exact e
  subst hf;exact yQ scope.names [] x hm
 cab:=fun x c h _=>by cases h
 hd:=I.ok.hd
 frames:=I.ok.frames
 stk:=.inl rfl
 exf:=fun b hb=>⟨Nat.ne_of_lt (Nat.lt_of_lt_of_le (hex b hb).1 hC),fun x c e=>(hex b hb).2.2.2.2.2.1 x c (S.sub I.ok x c e)⟩
 bs:=I.bs
 bsz:=Nat.le_trans I.ok.bsz I.sz
 noex:=fun b o e hb=>by
  obtain⟨_,_,_,h3,_⟩:=(hex b hb).2;rcases h3 with z | z
  ·exact I.ok.noex b o e z
  ·exact absurd (Nat.lt_of_lt_of_le (Heap.lt_size e) (Nat.le_trans I.ok.bsz z)) (Nat.lt_irrefl _)
 exfs:=fun b hb z=>by
  obtain⟨_,h1,h2,_⟩:=(hex b hb).2;rcases mem_cons.mp (I.stkSub b z)with e | e
  ·exact h1 e
  ·exact h2 e
 funs:=I.stack
 frf:=I.stkFree
theorem j0c(S:CompScope X scope ow ci)(I:Inv X pins σ H s){C:Addr}{ex:List Addr}{h₁:Heap}{t₁:Nat}{m₀:Str->Option Value}(hC:s.heap.objs.size<=C)
  (hex:∀b∈ex,b<s.heap.objs.size/\FpOk X pins H b) (hn:h₁.Ns C m₀) (k:∀b o,s.heap.get? b=some o->h₁.get? b=some o) :
  Inv (blk X scope ow ci C s H ex (X.pn++pins)) [] (capS ow.length ci σ) H {s with heap:=h₁,toks:=t₁}:=by
 have ok:=j3F (pn:=X.pn++pins) S I hC hex;refine⟨ok,rfl,I.bare,Un.kept k,⟨m₀,hn,fun i x v e1 e2 e3=>?_⟩,fun x c e=>?_,I.hok.fresh hC,fun x c e=>I.freeC x c (S.sub I.ok x c e),fun p hp=>?_,I.hok.kept k,?_⟩
 ·have e1':(ow++ci.map fun j=>X.N.getD j "")[i]?=some x:=e1;unfold capS at e2;by_cases hi:i<ow.length
  ·rw[List.getElem?_append_left (by simpa using hi),List.getElem?_replicate,if_pos hi]at e2;cases e2
  ·rw[List.getElem?_append_right (by simpa using hi),List.getElem?_map,length_replicate]at e2;rw[List.getElem?_append_right (by omega),List.getElem?_map]at e1';cases hj:ci[i-ow.length]? with
   | none=>rw[hj]at e2;cases e2
   | some j=>
    rw[hj]at e1' e2;obtain⟨hl,hf⟩:=S.ix j (List.mem_of_getElem? hj);have ex':X.N.getD j ""= x:=Option.some.inj e1';have eN:X.N[j]?=some x:=by
     rw[<-ex',getD_eq_getElem?_getD,List.getElem?_eq_getElem hl];rfl
    have ev:σ[j]?=some (some v):=by
     have e2':capAt σ j=some v:=Option.some.inj e2;unfold capAt at e2';cases q:σ[j]? with
     | none=>rw[q]at e2';cases e2'
     | some o=>rw[q]at e2';rw[show o=some v from e2']
    rw[ex']at hf;have hmem:(x,NameKind.free)∈scope.names:=PySem.mem_of_lookup hf;have hk:=S.free _ hmem rfl;obtain⟨m,_,hl'⟩:=I.loc;have vis:Vis X.env.scope x:=by
     rcases hk with q | q
     ·exact .inr (.inl q)
     ·exact .inr (.inr q)
    obtain⟨u,r,lk⟩:=hl' j x v eN ev vis;refine⟨u,r,.inr ⟨?_,?_⟩⟩
    ·rcases e3 with q | q | q
     ·obtain⟨k',_,h2,h3⟩:=QW (env:=X.env) q;rw[hf]at h2;cases h2;rcases h3 with h3 | ⟨_,h3⟩<;>cases h3
     ·exact .inl q
     ·exact .inr q
    ·rcases lk with⟨q,_⟩ | ⟨_,c,hc,hcell⟩
     ·have q':X.env.kindOf x=some .local:=q;rcases hk with z | z<;>(rw[z]at q';cases q')
     ·obtain⟨c',hc'⟩:=yQ (env:=X.env) scope.names [] x hmem;have e:=S.sub I.ok x c' hc';rw[hc]at e;cases e;exact⟨c,hc',hcell.keeps k⟩
 ·obtain⟨v,q⟩:=I.cell x c (S.sub I.ok x c e);exact⟨v,q.keeps k⟩
 ·have hp':p∈X.pn++pins:=by
   rcases mem_append.mp hp with z | z
   ·exact z
   ·cases z
  obtain⟨e,n,ne,nf,d⟩:=I.pin p hp';refine⟨k _ _ e,n,Nat.ne_of_lt (Nat.lt_of_lt_of_le (Heap.lt_size e) hC),fun z=>?_,d⟩;rcases mem_cons.mp (I.stkSub p.1 z)with q | q
  ·exact ne q
  ·exact nf q
 ·show(capS ow.length ci σ).length=(ow++ci.map fun j=>X.N.getD j "").length;simp[capS]
theorem Inv.forget{σ':St}(I:Inv X pins σ' H s)(n:Nat)(ci:List Nat)(σ:St)(hl:(capS n ci σ).length=X.N.length)(h:∀i v,n<=i->(capS n ci σ)[i]?=some (some v)->σ'[i]?=some (some v)):Inv X pins (capS n ci σ) H s:=
 I.weak (by rw[hl,I.len]) fun i v e=>by
  by_cases hi:n<=i
  ·exact h i v hi e
  ·unfold capS at e;rw[List.getElem?_append_left (by simpa using hi),List.getElem?_replicate,if_pos (by omega)]at e;cases e
def GKeeps(n:Nat)(g:TG):Prop:=∀x σ H (Q:St->Hp->Prop),g x σ H Q->g x σ H fun σ2 H2=>(∀(i:Nat) v,n<=i->σ[i]?=some (some v)->σ2[i]?=some (some v))/\Q σ2 H2
theorem Jw{n i:Nat}(h:i<n):GKeeps n (gName i):=fun x σ H Q q=>⟨fun j v hj e=>by rw[List.getElem?_set_ne (by omega)];exact e,q⟩
theorem yk{K:Frg}{n i j:Nat}(hi:i<n)(hj:j<n):GKeeps n (gTup K 2 (gCons (gName i) (gCons (gName j) gNil))):=fun x σ H Q q=>by
 obtain⟨a,xs,e1,e2,e3,v,r,e4,v',r',e5,e6,q⟩:=q;refine⟨a,xs,e1,e2,e3,v,r,e4,v',r',e5,e6,fun k u hk e=>?_,q⟩;rw[List.getElem?_set_ne (by omega),List.getElem?_set_ne (by omega)];exact e
theorem Y0{E:Value->Shared->Prop}{J:It}{fp:List Addr}{it:Addr}{tn:Nat->Heap->Prop}{RR:Value->Addr->Result->Shared->Prop}(hc:X.calm=true)(S:CompScope X scope ow ci)(hk:GKeeps ow.length g)
  (hb:∀C s₀ H₀ ex pn,PG (blk X scope ow ci C s₀ H₀ ex pn) tg g/\PF (blk X scope ow ci C s₀ H₀ ex pn) ifs tf/\PE (blk X scope ow ci C s₀ H₀ ex pn) elt te)
  (I:Inv X pins σ H s) (T:Turn X.prog X.w X.K tg J fp it tn) (st:tn 0 s.heap) (hf:∀b∈fp,FpOk X pins H b) (Z:List V->Hp->Prop)
  (W:Nat->Nat->List V->Hp->Prop) (w0:∃m,W 0 m [] H)
  (turn:∀i m ys H,W i m ys H->(J.stop i H/\ys.length<=sizeLine/\Z ys H)\/
   (J.go i H/\∃N:List V->Hp->Prop,(∀ys' H',N ys' H'->∃m',m'<m/\W (i+1) m' ys' H')/\∀x H',J.yld i H x H'->g x (capS ow.length ci σ) H' fun σ2 H2=>tf σ2 H2 fun b H3=>
    if b=true then te σ2 H3 fun v H4=>ys.length<sizeLine/\N (ys++[v]) H4 else N ys H3))
  (fin:∀D C s' H' m ys,Inv X pins σ (upd H' D (.lst ys)) s'->H' D=none->Z ys H'->s'.heap.Ns C m->s.heap.objs.size<=C->C≠D->H' C=none->RR (.ref D) C (.ok .next) s') :
  wpAny (model X.prog X.w) X.A (newList []) (fun acc s₃=>wpAny (model X.prog X.w) X.A (newFunctionEnv scope X.env.globals (closL X.env scope.names []) [] X.env.qual none .none (some X.env)) (fun cenv s₄=>
   codeAny (model X.prog X.w) X.A (.compStart (.ListComp elt [⟨tg,iter,ifs,0⟩] scope pos) 0 (.ref it) acc {cenv with scope:=relabel scope X.env}) (RR acc cenv.locals) s₄) E s₃) E s:=by
 refine wpAny_newObj_type (wpAny_newFunctionEnv S.cell (by intro y hy;simp at hy) (fun h₁ hns₁ hsb₁=>?_) S.kind);dsimp only at hns₁ hsb₁|-;generalize hs3:({s with heap:=s.heap.push {cls:=.type "list",dict:=none,data:=.seq ([]:List Value).toArray}}:Shared)=s3;have e3:s3.heap=s.heap.push {cls:=.type "list",dict:=none,data:=.seq ([]:List Value).toArray}:=by rw[<-hs3]
 rw[<-e3]at hns₁ hsb₁|-;have k3:∀b o,s.heap.get? b=some o->s3.heap.get? b=some o:=fun b o e=>by rw[e3];exact Heap.get?_push_of_some _ e
 have hsz:s3.heap.objs.size=s.heap.objs.size+1:=by rw[e3,Heap.size_push]
 have I3:Inv X pins σ H s3:=by rw[<-hs3];exact I.kept (t':=s.toks) fun b o e=>Heap.get?_push_of_some _ e
 have hD3:s3.heap.get? s.heap.objs.size=some {cls:=.type "list",dict:=none,data:=.seq ([]:List Value).toArray}:=by rw[e3];exact Heap.get?_push_size _ rfl
 generalize hDD:s.heap.objs.size=D at *;generalize hCC:s3.heap.objs.size=C at *;have hDC:D<C:=by omega
 have hHD:H D=none:=I.hok.fresh (Nat.le_of_eq hDD);have fpD:FpOk X pins H D:=I.fpOk (Nat.le_of_eq hDD) hHD;have ltD:∀(b:Addr) o,s.heap.get? b=some o->b<D:=fun b o e=>by rw[<-hDD];exact Heap.lt_size e
 have ltC:∀(b:Addr) o,s3.heap.get? b=some o->b<C:=fun b o e=>by rw[<-hCC];exact Heap.lt_size e
 have hflt:∀b∈fp,b<D:=fun b hb=>by
  obtain⟨o,e,_⟩:=T.obj 0 _ st b hb;exact ltD b o e
 have hex:∀b∈D::fp,b<s3.heap.objs.size/\FpOk X pins H b:=fun b hb=>by
  rw[hCC];rcases mem_cons.mp hb with rfl | hb
  ·exact⟨hDC,fpD⟩
  ·exact⟨Nat.lt_trans (hflt b hb) hDC,hf b hb⟩
 have kk:∀b o,s3.heap.get? b=some o->h₁.get? b=some o:=fun b o e=>hsb₁.extBut b o (Nat.ne_of_lt (ltC b o e)) (Heap.get?_push_of_some _ e)
 obtain⟨hg,hfl,he⟩:=hb C s3 H (D::fp) (X.pn++pins);generalize hY:blk X scope ow ci C s3 H (D::fp) (X.pn++pins)=Y at hg hfl he;have Yprog:Y.prog=X.prog:=by rw[<-hY];rfl
 have Yw:Y.w=X.w:=by rw[<-hY];rfl
 have YK:Y.K=X.K:=by rw[<-hY];rfl
 have YA:Y.A=X.A:=by rw[<-hY];rfl
 have Yc:Y.calm=true:=by rw[<-hY];exact hc
 have Yenv:Y.env=compEnvC scope (closL X.env scope.names []) C X.env:=by rw[<-hY];rfl
 have Yxe:Y.xe=fun _ _=>False:=by rw[<-hY];rfl
 have Yfs:Y.fs=frs X.stack:=by rw[<-hY];rfl
 have Yex:Y.ex=D::fp:=by rw[<-hY];rfl
 have Ypn:Y.pn=X.pn++pins:=by rw[<-hY];rfl
 have Ys:Y.s₀=s3:=by rw[<-hY];rfl
 have YH:Y.H₀=H:=by rw[<-hY];rfl
 have YN:(capS ow.length ci σ).length=Y.N.length:=by rw[<-hY];show(capS ow.length ci σ).length=(ow++ci.map fun j=>X.N.getD j "").length;simp[capS]
 have own:∀b∈D::fp,b≠Y.env.locals/\b∉Y.fs/\b∈Y.ex/\(∀x c,Y.env.cells.lookup x=some c->c≠b)/\∀p∈Y.pn,p.1≠b:=fun b hb=>by
  obtain⟨h0,h1,h2,h3,h4,h5⟩:=(hex b hb).2;refine⟨by rw[Yenv];exact Nat.ne_of_lt (hCC▸(hex b hb).1),fun z=>?_,by rw[Yex];exact hb,fun x c e=>?_,by rw[Ypn];exact h5⟩
  ·rw[Yfs]at z;rcases mem_cons.mp (I.stkSub b z)with q | q
   ·exact h1 q
   ·exact h2 q
  ·rw[Yenv]at e;exact h4 x c (S.sub I.ok x c e)
 have nDf:D∉fp:=fun z=>Nat.lt_irrefl _ (hflt D z)
 have loop:∀s4:Shared,Inv Y [] (capS ow.length ci σ) H s4->tn 0 s4.heap->s4.heap.PlainList D #[]->
   codeAny (model X.prog X.w) X.A (.compLoop (.ListComp elt [⟨tg,iter,ifs,0⟩] scope pos) 0 (.ref it) (.ref D) (compEnvC scope (closL X.env scope.names []) C X.env)) (RR (.ref D) C) s4:=by
  intro s4 J4 st4 pl4;obtain⟨m0,w0⟩:=w0;refine compLoopT (fun n s'=>∃i ys its H',Inv Y [] (capS ow.length ci σ) H' s'/\tn i s'.heap/\(∀b∈fp,H' b=none)/\H' D=none/\s'.heap.PlainList D its/\Vals ys its.toList/\W i n ys H') ?_ m0
   ⟨0,[],#[],H,J4,st4,fun b hb=>(hf b hb).1,hHD,pl4,.nil,w0⟩
  rintro n s5 ⟨i,ys,its,H5,J5,st5,fr5,hD5,⟨pn5,pl5⟩,va5,w5⟩;have vl:ys.length=its.size:=by have:=va5.length;simpa using this
  have pinD:∀{H':Hp} {s':Shared} {σ':St},Inv Y [] σ' H' s'->H' D=none->∀{o:Obj},s'.heap.get? D=some o->(∀v,o.data≠.cell v)->Inv Y [(D,o)] σ' H' s':=fun {H' s' σ'} K hD o e d=>
   K.pins_of fun p hp=>by
    have ep:p=(D,o):=by simpa using hp
    subst ep;obtain⟨a1,a2,_⟩:=own D mem_cons_self;exact⟨e,hD,a1,a2,d⟩
  have P5:=pinD J5 hD5 pl5 (fun v z=>by cases z);have fpk:∀{H':Hp},(∀b∈fp,H' b=none)->∀{o:Obj},∀b∈fp,FpOk Y [(D,o)] H' b:=fun {H'} hn {o} b hb=>by
   obtain⟨a1,a2,a3,a4,a5⟩:=own b (mem_cons_of_mem _ hb);refine⟨hn b hb,a1,a2,.inl a3,a4,fun p hp=>?_⟩;rcases mem_append.mp hp with q | q
   ·exact a5 p q
   ·have ep:p=(D,o):=by simpa using q
    subst ep;exact fun z=>nDf (by have z':D=b:=z;rw[z'];exact hb)
  rcases turn i n ys H5 w5 with⟨stop,hsz5,z5⟩ | ⟨go,NN,hNN,step⟩
  ·have d:=T.done Y Yprog Yw YK Yc i [(D,_)] s5 _ H5 (fun _ _=>False) P5 (fpk fr5) st5 stop;rw[YA]at d;refine thn d fun r s6 ⟨hr,J6⟩=>?_
   subst hr;have D6:=(J6.pin (D,_) (mem_append_right _ mem_cons_self)).1;obtain⟨mC,hnC,_⟩:=J6.loc;rw[Yenv]at hnC;have hnC':s6.heap.Ns C mC:=hnC;have hC6:H5 C=none:=by have:=J6.free;rw[Yenv]at this;exact this
   refine fin D C s6 H5 mC ys ?_ hD5 z5 hnC' (Nat.le_of_lt hDC) (Nat.ne_of_gt hDC) hC6;have B:=J6.base;rw[Yfs,Yex,YH,Ys]at B;have low:∀b o,s.heap.get? b=some o->b≠D/\b≠C:=fun b o e=>⟨Nat.ne_of_lt (ltD b o e),Nat.ne_of_lt (Nat.lt_trans (ltD b o e) hDC)⟩
   have nex:∀b o,s.heap.get? b=some o->b∉fp->b∉D::fp:=fun b o e hb z=>by
    rcases mem_cons.mp z with q | q
    ·exact(low b o e).1 q
    ·exact hb q
   have uN:Un (frs X.stack) fp H (upd H5 D (.lst ys)) s.heap s6.heap:=by
    refine⟨fun b o e n hb hx=>B.keep b o (k3 b o e) n hb (nex b o e hx),fun b o e n hb hx=>B.slot b o (k3 b o e) n hb (nex b o e hx),fun b o e n hx=>?_,fun b o e hx=>B.there b o (k3 b o e) (nex b o e hx),fun b xs q=>?_,fun b o u q=>?_,fun b ps q=>?_⟩
    ·rw[jh (low b o e).1];exact B.free b o (k3 b o e) n (nex b o e hx)
    ·rw[jh (je (B.tups b xs q) hD5)];exact B.tups b xs q
    ·rw[jh (je (B.frzs b o u q) hD5)];exact B.frzs b o u q
    ·obtain⟨mo,q'⟩:=B.tbls b ps q;exact⟨mo,by rw[jh (je q' hD5)];exact q'⟩
   have hok6:HOk X.prog X.w H5 s6.heap:=by rw[<-Yprog,<-Yw];exact J6.hok
   have hokN:HOk X.prog X.w (upd H5 D (.lst ys)) s6.heap:=fun b u e=>by
    by_cases hbD:b=D
    ·subst hbD;rw[jr]at e;cases e;exact⟨hsz5,its.toList,_,va5,by simpa using D6⟩
    ·rw[jh hbD]at e;exact(hok6 b u e).stay (fun c v _ q=>q) (fun c q=>by rw[jh (je q hD5)];exact q) fun c xs q=>by rw[jh (je q hD5)];exact q
   refine I.call' (by rw[J6.os,Ys,<-hs3]) uN hokN J6.bare fun b hb=>?_
   obtain⟨h0,h1,h2,h3,h4,h5⟩:=hf b hb;exact⟨h3,h1,h4,h5⟩
  ·have d:=T.item Y Yprog Yw YK Yc i [(D,_)] s5 _ H5 (fun _ _=>False) P5 (fpk fr5) st5 go;rw[YA]at d;refine thn d fun r s6 ⟨u,hr,h6⟩=>?_
   subst hr;refine thn h6 fun _ s7 ⟨x,H7,J7,r7,y7,st7,fr7⟩=>?_
   have J7':=J7.pinned (fpk fr7) (T.obj _ _ st7);have h8:=hg _ s7 _ H7 x u _ J7' r7 (hk _ _ _ _ (step x H7 y7));rw[Yprog,Yw,YA,Yenv,Yxe]at h8;refine thn h8 fun _ s8 ⟨σ8,H8,J8,ks8,q8⟩=>?_
   have h9:=hfl _ s8 σ8 H8 _ J8 q8;rw[Yprog,Yw,YA,Yenv,Yxe]at h9;refine thn h9 fun b s9 ⟨H9,J9,q9⟩=>?_
   have back:∀{H':Hp} {s':Shared},Inv Y ([(D,({cls:=.type "list",data:=.seq its pn5}:Obj))]++pinsAt fp s7.heap) σ8 H' s'->Inv Y [] (capS ow.length ci σ) H' s'/\tn (i+1) s'.heap/\(∀b∈fp,H' b=none)/\H' D=none/\s'.heap.get? D=some {cls:=.type "list",data:=.seq its pn5}:=fun {H' s'} K=>by
    have pD:=K.pin (D,_) (mem_append_right _ (mem_append_left _ mem_cons_self));refine⟨(K.pins_of (pins':=[]) (by simp)).forget _ _ _ YN (fun j v hj e=>ks8 j v hj e),T.keep _ _ _ st7 fun b hb o e=>(K.pin (b,o) (mem_append_right _ (mem_append_right _ (zE hb e)))).1,fun b hb=>?_,pD.2.1,pD.1⟩;obtain⟨o,e,_⟩:=T.obj _ _ st7 b hb;exact(K.pin (b,o) (mem_append_right _ (mem_append_right _ (zE hb e)))).2.1
   cases b with
   | false=>
    rw[if_neg Bool.false_ne_true]at q9|-;obtain⟨m',hm,w9⟩:=hNN _ _ q9;obtain⟨K9,st9,fr9,hD9,e9⟩:=back J9;exact⟨m',hm,i+1,ys,its,H9,K9,st9,fr9,hD9,⟨_,e9⟩,va5,w9⟩
   | true=>
    rw[if_pos rfl]at q9|-;have h10:=he _ s9 σ8 H9 _ J9 q9;rw[Yprog,Yw,YA,Yenv,Yxe]at h10;refine thn h10 fun z s10 ⟨v,H10,J10,r10,hlt,n10⟩=>?_
    obtain⟨m',hm,w10⟩:=hNN _ _ n10;obtain⟨K10,st10,fr10,hD10,e10⟩:=back J10;refine wpAny_list_append_plain (hsz:=by rw[<-vl];exact Nat.le_of_lt hlt) ⟨_,e10⟩ fun h11 pl11 hs11=>?_
    obtain⟨a1,a2,a3,a4,a5⟩:=own D mem_cons_self;have K11:Inv Y [] (capS ow.length ci σ) H10 {s10 with heap:=h11}:=K10.turned (t':=s10.toks) (fun b o hb e=>(hs11.2 b hb).trans e) hD10 a1 (.inl a3) a4 (fun p hp=>a5 p (by simpa using hp));refine⟨m',hm,i+1,ys++[v],its.push z,H10,K11,T.keep _ _ _ st10 fun b hb o e=>(hs11.2 b (fun q=>nDf (q▸hb))).trans e,fr10,hD10,pl11,?_,w10⟩;rw[Array.toList_push];exact va5.append (.cons r10 .nil)
 have J4:Inv Y [] (capS ow.length ci σ) H {s3 with heap:=h₁,toks:=s3.toks+([]:List (Str×Value)).length}:=by
  rw[<-hY];exact j0c S I3 (Nat.le_of_eq hCC) hex hns₁ kk
 have st4:tn 0 h₁:=T.keep _ _ _ st fun b _ o e=>kk b o (k3 b o e)
 have pl4:h₁.PlainList D #[]:=⟨_,kk _ _ hD3⟩
 have L:=loop _ J4 st4 pl4;subst hs3;exact codeAny_compStart_list L (T.self _ 0 _ _ _ st4 L)
variable{wi:TI}
theorem JC(hc:X.calm=true)(S:CompScope X scope ow ci)(hk:GKeeps ow.length g)(hi:PI X tg iter wi)
  (hb:∀C s₀ H₀ ex pn,PG (blk X scope ow ci C s₀ H₀ ex pn) tg g/\PF (blk X scope ow ci C s₀ H₀ ex pn) ifs tf/\PE (blk X scope ow ci C s₀ H₀ ex pn) elt te)
  (hs:∀x,foldedSetIterable iter X.env x=pure x:=by intro _;rfl):PE X (.ListComp elt [⟨tg,iter,ifs,0⟩] scope pos) (tComp wi ow.length ci g tf te):=by
 intro pins s σ H Q I h;rw[eval_ListComp];refine wpAny_comprehension_free (use:=none) rfl hs (Z9 (S.cells I.ok)) S.kind S.names (thn (hi pins s σ H _ I h) fun v s1 h1=>thn h1 fun itv s2 h2=>?_);obtain⟨it,fp,tn,J,H2,e,I2,T,st2,f2,W,w0,turn⟩:=h2;subst e;refine Y0 (RR:=fun acc C=>compPost (model X.prog X.w) X.A X.xe none (EP X pins σ Q) acc C) hc S hk hb I2 T st2 f2 (fun ys H=>∀p,H p=none->Q (.ref p) (upd H p (.lst ys))) W w0 turn fun D C s' H' m ys K hD z hn hC hCD hC0=>?_
 refine⟨m,hn,fun h' hs'=>⟨.ref D,upd H' D (.lst ys),?_,rfl,z D hD⟩⟩;obtain⟨f0,f1,f2',f3,f4,f5⟩:=I2.fpOk (H':=upd H' D (.lst ys)) hC (by rw[jh hCD];exact hC0);exact K.turned (t':=s'.toks) (fun b o hb e=>(hs'.2 b hb).trans e) f0 f1 f3 f4 f5
theorem Zz{i:Nat}{x:Str}{px spos:Pos}(hc:X.calm=true)(S:CompScope X scope ow ci)(hk:GKeeps ow.length g)(hN:X.N.Nodup)(hx1:X.N[i]?=some x)(hx:Loc X.env.scope x)(hi:PI X tg iter wi)
  (hb:∀C s₀ H₀ ex pn,PG (blk X scope ow ci C s₀ H₀ ex pn) tg g/\PF (blk X scope ow ci C s₀ H₀ ex pn) ifs tf/\PE (blk X scope ow ci C s₀ H₀ ex pn) elt te)
  (hsw:swapsWith (.ListComp elt [⟨tg,iter,ifs,0⟩] scope pos) (some (.Name x px)) spos.line X.env=pure true:=by rfl)
  (hf:X.fn x=true\/X.env.scope.names.lookup x=some .local:=by first | exact .inl rfl | exact .inr rfl | assumption)
  (hs:∀x,foldedSetIterable iter X.env x=pure x:=by intro _;rfl):PS X (.Assign [.Name x px] (.ListComp elt [⟨tg,iter,ifs,0⟩] scope pos) spos) (tAsg (tComp wi ow.length ci g tf te) (gName i)):=by
 intro pins s σ H D I h;rw[exec_Assign_Name_used _ _ _ _ hsw];refine wpAny_bind (wpAny_standAt (wpAny_bind ?_));show wpAny _ X.A (do let _ <-comprehension (.ListComp elt [⟨tg,iter,ifs,0⟩] scope pos) scope X.env _ (newList []) false (eval iter X.env) (some (assign (.Name x px) X.env))) _ _ s;refine wpAny_bind (wpAny_mono (wpAny_comprehension_free (use:=some (assign (.Name x px) X.env)) (Q:=fun _ s'=>SP X pins D .next s') rfl hs (Z9 (S.cells I.ok)) S.kind S.names
  (thn (hi pins s σ H _ I h) fun v s1 h1=>thn h1 fun itv s2 h2=>?_)) (fun _ s' hq=>wpAny_pure (wpAny_pure hq)) fun _ _ e=>e)
 obtain⟨it,fp,tn,J,H2,e,I2,T,st2,f2,W,w0,turn⟩:=h2;subst e;refine Y0 (RR:=fun acc C=>compPost (model X.prog X.w) X.A X.xe (some (assign (.Name x px) X.env)) (fun _ s'=>SP X pins D .next s') acc C) hc S hk hb I2 T st2 f2
  (fun ys H=>∀p,H p=none->gName i (.ref p) σ (upd H p (.lst ys)) D.nx) W w0 turn fun P C s' H' m ys K hD z hn hC hCD hC0=>?_
 obtain⟨f0,f1,f2',f3,f4,f5⟩:=I2.fpOk (H':=upd H' P (.lst ys)) hC (by rw[jh hCD];exact hC0);show wpAny _ X.A (assign (.Name x px) X.env (.ref P)) _ _ s';refine wpAny_assign_Name (KM K hN hx1 hx (v:=.ref P) rfl (fun s3 K3 ⟨a,hs3,ha⟩=>⟨m,hn.sameBut hs3 ?_,fun h' hs'=>?_⟩) hf)
 ·rcases ha with q | q
  ·rw[q];exact f1
  ·exact fun z=>f4 x a q z.symm
 ·exact⟨_,_,K3.turned (t':=s3.toks) (fun b o hb e=>(hs'.2 b hb).trans e) f0 f1 f3 f4 f5,z P hD⟩
theorem JX{lo:Int}{n k:Nat}{ci:List Nat}{g:TG}{tf:TT}{te:TE}{σ:St}{H:Hp}{Z:Addr->List V->Hp->Prop}(Pv:Nat->List V->Hp->Prop)(h0:Pv 0 [] H)
  (hs:∀i ys H,i<n->Pv i ys H->g (.int (lo+i)) (capS k ci σ) H fun σ2 H2=>tf σ2 H2 fun b H3=>if b=true then te σ2 H3 fun v H4=>ys.length<sizeLine/\Pv (i+1) (ys++[v]) H4 else Pv (i+1) ys H3)
  (hd:∀ys H,Pv n ys H->ys.length<=sizeLine/\∀p,H p=none->Z p ys H) :
  ∃W:Nat->Nat->List V->Hp->Prop,(∃m,W 0 m [] H)/\∀i m ys H,W i m ys H->
   ((Itr lo n).stop i H/\ys.length<=sizeLine/\∀p,H p=none->Z p ys H)\/
   ((Itr lo n).go i H/\∃N:List V->Hp->Prop,(∀ys' H',N ys' H'->∃m',m'<m/\W (i+1) m' ys' H')/\∀x H',(Itr lo n).yld i H x H'->g x (capS k ci σ) H' fun σ2 H2=>tf σ2 H2 fun b H3=>
    if b=true then te σ2 H3 fun v H4=>ys.length<sizeLine/\N (ys++[v]) H4 else N ys H3):=by
 refine⟨fun i m ys H=>m=n-i/\i<=n/\Pv i ys H,⟨n,by simp,Nat.zero_le _,h0⟩,?_⟩;rintro i m ys H ⟨rfl,hi,p⟩;by_cases hlt:i<n
 ·refine .inr ⟨hlt,Pv (i+1),fun ys' H' p'=>⟨n-(i+1),by omega,rfl,hlt,p'⟩,fun x H' y=>?_⟩;obtain⟨e,y⟩:=y;subst e y;exact hs i ys _ hlt p
 ·have e:i=n:=by omega
  subst e;exact .inl ⟨Nat.le_refl _,hd ys H p⟩
theorem j6{K:Frg}{a:Addr}{xs:List V}{k:Nat}{ci:List Nat}{g:TG}{tf:TT}{te:TE}{σ:St}{H:Hp}{Z:Addr->List V->Hp->Prop}(Pv:Nat->List V->Hp->Prop)(h0:Pv 0 [] H)(hl:∀i ys H,i<=xs.length->Pv i ys H->SqL K H a xs)
  (hs:∀i x ys H,xs[i]?=some x->Pv i ys H->g x (capS k ci σ) H fun σ2 H2=>tf σ2 H2 fun b H3=>if b=true then te σ2 H3 fun v H4=>ys.length<sizeLine/\Pv (i+1) (ys++[v]) H4 else Pv (i+1) ys H3)
  (hd:∀ys H,Pv xs.length ys H->ys.length<=sizeLine/\∀p,H p=none->Z p ys H) :
  ∃W:Nat->Nat->List V->Hp->Prop,(∃m,W 0 m [] H)/\∀i m ys H,W i m ys H->
   ((Itl K a).stop i H/\ys.length<=sizeLine/\∀p,H p=none->Z p ys H)\/
   ((Itl K a).go i H/\∃N:List V->Hp->Prop,(∀ys' H',N ys' H'->∃m',m'<m/\W (i+1) m' ys' H')/\∀x H',(Itl K a).yld i H x H'->g x (capS k ci σ) H' fun σ2 H2=>tf σ2 H2 fun b H3=>
    if b=true then te σ2 H3 fun v H4=>ys.length<sizeLine/\N (ys++[v]) H4 else N ys H3):=by
 refine⟨fun i m ys H=>m=xs.length-i/\i<=xs.length/\Pv i ys H,⟨xs.length,by simp,Nat.zero_le _,h0⟩,?_⟩;rintro i m ys H ⟨rfl,hi,p⟩;have q:=hl i ys H hi p;by_cases hlt:i<xs.length
 ·refine .inr ⟨⟨xs,xs[i],q,by simp[hlt]⟩,Pv (i+1),fun ys' H' p'=>⟨xs.length-(i+1),by omega,rfl,hlt,p'⟩,fun x H' y=>?_⟩;obtain⟨e,y⟩:=y;subst e;exact hs i x ys _ (y xs q) p
 ·have e:i=xs.length:=by omega
  subst e;exact .inl ⟨⟨xs,q,Nat.le_refl _⟩,hd ys H p⟩
end
theorem j00:(10:Nat)^250<2^831:=by decide +kernel
theorem YY{x:Int}(h1 : -10^250<=x)(h2:x<=10^250):Builtin.Int.intBits x<=1048576:=by
 refine Nat.le_trans (PySem.intBits_le_iff.mpr ?_:Builtin.Int.intBits x<=831) (by decide);have:x.natAbs<=10^250:=by omega
 exact Nat.lt_of_le_of_lt this j00
theorem mulOk{x y:Int}(h1 : -10^250<=x)(h2:x<=10^250)(h3 : -10^250<=y)(h4:y<=10^250):IntMulOk x y:=.of_bits (YY h1 h2) (YY h3 h4)
section
variable{X:Cx}
theorem Jb:OpR X (binaryOp .Mult) (rI IntMulOk fun i j=>.int (i*j)):=opI fun _ _ _ _ _ _ _ hc q=>mul_int q hc
def CDivB(_ j:Int):Prop:=0<j/\j<=10^250
theorem cdivB{i j:Int}(h1:0<j)(h2:j<=10^250):CDivB i j:=⟨h1,h2⟩
theorem JZ:OpR X (binaryOp .FloorDiv) (rI CDivB fun i j=>.int (i/j)):=opI fun i j _ _ _ _ _ hc q=>by
 have h1:(0:Int)<j:=hc.1;have h2:j<=10^250:=hc.2;refine floordiv_int (by omega) ?_ (.inl (PyProof.noPylong_of_log2 ?_))
 ·rw[Int.fdiv_eq_ediv_of_nonneg _ (by omega)];exact q
 ·have e:j.natAbs<=10^250:=by omega
  have g:j.natAbs.log2<831:=(Nat.log2_lt (by omega)).mpr (Nat.lt_of_le_of_lt e j00);omega
theorem zZ:CallR X (.builtin "isinstance") (fun xs H Q=>∃x T t b,xs=[x,.ty T]/\TyOf X.K H x t/\PySem.W.kitOne X.K t (.type T)=some b/\Q (.bl b) H):=by
 intro pins s σ H xs us Q I r h;obtain⟨x,T,t,b,rfl,ty,e,q⟩:=h;obtain⟨u,w',rfl,rx,rT⟩:=vals2 r;cases(show w'=Value.type T from rT);exact j0p I rx ty e fun tk=>⟨.bl b,H,I.tok _,rfl,q⟩
theorem j0P{prog:Program}{w:World}{A:Around}{E:Value->Shared->Prop}{s:Shared}{l:Addr}{xs:Array (Int×Tok)}{Q:Value->Shared->Prop}(hh:A.handled=none)(hl:s.heap.IsList l (intItems xs))
  (h:∀h' tk t',(∀b o,s.heap.get? b=some o->h'.get? b=some o)->Q (.int (preSum (numAt xs) xs.size) t') {s with heap:=h',toks:=tk}) :
  wpAny (model prog w) A (call (.builtin "sum") [.ref l]) Q E s:=by
 obtain⟨o,ho,hc,n,hd⟩:=id hl;have hne:l≠s.heap.objs.size:=Nat.ne_of_lt (Heap.lt_size ho);have hsz:(intItems xs).size=xs.size:=by simp[intItems]
 have W:=(Walks.list (prog:=prog) (w:=w) (A:=A.in1) hh s.heap.objs.size l hne (intItems xs)).toS;rw[hsz]at W;refine call_sum_walkAnyS (wpAny_pyIter_list hl ?_);refine⟨s.heap.objs.size,_,_,_,_,_,_,numAt xs,rfl,W,⟨⟨_,Heap.get?_push_size _ rfl,rfl,rfl⟩,hl.at fun o e=>Heap.get?_push_of_some _ e⟩,fun b hb=>?_,fun i v hP=>intItems_at hP,fun s' t' hm=>?_⟩
 ·rcases mem_cons.mp hb with rfl | hb
  ·exact Heap.lt_size (Heap.get?_push_size _ rfl)
  ·obtain rfl:=mem_singleton.mp hb;exact Heap.lt_size (Heap.get?_push_of_some _ ho)
 ·obtain⟨h',g',d',tk',os'⟩:=s';have e1:g'=s.gens:=hm.gens;have e2:d'=s.drawn:=hm.drawn;have e3:os'=s.os:=hm.os;subst e1 e2 e3;exact h h' tk' t' fun b o e=>hm.heap b o (fun hb=>absurd (Heap.lt_size e) ((mem_singleton.mp hb)▸Nat.lt_irrefl _)) (Heap.get?_push_of_some _ e)
theorem Kk(hc:X.calm=true):CallR X (.builtin "sum") (fun xs H Q=>∃(p:Addr) (ns:List Int),xs=[.ref p]/\SqL X.K H p (ns.map V.int)/\Q (.int ns.sum) H):=by
 intro pins s σ H xs us Q I r h;obtain⟨p,ns,rfl,hx,q⟩:=h;obtain⟨u,rfl,rx⟩:=vals1 r;cases rx;obtain⟨its,r',pl,hz⟩:=I.list hx;have hi:IntsAre its ns:=intsAre_of r';obtain⟨ys,hy⟩:=hi.allInts.items;have hn:numsOf its.toArray.toList=ns:=by rw[show its.toArray.toList=its from rfl,hi.numsOf]
 have hl:=pl.isList;rw[hy]at hl hn;rw[nums_intItems]at hn;refine j0P (I.ok.hd hc) hl fun h' tk t' hk=>?_
 rw[preSum_eq,take_of_length_le (by simp),hn];exact⟨.int ns.sum,H,I.kept hk,⟨_,rfl⟩,q⟩
end
end L2
namespace Att
open PySem PySem.W PySem.Calls PyProof.Rows
theorem Ym:∀(ns:List Int) (x:Int),x∈ns->Builtin.Int.intBits x<=WData.weightAll (ns.map WData.int)
 | [],_,h=>by cases h
 | n::r,x,h=>by
  show _<=WData.weight (.int n)+1+WData.weightAll (r.map WData.int);rcases mem_cons.mp h with e | h
  ·subst e;have e:Builtin.Int.intBits x=WData.weight (.int x):=by
    unfold Builtin.Int.intBits WData.weight;rfl
   omega
  ·have:=Ym r x h;omega
theorem K7{l:OpenLaw}{n:Nat}{q:Program}{loose:List Str}{XP:(Str->Option Value)->Heap->Prop}{YP:World->Heap->Prop}{d:DefRec}
  (hn:l.most=some n) (hdf:d.params.defaults=[])
  (call:∀(w:World) (s₀ s₁:Shared) (mg mb:Str->Option Value) (fa:Addr) (o:Obj) (pm cd doc:Value) (a:Addr) (vs:List Value) (ns:List Int),
   Ground q loose [] XP w s₀ mg mb s₁.heap->YP w s₁.heap->
   s₁.heap.get? fa=some o->o.data = .func (docDef d.name d.params d.body d.scope pm cd doc)->s₁.heap.CodeRec cd d.name->mg d.name=some (.ref fa)->
   s₁.heap.get? a=some {cls:=.type "list",data:=.seq vs.toArray}->IntsAre vs ns->ns.length<=n->(∀x∈ns,Builtin.Int.intBits x<=1048576)->s₁.gens = #[]->
   codeAny (model l.prog w) callerA (.call (.ref fa) ⟨[.ref a],[]⟩) (fun r s'=>r = .ok (.ret (.bool true))/\OldK s₁.heap s'.heap/\s'.os=s₁.os/\AllBare s'.gens) s₁) :
  WalkO q loose XP YP l.row.toRowW d [] (fun f vs=>PySem.call f vs):=by
 intro w s₀ s₁ mg mb G Y fa o pm cd doc dV kV ho hd hcd hD hmg hg args vals as hpre hlay hrd hwl hlo;obtain rfl:dV = .none:=Dflts.none hD hdf;obtain rfl:kV = .none:=Dflts.noKw hD;obtain⟨a,vs,ns,rfl,rfl,hobj,hints,hlen⟩:=j0N hn hpre hwl;have hbits:∀x∈ns,Builtin.Int.intBits x<=1048576:=by
  have hw:(WData.list (ns.map WData.int)).weight<=2^20:=(layableW_iff.mp (layW_cons hlay).1).2.2;intro x hx;exact Nat.le_trans (Ym ns x hx) hw
 refine enter_call (codeAny_mono (call w s₀ s₁ mg mb fa o pm cd doc a vs ns G Y ho (fd_plain hd) hcd hmg hobj hints hlen hbits hg) fun r s' hq=>?_);obtain⟨rfl,h2,h3,h4⟩:=hq;exact⟨.inl ⟨.bool true,.bool true,[],rfl,fun _=>rfl,.bool true,j0H l _,fun _=>⟨List.Pairwise.nil,fun _ hm=>(nomatch hm)⟩⟩,h2,h3,h4⟩
end Att
namespace L2
open PySem PySem.Spec PyProof.Rows
theorem j2o{l:PySem.W.OpenLaw}{n k:Nat}{q:Program}{loose:List Str}{XP:(Str->Option Value)->Heap->Prop}{YP:World->Heap->Prop}{d:DefRec}{K:Params->Frg}{CX:CXT}{sp:Frg->Sp}{x:Str}
  (hn:l.most=some n) (hn2:n<=sizeLine) (hdf:d.params.defaults=[]) (hr:Room k callerA)
  (hY:∀(w:World) (h:Heap),YP w h->(K w.params).In h)
  (F:∀(w:World) (mg:Str->Option Value) (fa:Addr) (h:Heap),(K w.params).In h->h.Ns mainGlobals mg->mg d.name=some (.ref fa)->
   ∃fd:FuncData,(∀(s:Shared) (u:Value),BindsTo s fd ⟨[u],[]⟩ [(x,u)])/\
    ∀base:Heap,(K w.params).In base->base.Ns mainGlobals mg->FnOk l.prog w (K w.params) mg base CX k fa fd [x] (sp (K w.params)))
  (hsp:∀(K:Frg) (H:Hp) (a:Addr) (ns:List Int),ns.length<=n->(∀x∈ns,Builtin.Int.intBits x<=1048576)->Only H->SqL K H a (ns.map V.int)->sp K [.ref a] H (fun v _=>v = .bl true) fun _ _ _=>False)
  (hCX:∀(H:Hp) (s:Shared) (e:Value) (s':Shared),CX [] H s (fun _ _ _=>False) e s'->False) :
  PySem.W.WalkO q loose XP YP l.row.toRowW d [] (fun f vs=>PySem.call f vs):=by
 refine Att.K7 hn hdf fun w s₀ s₁ mg mb fa o pm cd doc a vs ns G Y ho hd hcd hmg hobj hints hlen hbits hg=>?_
 have KX:=hY w _ Y;obtain⟨fd,hb,hF⟩:=F w mg fa _ KX G.T.g hmg;exact j1k KX G.T.g G.T.b G.T.builtins G.T.nolimit hg hobj hints (Nat.le_trans hlen hn2) hr hF hb (fun H hO hS=>hsp _ H a ns hlen hbits hO hS) fun H e s'=>hCX H s₁ e s'
section
variable{P:Program}{w:World}{K:Frg}{mg:Str->Option Value}{base:Heap}
end
theorem SP.nx{X:Cx}{pins:List (Addr×Obj)}{D:Ends}{R:St->Hp->Prop}(hR:∀σ' H',R σ' H'->D.nx σ' H'){f:Flow}{s:Shared}(h:SP X pins {D with nx:=R} f s):SP X pins D f s:=by
 cases f with
 | next=>obtain⟨σ',H',I,q⟩:=h;exact⟨σ',H',I,hR _ _ q⟩
 | brk=>exact h
 | cont=>exact h
 | ret u=>exact h
def tIfJ(c:TT)(t u:TS):TS:=fun D σ H=>∃R:St->Hp->Prop,(∀σ' H',R σ' H'->D.nx σ' H')/\tIfS c t u {D with nx:=R} σ H
theorem ze{X:Cx}{pos:Pos}{t u:TS}{c:Expr}{a b:List Stmt}{tc:TT}(hc:PT X c tc)(ha:PSs X a t)(hb:PSs X b u):PS X (.If c a b pos) (tIfJ tc t u):=by
 intro pins s σ H D I h;obtain⟨R,hR,h⟩:=h;exact thn (jS hc ha hb pins s σ H _ I h) fun f s' q=>q.nx hR
open PySem
theorem Jj:bootBuiltins "len"= some (.builtin "len"):=by decide +kernel
theorem xH:bootBuiltins "max"= some (.builtin "max"):=by decide +kernel
theorem j12:bootBuiltins "min"= some (.builtin "min"):=by decide +kernel
theorem j14:bootBuiltins "sum"= some (.builtin "sum"):=by decide +kernel
theorem qg:bootBuiltins "isinstance"= some (.builtin "isinstance"):=by decide +kernel
theorem Kh:bootBuiltins "sorted"= some (.builtin "sorted"):=by decide +kernel
theorem j3G:bootBuiltins "int"= some (.type "int"):=by decide +kernel
theorem j13:bootBuiltins "str"= some (.type "str"):=by decide +kernel
theorem j2A:bootBuiltins "bool"= some (.type "bool"):=by decide +kernel
theorem Q2:bootBuiltins "list"= some (.type "list"):=by decide +kernel
theorem j15:bootBuiltins "tuple"= some (.type "tuple"):=by decide +kernel
theorem j2B:bootBuiltins "dict"= some (.type "dict"):=by decide +kernel
theorem wb:bootBuiltins "enumerate"= some (.type "enumerate"):=by decide +kernel
theorem j16:bootBuiltins "zip"= some (.type "zip"):=by decide +kernel
theorem Wy:bootBuiltins "reversed"= some (.type "reversed"):=by decide +kernel
theorem ka(K:Frg)(t:Value)(h:(t==t)=true):PySem.W.kitOne K t t=some true:=by unfold PySem.W.kitOne;rw[if_pos h]
theorem Kx(K:Frg){a b:String}{v:Bool}(h0:(Value.type a==Value.type b)=false)(h1:PySem.W.kitMeta b=true)(h2:PySem.W.subIn [] (.type a) (.type b)=some v):PySem.W.kitOne K (.type a) (.type b)=some v:=by
 unfold PySem.W.kitOne;rw[if_neg (by rw[h0];exact Bool.false_ne_true)];show(if PySem.W.kitMeta b=true then _ else _)=_;rw[if_pos h1];exact h2
theorem j0m{K:Frg}:PySem.W.kitOne K (.type "int") (.type "int")=some true:=ka K _ (by decide +kernel)
theorem xR{K:Frg}:PySem.W.kitOne K (.type "int") (.type "bool")=some false:=Kx K (by decide +kernel) (by decide +kernel) (by decide +kernel)
theorem j0n{K:Frg}:PySem.W.kitOne K (.type "int") (.type "str")=some false:=Kx K (by decide +kernel) (by decide +kernel) (by decide +kernel)
theorem Ku{K:Frg}:PySem.W.kitOne K (.type "str") (.type "str")=some true:=ka K _ (by decide +kernel)
theorem WK{K:Frg}:PySem.W.kitOne K (.type "list") (.type "list")=some true:=ka K _ (by decide +kernel)
section
variable{X:Cx}{tg:Expr}
theorem Xw:SlR X (fun x lo hi H Q=>∃z,x = .str z/\z.length<=sizeLine/\Q (.str (Txt.slice z lo hi)) H):=by
 intro pins s σ H x v vl vu lo hi sl Q I rx hs pl pu h;obtain⟨z,rfl,hz,q⟩:=h;obtain⟨t,rfl⟩:=rx;refine⟨"str",_,F.slot_str_getitem.lookup,typeIs_str _ _ _,?_⟩;have fin:∀(lo hi:Option Int),Q (.str (Txt.slice z lo hi)) H->∀t' k,EP X pins σ Q (.str (Txt.slice z lo hi) t') {s with toks:=k}:=fun lo hi q t' k=>⟨.str _,H,I.tok _,⟨_,rfl⟩,q⟩
 cases pl with
 | none=>
  cases pu with
  | none=>exact wpAny_getItem_str_slice (l:=none) (u:=none) (st:=none) hs rfl (post_val_or_str ⟨Nat.le_trans (Txt.slice_le z _ _) hz,fin _ _ q⟩)
  | int j uj=>exact wpAny_getItem_str_slice (l:=none) (u:=some (j,uj)) (st:=none) hs rfl (post_val_or_str ⟨Nat.le_trans (Txt.slice_le z _ _) hz,fin _ _ q⟩)
 | int i ui=>
  cases pu with
  | none=>exact wpAny_getItem_str_slice (l:=some (i,ui)) (u:=none) (st:=none) hs rfl (post_val_or_str ⟨Nat.le_trans (Txt.slice_le z _ _) hz,fin _ _ q⟩)
  | int j uj=>exact wpAny_getItem_str_slice (l:=some (i,ui)) (u:=some (j,uj)) (st:=none) hs rfl (post_val_or_str ⟨Nat.le_trans (Txt.slice_le z _ _) hz,fin _ _ q⟩)
theorem rd_str{z:Str}{R:Str->Prop}(h:R z):∃z',V.str z = .str z'/\R z':=⟨z,rfl,h⟩
end
section
variable{X:Cx}{K:Frg}
theorem JY(e:X.K=K):IxR X (rIxL K):=by subst e;exact jv
theorem j2I(e:X.K=K):IxR X (rIxT K):=by subst e;exact jo
theorem j0d(e:X.K=K):CallR X (.builtin "len") (fun xs H Q=>∃x n,xs=[x]/\LenV K x H n/\Q (.int n) H):=by subst e;exact jJ
theorem kg(e:X.K=K):OpR X (compareOp .In) (rIn K false):=by subst e;exact j0E
theorem kW(e:X.K=K):OpR X (compareOp .NotIn) (rIn K true):=by subst e;exact wR
end
mutual
inductive DV(H:Hp):V->PyData->Prop
 | non:DV H .non .none
 | bl (b:Bool):DV H (.bl b) (.bool b)
 | int (i:Int):DV H (.int i) (.int i)
 | str (x:Str):DV H (.str x) (.str x)
 | lst {a:Addr} {xs:List V} {ds:List PyData}:H a=some (.lst xs)->DVs H xs ds->DV H (.ref a) (.list ds)
 | tup {a:Addr} {xs:List V} {ds:List PyData}:H a=some (.tup xs)->DVs H xs ds->DV H (.ref a) (.tuple ds)
inductive DVs(H:Hp):List V->List PyData->Prop
 | nil:DVs H [] []
 | cons {x:V} {d:PyData} {xs:List V} {ds:List PyData}:DV H x d->DVs H xs ds->DVs H (x::xs) (d::ds)
end
section
variable{X:Cx}
mutual
theorem QU{pins:List (Addr×Obj)}{s:Shared}{σ:St}{H:Hp}(I:Inv X pins σ H s):∀{v:V} {d:PyData} {u:Value},DV H v d->RelV v u->∃as,Reads s.heap u d as
 | _,_,_,.non,r=>⟨_,by cases r;exact Reads.none⟩
 | _,_,_,.bl b,r=>⟨_,by cases r;exact Reads.bool b⟩
 | _,_,_,.int i,r=>by obtain⟨t,rfl⟩:=r;exact⟨_,Reads.int i t⟩
 | _,_,_,.str x,r=>by obtain⟨t,rfl⟩:=r;exact⟨_,Reads.str x t⟩
 | _,_,_,.lst e q,r=>by
  cases r;obtain⟨_,its,c,rv,he⟩:=I.hok _ _ e;obtain⟨as,ra⟩:=yT I q rv;exact⟨_,reads_list_at he rfl rfl (by simpa using ra)⟩
 | _,_,_,.tup e q,r=>by
  cases r;obtain⟨its,rv,pl,_⟩:=I.tuple (SqT.of e);obtain⟨o,ho,hc,n,hd⟩:=pl;obtain⟨as,ra⟩:=yT I q rv;exact⟨_,reads_tuple_at ho hc hd (by simpa using ra)⟩
theorem yT{pins:List (Addr×Obj)}{s:Shared}{σ:St}{H:Hp}(I:Inv X pins σ H s):∀{vs:List V} {ds:List PyData} {us:List Value},DVs H vs ds->Vals vs us->∃as,ReadsAll s.heap us ds as
 | _,_,_,.nil,r=>by cases r;exact⟨_,ReadsAll.nil⟩
 | _,_,_,.cons a q,r=>by
  cases r with
  | cons r1 r2=>
   obtain⟨as,ra⟩:=QU I a r1;obtain⟨bs,rb⟩:=yT I q r2;exact⟨_,ReadsAll.cons ra rb⟩
end
theorem j3V(hu:X.A.units+64<cLine):OpR X (compareOp .Eq) (fun x y H Q=>∃d e,DV H x d/\DV H y e/\SeqAt.shaped d=true/\SeqAt.shaped e=true/\Q (.bl (PyData.eqv d e)) H):=by
 intro pins s σ H x y v u Q I rx ry h;obtain⟨d,e,hd,he,sd,se,q⟩:=h;obtain⟨as,ra⟩:=QU I hd rx;obtain⟨bs,rb⟩:=QU I he ry;exact eq_dataH ra rb sd se hu ⟨.bl _,H,I,rfl,q⟩
theorem j3Z(hu:X.A.units+64<cLine):OpR X (compareOp .NotEq) (fun x y H Q=>∃d e,DV H x d/\DV H y e/\SeqAt.shaped d=true/\SeqAt.shaped e=true/\Q (.bl (!PyData.eqv d e)) H):=by
 intro pins s σ H x y v u Q I rx ry h;obtain⟨d,e,hd,he,sd,se,q⟩:=h;obtain⟨as,ra⟩:=QU I hd rx;obtain⟨bs,rb⟩:=QU I he ry;exact ne_dataH ra rb sd se hu ⟨.bl _,H,I,rfl,q⟩
theorem j2m{us:List Value}:∀{ns:List Int},IntsAre us ns->Vals (ns.map V.int) us:=by
 induction us with
 | nil=>intro ns r;cases r;exact .nil
 | cons u us ih=>
  intro ns r;cases r with
  | cons n t r=>exact .cons ⟨t,rfl⟩ (ih r)
theorem wg:CallR X (.builtin "sorted") (fun xs H Q=>∃(p:Addr) (ns:List Int),xs=[.ref p]/\SqL X.K H p (ns.map V.int)/\ns.length<64/\∀(l:Addr) (ms:List Int),H l=none->ms.Perm ns->ms.Pairwise (·<=·)->Q (.ref l) (upd H l (.lst (ms.map V.int)))):=by
 intro pins s σ H xs us Q I r h;obtain⟨p,ns,rfl,hx,hn,q⟩:=h;obtain⟨u,rfl,rx⟩:=vals1 r;cases rx;obtain⟨its,r',pl,_⟩:=I.list hx;have hi:=intsAre_of r';have hlen:=r'.length;rw[length_map]at hlen;refine sorted_ints pl.isList hi (by omega) fun out ms ho hp hs=>?_
 obtain⟨e,he⟩:=sortedAll_at s.heap its out;refine⟨.ref (s.heap.objs.size+1),_,I.laid (t':=s.toks) (a:=s.heap.objs.size+1) (o:=.lst (ms.map V.int)) (fun b o hb=>sortedAll_old hb) (Nat.le_succ _) ?_,rfl,q _ ms (I.hok.fresh (Nat.le_succ _)) hp hs⟩;have hml:ms.length=ns.length:=hp.length_eq;exact⟨by rw[length_map,hml];exact Nat.le_trans (Nat.le_of_lt hn) (by decide),out.toList,e,j2m ho,by simpa using he⟩
theorem Ki(hc:X.calm=true):CallR X (.builtin "max") (fun xs H Q=>∃(p:Addr) (ns:List Int),xs=[.ref p]/\SqL X.K H p (ns.map V.int)/\0<ns.length/\∀m∈ns,(∀a∈ns,a<=m)->Q (.int m) H):=by
 intro pins s σ H xs us Q I r h;obtain⟨p,ns,rfl,hx,hne,q⟩:=h;obtain⟨u,rfl,rx⟩:=vals1 r;cases rx;obtain⟨its,r',pl,_⟩:=I.list hx;have hi:=intsAre_of r';have hl:=pl.isList;obtain⟨xs,e⟩:=hi.allInts.items;have hns:ns=xs.toList.map (·.1):=by rw[<-hi.numsOf,<-nums_intItems,<-e]
 have hsz:0<xs.size:=by
  have h3:=hne;rw[hns,length_map,Array.length_toList]at h3;exact h3
 rw[e]at hl;refine max_intList (I.ok.hd hc) hl hsz fun v h' tk hv hk=>?_
 obtain⟨t,rfl⟩:=intItems_at hv;obtain⟨h1,h2⟩:=argBest_gt (numAt xs) (xs.size-1);refine⟨.int _,H,I.kept (t':=tk) hk,⟨_,rfl⟩,q _ ?_ fun a ha=>?_⟩
 ·rw[hns,numAt_eq];exact getD_mem (by rw[length_map,Array.length_toList];omega)
 ·rw[hns]at ha;obtain⟨j,hj,rfl⟩:=mem_getD ha;rw[length_map,Array.length_toList]at hj;rw[<-numAt_eq];exact h2 j (by omega)
end
section
variable{σ:St}{H:Hp}{Q:VK}
theorem rd_dget{td ty:TE}(h:td σ H fun x H1=>ty σ H1 fun y H2=>∃a v,x = .ref a/\DGet H2 a y (some v)/\Q v H2):tDGet td ty σ H Q:=h
end
def TabK(K:Frg)(a:Addr)(D:List (Str×PyProof.Rows.KTD.Dat)):Prop:=PyProof.Rows.KTD.tabLook (PyProof.Rows.KTD.datLooks fun b=>K.lookup b) (fun b=>K.lookup b) a D=true
section
variable{X:Cx}
theorem j3Y:OpR X (compareOp .In) (fun x y H Q=>∃a k D,x = .str k/\y = .ref a/\TabK X.K a D/\Q (.bl (PyProof.Rows.KTD.inKeys k D)) H):=by
 intro pins s σ H x y v u Q I rx ry h;obtain⟨a,k,D,rfl,rfl,T,q⟩:=h;obtain⟨t,rfl⟩:=rx;cases ry;exact PyProof.Rows.KTD.in_text (h₀:=s.heap) ⟨PySem.W.kt_text_in I.kIn T,fun _ _ e=>e⟩ ⟨.bl _,H,I.tok _,rfl,q⟩
end
theorem j17{K:Frg}{a:Addr}{xs:List V}{k:Nat}{ci:List Nat}{g:TG}{tf:TT}{te:TE}{σ:St}{H:Hp}{Z:Addr->List V->Hp->Prop}(Pv:Nat->List V->Hp->Prop)(h0:Pv 0 [] H)(hl:∀i ys H,i<=xs.length->Pv i ys H->SqT K H a xs)
  (hs:∀i x ys H,xs[i]?=some x->Pv i ys H->g x (capS k ci σ) H fun σ2 H2=>tf σ2 H2 fun b H3=>if b=true then te σ2 H3 fun v H4=>ys.length<sizeLine/\Pv (i+1) (ys++[v]) H4 else Pv (i+1) ys H3)
  (hd:∀ys H,Pv xs.length ys H->ys.length<=sizeLine/\∀p,H p=none->Z p ys H) :
  ∃W:Nat->Nat->List V->Hp->Prop,(∃m,W 0 m [] H)/\∀i m ys H,W i m ys H->
   ((Itt K a).stop i H/\ys.length<=sizeLine/\∀p,H p=none->Z p ys H)\/
   ((Itt K a).go i H/\∃N:List V->Hp->Prop,(∀ys' H',N ys' H'->∃m',m'<m/\W (i+1) m' ys' H')/\∀x H',(Itt K a).yld i H x H'->g x (capS k ci σ) H' fun σ2 H2=>tf σ2 H2 fun b H3=>
    if b=true then te σ2 H3 fun v H4=>ys.length<sizeLine/\N (ys++[v]) H4 else N ys H3):=by
 refine⟨fun i m ys H=>m=xs.length-i/\i<=xs.length/\Pv i ys H,⟨xs.length,by simp,Nat.zero_le _,h0⟩,?_⟩;rintro i m ys H ⟨rfl,hi,p⟩;have q:=hl i ys H hi p;by_cases hlt:i<xs.length
 ·refine .inr ⟨⟨xs,xs[i],q,by simp[hlt]⟩,Pv (i+1),fun ys' H' p'=>⟨xs.length-(i+1),by omega,rfl,hlt,p'⟩,fun x H' y=>?_⟩;obtain⟨e,y⟩:=y;subst e;exact hs i x ys _ (y xs q) p
 ·have e:i=xs.length:=by omega
  subst e;exact .inl ⟨⟨xs,q,Nat.le_refl _⟩,hd ys H p⟩
theorem rd_iTup{K:Frg}{te:TE}{σ:St}{H:Hp}{R:It->Hp->Prop}(h:te σ H fun x H1=>∃a,x = .ref a/\(∃xs,SqT K H1 a xs)/\R (Itt K a) H1):iTup K te σ H R:=h
theorem JV{K:Frg}{i j:Nat}{a:Addr}{x y:V}{σ:St}{H:Hp}{R:St->Hp->Prop}(e:SqT K H a [x,y])(h:gName i x σ H fun σ' H'=>gName j y σ' H' R):gTup K 2 (gCons (gName i) (gCons (gName j) gNil)) (.ref a) σ H R:=
 ⟨a,[x,y],rfl,e,rfl,x,[y],rfl,y,[],rfl,rfl,h⟩
theorem rd_sub{to ti:TE}{t:TSet}{v:V}{σ:St}{H:Hp}{R:St->Hp->Prop}(h:to σ H fun o H1=>ti σ H1 fun i H2=>t o i v H2 fun H3=>R σ H3):gSub to ti t v σ H R:=h
theorem rd_dnew{σ:St}{H:Hp}{Q:VK}(h:∀p,H p=none->Q (.ref p) (upd H p (.dK []))):tDNewK σ H Q:=h
theorem rd_dput{td ty tv:TE}{σ:St}{H:Hp}{D:Ends}(h:tv σ H fun v H1=>td σ H1 fun x H2=>ty σ H2 fun y H3=>∃a H4,x = .ref a/\DPut H3 a y v H4/\D.nx σ H4):sDPut td ty tv D σ H:=h
theorem rd_bm0{K:Frg}{T:String}{r:V->List V->Hp->VK->Prop}{to:TE}{σ:St}{H:Hp}{Q:VK}(h:to σ H fun x H1=>tyV K T x H1/\r x [] H1 Q):tBM0 K T r to σ H Q:=h
section
variable{X:Cx}{pins:List (Addr×Obj)}{σ:St}{H:Hp}{s:Shared}{h':Heap}
theorem Inv.turnedL{t':Nat}{ch:List Addr}(I:Inv X pins σ H s)(hf:∀b∈ch,FpOk X pins H b)(k:∀b o,b∉ch->s.heap.get? b=some o->h'.get? b=some o):Inv X pins σ H {s with heap:=h',toks:=t'}:=by
 have nit:∀b u,H b=some u->b∉ch:=fun b u e z=>by rw[(hf b z).1]at e;cases e
 refine I.step (g':=s.gens) (d':=s.drawn) (ch:=ch) (fun b hb=>?_) (fun b o _ _ hc e _=>k b o hc e) (fun b o _ _ hc e _=>⟨o.slots,k b o hc e⟩) (fun _ _ _ _ n=>n)
  (fun b o hc e=>⟨o,k b o hc e⟩) (fun _ _ e=>e) (fun _ _ _ e=>e) (fun b ps e=>⟨#[],by rw[e];simp⟩) (fun m hm=>?_) (fun b u e=>?_) I.bare
 ·obtain⟨_,f1,_,f3,f4,f5⟩:=hf b hb;exact⟨f3,f1,f4,f5⟩
 ·obtain⟨o,es,ep,ho,r⟩:=hm;exact⟨o,es,ep,k _ o (fun z=>(hf _ z).2.1 rfl) ho,r⟩
 ·refine(I.hok b u e).stay (fun c v hc q=>k c v ?_ q) (fun _ q=>q) fun _ _ q=>q
  rcases hc with z | z
  ·rw[z];exact nit b u e
  ·exact nit c _ z
theorem Inv.pair{t':Nat}{ch:List Addr}{x y:V}{u v:Value}(I:Inv X pins σ H s)(hf:∀b∈ch,FpOk X pins H b)(hl:∀b∈ch,b<s.heap.objs.size)(rx:RelV x u)(ry:RelV y v)
  (hT:h'.get? s.heap.objs.size=some {cls:=.type "tuple",data:=.seq #[u,v]}) (k:∀b o,b∉ch->s.heap.get? b=some o->h'.get? b=some o) :
  Inv X pins σ (upd H s.heap.objs.size (.tup [x,y])) {s with heap:=h',toks:=t'}/\∀b∈ch,FpOk X pins (upd H s.heap.objs.size (.tup [x,y])) b:=by
 have f:∀b∈ch,FpOk X pins (upd H s.heap.objs.size (.tup [x,y])) b:=fun b hb=>⟨(jh (Nat.ne_of_lt (hl b hb))).trans (hf b hb).1,(hf b hb).2⟩
 have I1:Inv X pins σ (upd H s.heap.objs.size (.tup [x,y])) {s with heap:=s.heap.push {cls:=.type "tuple",data:=.seq #[u,v]},toks:=t'}:=
  I.laid (t':=t') (fun b o e=>Heap.get?_push_of_some _ e) (Nat.le_refl _) (show ObjOk X.prog X.w _ _ _ (.tup [x,y])from⟨(by show 2<=sizeLine;decide),[u,v],.cons rx (.cons ry .nil),IsTup.new _ _⟩)
 refine⟨I1.turnedL (h':=h') (t':=t') f fun b o hb e=>?_,f⟩;rcases Heap.get?_push_cases e with⟨rfl,rfl⟩ | e
 ·exact hT
 ·exact k b o hb e
end
def Ite(K:Frg)(a:Addr):It:=
 ⟨fun i H=>∃xs x,SqL K H a xs/\xs[i]?=some x,fun i H x H'=>∃T v,x = .ref T/\H T=none/\H'=upd H T (.tup [.int i,v])/\∀xs,SqL K H a xs->xs[i]?=some v,fun i H=>∃xs,SqL K H a xs/\xs.length<=i⟩
theorem j0Q{P:Program}{w:World}{K:Frg}{elts:List Expr}{k:Nat}{pos:Pos}(a e it:Addr)(hne:e≠it) :
  Turn P w K (.Tuple elts k pos) (Ite K a) [e,it] e (fun i h=>(∃old,IsEnum h e it ((i:Nat):Int) old)/\h.IsListIter it a i) where
 mem:=by simp
 obj:=fun i h st b hb=>by
  rcases(by simpa using hb:b=e\/b=it)with rfl | rfl
  ·obtain⟨old,he⟩:=st.1;exact⟨_,he,fun v z=>by cases z⟩
  ·obtain⟨o,e,c,d⟩:=st.2;exact⟨o,e,fun v z=>by rw[d]at z;cases z⟩
 keep:=fun i h h' st k=>⟨let ⟨old,he⟩:=st.1;⟨old,k e (by simp) _ he⟩,st.2.at fun o q=>k it (by simp) o q⟩
 item:=by
  intro X hP hw hK hc i pins s σ H E I hf st hg;subst hP hw hK;obtain⟨xs,x,hq,hx⟩:=hg;obtain⟨its,rv,p,hz⟩:=I.list hq;obtain⟨u,hu,ru⟩:=rv.get hx;obtain⟨⟨old,he⟩,hit⟩:=st;have le:e<s.heap.objs.size:=Heap.lt_size he;have li:it<s.heap.objs.size:=by obtain⟨o,q,_⟩:=id hit;exact Heap.lt_size q
  refine wpAny_pyNext_enum_item he hit p.isList (x:=u) (by simpa using hu) hne fun h' ho hit' hT hsz hk=>?_
  obtain⟨I1,f1⟩:=I.pair (t':=s.toks+1) (ch:=[e,it]) (x:=.int i) (y:=x) hf (fun b hb=>by rcases(by simpa using hb:b=e\/b=it)with rfl | rfl<;>assumption) ⟨s.toks,rfl⟩ ru hT
   (fun b o hb q=>hk b o (fun z=>hb (by simp[z])) (fun z=>hb (by simp[z])) q)
  refine⟨_,rfl,wpAny_letOwnedTupleGo_enum ho fun h2 he2 sb=>?_⟩;have I2:=I1.turnedL (h':=h2) (t':=s.toks+1) (ch:=[e,it]) f1 fun b o hb q=>(sb.2 b fun z=>hb (by simp[z])).trans q
  exact⟨.ref s.heap.objs.size,_,I2,rfl,⟨_,x,rfl,I.hok.fresh (Nat.le_refl _),rfl,fun ys hy=>by rw[I.list_inj hy hq];exact hx⟩,
   ⟨⟨u,by simpa using he2⟩,hit'.at fun o q=>(sb.2 it hne.symm).trans q⟩,fun b hb=>(f1 b hb).1⟩
 done:=by
  intro X hP hw hK hc i pins s σ H E I hf st hg;subst hP hw hK;obtain⟨xs,hq,hx⟩:=hg;obtain⟨its,rv,p,hz⟩:=I.list hq;obtain⟨⟨old,he⟩,hit⟩:=st;have hl:=rv.length;exact wpAny_pyNext_enum_end (I.ok.hd hc) he hit p.isList (by simp;omega) fun h' eb=>⟨rfl,I.turnedL (t':=s.toks) (ch:=[e,it]) hf fun b o hb q=>eb b o (fun z=>hb (by simp[z])) q⟩
 self:=fun _ _ _ _ _ st h=>let ⟨_,he⟩:=st.1;wpAny_pyIter_enum he h
def iEnum(K:Frg)(ta:TA):TI:=fun σ H R=>ta σ H fun vs H1=>∃a xs,vs=[.ref a]/\SqL K H1 a xs/\R (Ite K a) H1
theorem YI{X:Cx}{a:Expr}{ta:TA}{elts:List Expr}{k:Nat}{p pos pos':Pos}(hg:Gl X "enumerate")(hm:X.mg "enumerate"= none)(ha:PA X [a] ta)(hs:starEach [a] X.env=[(false,eval a X.env)]:=by rfl) :
  PI X (.Tuple elts k pos') (.Call (.Name "enumerate" p) [a] [] pos) (iEnum X.K ta):=by
 intro pins s σ H R I h;refine Call_ (qQ I hg hm wb (PyProof.Rows.callWith_type1 (thn (ha pos pins s σ H _ I h) fun us s1 ⟨vs,H1,I1,r1,q1⟩=>?_) hs rfl));obtain⟨b,xs,rfl,hq,q⟩:=q1;obtain⟨u,rfl,ru⟩:=vals1 r1;cases ru;obtain⟨its,rv,p,hz⟩:=I1.list hq;refine call_enumerate_list p.isList fun h' he hit hsz hk=>?_
 refine wpAny_pyIter_enum he ?_;refine⟨s1.heap.objs.size+1,[s1.heap.objs.size+1,s1.heap.objs.size],_,_,H1,rfl,I1.kept (t':=s1.toks) hk,j0Q b _ _ (Nat.succ_ne_self _),⟨⟨_,by simpa using he⟩,hit⟩,fun c hc=>?_,q⟩;rcases(by simpa using hc:c=s1.heap.objs.size+1\/c=s1.heap.objs.size)with rfl | rfl
 ·exact I1.fpOk (Nat.le_succ _) (I1.hok.fresh (Nat.le_succ _))
 ·exact I1.fpOk (Nat.le_refl _) (I1.hok.fresh (Nat.le_refl _))
theorem yi{K:Frg}{a:Addr}{xs:List V}{g:TG}{tb:TS}{D:Ends}{σ:St}{H:Hp}(Pv:Nat->St->Hp->Prop)(h0:Pv 0 σ H)(hl:∀i σ H,i<=xs.length->Pv i σ H->SqL K H a xs)
  (hs:∀i v σ H T H',xs[i]?=some v->Pv i σ H->Same H H'->H' T=some (.tup [.int i,v])->g (.ref T) σ H' fun σ2 H2=>tb {D with nx:=Pv (i+1),ct:=Pv (i+1),bk:=D.nx} σ2 H2) (hd:∀σ H,Pv xs.length σ H->D.nx σ H) :
  ∃W:Nat->Nat->St->Hp->Prop,(∃m,W 0 m σ H)/\∀i m σ H,W i m σ H->
   ((Ite K a).stop i H/\D.nx σ H)\/((Ite K a).go i H/\∃N:St->Hp->Prop,(∀σ' H',N σ' H'->∃m',m'<m/\W (i+1) m' σ' H')/\∀x H',(Ite K a).yld i H x H'->g x σ H' fun σ2 H2=>tb {D with nx:=N,ct:=N,bk:=D.nx} σ2 H2):=by
 refine⟨fun i m σ H=>m=xs.length-i/\i<=xs.length/\Pv i σ H,⟨xs.length,by simp,Nat.zero_le _,h0⟩,?_⟩;rintro i m σ H ⟨rfl,hi,p⟩;have q:=hl i σ H hi p;by_cases hlt:i<xs.length
 ·refine .inr ⟨⟨xs,xs[i],q,by simp[hlt]⟩,Pv (i+1),fun σ' H' p'=>⟨xs.length-(i+1),by omega,rfl,hlt,p'⟩,fun x H' y=>?_⟩;obtain⟨T,v,rfl,hT,e,y⟩:=y;exact hs i v σ H T H' (y xs q) p (fun b o h=>by rw[e,jh (je h hT)];exact h) (by rw[e];exact jr)
 ·have e:i=xs.length:=by omega
  subst e;exact .inl ⟨⟨xs,q,Nat.le_refl _⟩,hd σ H p⟩
theorem rd_iEnum{K:Frg}{ta:TA}{σ:St}{H:Hp}{R:It->Hp->Prop}(h:ta σ H fun vs H1=>∃a xs,vs=[.ref a]/\SqL K H1 a xs/\R (Ite K a) H1):iEnum K ta σ H R:=h
def Itz(K:Frg)(a b:Addr):It:=
 ⟨fun i H=>∃xs x ys y,SqL K H a xs/\xs[i]?=some x/\SqL K H b ys/\ys[i]?=some y,
  fun i H x H'=>∃T u v,x = .ref T/\H T=none/\H'=upd H T (.tup [u,v])/\(∀xs,SqL K H a xs->xs[i]?=some u)/\∀ys,SqL K H b ys->ys[i]?=some v,
  fun i H=>∃xs ys,SqL K H a xs/\SqL K H b ys/\(xs.length<=i\/ys.length<=i)⟩
theorem qe{h:Heap}{a b:Addr}{o u:Obj}(h1:h.get? a=some o)(h2:h.get? b=some u)(hc:o.cls≠u.cls):a≠b:=fun e=>by
 subst e;rw[h1]at h2;cases h2;exact hc rfl
theorem j2i{P:Program}{w:World}{K:Frg}{elts:List Expr}{k:Nat}{pos:Pos}(l1 l2 z TI TO i1 i2:Addr)
  (D:∀l1 l2,l1≠z->l1≠TO->l1≠i1->l1≠i2->l2≠z->l2≠TO->l2≠i1->l2≠i2->ZipApart z TI TO i1 i2 l1 l2) :
  Turn P w K (.Tuple elts k pos) (Itz K l1 l2) [z,TI,TO,i1,i2] z (fun i h=>IsZip h z TI TO .none/\IsPair h TI (.ref i1) (.ref i2)/\(∃a b,IsPair h TO a b)/\h.IsListIter i1 l1 i/\h.IsListIter i2 l2 i) where
 mem:=by simp
 obj:=fun i h st b hb=>by
  obtain⟨hz,hTI,⟨a,c,hTO⟩,h1,h2⟩:=st;rcases(by simpa using hb:b=z\/b=TI\/b=TO\/b=i1\/b=i2)with rfl | rfl | rfl | rfl | rfl
  ·exact⟨_,hz,fun v z=>by cases z⟩
  ·exact⟨_,hTI,fun v z=>by cases z⟩
  ·exact⟨_,hTO,fun v z=>by cases z⟩
  ·obtain⟨o,e,c,d⟩:=h1;exact⟨o,e,fun v z=>by rw[d]at z;cases z⟩
  ·obtain⟨o,e,c,d⟩:=h2;exact⟨o,e,fun v z=>by rw[d]at z;cases z⟩
 keep:=fun i h h' st k=>by
  obtain⟨hz,hTI,⟨a,c,hTO⟩,h1,h2⟩:=st;exact⟨k z (by simp) _ hz,k TI (by simp) _ hTI,⟨a,c,k TO (by simp) _ hTO⟩,h1.at fun o q=>k i1 (by simp) o q,h2.at fun o q=>k i2 (by simp) o q⟩
 item:=by
  intro X hP hw hK hc i pins s σ H E I hf st hg;subst hP hw hK;obtain⟨xs,x,ys,y,hq,hx,hr,hy⟩:=hg;obtain⟨its,rv,p,_⟩:=I.list hq;obtain⟨jts,rw',p',_⟩:=I.list hr;obtain⟨u,hu,ru⟩:=rv.get hx;obtain⟨v,hv,rv'⟩:=rw'.get hy;obtain⟨hz,hTI,⟨a,c,hTO⟩,h1,h2⟩:=st;obtain⟨o1,n1,e1,c1,_⟩:=id p;obtain⟨o2,n2,e2,c2,_⟩:=id p';obtain⟨o3,e3,c3,_⟩:=id h1;obtain⟨o4,e4,c4,_⟩:=id h2;have D':=D l1 l2 (qe e1 hz (by rw[c1];show Value.type "list"≠Value.type "zip";decide)) (qe e1 hTO (by rw[c1];show Value.type "list"≠Value.type "tuple";decide)) (qe e1 e3 (by rw[c1,c3];decide)) (qe e1 e4 (by rw[c1,c4];decide))
   (qe e2 hz (by rw[c2];show Value.type "list"≠Value.type "zip";decide)) (qe e2 hTO (by rw[c2];show Value.type "list"≠Value.type "tuple";decide)) (qe e2 e3 (by rw[c2,c3];decide)) (qe e2 e4 (by rw[c2,c4];decide))
  have lt:∀b∈[z,TI,TO,i1,i2],b<s.heap.objs.size:=fun b hb=>by
   rcases(by simpa using hb:b=z\/b=TI\/b=TO\/b=i1\/b=i2)with rfl | rfl | rfl | rfl | rfl
   ·exact Heap.lt_size hz
   ·exact Heap.lt_size hTI
   ·exact Heap.lt_size hTO
   ·exact Heap.lt_size e3
   ·exact Heap.lt_size e4
  refine wpAny_pyNext_zip_item D' hz hTI hTO h1 h2 p.isList p'.isList (x:=u) (y:=v) (by simpa using hu) (by simpa using hv) fun h' a1 a2 a3 a4 a5 a6 hk=>?_
  obtain⟨I1,f1⟩:=I.pair (t':=s.toks) (ch:=[z,TI,TO,i1,i2]) (x:=x) (y:=y) hf lt ru rv' a5
   (fun b o hb q=>hk b o (fun e=>hb (by simp[e])) (fun e=>hb (by simp[e])) (fun e=>hb (by simp[e])) (fun e=>hb (by simp[e])) q)
  refine⟨_,rfl,wpAny_letOwnedTupleGo_zip a1 fun h3 hz3 sb=>?_⟩;have I2:=I1.turnedL (h':=h3) (t':=s.toks) (ch:=[z,TI,TO,i1,i2]) f1 fun b o hb q=>(sb.2 b fun e=>hb (by simp[e])).trans q
  exact⟨.ref s.heap.objs.size,_,I2,rfl,⟨_,x,y,rfl,I.hok.fresh (Nat.le_refl _),rfl,(fun ys hy=>by rw[I.list_inj hy hq];exact hx),fun ys hy'=>by rw[I.list_inj hy' hr];exact hy⟩,
   ⟨hz3,(sb.2 TI D'.TIz).trans (hk TI _ D'.TIz D'.TITO D'.TIi1 D'.TIi2 hTI),⟨_,_,(sb.2 TO D'.TOz).trans a2⟩,a3.at fun o q=>(sb.2 i1 D'.i1z).trans q,a4.at fun o q=>(sb.2 i2 D'.i2z).trans q⟩,fun b hb=>(f1 b hb).1⟩
 done:=by
  intro X hP hw hK hc i pins s σ H E I hf st hg;subst hP hw hK;obtain⟨xs,ys,hq,hr,hl⟩:=hg;obtain⟨its,rv,p,_⟩:=I.list hq;obtain⟨jts,rw',p',_⟩:=I.list hr;obtain⟨hz,hTI,⟨a,c,hTO⟩,h1,h2⟩:=st;obtain⟨o1,n1,e1,c1,_⟩:=id p;obtain⟨o2,n2,e2,c2,_⟩:=id p';obtain⟨o3,e3,c3,_⟩:=id h1;obtain⟨o4,e4,c4,_⟩:=id h2;have D':=D l1 l2 (qe e1 hz (by rw[c1];show Value.type "list"≠Value.type "zip";decide)) (qe e1 hTO (by rw[c1];show Value.type "list"≠Value.type "tuple";decide)) (qe e1 e3 (by rw[c1,c3];decide)) (qe e1 e4 (by rw[c1,c4];decide))
   (qe e2 hz (by rw[c2];show Value.type "list"≠Value.type "zip";decide)) (qe e2 hTO (by rw[c2];show Value.type "list"≠Value.type "tuple";decide)) (qe e2 e3 (by rw[c2,c3];decide)) (qe e2 e4 (by rw[c2,c4];decide))
  have l1':=rv.length;have l2':=rw'.length;refine wpAny_pyNext_zip_end (I.ok.hd hc) D' hz hTI hTO h1 h2 p.isList p'.isList ?_ fun h' hk=>⟨rfl,I.turnedL (t':=s.toks) (ch:=[z,TI,TO,i1,i2]) hf fun b o hb q=>hk b o (fun e=>hb (by simp[e])) (fun e=>hb (by simp[e])) (fun e=>hb (by simp[e])) (fun e=>hb (by simp[e])) q⟩
  rcases hl with q | q
  ·exact .inl (by simp;omega)
  ·exact .inr (by simp;omega)
 self:=fun _ _ _ _ _ st h=>wpAny_pyIter_zip st.1 h
theorem JI{n i j:Nat}(h:i≠j):n+i≠n+j:=fun e=>h (Nat.add_left_cancel e)
def iZip(K:Frg)(ta:TA):TI:=fun σ H R=>ta σ H fun vs H1=>∃a b xs ys,vs=[.ref a,.ref b]/\SqL K H1 a xs/\SqL K H1 b ys/\R (Itz K a b) H1
theorem Xp{X:Cx}{a b:Expr}{ta:TA}{elts:List Expr}{k:Nat}{p pos pos':Pos}(hg:Gl X "zip")(hm:X.mg "zip"= none)(ha:PA X [a,b] ta)(hs:starEach [a,b] X.env=[(false,eval a X.env),(false,eval b X.env)]:=by rfl)(hs2:starEach [b] X.env=[(false,eval b X.env)]:=by rfl) :
  PI X (.Tuple elts k pos') (.Call (.Name "zip" p) [a,b] [] pos) (iZip X.K ta):=by
 intro pins s σ H R I h;refine Call_ (qQ I hg hm j16 (PyProof.Rows.callWith_type1 (thn (ha pos pins s σ H _ I h) fun us s1 ⟨vs,H1,I1,r1,q1⟩=>?_) (by rw[hs,hs2]) (by rw[hs2];rfl)));obtain⟨l1,l2,xs,ys,rfl,hq,hr,q⟩:=q1;cases r1 with
 | cons r rr=>
  cases rr with
  | cons r' rr=>
   cases rr;cases r;cases r';obtain⟨its,rv,p,hz⟩:=I1.list hq;obtain⟨jts,rw',p',hz'⟩:=I1.list hr;refine call_zip_2 p.isList p'.isList fun h' a1 a2 a3 a4 a5 a6 hk=>?_
   refine wpAny_pyIter_zip a1 ?_;refine⟨s1.heap.objs.size+4,[s1.heap.objs.size+4,s1.heap.objs.size+2,s1.heap.objs.size+3,s1.heap.objs.size,s1.heap.objs.size+1],_,_,H1,rfl,I1.kept (t':=s1.toks) hk,
    j2i l1 l2 _ _ _ _ _ (fun l1 l2 b1 b2 b3 b4 b5 b6 b7 b8=>⟨JI (by decide),JI (by decide),JI (i:=0) (by decide),JI (by decide),JI (by decide),JI (j:=0) (by decide),JI (by decide),JI (j:=0) (by decide),JI (by decide),JI (i:=0) (by decide),b1,b2,b3,b4,b5,b6,b7,b8⟩),⟨a1,a2,⟨_,_,a3⟩,a4,a5⟩,fun c hc=>?_,q⟩
   have hc':s1.heap.objs.size<=c:=by
    rcases(by simpa using hc:c=s1.heap.objs.size+4\/c=s1.heap.objs.size+2\/c=s1.heap.objs.size+3\/c=s1.heap.objs.size\/c=s1.heap.objs.size+1)with rfl | rfl | rfl | rfl | rfl<;>omega
   exact I1.fpOk hc' (I1.hok.fresh hc')
theorem XV{K:Frg}{a b:Addr}{xs ys:List V}{g:TG}{tb:TS}{D:Ends}{σ:St}{H:Hp}(Pv:Nat->St->Hp->Prop)(hlen:xs.length=ys.length)(h0:Pv 0 σ H)(hl:∀i σ H,i<=xs.length->Pv i σ H->SqL K H a xs/\SqL K H b ys)
  (hs:∀i u v σ H T H',xs[i]?=some u->ys[i]?=some v->Pv i σ H->Same H H'->H' T=some (.tup [u,v])->g (.ref T) σ H' fun σ2 H2=>tb {D with nx:=Pv (i+1),ct:=Pv (i+1),bk:=D.nx} σ2 H2) (hd:∀σ H,Pv xs.length σ H->D.nx σ H) :
  ∃W:Nat->Nat->St->Hp->Prop,(∃m,W 0 m σ H)/\∀i m σ H,W i m σ H->
   ((Itz K a b).stop i H/\D.nx σ H)\/((Itz K a b).go i H/\∃N:St->Hp->Prop,(∀σ' H',N σ' H'->∃m',m'<m/\W (i+1) m' σ' H')/\∀x H',(Itz K a b).yld i H x H'->g x σ H' fun σ2 H2=>tb {D with nx:=N,ct:=N,bk:=D.nx} σ2 H2):=by
 refine⟨fun i m σ H=>m=xs.length-i/\i<=xs.length/\Pv i σ H,⟨xs.length,by simp,Nat.zero_le _,h0⟩,?_⟩;rintro i m σ H ⟨rfl,hi,p⟩;obtain⟨q,q'⟩:=hl i σ H hi p;by_cases hlt:i<xs.length
 ·refine .inr ⟨⟨xs,xs[i],ys,ys[i],q,by simp[hlt],q',by simp⟩,Pv (i+1),fun σ' H' p'=>⟨xs.length-(i+1),by omega,rfl,hlt,p'⟩,fun x H' y=>?_⟩;obtain⟨T,u,v,rfl,hT,e,y,y'⟩:=y;exact hs i u v σ H T H' (y xs q) (y' ys q') p (fun b o h=>by rw[e,jh (je h hT)];exact h) (by rw[e];exact jr)
 ·have e:i=xs.length:=by omega
  subst e;exact .inl ⟨⟨xs,ys,q,q',.inl (Nat.le_refl _)⟩,hd σ H p⟩
theorem rd_iZip{K:Frg}{ta:TA}{σ:St}{H:Hp}{R:It->Hp->Prop}(h:ta σ H fun vs H1=>∃a b xs ys,vs=[.ref a,.ref b]/\SqL K H1 a xs/\SqL K H1 b ys/\R (Itz K a b) H1):iZip K ta σ H R:=h
theorem Ko:entryFor table "dict.update.loop"= some Builtin.«dict.update.loop»:=entryFor_of_tree (by kernel_rfl)
theorem Zy:plainId "dict.update.loop"= true:=by decide +kernel
theorem j0w:typeLookup (.type "list") "keys"= pure none:=by rw[typeLookup_type,builtinLookup_eq_fast];kernel_rfl
section
variable{prog:Program}{w:World}{A:Around}{E:Value->Shared->Prop}{s:Shared}
theorem noKeys{a:Addr}{o:Obj}{xs:Array Value}{k:Nat}{Q:Option Value->Shared->Prop}(hx:s.heap.get? a=some o)(hc:o.cls = .type "list")(hdat:o.data = .seq xs k)(hd:o.dict=none)(hA:A.handled=none)
  (h:∀h' tk,(∀b o,s.heap.get? b=some o->h'.get? b=some o)->Q none {s with heap:=h',toks:=tk}):wpAny (model prog w) A (getAttr? (.ref a) "keys") Q E s:=by
 obtain⟨c,dct,dat,sl⟩:=o;simp only at hc hdat hd;subst hc hdat hd;obtain⟨hp,g,d,tk,os⟩:=s;have hT:∀tk',(⟨hp,g,d,tk',os⟩:Shared).TypeIs (.ref a) "list":=fun _=>⟨_,hx,rfl⟩
 have f1:=sub_AttributeError;have f3:=F.slot_list_getattribute.lookup;have f4:=F.slot_list_getattribute.bind (.ref a);have f5:=am_list_getattr_none;unfold getAttr? getAttrBy? getAttrBy
 repeat (any_goals (first | assumption | exact hT _ | ((with_reducible show wpAny _ _ (call (Value.builtin "list.__getattribute__") _ _) _ _ _);refine call_meets F.slot_list_getattribute (hT _) am_entry_list_getattribute (F.args_list_getattribute_2 _ _) (meets_getattribute_miss_list a xs k sl "keys" _ j0w (by decide +kernel) (by decide +kernel)) ⟨hx,hA,fun h' tk' e hx'=>?_⟩) | wp_step))
 obtain⟨t',u',he⟩:=hx'.there;show wpAny _ _ (getattributeRaised _ _ _ _ _ _ _) _ _ _;unfold getattributeRaised
 repeat (any_goals (first | assumption | wp_step))
 exact h _ _ hx'.keeps
variable{K:Type}[DecidableEq K]{knd:KeyKind prog w K}
noncomputable def foldS(acc:List (K×Value))(ps:List (K×Value)):List (K×Value):=ps.foldl (fun acc kv=>stored acc kv.1 kv.2) acc
theorem Xx(acc:List (K×Value))(k:K)(v:Value):(stored acc k v).length<=acc.length+1:=by
 unfold stored;split
 ·rw[length_map];exact Nat.le_succ _
 ·rw[List.length_append];exact Nat.le_refl _
theorem dul{R:Result->Shared->Prop}{d it l:Addr}{items:List Value}{res:Value}(hh:A.handled=none)(hdi:d≠it)(hdl:d≠l)(hil:it≠l) :
  ∀(ps:List (K×Value)) (i:Nat) (acc:List (K×Value)) (s:Shared),s.heap.IsListIter it l i->s.heap.IsList l items.toArray->(items.length=i+ps.length)->
   (∀j kv,ps[j]?=some kv->∃a key,items[i+j]?=some (.ref a)/\IsTup s.heap a #[key,kv.2]/\knd.is kv.1 key=true/\a≠d/\a≠it)->s.heap.DictOf knd d acc->acc.length+ps.length<=sizeLine->
   (∀h' tk,(∀b o,b≠d->b≠it->s.heap.get? b=some o->h'.get? b=some o)->h'.DictOf knd d (foldS acc ps)->R (.ok (.ret res)) {s with heap:=h',toks:=tk})->
   codeAny (model prog w) A (.builtin "dict.update.loop" ⟨[.ref d,.ref it,rawInt i,res],[]⟩) R s
 | [],i,acc,s,hit,hl,hn,hp,hd,hz,hR=>by
  refine codeAny_builtin Ko ?_;rw[Around.under_plainId Zy _];show wpAny _ A.in1 (pyNext (.ref it) >>= _) _ _ s;refine wpAny_bind (wpAny_pyNext_list_end (A:=A.in1) hh hit hl (by simp;simp at hn;omega) fun h' eb=>?_);show wpAny _ A.in1 (Builtin.Dict.addKeywords d [] >>= _) _ _ _;refine wpAny_bind (wpAny_pure (wpAny_pure (hR h' s.toks (fun b o _ hb e=>eb b o hb e) ?_)));exact hd.extBut eb hdi
 | kv::ps,i,acc,s,hit,hl,hn,hp,hd,hz,hR=>by
  obtain⟨a,key,ha,ht,hk,had,hai⟩:=hp 0 kv rfl;refine codeAny_builtin Ko ?_;rw[Around.under_plainId Zy _];show wpAny _ A.in1 (pyNext (.ref it) >>= _) _ _ s;refine wpAny_bind (wpAny_pyNext_list_item (A:=A.in1) hit hl (x:=.ref a) (by simpa using ha) fun h1 hit1 sb=>?_);obtain⟨ot,eo,oc,n,od⟩:=ht;have eo1:h1.get? a=some ot:=(sb.2 a hai).trans eo;show wpAny _ A.in1 (holding [Value.ref a] _ >>= _) _ _ _;refine wpAny_bind (wpAny_holding ?_);refine wpAny_bind (wpAny_tryCatch ?_);unfold Builtin.Dict.pairItems;refine wpAny_bind (wpAny_typeOf (T:="tuple") ⟨_,eo1,oc⟩ ?_);show wpAny _ A.in1 (if((Value.type "tuple"== Value.type "list")||(Value.type "tuple"== Value.type "tuple"))=true then _ else _) _ _ _;rw[if_pos (by decide)];refine wpAny_bind (wpAny_seqItems eo1 od ?_);refine wpAny_pure ?_;show wpAny _ A.in1 (holding [key,kv.2] (dictSet d key kv.2)) _ _ _;have hd1:h1.DictOf knd d acc:=hd.extBut (fun b o hb e=>(sb.2 b hb).trans e) hdi;refine wpAny_holding (wpAny_dictSet_pairs (s:={s with heap:=h1}) hk hd1 (fun h2 hd2 sb2=>?_) (by simp at hz;omega));show wpAny _ A.in1 (again _) _ _ _;refine wpAny_pure ⟨plainId_quiet Zy _,?_⟩;have kp:∀b o,b≠d->b≠it->s.heap.get? b=some o->h2.get? b=some o:=fun b o h1' h2' e=>(sb2.2 b h1').trans ((sb.2 b h2').trans e)
  have sl:=Xx acc kv.1 kv.2;refine dul hh hdi hdl hil ps (i+1) (stored acc kv.1 kv.2) _ (hit1.at fun o e=>(sb2.2 it hdi.symm).trans e) (hl.at fun o e=>kp l o hdl.symm hil.symm e) (by simp at hn;omega) (fun j kv' hj=>?_) hd2 (by simp at hz;omega) fun h3 tk k3 hd3=>?_
  ·obtain⟨a',key',ha',ht',hk',had',hai'⟩:=hp (j+1) kv' (by simpa using hj);obtain⟨o',e',r'⟩:=ht';exact⟨a',key',by rw[<-ha'];congr 1;omega,⟨o',kp _ _ had' hai' e',r'⟩,hk',had',hai'⟩
  ·exact hR h3 tk (fun b o h1' h2' e=>k3 b o h1' h2' (kp b o h1' h2' e)) hd3
end
open PySem PySem.W PyProof.Rows
section
variable{n:Nat}{key:Nat->Int}{p:Array Nat}
noncomputable def Tw(n:Nat)(key:Nat->Int){α:Type}:KasT α->(α->Prop)->Prop
 | .ret a,Q=>Q a
 | .ask i j k,Q=>i<n/\j<n/\Tw n key (k (decide (key i<key j))) Q
theorem Tw.bind{α β:Type}{f:α->KasT β}{Q:β->Prop}:∀{t:KasT α},Tw n key t (fun a=>Tw n key (f a) Q)->Tw n key (t.bind f) Q
 | .ret _,h=>h
 | .ask _ _ _,h=>⟨h.1,h.2.1,Tw.bind h.2.2⟩
theorem Tw.mono{α:Type}{Q Q':α->Prop}(hq:∀a,Q a->Q' a):∀{t:KasT α},Tw n key t Q->Tw n key t Q'
 | .ret _,h=>hq _ h
 | .ask _ _ _,h=>⟨h.1,h.2.1,Tw.mono hq h.2.2⟩
theorem Tw.run{α:Type}{cmp:Nat->Nat->(Bool->Shared->Prop)->Shared->Prop}{Q:α->Shared->Prop}{s:Shared}(hc:∀i j C,i<n->j<n->C (decide (key i<key j)) s->cmp i j C s) :
  ∀{t:KasT α},Tw n key t (fun a=>Q a s)->t.kasWp cmp Q s
 | .ret _,h=>h
 | .ask i j k,h=>hc i j _ h.1 h.2.1 (Tw.run hc h.2.2)
theorem Tw.asks{α:Type}{i j:Nat}{k:Bool->KasT α}{Q:α->Prop}(hi:i<n)(hj:j<n)(h1:key i<key j->Tw n key (k true) Q)(h2:¬key i<key j->Tw n key (k false) Q):Tw n key (.ask i j k) Q:=by
 refine⟨hi,hj,?_⟩;by_cases c:key i<key j
 ·rw[decide_eq_true c];exact h1 c
 ·rw[decide_eq_false c];exact h2 c
def Pk(n:Nat)(p:Array Nat):Prop:=p.toList.Perm (List.range n)
noncomputable def kv(key:Nat->Int)(p:Array Nat)(i:Nat):Int:=key (p.getD i 0)
def Up(key:Nat->Int)(p:Array Nat)(k:Nat):Prop:=∀i j,i<=j->j<k->kv key p i<=kv key p j
def Dn(key:Nat->Int)(p:Array Nat)(k:Nat):Prop:=∀i j,i<=j->j<k->kv key p j<=kv key p i
def Eqs(key:Nat->Int)(p:Array Nat)(m q:Nat):Prop:=∀k,m-(q+1)<=k->k<m->kv key p k=kv key p (m-1)
theorem Pk.size(h:Pk n p):p.size=n:=by have:=h.length_eq;simpa using this
theorem Pk.lt(h:Pk n p)(h0:0<n)(i:Nat):p.getD i 0<n:=by
 rw[Array.getD_eq_getD_getElem?];cases e:p[i]? with
 | none=>exact h0
 | some x=>exact mem_range.mp (h.mem_iff.mp (Array.mem_toList_iff.mpr (Array.mem_of_getElem? e)))
theorem Pk.of(h:Pk n p){q:Array Nat}(hq:q.Perm p):Pk n q:=(Array.perm_iff_toList_perm.mp hq).trans h
theorem WM{a b:Array Nat}{i j:Nat}(h:a[i]?=b[j]?):kv key a i=kv key b j:=by
 unfold kv;rw[Array.getD_eq_getD_getElem?,Array.getD_eq_getD_getElem?,h]
theorem xV{i j:Nat}(hj:j<=p.size)(k:Nat):kv key (kas_rev p i j) k=if i<=k/\k<j then kv key p (i+j-1-k)else kv key p k:=by
 have h:=getElem?_mirror_all (xs:=p) (i:=i) hj k;split
 ·rename_i c;rw[if_pos c]at h;exact WM h
 ·rename_i c;rw[if_neg c]at h;exact WM h
theorem j3R{src d:Nat}(hs:src<p.size)(hd:d<=src)(k:Nat):kv key (bubble p src d) k=if k=src-d then kv key p src else if src-d<k/\k<=src then kv key p (k-1)else kv key p k:=by
 have h:=getElem?_bubble (xs:=p) hs d hd k;split
 ·rename_i c;rw[if_pos c]at h;exact WM h
 ·rename_i c;rw[if_neg c]at h;split
  ·rename_i c';rw[if_pos c']at h;exact WM h
  ·rename_i c';rw[if_neg c']at h;exact WM h
theorem Up.snoc{m:Nat}(h:Up key p m)(h1:1<=m)(hc:¬kv key p m<kv key p (m-1)):Up key p (m+1):=fun i j hij hj=>by
 by_cases e:j<m
 ·exact h i j hij e
 ·have ej:j=m:=by omega
  subst ej;by_cases ei:i=j
  ·rw[ei];exact Int.le_refl _
  ·have:=h i (j-1) (by omega) (by omega);omega
theorem Dn.snoc{m:Nat}(h:Dn key p m)(h1:1<=m)(hc:kv key p m<=kv key p (m-1)):Dn key p (m+1):=fun i j hij hj=>by
 by_cases e:j<m
 ·exact h i j hij e
 ·have ej:j=m:=by omega
  subst ej;by_cases ei:i=j
  ·rw[ei];exact Int.le_refl _
  ·have:=h i (j-1) (by omega) (by omega);omega
theorem j2f(hp:Pk n p):∀f m,1<=m->m+f<=n->Up key p m->Tw n key (kas_asc p f m) fun r=>m<=r/\r<=m+f/\Up key p r/\(r<m+f->kv key p r<kv key p (r-1))
 | 0,m,h1,hn,hu=>⟨Nat.le_refl _,Nat.le_refl _,hu,fun h=>absurd h (Nat.lt_irrefl _)⟩
 | f+1,m,h1,hn,hu=>by
  refine Tw.asks (hp.lt (by omega) _) (hp.lt (by omega) _) (fun c=>?_) (fun c=>?_)<;>simp only[Bool.false_eq_true,if_true,if_false]
  ·exact⟨Nat.le_refl _,by omega,hu,fun _=>c⟩
  ·exact Tw.mono (fun r h=>⟨by omega,by omega,h.2.2.1,fun hr=>h.2.2.2 (by omega)⟩) (j2f hp f (m+1) (by omega) (by omega) (hu.snoc h1 c))
theorem XZ{m q:Nat}(hm:m<=p.size)(he:Eqs key p m q)(k:Nat):kv key (kas_rev p (m-(q+1)) m) k=kv key p k:=by
 rw[xV hm];split
 ·rename_i c;rw[he k c.1 c.2,he _ (by omega) (by omega)]
 ·rfl
theorem Wj:∀f (p:Array Nat) m q,Pk n p->1<=m->m+f<=n->q+1<=m->Dn key p m->Eqs key p m q->
  Tw n key (kas_desc f p m q) fun r=>Pk n r.1/\m<=r.2.1/\r.2.1<=m+f/\Dn key r.1 r.2.1/\r.2.2+1<=r.2.1/\Eqs key r.1 r.2.1 r.2.2
 | 0,p,m,q,hp,h1,hn,hq,hd,he=>⟨hp,Nat.le_refl _,Nat.le_refl _,hd,hq,he⟩
 | f+1,p,m,q,hp,h1,hn,hq,hd,he=>by
  have sz:=hp.size;refine Tw.asks (hp.lt (by omega) _) (hp.lt (by omega) _) (fun c=>?_) (fun c=>?_)<;>simp only[Bool.false_eq_true,if_true,if_false]
  ·have c:kv key p m<kv key p (m-1):=c;split
   ·have hk:=XZ (key:=key) (p:=p) (m:=m) (q:=q) (by omega) he;have hp':Pk n (kas_rev p (m-(q+1)) m):=hp.of (mirror_perm _ _ _ _);refine Tw.mono (fun r h=>⟨h.1,by omega,by omega,h.2.2.2⟩) (Wj f _ (m+1) 0 hp' (by omega) (by omega) (by omega) (fun i j hij hj=>?_) fun k k1 k2=>?_)
    ·rw[hk,hk];exact hd.snoc h1 (by omega) i j hij hj
    ·rw[show k=m+1-1 by omega]
   ·refine Tw.mono (fun r h=>⟨h.1,by omega,by omega,h.2.2.2⟩) (Wj f p (m+1) 0 hp (by omega) (by omega) (by omega) (hd.snoc h1 (by omega)) fun k k1 k2=>?_);rw[show k=m+1-1 by omega]
  ·have c:¬kv key p m<kv key p (m-1):=c;refine Tw.asks (hp.lt (by omega) _) (hp.lt (by omega) _) (fun c2=>?_) (fun c2=>?_)<;>simp only[Bool.false_eq_true,if_true,if_false]
   ·exact⟨hp,Nat.le_refl _,Nat.le_add_right m (f+1),hd,hq,he⟩
   ·have c2:¬kv key p (m-1)<kv key p m:=c2;refine Tw.mono (fun r h=>⟨h.1,by omega,by omega,h.2.2.2⟩) (Wj f p (m+1) (q+1) hp (by omega) (by omega) (by omega) (hd.snoc h1 (by omega)) fun k k1 k2=>?_);rw[Nat.add_sub_cancel];by_cases e:k=m
    ·rw[e]
    ·rw[he k (by omega) (by omega)];omega
theorem j2h{m:Nat}(hp:Pk n p)(h1:1<=m)(hn:m<=n)(hd:Dn key p m):Tw n key (kas_tail3 m n p) fun r=>Pk n r.2/\1<=r.1/\r.1<=n/\Up key r.2 r.1:=by
 have sz:=hp.size;have hp':Pk n (kas_rev p 0 m):=hp.of (mirror_perm _ _ _ _);have hk:=xV (key:=key) (p:=p) (i:=0) (j:=m) (by omega);refine Tw.bind (Tw.mono (fun r h=>?_) (j2f hp' (n-m) m h1 (by omega) fun i j hij hj=>?_))
 ·exact⟨hp',by omega,by omega,h.2.2.1⟩
 ·rw[hk,hk,if_pos ⟨Nat.zero_le _,by omega⟩,if_pos ⟨Nat.zero_le _,hj⟩];exact hd _ _ (by omega) (by omega)
theorem j2g{m:Nat}(hp:Pk n p)(hn:m+1<=n)(hd:Dn key p (m+1)):Tw n key (kas_descPart m n p) fun r=>Pk n r.2/\1<=r.1/\r.1<=n/\Up key r.2 r.1:=by
 refine Tw.bind (Tw.mono (fun r h=>?_) (Wj (n-(m+1)) p (m+1) 0 hp (by omega) (by omega) (by omega) hd fun k k1 k2=>by rw[show k=m+1-1 by omega]));obtain⟨a,b,c,d,e,g⟩:=h;have sz:=a.size;split
 ·have hk:=XZ (key:=key) (p:=r.1) (m:=r.2.1) (q:=r.2.2) (by omega) g;exact j2h (a.of (mirror_perm _ _ _ _)) (by omega) (by omega) fun i j hij hj=>by rw[hk,hk];exact d i j hij hj
 ·exact j2h a (by omega) (by omega) d
theorem j3g(hp:Pk n p)(h1:1<=n):Tw n key (kas_count n p) fun r=>Pk n r.2/\1<=r.1/\r.1<=n/\Up key r.2 r.1:=by
 have sz:=hp.size;refine Tw.bind (Tw.mono (fun r h=>?_) (j2f (key:=key) hp (n-1) 1 (by omega) (by omega) fun i j hij hj=>by rw[show i=j by omega];exact Int.le_refl _));obtain⟨a,b,c,d⟩:=h;split
 ·exact⟨hp,a,by omega,c⟩
 rename_i hne;have hrn:r<n:=by
  have:r≠n:=fun e=>hne (by rw[e];simp)
  omega
 have d:=d (by omega);split
 ·refine Tw.asks (hp.lt (by omega) _) (hp.lt (by omega) _) (fun q=>?_) (fun q=>?_)<;>simp only[Bool.false_eq_true,if_true,if_false]
  ·exact⟨hp,a,by omega,c⟩
  ·have q:¬kv key p 0<kv key p (r-1):=q;have hk:=xV (key:=key) (p:=p) (i:=0) (j:=r) (by omega);have eqs:∀i,i<r->kv key p i=kv key p (r-1):=fun i hi=>by
    have h1:=c 0 i (Nat.zero_le _) hi;have h2:=c i (r-1) (by omega) (by omega);omega
   have eqk:∀i,kv key (kas_rev p 0 r) i=kv key p i:=fun i=>by
    rw[hk];split
    ·rename_i q';rw[eqs _ q'.2,eqs _ (by omega)]
    ·rfl
   refine j2g (hp.of (mirror_perm _ _ _ _)) (by omega) fun i j hij hj=>?_
   rw[eqk,eqk];by_cases e:j=r
   ·by_cases e2:i=r
    ·rw[e,e2];exact Int.le_refl _
    ·rw[e,eqs i (by omega)];omega
   ·rw[eqs i (by omega),eqs j (by omega)];exact Int.le_refl _
 ·have er:r=1:=by omega
  subst er;refine j2g hp (by omega) fun i j hij hj=>?_
  rcases(by omega:(i=0/\j=0)\/(i=0/\j=1)\/(i=1/\j=1))with⟨rfl,rfl⟩ | ⟨rfl,rfl⟩ | ⟨rfl,rfl⟩
  ·exact Int.le_refl _
  ·have:kv key p 1<kv key p (1-1):=d;exact Int.le_of_lt this
  ·exact Int.le_refl _
theorem Wk{k:Nat}(hp:Pk n p)(hkn:k<n)(hu:Up key p k):∀f l r,l<=r->r<=k->r-l<=f->(∀i,i<l->kv key p i<=kv key p k)->(∀i,r<=i->i<k->kv key p k<kv key p i)->
  Tw n key (kas_place p k f l r) fun m=>m<=k/\(∀i,i<m->kv key p i<=kv key p k)/\∀i,m<=i->i<k->kv key p k<kv key p i
 | 0,l,r,h1,h2,h3,a,b=>⟨by omega,a,fun i hi=>b i (by omega)⟩
 | f+1,l,r,h1,h2,h3,a,b=>by
  unfold kas_place;split
  ·exact⟨by omega,a,fun i hi=>b i (by omega)⟩
  refine Tw.asks (hp.lt (by omega) _) (hp.lt (by omega) _) (fun q=>?_) (fun q=>?_)<;>simp only[Bool.false_eq_true,if_true,if_false]
  ·have q:kv key p k<kv key p ((l+r)/2):=q;exact Wk hp hkn hu f l _ (by omega) (by omega) (by omega) a fun i hi hk=>by
    have:=hu ((l+r)/2) i hi hk;omega
  ·have q:¬kv key p k<kv key p ((l+r)/2):=q;exact Wk hp hkn hu f _ r (by omega) h2 (by omega) (fun i hi=>by
    have:=hu i ((l+r)/2) (by omega) (by omega);omega) b
theorem j3t:∀f (p:Array Nat) k,Pk n p->k+f<=n->Up key p k->Tw n key (kas_bin f p k) fun q=>Pk n q/\Up key q (k+f)
 | 0,p,k,hp,hn,hu=>⟨hp,hu⟩
 | f+1,p,k,hp,hn,hu=>by
  have sz:=hp.size;refine Tw.bind (Tw.mono (fun l h=>?_) (Wk hp (by omega) hu k 0 k (Nat.zero_le _) (Nat.le_refl _) (by omega) (fun i hi=>absurd hi (Nat.not_lt_zero _)) fun i h1 h2=>absurd h1 (by omega)));obtain⟨a,b,c⟩:=h;have hk:=j3R (key:=key) (p:=p) (src:=k) (d:=k-l) (by omega) (by omega);refine Tw.mono (fun q h=>⟨h.1,by rw[show k+(f+1)=k+1+f by omega];exact h.2⟩) (j3t f _ (k+1) (hp.of (bubble_perm _ _ _)) (by omega) fun i j hij hj=>?_);rw[hk,hk,show k-(k-l)=l by omega]
  repeat' split
  all_goals first
   | exact Int.le_refl _
   | (exfalso;omega)
   | exact Int.le_of_lt (c _ (by omega) (by omega))
   | exact b _ (by omega)
   | exact hu _ _ (by omega) (by omega)
   | (have h1:=b i (by omega);have h2:=c (j-1) (by omega) (by omega);omega)
theorem j4c(h2:1<=n):Tw n key (kas_sort n) fun q=>Pk n q/\Up key q n:=by
 have hp:Pk n (List.toArray (List.range n)):=List.Perm.refl _;refine Tw.bind (Tw.mono (fun r h=>?_) (j3g (key:=key) hp h2));obtain⟨a,b,c,d⟩:=h;split
 ·refine Tw.mono (fun q h=>⟨h.1,?_⟩) (j3t (n-max r.1 1) r.2 (max r.1 1) a (by omega) (by rw[show max r.1 1=r.1 by omega];exact d));have e:max r.1 1+(n-max r.1 1)=n:=by omega
  rw[e]at h;exact h.2
 ·have e:r.1=n:=by omega
  exact⟨a,by rw[<-e];exact d⟩
end
section
variable{prog:Program}{w:World}{A:Around}{E:Value->Shared->Prop}{s:Shared}
def PrAt(h:Heap)(as:List Addr)(key:Nat->Int):Prop:=∀i a,as[i]?=some a->∃o t u n,h.get? a=some o/\o.cls = .type "tuple"/\o.data = .seq #[.int (key i) t,u] n
theorem PrAt.keep{h h':Heap}{as:List Addr}{key:Nat->Int}(x:PrAt h as key)(k:∀a∈as,∀o,h.get? a=some o->h'.get? a=some o):PrAt h' as key:=fun i a e=>by
 obtain⟨o,t,u,n,q,r⟩:=x i a e;exact⟨o,t,u,n,k a (List.mem_of_getElem? e) _ q,r⟩
theorem j4q{as:List Addr}{key:Nat->Int}(x:PrAt s.heap as key)(inj:∀i j,i<as.length->j<as.length->key i=key j->i=j){i j:Nat}{C:Bool->Shared->Prop}(hi:i<as.length)(hj:j<as.length)
  (h:C (decide (key i<key j)) s):kas_ask prog w A (tuples' true) (as.map Value.ref) i j C s:=by
 unfold kas_ask;obtain⟨o,t,u,n,q1,c1,d1⟩:=x i _ (List.getElem?_eq_getElem hi);obtain⟨o',t',u',n',q2,c2,d2⟩:=x j _ (List.getElem?_eq_getElem hj);have e1:(as.map Value.ref).getD i Value.none = .ref as[i]:=by rw[getD_eq_getElem?_getD,List.getElem?_map,List.getElem?_eq_getElem hi];rfl
 have e2:(as.map Value.ref).getD j Value.none = .ref as[j]:=by rw[getD_eq_getElem?_getD,List.getElem?_map,List.getElem?_eq_getElem hj];rfl
 rw[e1,e2];refine kat_lt q1 d1 q2 d2 ?_;show KatLex prog w A true _ C [(.int (key i) t,.int (key j) t'),(u,u')] 0 s;refine kat_cons (wpAny_eqBool_int ?_);by_cases c:key i=key j
 ·have ij:=inj i j hi hj c;subst ij;rw[beq_self_eq_true];have eu:u=u':=by
   have e:o=o':=Option.some.inj (q1.symm.trans q2);subst e;have e:=d1.symm.trans d2;injection e with e _;have:=congrArg (fun a:Array Value=>a[1]?) e;simpa using this
  subst eu;refine kat_yes (kat_cons (SeqAt.EqAt.same _ _ _ _ _ ?_));refine kat_yes (kat_nil ?_);rw[decide_eq_false (Int.lt_irrefl _)]at h;exact h
 ·rw[beq_false_of_ne c];exact kat_no (oneLt_int h)
theorem j01{h:Heap}{key:Nat->Int}:∀{as:List Addr} (_:PrAt h as key),∃fs,KatTups h (as.map Value.ref) fs/\fs.length=as.length/\∀v∈fs,∃n t,v=Value.int n t
 | [],_=>⟨[],KatTups.nil,rfl,fun v hv=>nomatch hv⟩
 | a::r,x=>by
  obtain⟨o,t,u,n,q,c,d⟩:=x 0 a rfl;obtain⟨fs,k,l,f⟩:=j01 (key:=fun i=>key (i+1)) (as:=r) fun i b e=>x (i+1) b (by simpa using e)
  refine⟨.int (key 0) t::fs,KatTups.cons q c d rfl k,by rw[length_cons,l,length_cons],fun v hv=>?_⟩;rcases mem_cons.mp hv with rfl | hv
  ·exact⟨_,_,rfl⟩
  ·exact f v hv
theorem j3j(vs:List Value):(vs.toArray.zip vs.toArray).map (·.2)=vs.toArray:=by
 apply Array.toList_inj.mp;rw[Array.toList_map,Array.toList_zip];exact List.map_snd_zip (Nat.le_refl _)
theorem j0J(vs:List Value):(List.range vs.length).map (fun i=>vs.getD i Value.none)=vs:=by
 refine ext_getElem (by simp) fun i h1 h2=>?_
 rw[getElem_map,getElem_range,getD_eq_getElem?_getD,List.getElem?_eq_getElem h2];rfl
theorem j1X:∀{l:List Int},l.length<2->l.Pairwise (·<=·)
 | [],_=>.nil
 | [_],_=>pairwise_singleton _ _
 | _::_::_,h=>absurd h (by rw[length_cons,length_cons];omega)
theorem j2d{a:Addr}{as:List Addr}{key:Nat->Int}{c0:Nat}{P:PySem.Fin->Shared->Prop}(hob:s.heap.get? a=some (seqObj "list" (as.map Value.ref).toArray c0))(hna:a∉as)(x:PrAt s.heap as key)
  (inj:∀i j,i<as.length->j<as.length->key i=key j->i=j) (h64:as.length<64)
  (hend:∀(q:List Nat) (h':Heap) (c:Nat),q.Perm (List.range as.length)->(q.map key).Pairwise (·<=·)->(∀b o,b≠a->s.heap.get? b=some o->h'.get? b=some o)->
   h'.get? a=some (seqObj "list" ((q.map fun i=>as.getD i 0).map Value.ref).toArray c)->P (.done (.ret .none)) {s with heap:=h'}) :
  wpAny (model prog w) A (Builtin.«list.sort» ⟨[.ref a],[]⟩) P E s:=by
 have hlt:a<s.heap.objs.size:=Heap.lt_size hob;obtain⟨c1,hob1⟩:∃c1,(s.heap.update a (Obj.mapSeq fun _=>(#[]:Array Value))).get? a=some (seqObj "list" #[] c1):=⟨_,get?_update_seq hob fun _=>#[]⟩
 have sb1:=Heap.SameBut.update s.heap a (Obj.mapSeq fun _=>(#[]:Array Value));rw[list_sort_plain];refine wpAny_bind (listItems_at (s:=s) hob rfl ?_);refine wpAny_bind (listUpdate_at (s:=s) hob rfl ?_ (by rw[size_toArray,length_map,sizeLine_eq];omega) (Nat.zero_le _));refine wpAny_bind (seqEpoch_at (n:=c1) hob1 rfl ?_);refine wpAny_bind (wpAny_newTuple ?_ (by show(as.map Value.ref).length<=_;rw[length_map,sizeLine_eq];omega));refine wpAny_bind (wpAny_newList ?_ (Nat.zero_le (sizeLine)));refine wpAny_holding ?_;generalize hH:((s.heap.update a (Obj.mapSeq fun _=>(#[]:Array Value))).push (seqObj "tuple" (as.map Value.ref).toArray 0)).push (seqObj "list" #[] 0)=hX;have kX:∀b o,b≠a->s.heap.get? b=some o->hX.get? b=some o:=fun b o hb e=>by
  rw[<-hH];exact Heap.get?_push_of_some _ (Heap.get?_push_of_some _ ((sb1.2 b hb).trans e))
 have oX:hX.get? a=some (seqObj "list" #[] c1):=by
  rw[<-hH];exact Heap.get?_push_of_some _ (Heap.get?_push_of_some _ hob1)
 have xX:PrAt hX as key:=x.keep fun b hb o e=>kX b o (fun z=>hna (z▸hb)) e
 show wpAny (model prog w) A _ P E {s with heap:=hX};dsimp only;have szv:(as.map Value.ref).toArray.size=as.length:=by rw[size_toArray,length_map]
 have outE:∀q:List Nat,q.Perm (List.range as.length)->(List.map (fun i=>(as.map Value.ref).getD i Value.none) q)=(q.map fun i=>as.getD i 0).map Value.ref:=fun q hq=>by
  rw[List.map_map];refine map_congr_left fun i hi=>?_
  have hl:i<as.length:=mem_range.mp (hq.mem_iff.mp hi);show(as.map Value.ref).getD i Value.none=Value.ref (as.getD i 0);rw[getD_eq_getElem?_getD,getD_eq_getElem?_getD,List.getElem?_map,List.getElem?_eq_getElem hl];rfl
 have done:∀(q:List Nat),q.Perm (List.range as.length)->(q.map key).Pairwise (·<=·)->∀out:Array Value,out=(List.map (fun i=>(as.map Value.ref).getD i Value.none) q).toArray->
   P (.done (.ret .none)) {s with heap:=hX.update a (Obj.mapSeq fun _=>out)}:=fun q hq hs out ho=>by
  subst ho;have o2:=get?_update_seq oX fun _=>(List.map (fun i=>(as.map Value.ref).getD i Value.none) q).toArray
  have sb2:=Heap.SameBut.update hX a (Obj.mapSeq fun _=>(List.map (fun i=>(as.map Value.ref).getD i Value.none) q).toArray);rw[outE q hq]at o2 sb2|-;exact hend q _ _ hq hs (fun b o hb e=>(sb2.2 b hb).trans (kX b o hb e)) o2
 by_cases h2:(as.map Value.ref).toArray.size<2
 ·rw[if_pos h2,if_pos h2];refine wpAny_bind (wpAny_pure ?_);rw[StateT.run_pure];refine wpAny_bind (wpAny_pure ?_);dsimp only;refine wpAny_bind (seqEpoch_at (n:=c1) oX rfl ?_);have eo:(arrOf (SortSt.mk' general' ((as.map Value.ref).toArray.zip (as.map Value.ref).toArray) #[] 7 none)).map (·.2)=(List.map (fun i=>(as.map Value.ref).getD i Value.none) (List.range as.length)).toArray:=by
   have e:=j0J (as.map Value.ref);rw[length_map]at e;rw[e];exact j3j _
  rw[eo];refine wpAny_bind (listUpdate_at (s:={s with heap:=hX}) oX rfl ?_ (Nat.zero_le _) (by rw[size_toArray,length_map,length_range,sizeLine_eq];omega));simp only[bne_self_eq_false,Bool.false_eq_true,if_false];refine wpAny_pure (done (List.range as.length) (List.Perm.refl _) ?_ _ rfl);rw[szv]at h2;exact j1X (by rw[length_map,length_range];exact h2)
 ·rw[if_neg h2,if_neg h2];rw[szv]at h2;obtain⟨fs,kt,kl,ki⟩:=j01 xX;have hX':hX=({s with heap:=hX}:Shared).heap:=rfl;refine wpAny_bind (kat_kind (s:={s with heap:=hX}) (T:=Value.type "int") kt (by omega) (fun v hv=>?_) (by decide) ?_)
  ·obtain⟨m,t,rfl⟩:=ki v hv;exact Looks.of_pure rfl
  refine wpAny_bind (wpAny_mono (kat_run (s:={s with heap:=hX}) (ks:=as.map Value.ref) (vs:=as.map Value.ref) (κ:=tuples' true) (Q:=fun st' s'=>∃p:Array Nat,Pk as.length p/\Up key p as.length/\arrOf st'=p.map (kas_item ((as.map Value.ref).toArray.zip (as.map Value.ref).toArray))/\failedOf st'=none/\s'={s with heap:=hX}) (G:=fun p s'=>Pk as.length p/\Up key p as.length/\s'={s with heap:=hX})
   rfl (by rw[length_map];omega) (by rw[length_map];exact h64) (fun p st' s' _ a2 a3 a4=>⟨p,a4.1,a4.2.1,a2,a3,a4.2.2⟩) ?_) ?_ fun _ _ e=>e)
  ·rw[length_map];exact Tw.run (n:=as.length) (key:=key) (fun i j C hi hj hC=>j4q xX inj hi hj hC) (Tw.mono (fun q h=>⟨h.1,h.2,rfl⟩) (j4c (key:=key) (by omega)))
  rintro⟨⟨⟩,st'⟩ s' ⟨p,hp,hu,har,hf,rfl⟩;dsimp only;rw[kat_snds rfl har];refine wpAny_bind (seqEpoch_at (n:=c1) oX rfl ?_);have psz:=hp.size;refine wpAny_bind (listUpdate_at (s:={s with heap:=hX}) oX rfl ?_ (Nat.zero_le _) (by rw[size_toArray,length_map,Array.length_toList,psz,sizeLine_eq];omega));rw[hf];simp only[bne_self_eq_false,Bool.false_eq_true,if_false];refine wpAny_pure (done p.toList hp ?_ _ rfl);refine pairwise_map.mpr (pairwise_iff_getElem.mpr fun i j hi hj hij=>?_);rw[Array.length_toList]at hi hj;have:=hu i j (by omega) (by omega);unfold kv at this;rw[Array.getD_eq_getD_getElem?,Array.getD_eq_getD_getElem?,Array.getElem?_eq_getElem hi,Array.getElem?_eq_getElem hj]at this;exact this
end
open PySem PySem.Spec PySem.W PyProof.Rows
section
variable{X:Cx}{pins:List (Addr×Obj)}{σ:St}{H:Hp}{s:Shared}
def NewA(X:Cx)(pins:List (Addr×Obj))(T:Addr):Prop:=X.s₀.heap.objs.size<=T/\T≠X.env.locals/\(∀x c,X.env.cells.lookup x=some c->c≠T)/\∀p∈X.pn++pins,p.1≠T
theorem Inv.newA(I:Inv X pins σ H s){T:Addr}(hT:s.heap.objs.size<=T):NewA X pins T:=by
 obtain⟨_,f1,_,_,f4,f5⟩:=I.fpOk (H':=fun _=>none) hT rfl;exact⟨Nat.le_trans I.sz hT,f1,f4,f5⟩
theorem ObjOk.obj{P:Program}{w:World}{h:Heap}{a:Addr}{o:HO}(x:ObjOk P w H h a o):∃u,h.get? a=some u:=by
 cases o with
 | lst xs=>obtain⟨_,_,_,_,e⟩:=x;exact⟨_,e⟩
 | tup xs=>obtain⟨_,_,_,u,e,_⟩:=x;exact⟨u,e⟩
 | dK kvs=>obtain⟨_,_,_,_,u,_,_,e,_⟩:=x;exact⟨u,e⟩
 | dT kvs=>obtain⟨_,_,_,_,u,_,_,e,_⟩:=x;exact⟨u,e⟩
 | set S n=>obtain⟨u,_,_,_,e,_⟩:=x;exact⟨u,e⟩
 | ins C dx fs=>obtain⟨_,_,_,e,_⟩:=x;exact⟨_,e⟩
 | own y=>exact x
 | xd fs=>obtain⟨_,⟨u,_,_,e,_⟩,_⟩:=x;exact⟨u,e⟩
 | rng lo hi=>obtain⟨_,_,_,e⟩:=x;exact⟨_,e⟩
 | frz u v=>exact⟨_,x.1⟩
 | tbl ps=>exact⟨_,x⟩
 | met f y=>exact⟨_,x⟩
 | ext φ=>exact x.2.1
theorem Inv.none_at{h1:Heap}(I:Inv X pins σ H s)(hk:∀b o,s.heap.get? b=some o->h1.get? b=some o):H h1.objs.size=none:=by
 cases e:H h1.objs.size with
 | none=>rfl
 | some u=>
  obtain⟨v,q⟩:=(I.hok _ _ e).obj;exact absurd (Heap.lt_size (hk _ _ q)) (Nat.lt_irrefl _)
theorem Inv.newB{h1:Heap}(I:Inv X pins σ H s)(hk:∀b o,s.heap.get? b=some o->h1.get? b=some o):NewA X pins h1.objs.size:=by
 have lt:∀b o,s.heap.get? b=some o->b<h1.objs.size:=fun b o e=>Heap.lt_size (hk b o e)
 obtain⟨m,⟨o,_,_,ho,_⟩,_⟩:=I.loc;have hL:=lt _ _ ho;refine⟨Nat.le_of_lt (Nat.lt_of_le_of_lt I.ok.above hL),Nat.ne_of_gt hL,fun x c e=>?_,fun p hp=>Nat.ne_of_lt (lt _ _ (I.pin p hp).1)⟩;obtain⟨v,o,ho,_⟩:=I.cell x c e;exact Nat.ne_of_lt (lt _ _ ho)
theorem Inv.track{T:Addr}{o:HO}(I:Inv X pins σ H s)(h0:H T=none)(hn:NewA X pins T)(new:ObjOk X.prog X.w (upd H T o) s.heap T o):Inv X pins σ (upd H T o) s:=by
 have ne:∀b u,H b=some u->b≠T:=fun b u e z=>by rw[z,h0]at e;cases e
 refine I.step (h':=s.heap) (H':=upd H T o) (g':=s.gens) (d':=s.drawn) (t':=s.toks) (ch:=[T]) (fun b hb=>?_) (fun b o _ _ _ e _=>e) (fun b o _ _ _ e _=>⟨o.slots,e⟩) (fun b u hb _ n=>?_) (fun b u _ e=>⟨u,e⟩)
  (fun b xs e=>(jh (ne _ _ e)).trans e) (fun b u v e=>(jh (ne _ _ e)).trans e) (fun b ps e=>⟨#[],by rw[jh (ne _ _ e),e];simp⟩) (fun m hm=>hm) (fun b u e=>?_) I.bare
 ·have e:b=T:=by simpa using hb
  subst e;exact⟨.inr hn.1,hn.2.1,hn.2.2.1,hn.2.2.2⟩
 ·exact(jh fun z=>hb (by simp[z])).trans n
 ·by_cases z:b=T
  ·subst z;rw[jr]at e;cases e;exact new
  ·rw[jh z]at e;exact(I.hok b u e).stay (fun c v _ q=>q) (fun c q=>(jh (ne _ _ q)).trans q) fun c ys q=>(jh (ne _ _ q)).trans q
theorem Inv.trackAll:∀(ws:List (Addr×HO)) {H:Hp},Inv X pins σ H s->(∀p∈ws,H p.1=none/\NewA X pins p.1/\∀H',ObjOk X.prog X.w H' s.heap p.1 p.2)->(ws.map (·.1)).Nodup->∃H',Inv X pins σ H' s/\Same H H'/\∀p∈ws,H' p.1=some p.2
 | [],H,I,_,_=>⟨H,I,Same.refl _,fun p hp=>nomatch hp⟩
 | w::r,H,I,h,nd=>by
  obtain⟨a,b,c⟩:=h w mem_cons_self;rw[map_cons,nodup_cons]at nd;have I1:=I.track a b (c _);obtain⟨H',I2,s2,k2⟩:=Inv.trackAll r I1 (fun p hp=>by
   obtain⟨a',b',c'⟩:=h p (mem_cons_of_mem _ hp);exact⟨(jh fun z:p.1=w.1=>nd.1 (by rw[<-z];exact mem_map.mpr ⟨p,hp,rfl⟩)).trans a',b',c'⟩) nd.2
  have s1:Same H (upd H w.1 w.2):=fun b u q=>(jh (je q a)).trans q
  refine⟨H',I2,s1.trans s2,fun p hp=>?_⟩;rcases mem_cons.mp hp with rfl | hp
  ·exact s2 _ _ jr
  ·exact k2 p hp
end
section
variable{X:Cx}
theorem valsR:∀as:List Addr,Vals (as.map V.ref) (as.map Value.ref)
 | []=>.nil
 | _::r=>.cons rfl (valsR r)
theorem KV.get{κ:Type}:∀{kvs:List (κ×V)} {vs:List (κ×Value)} {i:Nat} {p:κ×V},KV kvs vs->kvs[i]?=some p->∃q,vs[i]?=some q/\p.1=q.1/\RelV p.2 q.2
 | _,_,_,_,.nil,e=>by simp at e
 | _,_,0,_,.cons r _,e=>by simp at e;subst e;exact⟨_,rfl,r⟩
 | _,_,i+1,p,.cons _ t,e=>by
  obtain⟨q,h1,h2⟩:=KV.get (i:=i) (p:=p) t (by simpa using e);exact⟨q,by simpa using h1,h2⟩
theorem j0z:MtR X "dict.update" (fun x vs H Q=>∃d o kvs more,x = .ref d/\vs=[.ref o]/\H d=some (.dK kvs)/\H o=some (.dK more)/\d≠o/\kvs.length+more.length<=sizeLine/\Q .non (upd H d (.dK (mergeK kvs more)))):=by
 intro pins s σ H x vs v us Q I rx rv h;obtain⟨d,o,kvs,more,rfl,rfl,ed,eo,hne,hz,q⟩:=h;cases rx;obtain⟨u,rfl,ru⟩:=vals1 rv;cases ru;obtain⟨z1,hd1,vs1,r1,dd1⟩:=WD I.hok ed;obtain⟨z2,hd2,vs2,r2,dd2⟩:=WD I.hok eo;refine call_meetsIn PySem.F.slot_dict_update dd1.typeIs PySem.F.entry_dict_update (PySem.F.args_dict_update_2 _ _) (meets_dict_update (mixKind X.prog X.w) d o hne hd2) ⟨vs1,vs2,dd1,dd2,by rw[<-r1.length,<-r2.length];exact hz,fun h' dd' _ hs=>?_⟩;have he:∃q,h'.get? d=some q:=let ⟨q,_,_,hq,_⟩:=dd';⟨q,hq⟩;have hl:=zd more kvs;exact⟨.non,_,wj (t':=s.toks) I (by rw[ed];exact True.intro) hs he (xJ (by omega) hd1 (r2.merge r1) dd'),rfl,q⟩
noncomputable def IView(v d:Addr):HO:=.ext fun h=>h.get? v=some {cls:=.type "dict_items",data:=.fields #[.ref d]}
theorem j1A:MtR X "dict.items" (fun x vs H Q=>∃d kvs,x = .ref d/\vs=[]/\H d=some (.dK kvs)/\∀v,H v=none->Q (.ref v) (upd H v (IView v d))):=by
 intro pins s σ H x vs v us Q I rx rv h;obtain⟨d,kvs,rfl,rfl,ed,q⟩:=h;cases rx;have hus:=rv.zero;subst hus;obtain⟨z1,hd1,vs1,r1,dd1⟩:=WD I.hok ed;refine call_meetsIn PySem.F.slot_dict_items dd1.typeIs PySem.F.entry_dict_items (PySem.F.args_dict_items_1 (.ref d)) (meets_dict_items (mixKind X.prog X.w) d hd1) ⟨⟨vs1,dd1⟩,?_⟩;have e:(s.heap.push {cls:=.type "dict_items",data:=.fields #[.ref d]}).get? s.heap.objs.size=some {cls:=.type "dict_items",data:=.fields #[.ref d]}:=Heap.get?_push_size _ rfl;exact⟨.ref s.heap.objs.size,_,I.laid (t':=s.toks) (o:=IView s.heap.objs.size d) (fun b u q=>Heap.get?_push_of_some _ q) (Nat.le_refl _) (show ObjOk X.prog X.w _ _ _ (IView s.heap.objs.size d)from⟨e,⟨_,e⟩,fun h1 h2 q k=>k _ q⟩),rfl,q _ (I.hok.fresh (Nat.le_refl _))⟩
noncomputable def iiK(p:Int×Int):Key×V:=(Sum.inl p.1,.int p.2)
theorem we(hc:X.calm=true):CallR X (.builtin "sorted") (fun xs H Q=>∃(v d:Addr) (kvs:List (Int×Int)),xs=[.ref v]/\H v=some (IView v d)/\H d=some (.dK (kvs.map iiK))/\kvs.length<64/\
  ∀(l:Addr) (as:List Addr) (ms:List (Int×Int)) (H':Hp),Same H H'->H l=none->H' l=some (.lst (as.map V.ref))->(∀a∈as,H a=none)->ms.Perm kvs->(ms.map (·.1)).Pairwise (·<=·)->as.length=ms.length->(∀(i:Nat) (a:Addr) (p:Int×Int),as[i]?=some a->ms[i]?=some p->H' a=some (.tup [.int p.1,.int p.2]))->Q (.ref l) H'):=by
 intro pins s σ H xs us Q I r h;obtain⟨v,d,kvs,rfl,ev,ed,h64,q⟩:=h;obtain⟨u,rfl,ru⟩:=vals1 r;cases ru;obtain⟨z1,hd1,vs1,r1,dd1⟩:=WD I.hok ed;have hv:s.heap.get? v=some {cls:=.type "dict_items",data:=.fields #[.ref d]}:=(I.hok v _ ev).1;obtain⟨ep,da⟩:=dd1.dictAt;have lv:=r1.length;rw[length_map]at lv;have nd:(kvs.map (·.1)).Nodup:=by
  have n1:(vs1.map (·.1)).Nodup:=let ⟨_,_,_,_,_,_,_,_,hn⟩:=dd1;hn;rw[<-r1.keys,List.map_map]at n1;refine pairwise_map.mpr ((pairwise_map.mp n1).imp fun {a b} h e=>h ?_);show(Sum.inl a.1:Key)=Sum.inl b.1;rw[e]
 refine Calls.call_function_entry kind_sorted plain_sorted entry_sorted (args_sorted1 (.ref v)) ?_;unfold Builtin.«sorted»;refine wpAny_bind (m:=checkCount "sorted" 1 1 1) (wpAny_pure ?_);refine wpAny_bind (kdx_collect (knd:=mixKind X.prog X.w) (kvs:=vs1) (ep:=ep) (A:=X.A.in1) (I.ok.hd hc) ⟨_,hv,rfl,rfl⟩ da (by rw[<-lv,sizeLine_eq];omega) fun h1 tk as hk hl hG=>?_);rw[<-lv]at hl;refine wpAny_bind (wpAny_newList ?_ (by rw[length_map,hl,sizeLine_eq];omega));have hoL:(h1.push (seqObj "list" (as.map Value.ref).toArray 0)).get? h1.objs.size=some (seqObj "list" (as.map Value.ref).toArray 0):=Heap.get?_push_size _ rfl;have hna:h1.objs.size∉as:=fun z=>Nat.lt_irrefl _ (hG.there z)
 have key:∀i p,kvs[i]?=some p->(fun i=>(kvs.getD i (0,0)).1) i=p.1/\(fun i=>(kvs.getD i (0,0)).2) i=p.2:=fun i p e=>by
  dsimp only;rw[getD_eq_getElem?_getD,e];exact⟨rfl,rfl⟩
 have xQ:∀i a,as[i]?=some a->∃t u,(h1.push (seqObj "list" (as.map Value.ref).toArray 0)).get? a=some {cls:=.type "tuple",data:=.seq #[.int ((fun i=>(kvs.getD i (0,0)).1) i) t,.int ((fun i=>(kvs.getD i (0,0)).2) i) u]}:=fun i a e=>by
  obtain⟨ky,k,x,e1,e2,e3⟩:=hG.pairs i a e;have hi:i<kvs.length:=by rw[<-hl];exact(List.getElem?_eq_some_iff.mp e).1
  obtain⟨w',e4,rw'⟩:=KV.get r1 (i:=i) (p:=iiK kvs[i]) (by rw[List.getElem?_map,List.getElem?_eq_getElem hi];rfl);rw[e1]at e4;cases e4;obtain⟨ek,t2,ex⟩:=rw';have ek':k=Sum.inl kvs[i].1:=ek.symm;subst ek';have ex':x = .int kvs[i].2 t2:=ex;subst ex';obtain⟨g1,g2⟩:=key i _ (List.getElem?_eq_getElem hi);rw[show(fun i=>(kvs.getD i (0,0)).1) i=kvs[i].1 from g1,show(fun i=>(kvs.getD i (0,0)).2) i=kvs[i].2 from g2];rcases Je (show keyIs (Sum.inl kvs[i].1) ky=true from e2)with⟨n,t,q1,q2⟩ | ⟨n,t,q1,q2⟩
  ·cases q1;subst q2;exact⟨t,t2,Heap.get?_push_of_some _ e3⟩
  ·cases q1
 have xP:PrAt (h1.push (seqObj "list" (as.map Value.ref).toArray 0)) as (fun i=>(kvs.getD i (0,0)).1):=fun i a e=>by
  obtain⟨t,u,z⟩:=xQ i a e;exact⟨_,t,_,_,z,rfl,rfl⟩
 have inj:∀i j,i<as.length->j<as.length->(fun i=>(kvs.getD i (0,0)).1) i=(fun i=>(kvs.getD i (0,0)).1) j->i=j:=fun i j hi hj e=>by
  rw[hl]at hi hj;obtain⟨g1,_⟩:=key i _ (List.getElem?_eq_getElem hi);obtain⟨g2,_⟩:=key j _ (List.getElem?_eq_getElem hj);rw[g1,g2]at e;rcases Nat.lt_trichotomy i j with z | z | z
  ·exact absurd e (by have:=pairwise_iff_getElem.mp nd i j (by rw[length_map];exact hi) (by rw[length_map];exact hj) z;simpa using this)
  ·exact z
  ·exact absurd e.symm (by have:=pairwise_iff_getElem.mp nd j i (by rw[length_map];exact hj) (by rw[length_map];exact hi) z;simpa using this)
 refine wpAny_bind (wpAny_holding (wpAny_call_entry slot_list_sort ⟨_,hoL,rfl⟩ entry_list_sort (j2d (s:={s with heap:=h1.push (seqObj "list" (as.map Value.ref).toArray 0),toks:=tk}) hoL hna xP inj (by rw[hl];exact h64) fun qs h2 c hq hs kk o2=>⟨_,rfl,?_⟩) (args_list_sort _)));refine wpAny_pure ⟨_,rfl,?_⟩;have ltB:∀b o,s.heap.get? b=some o->b<h1.objs.size:=fun b o e=>Heap.lt_size (hk b o e)
 have k2:∀b o,s.heap.get? b=some o->h2.get? b=some o:=fun b o e=>kk b o (Nat.ne_of_lt (ltB b o e)) (Heap.get?_push_of_some _ (hk b o e))
 have I2:Inv X pins σ H {s with heap:=h2,toks:=tk}:=I.kept (t':=tk) k2;have hB:H h1.objs.size=none:=I.none_at hk;have nB:=I.newB hk;have ha:∀a∈as,H a=none/\NewA X pins a:=fun a h=>⟨I.hok.fresh (Nat.le_of_lt (hG.above a h)),I.newA (Nat.le_of_lt (hG.above a h))⟩
 have qlt:∀i∈qs,i<as.length:=fun i hi=>mem_range.mp (hq.mem_iff.mp hi)
 have ndw:(((h1.objs.size,HO.lst ((qs.map fun i=>as.getD i 0).map V.ref))::(List.range as.length).map fun i=>(as.getD i 0,HO.tup [.int (kvs.getD i (0,0)).1,.int (kvs.getD i (0,0)).2])).map (·.1)).Nodup:=by
  rw[map_cons,nodup_cons,List.map_map];have e2:(List.range as.length).map ((fun x=>x.1)∘fun i=>(as.getD i 0,HO.tup [.int (kvs.getD i (0,0)).1,.int (kvs.getD i (0,0)).2]))=as:=ext_getElem (by simp) fun i h1 h2=>by
   rw[getElem_map,getElem_range];show as.getD i 0=_;rw[getD_eq_getElem?_getD,List.getElem?_eq_getElem h2];rfl
  rw[e2];exact⟨hna,hG.rise.imp fun h=>Nat.ne_of_lt h⟩
 obtain⟨H',I3,s3,k3⟩:=I2.trackAll ((h1.objs.size,HO.lst ((qs.map fun i=>as.getD i 0).map V.ref))::(List.range as.length).map fun i=>(as.getD i 0,HO.tup [.int (kvs.getD i (0,0)).1,.int (kvs.getD i (0,0)).2])) (fun p hp=>by
  rcases mem_cons.mp hp with rfl | hp
  ·refine⟨hB,nB,fun H'=>⟨?_,_,c,valsR _,o2⟩⟩;rw[length_map,length_map,hq.length_eq,length_range,hl,sizeLine_eq];omega
  ·obtain⟨i,hi,rfl⟩:=mem_map.mp hp;have hi:=mem_range.mp hi;have e:as[i]?=some (as.getD i 0):=by rw[getD_eq_getElem?_getD,List.getElem?_eq_getElem hi];rfl
   obtain⟨t1,t2,eo⟩:=xQ i _ e;have hm:=List.mem_of_getElem? e;obtain⟨n1,n2⟩:=ha _ hm;exact⟨n1,n2,fun H'=>⟨(by show 2<=sizeLine;decide),[_,_],.cons ⟨t1,rfl⟩ (.cons ⟨t2,rfl⟩ .nil),⟨_,kk _ _ (fun z=>hna (z▸hm)) eo,rfl,_,rfl⟩⟩⟩) ndw
 ·refine⟨.ref h1.objs.size,H',I3,rfl,q h1.objs.size (qs.map fun i=>as.getD i 0) (qs.map fun i=>kvs.getD i (0,0)) H' s3 hB (k3 _ mem_cons_self) (fun a h=>?_) ?_ ?_ (by rw[length_map,length_map]) fun i a p e1 e2=>?_⟩
  ·obtain⟨i,hi,rfl⟩:=mem_map.mp h;have e:as[i]?=some (as.getD i 0):=by rw[getD_eq_getElem?_getD,List.getElem?_eq_getElem (qlt i hi)];rfl
   exact(ha _ (List.mem_of_getElem? e)).1
  ·have e:=hq.map fun i=>kvs.getD i (0,0)
   rw[hl]at e;have e2:(List.range kvs.length).map (fun i=>kvs.getD i (0,0))=kvs:=ext_getElem (by simp) fun i h1 h2=>by
    rw[getElem_map,getElem_range,getD_eq_getElem?_getD,List.getElem?_eq_getElem h2];rfl
   rw[e2]at e;exact e
  ·rw[List.map_map];exact hs
  ·rw[List.getElem?_map]at e1 e2;obtain⟨j,hj,rfl⟩:=Option.map_eq_some_iff.mp e1;rw[hj]at e2;cases e2;exact k3 _ (mem_cons_of_mem _ (mem_map.mpr ⟨j,mem_range.mpr (qlt j (List.mem_of_getElem? hj)),rfl⟩))
end
theorem Qa:∀{as:List Addr} {us:List Value},Vals (as.map V.ref) us->us=as.map Value.ref
 | [],_,r=>by cases r;rfl
 | a::as,_,r=>by
  cases r with
  | cons r1 r2=>rw[Qa r2,show _=Value.ref a from r1];rfl
theorem W2{h:Heap}:∀{as:List Addr} {kvs:List (Int×Int)},as.length=kvs.length->(∀(i:Nat) (a:Addr) (q:Int×Int),as[i]?=some a->kvs[i]?=some q->∃t u,IsTup h a #[.int q.1 t,.int q.2 u])->
  ∃ps:List (Key×Value),KV (kvs.map iiK) ps/\ps.length=kvs.length/\∀(j:Nat) (kv:Key×Value),ps[j]?=some kv->∃a key,as[j]?=some a/\IsTup h a #[key,kv.2]/\keyIs kv.1 key=true
 | [],[],_,_=>⟨[],.nil,rfl,fun j kv e=>by simp at e⟩
 | [],_::_,l,_=>by simp at l
 | _::_,[],l,_=>by simp at l
 | a::as,q::kvs,l,f=>by
  obtain⟨ps,h1,h2,h3⟩:=W2 (as:=as) (kvs:=kvs) (by simpa using l) fun i a q e1 e2=>f (i+1) a q (by simpa using e1) (by simpa using e2)
  obtain⟨t,u,e⟩:=f 0 a q rfl rfl;refine⟨(Sum.inl q.1,.int q.2 u)::ps,.cons ⟨rfl,u,rfl⟩ h1,by rw[length_cons,h2,length_cons],fun j kv ej=>?_⟩;cases j with
  | zero=>simp at ej;subst ej;exact⟨a,_,rfl,e,Kw _ _⟩
  | succ j=>obtain⟨b,ky,b1,b2,b3⟩:=h3 j kv (by simpa using ej);exact⟨b,ky,by simpa using b1,b2,b3⟩
section
variable{X:Cx}
theorem xI(hc:X.calm=true):CallR X (.type "dict") (fun xs H Q=>∃(p:Addr) (as:List Addr) (kvs:List (Int×Int)),xs=[.ref p]/\H p=some (.lst (as.map V.ref))/\as.length=kvs.length/\
  (∀(i:Nat) (a:Addr) (q:Int×Int),as[i]?=some a->kvs[i]?=some q->H a=some (.tup [.int q.1,.int q.2]))/\∀d,H d=none->Q (.ref d) (upd H d (.dK (mergeK [] (kvs.map iiK))))):=by
 intro pins s σ H xs us Q I r h;obtain⟨p,as,kvs,rfl,ep,hl,ht,q⟩:=h;obtain⟨u,rfl,ru⟩:=vals1 r;cases ru;obtain⟨z,its,n,rv,lv,e⟩:=I.lstM ep;have ei:=Qa rv;subst ei;rw[length_map]at z;have hp:p<s.heap.objs.size:=Heap.lt_size e;obtain⟨ps,kp,pl,pt⟩:=W2 (h:=s.heap) hl fun i a q e1 e2=>by
  obtain⟨_,its,r',t'⟩:=I.hok a _ (ht i a q e1 e2);cases r' with
  | cons ra rr=>
   cases rr with
   | cons rb rr=>
    cases rr;obtain⟨t1,rfl⟩:=ra;obtain⟨t2,rfl⟩:=rb;exact⟨t1,t2,t'⟩
 refine callType_codes (Q₁:=fun obj s₁=>obj = .ref s.heap.objs.size/\s₁={s with heap:=s.heap.push {cls:=.type "dict",data:=.dict #[]}}) PySem.F.kt_called_dict (PySem.F.kt_typeCall_dict_1 (.ref p)) PySem.F.entry_dict_init (kt_code_dict_new (.ref p) ⟨rfl,rfl⟩) ?_;rintro obj s₁ ⟨rfl,rfl⟩;have hnew:(s.heap.push {cls:=.type "dict",data:=.dict #[]}).DictOf (mixKind X.prog X.w) s.heap.objs.size []:=Heap.DictOf.new s.heap;have k0:∀b o,s.heap.get? b=some o->(s.heap.push {cls:=.type "dict",data:=.dict #[]}).get? b=some o:=fun b o e=>Heap.get?_push_of_some _ e
 generalize s.heap.push {cls:=.type "dict",data:=.dict #[]}=h0 at hnew k0;refine⟨hnew.typeIs (s:={s with heap:=h0}),PySem.F.args_dict_init_2 _ _,?_⟩;unfold Builtin.«dict.__init__»;refine wpAny_bind ?_;unfold Builtin.Dict.selfAndRest;refine wpAny_bind (wpAny_notOrdered_dict (hnew.typeIs (s:={s with heap:=h0})) ?_);show wpAny (model X.prog X.w) _ (pure (s.heap.objs.size,[Value.ref p])) _ _ _;refine wpAny_pure ?_;show wpAny (model X.prog X.w) _ (Builtin.Dict.updateFrom "dict.__init__" s.heap.objs.size (.ref p) [] .none) _ _ _;unfold Builtin.Dict.updateFrom;refine wpAny_bind (wpAny_typeOf (T:="list") ⟨_,k0 _ _ e,rfl⟩ ?_);rw[if_pos (by decide)];refine wpAny_bind (noKeys (s:={s with heap:=h0}) (k0 _ _ e) rfl rfl rfl (I.ok.hd hc) fun h1 tk k1=>?_);rw[if_pos (show(none:Option Value).isNone=true from rfl)];have k01:∀b o,s.heap.get? b=some o->h1.get? b=some o:=fun b o e=>k1 b o (k0 b o e)
 have dd1:h1.DictOf (mixKind X.prog X.w) s.heap.objs.size []:=hnew.keep k1;have ld:s.heap.objs.size<h1.objs.size:=by obtain⟨_,_,_,hg,_⟩:=dd1;exact Heap.lt_size hg
 have lp:p<h1.objs.size:=Nat.lt_trans hp ld;refine wpAny_bind (wpAny_rule ?_);refine wpAny_bind (wpAny_pyIter_list (l:=p) (items:=(as.map Value.ref).toArray) ⟨_,k01 _ _ e,rfl,n,rfl⟩ ?_);refine wpAny_pure ⟨plainId_quiet Zy _,?_⟩;refine dul (knd:=mixKind X.prog X.w) (A:=X.A.in1) (d:=s.heap.objs.size) (it:=h1.objs.size) (l:=p) (items:=as.map Value.ref) (res:=.none) (I.ok.hd hc) (Nat.ne_of_lt ld) (Nat.ne_of_gt hp) (Nat.ne_of_gt lp) ps 0 [] _
  ⟨_,Heap.get?_push_size _ rfl,rfl,rfl⟩ ⟨_,Heap.get?_push_of_some _ (k01 _ _ e),rfl,n,rfl⟩ (by rw[length_map,hl,pl,Nat.zero_add]) (fun j kv ej=>?_) (dd1.push _) (by rw[length_nil,pl,<-hl,Nat.zero_add];exact z) fun h2 tk2 k2 dd2=>?_
 ·obtain⟨a,ky,b1,⟨o,b2,b3⟩,b4⟩:=pt j kv ej;have la:a<s.heap.objs.size:=Heap.lt_size b2;exact⟨a,ky,by rw[Nat.zero_add,List.getElem?_map,b1];rfl,⟨o,Heap.get?_push_of_some _ (k01 _ _ b2),b3⟩,b4,Nat.ne_of_lt la,Nat.ne_of_lt (Nat.lt_trans la ld)⟩
 ·refine⟨rfl,.ref s.heap.objs.size,upd H s.heap.objs.size (.dK (mergeK [] (kvs.map iiK))),I.laid (t':=tk2) (fun b o eb=>k2 b o (Nat.ne_of_lt (Heap.lt_size eb)) (Nat.ne_of_lt (Nat.lt_trans (Heap.lt_size eb) ld)) (Heap.get?_push_of_some _ (k01 _ _ eb))) (Nat.le_refl _) ?_,rfl,q _ (I.hok.fresh (Nat.le_refl _))⟩;have hm:=zd (kvs.map iiK) [];rw[length_nil,length_map]at hm;have hns:(s.heap.objs.size==sysModules)=false:=by
   rw[beq_eq_false_iff_ne];exact Nat.ne_of_gt I.big
  exact xJ (by omega) hns (kp.merge .nil) dd2
end
theorem XU{H:Hp}:∀(ks:List Int),DVs H (ks.map V.int) (ks.map PyData.int)
 | []=>.nil
 | k::r=>.cons (.int k) (XU r)
theorem j2F(ks:List Int):PyData.eqv (.list (ks.map PyData.int)) (.list [])=decide (ks=[]):=by
 cases ks<;>simp[PyData.eqv,PyData.eqvAll]
theorem j3X{X:Cx}(hu:X.A.units+64<cLine):OpR X (compareOp .In) (fun x y H Q=>∃(a l:Addr) (as:List Addr) (hs:List (List Int)),x = .ref a/\y = .ref l/\H a=some (.lst [])/\H l=some (.lst (as.map V.ref))/\as.length=hs.length/\
  (∀(i:Nat) (b:Addr) (ks:List Int),as[i]?=some b->hs[i]?=some ks->H b=some (.lst (ks.map V.int)))/\Q (.bl (hs.any fun ks=>decide (ks=[]))) H):=by
 intro pins s σ H x y v u Q I rx ry h;obtain⟨a,l,as,hs,rfl,rfl,ea,el,hl,hh,q⟩:=h;cases rx;cases ry;obtain⟨its,r,pl,hz⟩:=I.list (SqL.of el);have ei:=Qa r;subst ei;obtain⟨ba,ra⟩:=QU I (DV.lst ea .nil) (show RelV (.ref a) (.ref a)from rfl)
 classical
 have rd:∀(i:Nat) (b:Addr) (ks:List Int),as[i]?=some b->hs[i]?=some ks->∃bb,Reads s.heap (.ref b) (.list (ks.map PyData.int)) bb:=fun i b ks e1 e2=>QU I (DV.lst (hh i b ks e1 e2) (XU ks)) (show RelV (.ref b) (.ref b)from rfl)
 have fe:∀(i:Nat) (b:Addr) (ks:List Int),as[i]?=some b->hs[i]?=some ks->decide (∃bb,Reads s.heap (.ref b) (.list []) bb)=decide (ks=[]):=fun i b ks e1 e2=>by
  obtain⟨bb,rb⟩:=rd i b ks e1 e2;rw[decide_eq_decide];constructor
  ·rintro⟨cc,rc⟩;have e:=SeqAt.Reads.unique _ _ _ _ _ (show PyData.canLay0 (.list [])=true from rfl) rc rb;cases ks with
   | nil=>rfl
   | cons k r=>simp at e
  ·rintro rfl;exact⟨bb,rb⟩
 refine SeqAt.in_listAt (fun w=>decide (∃bb,Reads s.heap w (.list []) bb)) pl.isList (fun w hw=>?_) ⟨.bl _,H,I,rfl,?_⟩
 ·obtain⟨i,hi,e⟩:=mem_iff_getElem.mp (show w∈as.map Value.ref by simpa using hw);rw[getElem_map]at e;rw[length_map]at hi;subst e;have e1:as[i]?=some as[i]:=List.getElem?_eq_getElem hi;have e2:hs[i]?=some hs[i]:=List.getElem?_eq_getElem (by omega);obtain⟨bb,rb⟩:=rd i _ _ e1 e2;have z:=SeqAt.eqAt_reads _ _ X.A.in1 s _ _ _ _ rb ra (by show PyData.canLayAll0 _=true;exact ke_canLayAll0 _) rfl (by
   show X.A.in1.units+min (PyData.depthAll _+1) (0+1)<cLine;have h1:X.A.in1.units=X.A.units+1:=rfl;omega)
  rw[j2F,<-fe i _ _ e1 e2]at z;exact z
 ·have e:(as.map Value.ref).toArray.any (fun w=>decide (∃bb,Reads s.heap w (.list []) bb))=hs.any fun ks=>decide (ks=[]):=by
   rw[List.any_toArray,List.any_map,Bool.eq_iff_iff,any_eq_true,any_eq_true];constructor
   ·rintro⟨b,hb,hw⟩;obtain⟨i,hi,rfl⟩:=mem_iff_getElem.mp hb;exact⟨hs[i],getElem_mem _,by rw[<-fe i _ _ (List.getElem?_eq_getElem hi) (List.getElem?_eq_getElem (by omega))];exact hw⟩
   ·rintro⟨ks,hk,hw⟩;obtain⟨i,hi,rfl⟩:=mem_iff_getElem.mp hk;refine⟨as[i],getElem_mem _,?_⟩;show decide _=true;rw[fe i _ _ (List.getElem?_eq_getElem (by omega)) (List.getElem?_eq_getElem hi)];exact hw
  rw[e];exact q
section
variable{X:Cx}
theorem j0y:MtR X "str.index" (fun x vs H Q=>∃(z y:Str) (i:Nat) (r:List Nat),x = .str z/\vs=[.str y]/\Builtin.Str.occurrences z y 0 z.length 1=i::r/\Q (.int i) H):=by
 intro pins s σ H x vs v us Q I rx rv h;obtain⟨z,y,i,r,rfl,rfl,ho,q⟩:=h;obtain⟨t,rfl⟩:=rx;obtain⟨u,rfl,t',rfl⟩:=vals1 rv;exact SC.index ho ⟨.int _,H,I.tok _,⟨_,rfl⟩,q⟩
def tTru(K:Frg)(ta:TE):TT:=fun σ H Q=>ta σ H fun x H'=>∃k,TruV K x H' k/\Q k H'
theorem Xr{a:Expr}{ta:TE}(ha:PE X a ta)(he:∀whole,isTrue a X.env whole=(do let v <-whole;standAt a.pos;holding [v] (truthy v))):PT X a (tTru X.K ta):=j1U ha he
end
theorem rd_tru{K:Frg}{ta:TE}{σ:St}{H:Hp}{Q:Bool->Hp->Prop}(h:ta σ H fun x H'=>∃k,TruV K x H' k/\Q k H'):tTru K ta σ H Q:=h
theorem j18{K:Frg}{a b:Addr}{xs zs:List V}{k:Nat}{ci:List Nat}{g:TG}{tf:TT}{te:TE}{σ:St}{H:Hp}{Z:Addr->List V->Hp->Prop}(Pv:Nat->List V->Hp->Prop)(hlen:xs.length=zs.length)(h0:Pv 0 [] H)(hl:∀i ys H,i<=xs.length->Pv i ys H->SqL K H a xs/\SqL K H b zs)
  (hs:∀i u v ys H T H',xs[i]?=some u->zs[i]?=some v->Pv i ys H->Same H H'->H' T=some (.tup [u,v])->g (.ref T) (capS k ci σ) H' fun σ2 H2=>tf σ2 H2 fun b H3=>if b=true then te σ2 H3 fun v H4=>ys.length<sizeLine/\Pv (i+1) (ys++[v]) H4 else Pv (i+1) ys H3)
  (hd:∀ys H,Pv xs.length ys H->ys.length<=sizeLine/\∀p,H p=none->Z p ys H) :
  ∃W:Nat->Nat->List V->Hp->Prop,(∃m,W 0 m [] H)/\∀i m ys H,W i m ys H->
   ((Itz K a b).stop i H/\ys.length<=sizeLine/\∀p,H p=none->Z p ys H)\/
   ((Itz K a b).go i H/\∃N:List V->Hp->Prop,(∀ys' H',N ys' H'->∃m',m'<m/\W (i+1) m' ys' H')/\∀x H',(Itz K a b).yld i H x H'->g x (capS k ci σ) H' fun σ2 H2=>tf σ2 H2 fun b H3=>
    if b=true then te σ2 H3 fun v H4=>ys.length<sizeLine/\N (ys++[v]) H4 else N ys H3):=by
 refine⟨fun i m ys H=>m=xs.length-i/\i<=xs.length/\Pv i ys H,⟨xs.length,by simp,Nat.zero_le _,h0⟩,?_⟩;rintro i m ys H ⟨rfl,hi,p⟩;obtain⟨q,q'⟩:=hl i ys H hi p;by_cases hlt:i<xs.length
 ·refine .inr ⟨⟨xs,xs[i],zs,zs[i],q,by simp[hlt],q',by simp⟩,Pv (i+1),fun ys' H' p'=>⟨xs.length-(i+1),by omega,rfl,hlt,p'⟩,fun x H' y=>?_⟩;obtain⟨T,u,v,rfl,hT,e,y,y'⟩:=y;exact hs i u v ys H T H' (y xs q) (y' zs q') p (fun b o h=>by rw[e,jh (je h hT)];exact h) (by rw[e];exact jr)
 ·have e:i=xs.length:=by omega
  subst e;exact .inl ⟨⟨xs,zs,q,q',.inl (Nat.le_refl _)⟩,hd ys H p⟩
theorem j33{X:Cx}:OpR X (binaryOp .Mult) (rI (fun _ j=>-(2^64)<j/\j<2^64) fun i j=>.int (i*j)):=opI fun _ _ _ _ _ _ _ hc q=>mul_int q (CMul.ok (.inr hc))
section
variable{X:Cx}{e:Expr}{te:TE}
def tRevS(K:Frg)(te:TE)(ts:TO):TE:=fun σ H Q=>te σ H fun x H1=>ts σ H1 fun st H2=>st=some (-1)/\∃a xs,x = .ref a/\SqL K H2 a xs/\∀p,H2 p=none->Q (.ref p) (upd H2 p (.lst xs.reverse))
theorem j2n{xs:List V}{us:List Value}(h:Vals xs us):Vals xs.reverse us.reverse:=by
 induction h with
 | nil=>exact .nil
 | cons r _ ih=>rw[reverse_cons,reverse_cons];exact ih.append (.cons r .nil)
theorem j1Q{st:Expr}{ts:TO}{p2 pos:Pos}(he:PE X e te)(hs:PO X (some st) ts):PE X (.Subscript e (.Slice none none (some st) p2) pos) (tRevS X.K te ts):=by
 intro pins s σ H Q I h;refine Subscript_ (thn (he pins s σ H _ I h) fun v s1 ⟨x,H1,I1,r1,q1⟩=>?_);refine wpAny_Slice ?_;rw[evalPart_none];refine wpAny_pure ?_;refine wpAny_pure ?_;refine thn (hs pins s1 σ H1 _ I1 q1) fun vk s2 ⟨so,H2,I2,pk,est,a,xs,ex,hx,q⟩=>?_
 subst est ex;cases r1;have I3:Inv X pins σ H2 {s2 with heap:=s2.heap.push {cls:=.type "slice",data:=.fields #[.none,.none,vk]}}:=I2.kept (t':=s2.toks) fun b ob q=>Heap.get?_push_of_some _ q
 obtain⟨its,r,ht,hz⟩:=I3.list hx;have hlen:=r.length;show wpAny (model X.prog X.w) X.A (subscriptTail e (.Slice none none (some st) p2) (.ref a) (.ref s2.heap.objs.size)) (EP X pins σ Q) X.xe {s2 with heap:=s2.heap.push {cls:=.type "slice",data:=.fields #[.none,.none,vk]}};refine tail_any (ops:=[.ref a,.ref s2.heap.objs.size]) ht.isList.typeIs slot_list_getitem.lookup ?_ (by with_unfolding_all rfl);refine wpAny_getItem_list_slice ht.isList (Heap.IsSliceOf.new ..) .none .none pk (by decide) ?_ (by rw[size_toArray]<;>omega);rw[PySem.W.krv_pick];refine⟨.ref (s2.heap.push {cls:=.type "slice",data:=.fields #[.none,.none,vk]}).objs.size,_,I3.laid (t':=s2.toks) (o:=.lst xs.reverse) (fun b ob q=>Heap.get?_push_of_some _ q) (Nat.le_refl _) ?_,rfl,q _ (I3.hok.fresh (Nat.le_refl _))⟩;exact⟨by rw[length_reverse];exact hz,_,0,j2n r,Heap.get?_push_size _ rfl⟩
end
theorem rd_revS{K:Frg}{te:TE}{ts:TO}{σ:St}{H:Hp}{Q:VK}(h:te σ H fun x H1=>ts σ H1 fun st H2=>st=some (-1)/\∃a xs,x = .ref a/\SqL K H2 a xs/\∀p,H2 p=none->Q (.ref p) (upd H2 p (.lst xs.reverse))):tRevS K te ts σ H Q:=h
theorem j1Y{K:Frg}{i j k:Nat}{a:Addr}{x y z:V}{σ:St}{H:Hp}{R:St->Hp->Prop}(e:SqT K H a [x,y,z])(h:gName i x σ H fun σ' H'=>gName j y σ' H' fun σ' H'=>gName k z σ' H' R):gTup K 3 (gCons (gName i) (gCons (gName j) (gCons (gName k) gNil))) (.ref a) σ H R:=
 ⟨a,[x,y,z],rfl,e,rfl,x,[y,z],rfl,y,[z],rfl,z,[],rfl,rfl,h⟩
theorem j48{K:Frg}{i j k l:Nat}{a:Addr}{x y z w:V}{σ:St}{H:Hp}{R:St->Hp->Prop}(e:SqT K H a [x,y,z,w])(h:gName i x σ H fun σ' H'=>gName j y σ' H' fun σ' H'=>gName k z σ' H' fun σ' H'=>gName l w σ' H' R):gTup K 4 (gCons (gName i) (gCons (gName j) (gCons (gName k) (gCons (gName l) gNil)))) (.ref a) σ H R:=
 ⟨a,[x,y,z,w],rfl,e,rfl,x,[y,z,w],rfl,y,[z,w],rfl,z,[w],rfl,w,[],rfl,rfl,h⟩
abbrev IsZipK(h:Heap)(z TI TO T:Addr)(f:Bool):Prop:=h.get? z=some {cls:=.type "zip",dict:=none,data:=.fields #[rawInt T,.bool f,.bool false,.ref TI,.ref TO],slots:=#[]}
section
variable{prog:Program}{w:World}{A:Around}{E:Value->Shared->Prop}{s:Shared}
theorem yE{z TI TO T:Addr}{f:Bool}{oT:Obj}(hz:IsZipK s.heap z TI TO T f)(hT:s.heap.get? T=some oT) :
  wpAny (model prog w) A (Builtin.SmallTypes.ownedTupleIsFree (.ref z)) (fun a s₁=>a=false/\∃h₁,s₁={s with heap:=h₁}/\IsZipK h₁ z TI TO T true/\Heap.SameBut z s.heap h₁) E s:=by
 unfold Builtin.SmallTypes.ownedTupleIsFree;refine wpAny_bind (wpAny_field hz rfl (x:=rawInt T) rfl ?_);show wpAny _ _ (loadIfAlive ((T:Int).toNat) >>= _) _ _ _;rw[Int.toNat_natCast];refine wpAny_bind (kdx_alive hT ?_);simp only[Option.isNone_some,Bool.false_eq_true,if_false];refine wpAny_bind (wpAny_field hz rfl (x:=.bool f) rfl ?_);cases f with
 | true=>
  rw[if_neg (show¬((Value.bool true != Value.bool true)=true)from Bool.false_ne_true)];exact wpAny_pure ⟨rfl,_,rfl,hz,Heap.SameBut.refl ..⟩
 | false=>
  rw[if_pos (show(Value.bool false != Value.bool true)=true from rfl)];refine wpAny_bind (wpAny_setField_rec hz (by simp) fun h₃ he₃ hs₃=>?_);exact wpAny_pure ⟨rfl,h₃,rfl,he₃,hs₃⟩
theorem kK{z TI TO T i1 i2 l1 l2:Addr}{f:Bool}{oT:Obj}{k1 k2:Nat}{xs ys:Array Value}{x y:Value}{Q:Value->Shared->Prop}(D:ZipApart z TI TO i1 i2 l1 l2)
  (hz:IsZipK s.heap z TI TO T f) (hT:s.heap.get? T=some oT) (hTI:IsPair s.heap TI (.ref i1) (.ref i2))
  (h1:s.heap.IsListIter i1 l1 k1) (h2:s.heap.IsListIter i2 l2 k2) (hl1:s.heap.IsList l1 xs) (hl2:s.heap.IsList l2 ys) (hx:xs[k1]?=some x) (hy:ys[k2]?=some y)
  (hQ:∀h',IsZipK h' z TI TO T true->h'.IsListIter i1 l1 (k1+1)->h'.IsListIter i2 l2 (k2+1)->IsPair h' s.heap.objs.size x y->h'.objs.size=s.heap.objs.size+1->
   (∀c o,c≠z->c≠i1->c≠i2->s.heap.get? c=some o->h'.get? c=some o)->Q (.ref s.heap.objs.size) {s with heap:=h'}) :
  wpAny (model prog w) A (Builtin.«zip.__next__» ⟨[.ref z],[]⟩) (fun fin s'=>∃v,fin=Fin.done (.ret v)/\Q v s') E s:=by
 show wpAny _ _ (field (.ref z) 2 >>= _) _ _ _;refine wpAny_bind (wpAny_field hz rfl (x:=.bool false) rfl ?_);show wpAny _ _ (field (.ref z) 3 >>= _) _ _ _;refine wpAny_bind (wpAny_field hz rfl (x:=.ref TI) rfl ?_);refine wpAny_bind (wpAny_seqItems hTI rfl ?_);show wpAny _ _ (Builtin.SmallTypes.ownedTupleIsFree (.ref z) >>= _) _ _ _;refine wpAny_bind (thn (yE hz hT) fun a s₁ ⟨ha,h₁,es,hz₁,hs₁⟩=>?_);subst ha es;simp only[Bool.false_eq_true,if_false];refine wpAny_bind ?_;rw[<-Array.forIn_toList];simp only[forIn_cons,List.forIn_nil];refine wpAny_bind (wpAny_bind (wpAny_holding ?_));show wpAny _ _ (Builtin.SmallTypes.nextOf (.ref i1) >>= _) _ _ _;refine wpAny_bind (wpAny_nextOf_list_item (h1.extBut hs₁.extBut D.i1z) (hl1.extBut hs₁.extBut D.l1z) hx fun h₂ h1₂ hs₂=>wpAny_pure ?_);refine wpAny_pure ?_;refine wpAny_bind (wpAny_bind (wpAny_holding ?_));show wpAny _ _ (Builtin.SmallTypes.nextOf (.ref i2) >>= _) _ _ _;refine wpAny_bind (wpAny_nextOf_list_item ((h2.extBut hs₁.extBut D.i2z).extBut hs₂.extBut D.i12.symm) ((hl2.extBut hs₁.extBut D.l2z).extBut hs₂.extBut D.l2i1) hy fun h₄ h2₄ hs₄=>wpAny_pure ?_);refine wpAny_pure (wpAny_pure ?_);refine wpAny_bind (wpAny_newTuple (hsz:=by show 2<=sizeLine;decide) ?_);have hsz:h₄.objs.size=s.heap.objs.size:=by rw[hs₄.1,hs₂.1,hs₁.1]
 have hz₄:IsZipK h₄ z TI TO T true:=hs₄.extBut _ _ D.i2z.symm (hs₂.extBut _ _ D.i1z.symm hz₁);have hk:∀c o,c≠z->c≠i1->c≠i2->s.heap.get? c=some o->h₄.get? c=some o:=fun c o c1 c3 c4 e=>hs₄.extBut _ _ c4 (hs₂.extBut _ _ c3 (hs₁.extBut _ _ c1 e))
 refine wpAny_pure ⟨_,rfl,?_⟩;show Q (.ref h₄.objs.size) _;have hT:(h₄.push {cls:=.type "tuple",data:=.seq #[x,y]}).get? h₄.objs.size=some {cls:=.type "tuple",data:=.seq #[x,y]}:=Heap.get?_push_size _ rfl;rw[hsz]at hT|-;exact hQ _ (Heap.get?_push_of_some _ hz₄) ((h1₂.extBut hs₄.extBut D.i12).at fun o e=>Heap.get?_push_of_some _ e) (h2₄.at fun o e=>Heap.get?_push_of_some _ e) hT (by rw[Heap.size_push,hsz]) fun c o c1 c3 c4 e=>Heap.get?_push_of_some _ (hk c o c1 c3 c4 e)
theorem zK{z TI TO T i1 i2 l1 l2:Addr}{f:Bool}{oT:Obj}{k1 k2:Nat}{xs ys:Array Value}{x y:Value}{Q:Option Value->Shared->Prop}(D:ZipApart z TI TO i1 i2 l1 l2)
  (hz:IsZipK s.heap z TI TO T f) (hT:s.heap.get? T=some oT) (hTI:IsPair s.heap TI (.ref i1) (.ref i2))
  (h1:s.heap.IsListIter i1 l1 k1) (h2:s.heap.IsListIter i2 l2 k2) (hl1:s.heap.IsList l1 xs) (hl2:s.heap.IsList l2 ys) (hx:xs[k1]?=some x) (hy:ys[k2]?=some y)
  (hQ:∀h',IsZipK h' z TI TO T true->h'.IsListIter i1 l1 (k1+1)->h'.IsListIter i2 l2 (k2+1)->IsPair h' s.heap.objs.size x y->h'.objs.size=s.heap.objs.size+1->
   (∀c o,c≠z->c≠i1->c≠i2->s.heap.get? c=some o->h'.get? c=some o)->Q (some (.ref s.heap.objs.size)) {s with heap:=h'}) :
  wpAny (model prog w) A (pyNext (.ref z)) Q E s:=by
 have hTy:s.TypeIs (.ref z) "zip":=⟨_,hz,rfl⟩
 unfold pyNext;refine wpAny_bind (wpAny_attempt (wpAny_callSpecial?_slot (name:=Str.ofString "__next__") hTy F.slot_zip_next
  (wpAny_call_entry F.slot_zip_next hTy F.entry_zip_next (kK D hz hT hTI h1 h2 hl1 hl2 hx hy fun h' a1 a2 a3 a4 a5 a6=>?_) (F.args_zip_next_1 _))))
 exact wpAny_pure (hQ h' a1 a2 a3 a4 a5 a6)
theorem kZ{z TI TO T i1 i2 l1 l2:Addr}{f:Bool}{oT:Obj}{k1:Nat}{xs:Array Value}{Q:Fin->Shared->Prop}(hh:A.handled=none)(D:ZipApart z TI TO i1 i2 l1 l2)
  (hz:IsZipK s.heap z TI TO T f) (hT:s.heap.get? T=some oT) (hTI:IsPair s.heap TI (.ref i1) (.ref i2))
  (h1:s.heap.IsListIter i1 l1 k1) (hl1:s.heap.IsList l1 xs) (hx:xs[k1]?=none)
  (hE:∀h' e,(∀c o,c≠z->c≠i1->c≠i2->s.heap.get? c=some o->h'.get? c=some o)->(∃o,h'.get? e=some o/\o.cls = .type "StopIteration")->E (.ref e) {s with heap:=h'}) :
  wpAny (model prog w) A (Builtin.«zip.__next__» ⟨[.ref z],[]⟩) Q E s:=by
 show wpAny _ _ (field (.ref z) 2 >>= _) _ _ _;refine wpAny_bind (wpAny_field hz rfl (x:=.bool false) rfl ?_);show wpAny _ _ (field (.ref z) 3 >>= _) _ _ _;refine wpAny_bind (wpAny_field hz rfl (x:=.ref TI) rfl ?_);refine wpAny_bind (wpAny_seqItems hTI rfl ?_);show wpAny _ _ (Builtin.SmallTypes.ownedTupleIsFree (.ref z) >>= _) _ _ _;refine wpAny_bind (thn (yE hz hT) fun a s₁ ⟨ha,h₁,es,hz₁,hs₁⟩=>?_);subst ha es;simp only[Bool.false_eq_true,if_false];refine wpAny_bind ?_;rw[<-Array.forIn_toList];simp only[forIn_cons,List.forIn_nil];refine wpAny_bind (wpAny_bind (wpAny_holding ?_));show wpAny _ _ (Builtin.SmallTypes.nextOf (.ref i1) >>= _) _ _ _;refine wpAny_bind (wpAny_nextOf_list_end hh (h1.extBut hs₁.extBut D.i1z) (hl1.extBut hs₁.extBut D.l1z) hx fun h₂ e hs₂ he=>?_);exact hE h₂ e (fun c o c1 c3 _ x=>hs₂ _ _ c3 (hs₁.extBut _ _ c1 x)) he
theorem zM{z TI TO T i1 i2 l1 l2:Addr}{f:Bool}{oT:Obj}{k1:Nat}{xs:Array Value}{Q:Option Value->Shared->Prop}(hh:A.handled=none)(D:ZipApart z TI TO i1 i2 l1 l2)
  (hz:IsZipK s.heap z TI TO T f) (hT:s.heap.get? T=some oT) (hTI:IsPair s.heap TI (.ref i1) (.ref i2))
  (h1:s.heap.IsListIter i1 l1 k1) (hl1:s.heap.IsList l1 xs) (hx:xs[k1]?=none)
  (hQ:∀h',(∀c o,c≠z->c≠i1->c≠i2->s.heap.get? c=some o->h'.get? c=some o)->Q none {s with heap:=h'}):wpAny (model prog w) A (pyNext (.ref z)) Q E s:=by
 have hTy:s.TypeIs (.ref z) "zip":=⟨_,hz,rfl⟩
 unfold pyNext;refine wpAny_bind (wpAny_attempt (wpAny_callSpecial?_slot (name:=Str.ofString "__next__") hTy F.slot_zip_next
  (wpAny_call_entry F.slot_zip_next hTy F.entry_zip_next (kZ hh D hz hT hTI h1 hl1 hx fun h' e hk he=>?_) (F.args_zip_next_1 _))))
 obtain⟨o,ho,hc⟩:=he;refine wpAny_bind (wpAny_isInstance (T:="StopIteration") (b:=true) ⟨o,ho,hc⟩ isSubtype_stop ?_);exact wpAny_pure (hQ _ hk)
theorem XC:typeLookup (.type "zip") "__len__"= pure none:=by rw[typeLookup_type,builtinLookup_eq_fast];kernel_rfl
theorem xv:typeLookup (.type "zip") "__length_hint__"= pure none:=by rw[typeLookup_type,builtinLookup_eq_fast];kernel_rfl
def ZipSt(h:Heap)(z TI TO i1 i2 l1 l2:Addr)(i:Nat):Prop:=
 IsPair h TI (.ref i1) (.ref i2)/\h.IsListIter i1 l1 i/\h.IsListIter i2 l2 i/\((i=0/\IsZip h z TI TO .none/\∃a b,IsPair h TO a b)\/(∃T f oT,IsZipK h z TI TO T f/\h.get? T=some oT/\T≠z/\T≠i1/\T≠i2))
theorem XA{z TI TO i1 i2 l1 l2:Addr}{i:Nat}{xs ys:Array Value}{x y:Value}{Q:Option Value->Shared->Prop}(D:ZipApart z TI TO i1 i2 l1 l2)(st:ZipSt s.heap z TI TO i1 i2 l1 l2 i)
  (hl1:s.heap.IsList l1 xs) (hl2:s.heap.IsList l2 ys) (hx:xs[i]?=some x) (hy:ys[i]?=some y)
  (hQ:∀h',ZipSt h' z TI TO i1 i2 l1 l2 (i+1)->IsPair h' s.heap.objs.size x y->h'.objs.size=s.heap.objs.size+1->(∀c o,c≠z->c≠TO->c≠i1->c≠i2->s.heap.get? c=some o->h'.get? c=some o)->Q (some (.ref s.heap.objs.size)) {s with heap:=h'}) :
  wpAny (model prog w) A (pyNext (.ref z)) Q E s:=by
 obtain⟨hTI,h1,h2,st⟩:=st;have n1:s.heap.objs.size≠i1:=by obtain⟨o,e,_⟩:=id h1;exact Nat.ne_of_gt (Heap.lt_size e)
 have n2:s.heap.objs.size≠i2:=by obtain⟨o,e,_⟩:=id h2;exact Nat.ne_of_gt (Heap.lt_size e)
 rcases st with⟨rfl,hz,a,b,hTO⟩ | ⟨T,f,oT,hz,hT,t1,t2,t3⟩
 ·have nz:s.heap.objs.size≠z:=Nat.ne_of_gt (Heap.lt_size hz);refine wpAny_pyNext_zip_item D hz hTI hTO h1 h2 hl1 hl2 hx hy fun h' a1 a2 a3 a4 a5 a6 hk=>?_
  exact hQ h' ⟨hk TI _ D.TIz D.TITO D.TIi1 D.TIi2 hTI,a3,a4,.inr ⟨_,false,_,a1,a5,nz,n1,n2⟩⟩ a5 a6 hk
 ·refine zK D hz hT hTI h1 h2 hl1 hl2 hx hy fun h' a1 a3 a4 a5 a6 hk=>?_
  exact hQ h' ⟨hk TI _ D.TIz D.TIi1 D.TIi2 hTI,a3,a4,.inr ⟨T,true,oT,a1,hk T _ t1 t2 t3 hT,t1,t2,t3⟩⟩ a5 a6 fun c o c1 c2 c3 c4 e=>hk c o c1 c3 c4 e
theorem j0S{z TI TO i1 i2 l1 l2:Addr}{i:Nat}{xs ys:Array Value}{Q:Option Value->Shared->Prop}(hh:A.handled=none)(D:ZipApart z TI TO i1 i2 l1 l2)(st:ZipSt s.heap z TI TO i1 i2 l1 l2 i)
  (hl1:s.heap.IsList l1 xs) (hl2:s.heap.IsList l2 ys) (hx:xs[i]?=none)
  (hQ:∀h',(∀c o,c≠z->c≠TO->c≠i1->c≠i2->s.heap.get? c=some o->h'.get? c=some o)->Q none {s with heap:=h'}):wpAny (model prog w) A (pyNext (.ref z)) Q E s:=by
 obtain⟨hTI,h1,h2,st⟩:=st;rcases st with⟨rfl,hz,a,b,hTO⟩ | ⟨T,f,oT,hz,hT,t1,t2,t3⟩
 ·exact wpAny_pyNext_zip_end hh D hz hTI hTO h1 h2 hl1 hl2 (.inl hx) hQ
 ·exact zM hh D hz hT hTI h1 hl1 hx fun h' hk=>hQ h' fun c o c1 c2 c3 c4 e=>hk c o c1 c3 c4 e
def ZPs(h:Heap)(lo:Nat)(as:List Addr)(xs ys:Array Value):Prop:=as.Pairwise (· < ·)/\(∀a∈as,lo<=a/\a<h.objs.size)/\∀(j:Nat) (a:Addr),as[j]?=some a->∃x y,xs[j]?=some x/\ys[j]?=some y/\IsPair h a x y
theorem j2q{R:Result->Shared->Prop}{z TI TO i1 i2 l1 l2 S:Addr}{lo:Nat}{xs ys:Array Value}(hh:A.in1.handled=none)(D:ZipApart z TI TO i1 i2 l1 l2)(hS:S≠z/\S≠TI/\S≠TO/\S≠i1/\S≠i2/\S≠l1/\S≠l2)(hlo:z<lo/\TO<lo/\i1<lo/\i2<lo/\S<lo)(hlen:xs.size=ys.size)(hn:xs.size<=sizeLine)(res:Value) :
  ∀(k i:Nat) (s:Shared) (as:List Addr) (c:Nat),xs.size-i=k->i<=xs.size->ZipSt s.heap z TI TO i1 i2 l1 l2 i->s.heap.IsList l1 xs->s.heap.IsList l2 ys->lo<=s.heap.objs.size->
  s.heap.get? S=some {cls:=.type "list",dict:=none,data:=.seq (as.map Value.ref).toArray c,slots:=#[]}->as.length=i->ZPs s.heap lo as xs ys->
  (∀h' as' c',h'.get? S=some {cls:=.type "list",dict:=none,data:=.seq (as'.map Value.ref).toArray c',slots:=#[]}->as'.length=xs.size->ZPs h' lo as' xs ys->
   (∀b o,b≠S->b≠z->b≠TO->b≠i1->b≠i2->s.heap.get? b=some o->h'.get? b=some o)->R (.ok (.ret res)) {s with heap:=h'})->
  codeAny (model prog w) A (.builtin "list.extend.loop" ⟨[.ref S,.ref z,res],[]⟩) R s:=by
 intro k
 induction k with
 | zero=>
  intro i s as c hk hi st hl1 hl2 hlo' hSo hla hP hR;have hin:i=xs.size:=by omega
  refine codeAny_builtin F.entry_extend_loop ?_;rw[Around.under_plainId F.plain_extend_loop _];show wpAny _ A.in1 (pyNext (.ref z) >>= _) _ _ s;refine wpAny_bind (j0S hh D st hl1 hl2 (by rw[Array.getElem?_eq_none_iff];omega) fun h' hk'=>?_);have ap:∀a∈as,a≠z/\a≠TO/\a≠i1/\a≠i2/\a≠S:=fun a ha=>⟨Nat.ne_of_gt (Nat.lt_of_lt_of_le hlo.1 (hP.2.1 a ha).1),Nat.ne_of_gt (Nat.lt_of_lt_of_le hlo.2.1 (hP.2.1 a ha).1),Nat.ne_of_gt (Nat.lt_of_lt_of_le hlo.2.2.1 (hP.2.1 a ha).1),Nat.ne_of_gt (Nat.lt_of_lt_of_le hlo.2.2.2.1 (hP.2.1 a ha).1),Nat.ne_of_gt (Nat.lt_of_lt_of_le hlo.2.2.2.2 (hP.2.1 a ha).1)⟩
  have keep:∀a∈as,∀o,s.heap.get? a=some o->h'.get? a=some o:=fun a ha o e=>hk' a o (ap a ha).1 (ap a ha).2.1 (ap a ha).2.2.1 (ap a ha).2.2.2.1 e
  refine wpAny_pure (hR h' as c (hk' S _ hS.1 hS.2.2.1 hS.2.2.2.1 hS.2.2.2.2.1 hSo) (by omega) ⟨hP.1,fun a ha=>?_,fun j a e=>?_⟩ fun b o _ b1 b2 b3 b4 e=>hk' b o b1 b2 b3 b4 e)
  ·obtain⟨j,hj,ej⟩:=List.getElem_of_mem ha;obtain⟨x,y,_,_,p⟩:=hP.2.2 j a (by rw[List.getElem?_eq_getElem hj,ej]);exact⟨(hP.2.1 a ha).1,Heap.lt_size (keep a ha _ p)⟩
  ·obtain⟨x,y,p1,p2,p⟩:=hP.2.2 j a e;exact⟨x,y,p1,p2,keep a (List.mem_of_getElem? e) _ p⟩
 | succ k ih=>
  intro i s as c hk hi st hl1 hl2 hlo' hSo hla hP hR;have hlt:i<xs.size:=by omega
  refine codeAny_builtin F.entry_extend_loop ?_;rw[Around.under_plainId F.plain_extend_loop _];show wpAny _ A.in1 (pyNext (.ref z) >>= _) _ _ s;have ex:xs[i]?=some xs[i]:=by simp[hlt]
  have ey:ys[i]?=some (ys[i]'(by omega)):=by simp[<-hlen,hlt]
  refine wpAny_bind (XA D st hl1 hl2 ex ey fun h' st' hp hsz hk'=>?_);have hS':=hk' S _ hS.1 hS.2.2.1 hS.2.2.2.1 hS.2.2.2.2.1 hSo;show wpAny _ A.in1 (updateSeq S (·.push (.ref s.heap.objs.size)) >>= _) _ _ _;refine wpAny_bind ?_;have sz1:(as.map Value.ref).toArray.size=i:=by simp[hla]
  refine wpAny_updateSeq hS' rfl (wpAny_pure ⟨plainId_quiet F.plain_extend_loop _,?_⟩) (by rw[sz1];omega) (by show((as.map Value.ref).toArray.push _).size<=sizeLine+1;rw[Array.size_push,sz1];omega);have oth:∀b o,b≠S->h'.get? b=some o->(h'.update S (Obj.mapSeq (·.push (.ref s.heap.objs.size)))).get? b=some o:=fun b o hb e=>(Heap.get?_update_other _ _ (Ne.symm hb)).trans e
  have hS2:=Heap.get?_update_self (Obj.mapSeq (·.push (.ref s.heap.objs.size))) hS' rfl;have e2:∃c2,(Obj.mapSeq (·.push (.ref s.heap.objs.size)) {cls:=.type "list",dict:=none,data:=.seq (as.map Value.ref).toArray c,slots:=#[]}:Obj)={cls:=.type "list",dict:=none,data:=.seq ((as++[s.heap.objs.size]).map Value.ref).toArray c2,slots:=#[]}:=by
   have e3:(as.map Value.ref).toArray.push (.ref s.heap.objs.size)=((as++[s.heap.objs.size]).map Value.ref).toArray:=by simp
   rw[<-e3];exact⟨_,rfl⟩
  obtain⟨c2,e2⟩:=e2;rw[e2]at hS2;have usz:(h'.update S (Obj.mapSeq (·.push (.ref s.heap.objs.size)))).objs.size=s.heap.objs.size+1:=by rw[<-hsz];exact(Heap.SameBut.update ..).1
  have nS:s.heap.objs.size≠S:=Nat.ne_of_gt (Nat.lt_of_lt_of_le hlo.2.2.2.2 hlo');have ap:∀a∈as,a≠z/\a≠TO/\a≠i1/\a≠i2/\a≠S:=fun a ha=>⟨Nat.ne_of_gt (Nat.lt_of_lt_of_le hlo.1 (hP.2.1 a ha).1),Nat.ne_of_gt (Nat.lt_of_lt_of_le hlo.2.1 (hP.2.1 a ha).1),Nat.ne_of_gt (Nat.lt_of_lt_of_le hlo.2.2.1 (hP.2.1 a ha).1),Nat.ne_of_gt (Nat.lt_of_lt_of_le hlo.2.2.2.1 (hP.2.1 a ha).1),Nat.ne_of_gt (Nat.lt_of_lt_of_le hlo.2.2.2.2 (hP.2.1 a ha).1)⟩
  have low:∀a∈as,a<s.heap.objs.size:=fun a ha=>(hP.2.1 a ha).2
  have keep:∀a∈as,∀o,s.heap.get? a=some o->(h'.update S (Obj.mapSeq (·.push (.ref s.heap.objs.size)))).get? a=some o:=fun a ha o e=>oth a o (ap a ha).2.2.2.2 (hk' a o (ap a ha).1 (ap a ha).2.1 (ap a ha).2.2.1 (ap a ha).2.2.2.1 e)
  refine ih (i+1) _ (as++[s.heap.objs.size]) c2 (by omega) hlt ?_ ?_ ?_ ?_ hS2 (by rw[List.length_append,hla];rfl) ?_ ?_
  ·obtain⟨q1,q2,q3,q4⟩:=st';refine⟨oth _ _ hS.2.1.symm q1,q2.at fun o e=>oth _ _ hS.2.2.2.1.symm e,q3.at fun o e=>oth _ _ hS.2.2.2.2.1.symm e,?_⟩;rcases q4 with⟨z0,_⟩ | ⟨T,f,oT,q5,q6,q7,q8,q9⟩
   ·cases z0
   ·by_cases zS:T=S
    ·subst zS;exact .inr ⟨T,f,_,oth _ _ hS.1.symm q5,hS2,q7,q8,q9⟩
    ·exact .inr ⟨T,f,oT,oth _ _ hS.1.symm q5,oth _ _ zS q6,q7,q8,q9⟩
  ·obtain⟨o,e,r⟩:=hl1;exact⟨o,oth _ _ hS.2.2.2.2.2.1.symm (hk' _ _ D.l1z D.l1TO D.l1i1 D.l1i2 e),r⟩
  ·obtain⟨o,e,r⟩:=hl2;exact⟨o,oth _ _ hS.2.2.2.2.2.2.symm (hk' _ _ D.l2z D.l2TO D.l2i1 D.l2i2 e),r⟩
  ·show lo<=(h'.update S _).objs.size;rw[usz];exact Nat.le_succ_of_le hlo'
  ·refine⟨List.pairwise_append.mpr ⟨hP.1,pairwise_singleton _ _,fun a ha b hb=>by rw[mem_singleton.mp hb];exact low a ha⟩,fun a ha=>?_,fun j a e=>?_⟩
   ·show lo<=a/\a<(h'.update S _).objs.size;rw[usz];rcases mem_append.mp ha with q | q
    ·exact⟨(hP.2.1 a q).1,Nat.lt_succ_of_lt (hP.2.1 a q).2⟩
    ·rw[mem_singleton.mp q];exact⟨hlo',Nat.lt_succ_self _⟩
   ·by_cases hj:j<as.length
    ·rw[List.getElem?_append_left hj]at e;obtain⟨x,y,p1,p2,p⟩:=hP.2.2 j a e;exact⟨x,y,p1,p2,keep a (List.mem_of_getElem? e) _ p⟩
    ·rw[List.getElem?_append_right (by omega)]at e;have hj':j=i:=by
      have:=(List.getElem?_eq_some_iff.mp e).1;simp at this;omega
     rw[hj',hla,Nat.sub_self]at e;have ea:s.heap.objs.size=a:=by simpa using e
     subst ea;subst hj';exact⟨_,_,ex,ey,oth _ _ nS hp⟩
  ·intro h'' as' c' a1 a2 a3 a4;exact hR h'' as' c' a1 a2 a3 fun b o b0 b1 b2 b3 b4 e=>a4 b o b0 b1 b2 b3 b4 (oth b o b0 (hk' b o b1 b2 b3 b4 e))
theorem XB{R:Result->Shared->Prop}{z TI TO i1 i2 l1 l2 S:Addr}{lo c₀:Nat}{xs ys:Array Value}(hh:A.in1.handled=none)(D:ZipApart z TI TO i1 i2 l1 l2)(hS:S≠z/\S≠TI/\S≠TO/\S≠i1/\S≠i2/\S≠l1/\S≠l2)(hlo:z<lo/\TO<lo/\i1<lo/\i2<lo/\S<lo)(hlen:xs.size=ys.size)(hn:xs.size<=sizeLine)(res:Value)
  (st:ZipSt s.heap z TI TO i1 i2 l1 l2 0) (hz:IsZip s.heap z TI TO .none) (hl1:s.heap.IsList l1 xs) (hl2:s.heap.IsList l2 ys) (hlo':lo<=s.heap.objs.size) (hSo:s.heap.get? S=some {cls:=.type "list",data:=.seq #[] c₀})
  (hR:∀h' as' c',h'.get? S=some {cls:=.type "list",dict:=none,data:=.seq (as'.map Value.ref).toArray c',slots:=#[]}->as'.length=xs.size->ZPs h' lo as' xs ys->
   (∀b o,b≠S->b≠z->b≠TO->b≠i1->b≠i2->s.heap.get? b=some o->h'.get? b=some o)->R (.ok (.ret res)) {s with heap:=h'}) :
  wpAny (model prog w) A.in1 (Builtin.List.listExtendWith (.ref S) (.ref z) res)
   (fun fin s'=>match fin with | .done f=>R (.ok f) s' | .again c'=>c'.quiet=true/\codeAny (model prog w) A c' R s') (fun e s'=>R (.error e) s') s:=by
 have hT:s.TypeIs (.ref z) "zip":=⟨_,hz,rfl⟩
 unfold Builtin.List.listExtendWith;refine wpAny_bind (wpAny_typeOf hT ?_);have h1:Builtin.List.listSameRef (.ref S) (.ref z)=false:=by simp[Builtin.List.listSameRef,hS.1]
 have h2:(Value.type "zip"== Value.type "list")=false:=by decide
 have h3:(Value.type "zip"== Value.type "tuple")=false:=by decide
 simp only[h1,h2,h3,Bool.or_false,Bool.false_eq_true,if_false];refine wpAny_bind (wpAny_pyIter_zip hz ?_);refine wpAny_bind (wpAny_holding ?_);unfold Builtin.List.listLengthHint;refine wpAny_bind (wpAny_specialOf hT XC ?_);show wpAny _ A.in1 (specialOf (Value.ref z) (Str.ofString "__length_hint__") >>= _) _ _ _;refine wpAny_bind (wpAny_specialOf hT xv ?_);refine wpAny_pure ?_;show wpAny _ A.in1 (rule "list.extend.makes-room" >>= fun _=>Builtin.List.listTouch (.ref S) >>= fun _=>
  again (.builtin "list.extend.loop" ⟨[.ref S,.ref z,res],[]⟩)) _ _ _
 refine wpAny_bind (wpAny_rule ?_);refine wpAny_bind ?_;show wpAny _ A.in1 (updateSeq S (·.push .none) >>= fun _=>updateSeq S (·.pop)) _ _ _;refine wpAny_bind (wpAny_updateSeq hSo rfl ?_);have hS₂:=Heap.get?_update_self (Obj.mapSeq (·.push Value.none)) hSo rfl;refine wpAny_updateSeq (hz:=by seq_fits) hS₂ rfl ?_;have hS₃:=Heap.get?_update_self (Obj.mapSeq (·.pop)) hS₂ rfl;have oth:∀b o,b≠S->s.heap.get? b=some o->((s.heap.update S (Obj.mapSeq (·.push Value.none))).update S (Obj.mapSeq (·.pop))).get? b=some o:=
  fun b o hb e=>(Heap.get?_update_other _ _ (Ne.symm hb)).trans ((Heap.get?_update_other _ _ (Ne.symm hb)).trans e)
 have usz:((s.heap.update S (Obj.mapSeq (·.push Value.none))).update S (Obj.mapSeq (·.pop))).objs.size=s.heap.objs.size:=by rw[(Heap.SameBut.update ..).1,(Heap.SameBut.update ..).1]
 obtain⟨q1,q2,q3,q4⟩:=st;obtain⟨o1,e1,r1⟩:=hl1;obtain⟨o2,e2,r2⟩:=hl2;have hTO:∃a b,IsPair s.heap TO a b:=by
  rcases q4 with⟨_,_,h⟩ | ⟨T,f,oT,h,_⟩
  ·exact h
  ·have:=hz.symm.trans h;have:=congrArg (fun o=>(o.map fun o:Obj=>o.data)) this;simp[rawInt]at this
 obtain⟨ta,tb,hTO⟩:=hTO;refine wpAny_pure ⟨plainId_quiet F.plain_extend_loop _,j2q hh D hS hlo hlen hn res xs.size 0 _ [] _ rfl (Nat.zero_le _)
  ⟨oth _ _ hS.2.1.symm q1,q2.at fun o e=>oth _ _ hS.2.2.2.1.symm e,q3.at fun o e=>oth _ _ hS.2.2.2.2.1.symm e,.inl ⟨rfl,oth _ _ hS.1.symm hz,ta,tb,oth _ _ hS.2.2.1.symm hTO⟩⟩
  ⟨o1,oth _ _ hS.2.2.2.2.2.1.symm e1,r1⟩ ⟨o2,oth _ _ hS.2.2.2.2.2.2.symm e2,r2⟩ (by show lo<=Array.size _;rw[usz];exact hlo') hS₃ rfl ⟨.nil,(fun a h=>nomatch h),fun j a h=>by simp at h⟩ fun h' as' c' a1 a2 a3 a4=>?_⟩
 exact hR h' as' c' a1 a2 a3 fun b o b0 b1 b2 b3 b4 e=>a4 b o b0 b1 b2 b3 b4 (oth b o b0 e)
theorem Ka{R:Result->Shared->Prop}{z TI TO i1 i2 l1 l2 S:Addr}{lo:Nat}{xs ys:Array Value}(hh:A.in1.handled=none)(D:ZipApart z TI TO i1 i2 l1 l2)(hS:S≠z/\S≠TI/\S≠TO/\S≠i1/\S≠i2/\S≠l1/\S≠l2)(hlo:z<lo/\TO<lo/\i1<lo/\i2<lo/\S<lo)(hlen:xs.size=ys.size)(hn:xs.size<=sizeLine)
  (st:ZipSt s.heap z TI TO i1 i2 l1 l2 0) (hz:IsZip s.heap z TI TO .none) (hl1:s.heap.IsList l1 xs) (hl2:s.heap.IsList l2 ys) (hlo':lo<=s.heap.objs.size) (hSo:s.heap.get? S=some {cls:=.type "list",data:=.seq #[]})
  (hTO:∃a b,IsPair s.heap TO a b)
  (hR:∀h' as' c',h'.get? S=some {cls:=.type "list",dict:=none,data:=.seq (as'.map Value.ref).toArray c',slots:=#[]}->as'.length=xs.size->ZPs h' lo as' xs ys->
   (∀b o,b≠S->b≠z->b≠TO->b≠i1->b≠i2->s.heap.get? b=some o->h'.get? b=some o)->R (.ok (.ret .none)) {s with heap:=h'}) :
  wpAny (model prog w) A.in1 (Builtin.«list.__init__» ⟨[.ref S,.ref z],[]⟩)
   (fun fin s'=>match fin with | .done f=>R (.ok f) s' | .again c'=>c'.quiet=true/\codeAny (model prog w) A c' R s') (fun e s'=>R (.error e) s') s:=by
 show wpAny _ A.in1 (do let old <-Builtin.List.listItems (.ref S);Builtin.List.listUpdate (.ref S) (fun _=>#[]);letGo old.toList.reverse;Builtin.List.listExtendWith (.ref S) (.ref z) .none) _ _ s;refine wpAny_bind ?_;unfold Builtin.List.listItems;refine wpAny_bind (wpAny_seqItems hSo rfl (wpAny_pure ?_));show wpAny _ A.in1 (updateSeq S (fun _=>#[]) >>= fun _=>letGo (#[]:Array Value).toList.reverse >>= fun _=>Builtin.List.listExtendWith (.ref S) (.ref z) .none) _ _ s;refine wpAny_bind (wpAny_updateSeq hSo rfl ?_);have hS₂:=Heap.get?_update_self (Obj.mapSeq (fun _=>(#[]:Array Value))) hSo rfl;have oth:∀b o,b≠S->s.heap.get? b=some o->(s.heap.update S (Obj.mapSeq (fun _=>(#[]:Array Value)))).get? b=some o:=
  fun b o hb e=>(Heap.get?_update_other _ _ (Ne.symm hb)).trans e
 have usz:(s.heap.update S (Obj.mapSeq (fun _=>(#[]:Array Value)))).objs.size=s.heap.objs.size:=(Heap.SameBut.update ..).1;obtain⟨q1,q2,q3,q4⟩:=st;obtain⟨o1,e1,r1⟩:=hl1;obtain⟨o2,e2,r2⟩:=hl2;obtain⟨ta,tb,hTO⟩:=hTO;refine wpAny_bind (wpAny_letGo ?_);refine XB hh D hS hlo hlen hn .none
  ⟨oth _ _ hS.2.1.symm q1,q2.at fun o e=>oth _ _ hS.2.2.2.1.symm e,q3.at fun o e=>oth _ _ hS.2.2.2.2.1.symm e,.inl ⟨rfl,oth _ _ hS.1.symm hz,ta,tb,oth _ _ hS.2.2.1.symm hTO⟩⟩
  (oth _ _ hS.1.symm hz) ⟨o1,oth _ _ hS.2.2.2.2.2.1.symm e1,r1⟩ ⟨o2,oth _ _ hS.2.2.2.2.2.2.symm e2,r2⟩ (by show lo<=Array.size _;rw[usz];exact hlo') hS₂ fun h' as' c' a1 a2 a3 a4=>?_
 exact hR h' as' c' a1 a2 a3 fun b o b0 b1 b2 b3 b4 e=>a4 b o b0 b1 b2 b3 b4 (oth b o b0 e)
theorem kM{z TI TO i1 i2 l1 l2:Addr}{xs ys:Array Value}{Q:Value->Shared->Prop}(hh:A.handled=none)(D:ZipApart z TI TO i1 i2 l1 l2)(hlen:xs.size=ys.size)(hn:xs.size<=sizeLine)
  (hz:IsZip s.heap z TI TO .none) (hTI:IsPair s.heap TI (.ref i1) (.ref i2)) (hTO:∃a b,IsPair s.heap TO a b) (h1:s.heap.IsListIter i1 l1 0) (h2:s.heap.IsListIter i2 l2 0) (hl1:s.heap.IsList l1 xs) (hl2:s.heap.IsList l2 ys)
  (hQ:∀h' as' c',h'.get? s.heap.objs.size=some {cls:=.type "list",dict:=none,data:=.seq (as'.map Value.ref).toArray c',slots:=#[]}->as'.length=xs.size->ZPs h' (s.heap.objs.size+1) as' xs ys->
   (∀b o,b≠z->b≠TO->b≠i1->b≠i2->s.heap.get? b=some o->h'.get? b=some o)->Q (.ref s.heap.objs.size) {s with heap:=h'}) :
  wpAny (model prog w) A (call (.type "list") [.ref z]) Q E s:=by
 have lz:=Heap.lt_size hz;have lTI:=Heap.lt_size hTI;obtain⟨ta,tb,hTO⟩:=hTO;have lTO:=Heap.lt_size hTO;have li1:i1<s.heap.objs.size:=by obtain⟨o,e,_⟩:=id h1;exact Heap.lt_size e
 have li2:i2<s.heap.objs.size:=by obtain⟨o,e,_⟩:=id h2;exact Heap.lt_size e
 have ll1:l1<s.heap.objs.size:=by obtain⟨o,e,_⟩:=id hl1;exact Heap.lt_size e
 have ll2:l2<s.heap.objs.size:=by obtain⟨o,e,_⟩:=id hl2;exact Heap.lt_size e
 refine callType_codes (Q₁:=fun obj s₁=>obj = .ref s.heap.objs.size/\s₁={s with heap:=s.heap.push {cls:=.type "list",data:=.seq #[]}}) F.called_list (F.typeCall_list_1 _) F.entry_list_init
  (code_list_new _ ⟨rfl,rfl⟩) fun obj s₁ h₁=>?_
 obtain⟨rfl,rfl⟩:=h₁;have hS:(s.heap.push {cls:=.type "list",data:=.seq #[]}).get? s.heap.objs.size=some {cls:=.type "list",data:=.seq #[]}:=Heap.get?_push_size _ rfl;refine⟨⟨_,hS,rfl⟩,F.args_list_init_2 _ _,Ka (lo:=s.heap.objs.size+1) (by simp[hh]) D ⟨Nat.ne_of_gt lz,Nat.ne_of_gt lTI,Nat.ne_of_gt lTO,Nat.ne_of_gt li1,Nat.ne_of_gt li2,Nat.ne_of_gt ll1,Nat.ne_of_gt ll2⟩ ⟨Nat.lt_succ_of_lt lz,Nat.lt_succ_of_lt lTO,Nat.lt_succ_of_lt li1,Nat.lt_succ_of_lt li2,Nat.lt_succ_self _⟩ hlen hn
  ⟨Heap.get?_push_of_some _ hTI,h1.at fun o e=>Heap.get?_push_of_some _ e,h2.at fun o e=>Heap.get?_push_of_some _ e,.inl ⟨rfl,Heap.get?_push_of_some _ hz,ta,tb,Heap.get?_push_of_some _ hTO⟩⟩ (Heap.get?_push_of_some _ hz) (hl1.push _) (hl2.push _) (by rw[Heap.size_push];exact Nat.le_refl _) hS ⟨ta,tb,Heap.get?_push_of_some _ hTO⟩ fun h' as' c' a1 a2 a3 a4=>?_⟩
 exact⟨rfl,hQ h' as' c' a1 a2 a3 fun b o b1 b2 b3 b4 e=>a4 b o (Nat.ne_of_lt (Heap.lt_size e)) b1 b2 b3 b4 (Heap.get?_push_of_some _ e)⟩
end
def tLZ(K:Frg)(ta:TA):TE:=fun σ H Q=>ta σ H fun vs H1=>∃a b xs ys,vs=[.ref a,.ref b]/\SqL K H1 a xs/\SqL K H1 b ys/\xs.length=ys.length/\∀(l:Addr) (as:List Addr) (H':Hp),Same H1 H'->H1 l=none->H' l=some (.lst (as.map V.ref))->as.length=xs.length->
 (∀(i:Nat) (c:Addr) (x y:V),as[i]?=some c->xs[i]?=some x->ys[i]?=some y->H' c=some (.tup [x,y]))->Q (.ref l) H'
theorem rd_lz{K:Frg}{ta:TA}{σ:St}{H:Hp}{Q:VK} (h:ta σ H fun vs H1=>∃a b xs ys,vs=[.ref a,.ref b]/\SqL K H1 a xs/\SqL K H1 b ys/\xs.length=ys.length/\∀(l:Addr) (as:List Addr) (H':Hp),Same H1 H'->H1 l=none->H' l=some (.lst (as.map V.ref))->as.length=xs.length->
 (∀(i:Nat) (c:Addr) (x y:V),as[i]?=some c->xs[i]?=some x->ys[i]?=some y->H' c=some (.tup [x,y]))->Q (.ref l) H'):tLZ K ta σ H Q:=h
theorem Xm{X:Cx}{a b:Expr}{ta:TA}{p p' pos pos':Pos}(hc:X.calm=true)(hgl:Gl X "list")(hml:X.mg "list"= none)(hgz:Gl X "zip")(hmz:X.mg "zip"= none)(ha:PA X [a,b] ta)
  (hs0:starEach [.Call (.Name "zip" p') [a,b] [] pos'] X.env=[(false,eval (.Call (.Name "zip" p') [a,b] [] pos') X.env)]:=by rfl)
  (hs:starEach [a,b] X.env=[(false,eval a X.env),(false,eval b X.env)]:=by rfl) (hs2:starEach [b] X.env=[(false,eval b X.env)]:=by rfl) :
  PE X (.Call (.Name "list" p) [.Call (.Name "zip" p') [a,b] [] pos'] [] pos) (tLZ X.K ta):=by
 intro pins s σ H Q I h;refine wpAny_Call_Name_kw (qQ I hgl hml Q2 ?_);refine PyProof.Rows.callWith_type1 ?_ hs0 rfl;rw[hs0];refine Calls.spliced_cons ?_;refine Call_ (qQ I hgz hmz j16 (PyProof.Rows.callWith_type1 (thn (ha pos' pins s σ H _ I h) fun us s1 ⟨vs,H1,I1,r1,q1⟩=>?_) (by rw[hs,hs2]) (by rw[hs2];rfl)));obtain⟨l1,l2,xs,ys,rfl,hq,hr,hlen,q⟩:=q1;cases r1 with
 | cons r rr=>
  cases rr with
  | cons r' rr=>
   cases rr;cases r;cases r';obtain⟨its,rv,pl1,hz1⟩:=I1.list hq;obtain⟨jts,rw',pl2,hz2⟩:=I1.list hr;have lx:=rv.length;have ly:=rw'.length;refine call_zip_2 pl1.isList pl2.isList fun h' a1 a2 a3 a4 a5 a6 hk=>?_
   refine Calls.spliced_nil ?_;have ll1:l1<s1.heap.objs.size:=by obtain⟨o,e,_⟩:=id pl1.isList;exact Heap.lt_size e
   have ll2:l2<s1.heap.objs.size:=by obtain⟨o,e,_⟩:=id pl2.isList;exact Heap.lt_size e
   have up:∀{l k:Nat},l<s1.heap.objs.size->l≠s1.heap.objs.size+k:=fun h=>Nat.ne_of_lt (Nat.lt_of_lt_of_le h (Nat.le_add_right _ _))
   refine kM (s:={s1 with heap:=h'}) (xs:=its.toArray) (ys:=jts.toArray) (I1.ok.hd hc)
    ⟨JI (by decide),JI (by decide),JI (i:=0) (by decide),JI (by decide),JI (by decide),JI (j:=0) (by decide),JI (by decide),JI (j:=0) (by decide),JI (by decide),JI (i:=0) (by decide),up ll1,up ll1,up (k:=0) ll1,up ll1,up ll2,up ll2,up (k:=0) ll2,up ll2⟩
    (by rw[size_toArray,size_toArray];omega) (by rw[size_toArray];omega) a1 a2 ⟨_,_,a3⟩ a4 a5 ?_ ?_ fun h2 as c o2 la zp k2=>?_
   ·obtain⟨o,e,r⟩:=pl1.isList;exact⟨o,hk _ _ e,r⟩
   ·obtain⟨o,e,r⟩:=pl2.isList;exact⟨o,hk _ _ e,r⟩
   have a6:h'.objs.size=s1.heap.objs.size+5:=a6;have o2:h2.get? h'.objs.size=_:=o2;have zp:ZPs h2 (h'.objs.size+1) as its.toArray jts.toArray:=zp;rw[a6]at o2 zp;show EP X pins σ Q (.ref h'.objs.size) _;rw[a6];have la':as.length=its.length:=by rw[size_toArray]at la;exact la
   have k3:∀b o,s1.heap.get? b=some o->h2.get? b=some o:=fun b o e=>k2 b o (up (Heap.lt_size e)) (up (Heap.lt_size e)) (up (k:=0) (Heap.lt_size e)) (up (Heap.lt_size e)) (hk b o e)
   have I2:Inv X pins σ H1 {s1 with heap:=h2}:=I1.kept (t':=s1.toks) k3;have lo:∀c∈as,s1.heap.objs.size<=c:=fun c hc=>Nat.le_trans (Nat.le_add_right _ 6) (zp.2.1 c hc).1
   have ws:∀q∈((s1.heap.objs.size+5,HO.lst (as.map V.ref))::(List.range as.length).map fun i=>(as.getD i 0,HO.tup [xs.getD i .non,ys.getD i .non])),H1 q.1=none/\NewA X pins q.1/\∀H',ObjOk X.prog X.w H' h2 q.1 q.2:=fun q hq=>by
    rcases mem_cons.mp hq with rfl | hq
    ·exact⟨I1.hok.fresh (Nat.le_add_right _ _),I1.newA (Nat.le_add_right _ _),fun H'=>⟨by rw[length_map];omega,as.map Value.ref,c,valsR as,o2⟩⟩
    ·obtain⟨i,hi,rfl⟩:=mem_map.mp hq;have hi:=mem_range.mp hi;have ea:as[i]?=some (as.getD i 0):=by rw[getD_eq_getElem?_getD,List.getElem?_eq_getElem hi];rfl
     have lc:=lo _ (List.mem_of_getElem? ea);obtain⟨u,v,e1,e2,pr⟩:=zp.2.2 i _ ea;have ex:xs[i]?=some (xs.getD i .non):=by rw[getD_eq_getElem?_getD,List.getElem?_eq_getElem (by omega)];rfl
     have ey:ys[i]?=some (ys.getD i .non):=by rw[getD_eq_getElem?_getD,List.getElem?_eq_getElem (by omega)];rfl
     obtain⟨u',eu,ru⟩:=rv.get ex;obtain⟨v',ev,rv'⟩:=rw'.get ey;have:u=u':=by have:=e1.symm.trans (show its.toArray[i]?=some u' by simpa using eu);exact Option.some.inj this
     subst this;have:v=v':=by have:=e2.symm.trans (show jts.toArray[i]?=some v' by simpa using ev);exact Option.some.inj this
     subst this;exact⟨I1.hok.fresh lc,I1.newA lc,fun H'=>⟨(by show 2<=sizeLine;decide),[u,v],.cons ru (.cons rv' .nil),⟨_,pr,rfl,_,rfl⟩⟩⟩
   have nd:(((s1.heap.objs.size+5,HO.lst (as.map V.ref))::(List.range as.length).map fun i=>(as.getD i 0,HO.tup [xs.getD i .non,ys.getD i .non])).map (·.1)).Nodup:=by
    rw[map_cons,nodup_cons,List.map_map];have e2:(List.range as.length).map ((fun x=>x.1)∘fun i=>(as.getD i 0,HO.tup [xs.getD i .non,ys.getD i .non]))=as:=ext_getElem (by simp) fun i h1 h2=>by
     rw[getElem_map,getElem_range];show as.getD i 0=_;rw[getD_eq_getElem?_getD,List.getElem?_eq_getElem h2];rfl
    rw[e2];exact⟨fun h=>absurd (zp.2.1 _ h).1 (Nat.not_succ_le_self _),zp.1.imp fun h=>Nat.ne_of_lt h⟩
   obtain⟨H',I3,s3,k4⟩:=Inv.trackAll _ I2 ws nd;refine⟨.ref (s1.heap.objs.size+5),H',I3,rfl,q _ as H' s3 (I1.hok.fresh (Nat.le_add_right _ _)) (k4 _ mem_cons_self) (by omega) fun i c x y e1 e2 e3=>?_⟩;have hi:=(List.getElem?_eq_some_iff.mp e1).1;have:=k4 (as.getD i 0,HO.tup [xs.getD i .non,ys.getD i .non]) (mem_cons_of_mem _ (mem_map.mpr ⟨i,mem_range.mpr hi,rfl⟩));rw[getD_eq_getElem?_getD,getD_eq_getElem?_getD,getD_eq_getElem?_getD,e1,e2,e3]at this;exact this
def Itd(lo:Int)(n:Nat):It:=⟨fun i _=>i<n,fun i H x H'=>H'=H/\x = .int (lo-i),fun i _=>n<=i⟩
theorem xq{P:Program}{w:World}{K:Frg}{tg:Expr}(it:Addr)(lo:Int)(n:Nat):Turn P w K tg (Itd lo n) [it] it (fun i h=>IsRangeIter h it (lo+(i:Nat)*(-1)) ((n:Int)-(i:Nat)) (-1)) where
 mem:=by simp
 obj:=fun i h st b hb=>by
  have e:b=it:=by simpa using hb
  subst e;exact⟨_,st,fun v z=>by
   have z':Data.fields _=Data.cell v:=z;cases z'⟩
 keep:=fun i h h' st k=>k it (by simp) _ st
 item:=by
  intro X hP hw hK hc i pins s σ H E I hf st hg;subst hP hw hK;obtain⟨f0,f1,f2,f3,f4,f5⟩:=hf it (by simp);have W:=Walks.range (prog:=X.prog) (w:=X.w) (I.ok.hd hc) it lo (-1) n;refine W.item i s _ _ hg st fun v h' tk hv st' kk=>?_
  obtain⟨t,rfl⟩:=hv;have I1:Inv X pins σ H {s with heap:=h',toks:=tk}:=I.turned (fun b o hb e=>kk b o (by simpa using hb) e) f0 f1 f3 f4 f5;refine⟨_,rfl,XW (s:={s with heap:=h',toks:=tk}) (n:="range_iterator") st' rfl rfl (by decide) ⟨.int (lo-i),H,I1,⟨t,?_⟩,⟨rfl,rfl⟩,st',fun b hb=>(hf b hb).1⟩⟩;rw[show lo+(i:Int)*(-1)=lo-i by omega]
 done:=by
  intro X hP hw hK hc i pins s σ H E I hf st hg;subst hP hw hK;obtain⟨f0,f1,f2,f3,f4,f5⟩:=hf it (by simp);exact wpAny_pyNext_range_end (I.ok.hd hc) st (by have:n<=i:=hg;omega) fun h' eb=>⟨rfl,I.turned (t':=s.toks) (fun b o hb e=>eb b o hb e) f0 f1 f3 f4 f5⟩
 self:=fun _ _ _ _ _ st h=>wpAny_pyIter_rangeiter st h
section
variable{X:Cx}{tg:Expr}
theorem ZG(a b:Int):Builtin.Range.rangeSize a b (-1)=if b<a then a-b else 0:=by
 unfold Builtin.Range.rangeSize;simp only[show¬((-1:Int)>0) by decide,if_false,show(- -1:Int)=1 by decide,Int.ediv_one];split<;>omega
theorem j0O{a b:Int}(h1 : -(2^61)<=a)(h2:a<2^61)(h3 : -(2^61)<=b)(h4:b<2^61):Builtin.Range.small a b (-1)=true:=by
 have f:∀x:Int,-(2^62)<=x->x<2^62->Builtin.Range.rangeFitsLong x=true:=fun x h1 h2=>by
  unfold Builtin.Range.rangeFitsLong;simp;omega
 unfold Builtin.Range.small;rw[ZG];have g : -(2^62)<=(if b<a then a-b else 0)/\(if b<a then a-b else 0)<2^62:=by split<;>omega
 rw[f a (by omega) (by omega),f b (by omega) (by omega),f (-1) (by decide) (by decide),f _ g.1 g.2,if_neg (show¬((-1:Int)>0) by decide),f (b+(-1+1)) (by omega) (by omega)];simp
theorem j0K{pins:List (Addr×Obj)}{σ:St}{H:Hp}{s:Shared}{R:It->Hp->Prop}{E:Value->Shared->Prop}{lo hi:Int}{t u v:Tok}{tk:Nat}(I:Inv X pins σ H s)(h1 : -(2^61)<=lo)(h2:lo<2^61)(h3 : -(2^61)<=hi)(h4:hi<2^61)
  (q:R (Itd lo (lo-hi).toNat) H):wpAny (model X.prog X.w) X.A (pyIter (.ref s.heap.objs.size)) (PIE X pins σ tg R) E {s with heap:=s.heap.push {cls:=.type "range",data:=.fields #[.int lo t,.int hi u,.int (-1) v]},toks:=tk}:=by
 refine wpAny_pyIter_range (IsRange.new ..) (j0O h1 h2 h3 h4) ?_;have I1:Inv X pins σ H {s with heap:=s.heap.push {cls:=.type "range",data:=.fields #[.int lo t,.int hi u,.int (-1) v]},toks:=tk}:=I.kept fun b o e=>Heap.get?_push_of_some _ e
 refine⟨(s.heap.push {cls:=.type "range",data:=.fields #[.int lo t,.int hi u,.int (-1) v]}).objs.size,[(s.heap.push {cls:=.type "range",data:=.fields #[.int lo t,.int hi u,.int (-1) v]}).objs.size],_,_,H,rfl,
  I1.kept (t':=tk) fun b o e=>Heap.get?_push_of_some _ e,xq _ lo (lo-hi).toNat,?_,fun b hb=>?_,q⟩
 ·have e1:lo+((0:Nat):Int)*(-1)=lo:=by simp
  have e2:(((lo-hi).toNat:Nat):Int)-((0:Nat):Int)=Builtin.Range.rangeSize lo hi (-1):=by rw[ZG];split<;>omega
  show IsRangeIter _ _ (lo+((0:Nat):Int)*(-1)) ((((lo-hi).toNat:Nat):Int)-((0:Nat):Int)) (-1);rw[e1,e2];exact Heap.get?_push_size _ rfl
 ·have e:b=(s.heap.push {cls:=.type "range",data:=.fields #[.int lo t,.int hi u,.int (-1) v]}).objs.size:=by simpa using hb
  subst e;exact I1.fpOk (Nat.le_refl _) (I1.hok.fresh (Nat.le_refl _))
def iRngD(ta:TA):TI:=fun σ H R=>ta σ H fun vs H1=>∃i j:Int,vs=[.int i,.int j,.int (-1)]/\(-(2^61)<=i/\i<2^61/\-(2^61)<=j/\j<2^61)/\R (Itd i (i-j).toNat) H1
theorem j0G{a b c:Expr}{ta:TA}{p pos:Pos}(hg:Gl X "range")(hm:X.mg "range"= none)(ha:PA X [a,b,c] ta)(hs:starEach [a,b,c] X.env=(false,eval a X.env)::starEach [b,c] X.env:=by rfl)(hs2:(backTo pos (starEach [b,c] X.env)).any (·.1)=false:=by rfl) :
  PI X tg (.Call (.Name "range" p) [a,b,c] [] pos) (iRngD ta):=by
 intro pins s σ H R I h;refine Call_ (qQ I hg hm boot_range (PyProof.Rows.callWith_type1 (thn (ha pos pins s σ H _ I h) fun us s1 ⟨vs,H1,I1,r1,q1⟩=>?_) hs hs2));obtain⟨i,j,e,⟨q1,q2,q3,q4⟩,q⟩:=q1;subst e;cases r1 with
 | cons r rr=>
  cases rr with
  | cons r' rr=>
   cases rr with
   | cons r'' rr=>
    cases rr;obtain⟨t,rfl⟩:=r;obtain⟨t',rfl⟩:=r';obtain⟨t'',rfl⟩:=r'';exact call_range_3 (by decide) (j0K I1 q1 q2 q3 q4 q) (.inl (PyProof.noPylong_small (by omega)))
end
theorem rd_rngD{ta:TA}{σ:St}{H:Hp}{R:It->Hp->Prop}(h:ta σ H fun vs H1=>∃i j:Int,vs=[.int i,.int j,.int (-1)]/\(-(2^61)<=i/\i<2^61/\-(2^61)<=j/\j<2^61)/\R (Itd i (i-j).toNat) H1):iRngD ta σ H R:=h
theorem j1e{lo:Int}{n:Nat}{g:TG}{tb:TS}{D:Ends}{σ:St}{H:Hp}(Pv:Nat->St->Hp->Prop)(h0:Pv 0 σ H)(hs:∀i σ H,i<n->Pv i σ H->g (.int (lo-i)) σ H fun σ2 H2=>tb {D with nx:=Pv (i+1),ct:=Pv (i+1),bk:=D.nx} σ2 H2)(hd:∀σ H,Pv n σ H->D.nx σ H) :
  ∃W:Nat->Nat->St->Hp->Prop,(∃m,W 0 m σ H)/\∀i m σ H,W i m σ H->
   ((Itd lo n).stop i H/\D.nx σ H)\/((Itd lo n).go i H/\∃N:St->Hp->Prop,(∀σ' H',N σ' H'->∃m',m'<m/\W (i+1) m' σ' H')/\∀x H',(Itd lo n).yld i H x H'->g x σ H' fun σ2 H2=>tb {D with nx:=N,ct:=N,bk:=D.nx} σ2 H2):=by
 refine⟨fun i m σ H=>m=n-i/\i<=n/\Pv i σ H,⟨n,by simp,Nat.zero_le _,h0⟩,?_⟩;rintro i m σ H ⟨rfl,hi,p⟩;by_cases hlt:i<n
 ·refine .inr ⟨hlt,Pv (i+1),fun σ' H' p'=>⟨n-(i+1),by omega,rfl,hlt,p'⟩,fun x H' y=>?_⟩;obtain⟨e,y⟩:=y;subst e y;exact hs i σ _ hlt p
 ·have e:i=n:=by omega
  subst e;exact .inl ⟨Nat.le_refl _,hd σ H p⟩
section
variable{X:Cx}
theorem j0x:MtR X "list.index" (fun x vs H Q=>∃(p:Addr) (xs:List V) (y z:V) (j:Nat),x = .ref p/\vs=[y]/\SqL X.K H p xs/\flatV y=true/\xs.all flatV=true/\xs[j]?=some z/\eqV z y=true/\(∀(m:Nat) (z':V),m<j->xs[m]?=some z'->eqV z' y=false)/\Q (.int j) H):=by
 intro pins s σ H x vs v us Q I rx rv h;obtain⟨p,xs,y,z,j,rfl,rfl,hx,fy,fx,hj,ez,hno,q⟩:=h;cases rx;obtain⟨u,rfl,ru⟩:=vals1 rv;obtain⟨its,r,pl,hz⟩:=I.list hx;have lx:=r.length;have jl:=(List.getElem?_eq_some_iff.mp hj).1;obtain⟨w',hw,rw'⟩:=r.get hj;have fz:flatV z=true:=all_eq_true.mp fx z (List.mem_of_getElem? hj);obtain⟨⟨cls,dd,data,sl⟩,ho,hc,n,hd⟩:=id pl.isList;simp only at hc hd;subst hc hd;have hj':j<its.toArray.size:=by rw[size_toArray];omega
 have sl62:sizeLine<2^62:=by decide
 have j62:(j:Int)<2^63-1:=by omega
 refine call_meets F.slot_list_index pl.isList.typeIs F.entry_list_index (F.args_list_index_2 _ _) (SeqAt.list_indexAt p its.toArray n dd sl u (eqU y) j hj' j62 ?_ ?_) ⟨ho,fun y' hy'=>zm ru fy r fx y' (by simpa using hy'),⟨.int j,H,I.tok _,⟨_,rfl⟩,q⟩⟩
 ·have e:its.toArray[j]=w':=by
   have:=List.getElem?_eq_some_iff.mp hw;obtain⟨h,e⟩:=this;simpa using e
  rw[e,wk rw' fz];exact ez
 ·intro m hm hmj;have hm':m<its.length:=by rw[size_toArray]at hm;exact hm
  obtain⟨z',hz'⟩:∃z',xs[m]?=some z':=⟨_,List.getElem?_eq_getElem (by omega)⟩
  obtain⟨w2,hw2,rw2⟩:=r.get hz';have e:its.toArray[m]=w2:=by
   obtain⟨h,e⟩:=List.getElem?_eq_some_iff.mp hw2;simpa using e
  rw[e,wk rw2 (all_eq_true.mp fx z' (List.mem_of_getElem? hz'))];exact hno m z' hmj hz'
end
section
variable{prog:Program}{w:World}{A:Around}{E:Value->Shared->Prop}{s:Shared}
theorem Y3{it t:Addr}{items:Array Value}(hne:t≠it):∀(n i:Nat) (s:Shared) (Q:List Value->Shared->Prop),s.heap.IsListIter it t i->s.heap.IsList t items->i+n<=items.size->
  (∀h',h'.IsListIter it t (i+n)->Heap.SameBut it s.heap h'->Q ((items.toList.drop i).take n) {s with heap:=h'})->wpAny (model prog w) A (draw (.ref it) n) Q E s
 | 0,i,s,Q,hit,_,_,hQ=>by
  show wpAny _ _ (pure []) Q E s;exact wpAny_pure (by simpa using hQ s.heap hit (Heap.SameBut.refl ..))
 | n+1,i,s,Q,hit,ht,hle,hQ=>by
  have hlt:i<items.size:=by omega
  show wpAny _ _ (pyNext (.ref it) >>= _) Q E s;refine wpAny_bind (wpAny_pyNext_list_item hit ht (x:=items[i]) (by simp[hlt]) fun h₁ hit₁ hs₁=>?_);refine wpAny_bind (wpAny_holding (Y3 hne n (i+1) _ _ hit₁ (ht.extBut hs₁.extBut hne) (by omega) fun h₂ hit₂ hs₂=>wpAny_pure ?_));have hd:items.toList.drop i=items[i]::items.toList.drop (i+1):=by simp[List.drop_eq_getElem_cons,hlt]
  have:=hQ h₂ (by rw[show i+(n+1)=i+1+n by omega];exact hit₂) (hs₁.trans hs₂);rw[hd,List.take_succ_cons]at this;exact this
theorem yC{t:Addr}{items:Array Value}{Q:List Value->Shared->Prop}(hh:A.handled=none)(ht:s.heap.IsList t items)
  (hQ:∀h',Heap.ExtBut s.heap.objs.size s.heap h'->Q items.toList {s with heap:=h'}):wpAny (model prog w) A (unpackItems (.ref t) items.size none) Q E s:=by
 have hlt:t≠s.heap.objs.size:=by obtain⟨o,ho,_⟩:=ht;exact Nat.ne_of_lt (Heap.lt_size ho)
 unfold unpackItems;refine wpAny_bind ?_
 ·unfold notIterableAtAll;refine wpAny_bind (wpAny_specialOf ht.typeIs slot_list_iter.lookup ?_);refine wpAny_pure ?_;simp only[Bool.false_eq_true,if_false];refine wpAny_bind (wpAny_holding (wpAny_pyIter_list ht ?_));refine wpAny_bind (wpAny_holding (Y3 hlt items.size 0 _ _ ⟨_,Heap.get?_push_size _ rfl,rfl,rfl⟩ (ht.push _) (by omega) fun h₁ hit₁ hs₁=>?_));have hall:List.take items.size (List.drop 0 items.toList)=items.toList:=by
   rw[List.drop_zero];exact take_of_length_le (by simp)
  rw[hall];rw[if_neg (by simp)];have ht₁:h₁.IsList t items:=(ht.push _).extBut hs₁.extBut hlt;refine wpAny_bind (wpAny_holding (wpAny_pyNext_list_end hh hit₁ ht₁ (by simp) fun h₂ he₂=>?_));simp only[Option.isSome_none,Bool.false_eq_true,if_false];refine wpAny_pure (hQ h₂ fun b o hb e=>he₂ b o hb (hs₁.extBut b o hb (Heap.get?_push_of_some _ e)))
theorem ZL{env:Env}{elts:List Expr}{x1}{pos:Pos}{t:Addr}{items:Array Value}{Q:Unit->Shared->Prop}(hh:A.handled=none)(ht:s.heap.IsList t items)
  (hn:(assignEach elts env).length=items.size) (hstar:(assignEach elts env).findIdx? (·.1)=none)
  (h:∀h',Heap.ExtBut s.heap.objs.size s.heap h'->wpAny (model prog w) A (assignInOrder ((assignEach elts env).map (·.2)) items.toList) Q E {s with heap:=h'}) :
  wpAny (model prog w) A (assign (.Tuple elts x1 pos) env (.ref t)) Q E s:=by
 rw[assign_Tuple];refine wpAny_bind (wpAny_standAt ?_);unfold unpack;rw[hn,hstar];exact wpAny_bind (wpAny_holding (yC hh ht h))
end
section
variable{X:Cx}{pos:Pos}
def gTupL(K:Frg)(n:Nat)(t:TGs):TG:=fun v σ H Q=>∃a xs,v = .ref a/\SqL K H a xs/\xs.length=n/\t xs σ H Q
theorem j36{es:List Expr}{k:Nat}{t:TGs}{n:Nat}(hc:X.calm=true)(h:PGs X es t)
  (hn:(assignEach es X.env).length=n:=by rfl) (hst:(assignEach es X.env).findIdx? (·.1)=none:=by rfl):PG X (.Tuple es k pos) (gTupL X.K n t):=by
 intro pins s σ H v u Q I r hw;obtain⟨a,xs,e1,hq,hl,hw⟩:=hw;subst e1;cases r;obtain⟨its,rv,ht,hz⟩:=I.list hq;refine ZL (I.ok.hd hc) ht.isList (by simp[hn,<-hl,rv.length]) hst fun h' hx=>?_
 have I1:Inv X pins σ H {s with heap:=h'}:=I.kept (t':=s.toks) fun b o e=>hx b o (Nat.ne_of_lt (Heap.lt_size e)) e
 exact h pins _ σ H xs _ Q I1 (by simpa using rv) hw
end
theorem j47{K:Frg}{i j k l:Nat}{a:Addr}{x y z w:V}{σ:St}{H:Hp}{R:St->Hp->Prop}(e:SqL K H a [x,y,z,w])(h:gName i x σ H fun σ' H'=>gName j y σ' H' fun σ' H'=>gName k z σ' H' fun σ' H'=>gName l w σ' H' R):gTupL K 4 (gCons (gName i) (gCons (gName j) (gCons (gName k) (gCons (gName l) gNil)))) (.ref a) σ H R:=
 ⟨a,[x,y,z,w],rfl,e,rfl,x,[y,z,w],rfl,y,[z,w],rfl,z,[w],rfl,w,[],rfl,rfl,h⟩
section
variable{σ:St}{H:Hp}{D:Ends}{Q:VK}{ta tb te:TE}
theorem rd_seq{t u:TS}(h:t {D with nx:=u D} σ H):tSeq t u D σ H:=h
theorem rd_asg{g:TG}(h:te σ H fun x H1=>g x σ H1 D.nx):tAsg te g D σ H:=h
theorem rd_v0{v:V}{r:St}(h:Q v H):tVar 0 (some v::r) H Q:=⟨v,rfl,h⟩
theorem rd_n0{a0:Option V}{v:V}{r:St}{R:St->Hp->Prop}(h:R (some v::r) H):gName 0 v (a0::r) H R:=h
theorem rd_v1{a0:Option V}{v:V}{r:St}(h:Q v H):tVar 1 (a0::some v::r) H Q:=⟨v,rfl,h⟩
theorem rd_n1{a0 a1:Option V}{v:V}{r:St}{R:St->Hp->Prop}(h:R (a0::some v::r) H):gName 1 v (a0::a1::r) H R:=h
theorem rd_v2{a0 a1:Option V}{v:V}{r:St}(h:Q v H):tVar 2 (a0::a1::some v::r) H Q:=⟨v,rfl,h⟩
theorem rd_n2{a0 a1 a2:Option V}{v:V}{r:St}{R:St->Hp->Prop}(h:R (a0::a1::some v::r) H):gName 2 v (a0::a1::a2::r) H R:=h
theorem rd_v3{a0 a1 a2:Option V}{v:V}{r:St}(h:Q v H):tVar 3 (a0::a1::a2::some v::r) H Q:=⟨v,rfl,h⟩
theorem rd_n3{a0 a1 a2 a3:Option V}{v:V}{r:St}{R:St->Hp->Prop}(h:R (a0::a1::a2::some v::r) H):gName 3 v (a0::a1::a2::a3::r) H R:=h
theorem rd_v4{a0 a1 a2 a3:Option V}{v:V}{r:St}(h:Q v H):tVar 4 (a0::a1::a2::a3::some v::r) H Q:=⟨v,rfl,h⟩
theorem rd_n4{a0 a1 a2 a3 a4:Option V}{v:V}{r:St}{R:St->Hp->Prop}(h:R (a0::a1::a2::a3::some v::r) H):gName 4 v (a0::a1::a2::a3::a4::r) H R:=h
theorem rd_v5{a0 a1 a2 a3 a4:Option V}{v:V}{r:St}(h:Q v H):tVar 5 (a0::a1::a2::a3::a4::some v::r) H Q:=⟨v,rfl,h⟩
theorem rd_n5{a0 a1 a2 a3 a4 a5:Option V}{v:V}{r:St}{R:St->Hp->Prop}(h:R (a0::a1::a2::a3::a4::some v::r) H):gName 5 v (a0::a1::a2::a3::a4::a5::r) H R:=h
theorem rd_v6{a0 a1 a2 a3 a4 a5:Option V}{v:V}{r:St}(h:Q v H):tVar 6 (a0::a1::a2::a3::a4::a5::some v::r) H Q:=⟨v,rfl,h⟩
theorem rd_n6{a0 a1 a2 a3 a4 a5 a6:Option V}{v:V}{r:St}{R:St->Hp->Prop}(h:R (a0::a1::a2::a3::a4::a5::some v::r) H):gName 6 v (a0::a1::a2::a3::a4::a5::a6::r) H R:=h
theorem rd_v7{a0 a1 a2 a3 a4 a5 a6:Option V}{v:V}{r:St}(h:Q v H):tVar 7 (a0::a1::a2::a3::a4::a5::a6::some v::r) H Q:=⟨v,rfl,h⟩
theorem rd_n7{a0 a1 a2 a3 a4 a5 a6 a7:Option V}{v:V}{r:St}{R:St->Hp->Prop}(h:R (a0::a1::a2::a3::a4::a5::a6::some v::r) H):gName 7 v (a0::a1::a2::a3::a4::a5::a6::a7::r) H R:=h
theorem rd_v8{a0 a1 a2 a3 a4 a5 a6 a7:Option V}{v:V}{r:St}(h:Q v H):tVar 8 (a0::a1::a2::a3::a4::a5::a6::a7::some v::r) H Q:=⟨v,rfl,h⟩
theorem rd_n8{a0 a1 a2 a3 a4 a5 a6 a7 a8:Option V}{v:V}{r:St}{R:St->Hp->Prop}(h:R (a0::a1::a2::a3::a4::a5::a6::a7::some v::r) H):gName 8 v (a0::a1::a2::a3::a4::a5::a6::a7::a8::r) H R:=h
theorem rd_v9{a0 a1 a2 a3 a4 a5 a6 a7 a8:Option V}{v:V}{r:St}(h:Q v H):tVar 9 (a0::a1::a2::a3::a4::a5::a6::a7::a8::some v::r) H Q:=⟨v,rfl,h⟩
theorem rd_n9{a0 a1 a2 a3 a4 a5 a6 a7 a8 a9:Option V}{v:V}{r:St}{R:St->Hp->Prop}(h:R (a0::a1::a2::a3::a4::a5::a6::a7::a8::some v::r) H):gName 9 v (a0::a1::a2::a3::a4::a5::a6::a7::a8::a9::r) H R:=h
theorem rd_v10{a0 a1 a2 a3 a4 a5 a6 a7 a8 a9:Option V}{v:V}{r:St}(h:Q v H):tVar 10 (a0::a1::a2::a3::a4::a5::a6::a7::a8::a9::some v::r) H Q:=⟨v,rfl,h⟩
theorem rd_n10{a0 a1 a2 a3 a4 a5 a6 a7 a8 a9 a10:Option V}{v:V}{r:St}{R:St->Hp->Prop}(h:R (a0::a1::a2::a3::a4::a5::a6::a7::a8::a9::some v::r) H):gName 10 v (a0::a1::a2::a3::a4::a5::a6::a7::a8::a9::a10::r) H R:=h
theorem rd_v11{a0 a1 a2 a3 a4 a5 a6 a7 a8 a9 a10:Option V}{v:V}{r:St}(h:Q v H):tVar 11 (a0::a1::a2::a3::a4::a5::a6::a7::a8::a9::a10::some v::r) H Q:=⟨v,rfl,h⟩
theorem rd_n11{a0 a1 a2 a3 a4 a5 a6 a7 a8 a9 a10 a11:Option V}{v:V}{r:St}{R:St->Hp->Prop}(h:R (a0::a1::a2::a3::a4::a5::a6::a7::a8::a9::a10::some v::r) H):gName 11 v (a0::a1::a2::a3::a4::a5::a6::a7::a8::a9::a10::a11::r) H R:=h
theorem rd_v12{a0 a1 a2 a3 a4 a5 a6 a7 a8 a9 a10 a11:Option V}{v:V}{r:St}(h:Q v H):tVar 12 (a0::a1::a2::a3::a4::a5::a6::a7::a8::a9::a10::a11::some v::r) H Q:=⟨v,rfl,h⟩
theorem rd_n12{a0 a1 a2 a3 a4 a5 a6 a7 a8 a9 a10 a11 a12:Option V}{v:V}{r:St}{R:St->Hp->Prop}(h:R (a0::a1::a2::a3::a4::a5::a6::a7::a8::a9::a10::a11::some v::r) H):gName 12 v (a0::a1::a2::a3::a4::a5::a6::a7::a8::a9::a10::a11::a12::r) H R:=h
theorem rd_v13{a0 a1 a2 a3 a4 a5 a6 a7 a8 a9 a10 a11 a12:Option V}{v:V}{r:St}(h:Q v H):tVar 13 (a0::a1::a2::a3::a4::a5::a6::a7::a8::a9::a10::a11::a12::some v::r) H Q:=⟨v,rfl,h⟩
theorem rd_n13{a0 a1 a2 a3 a4 a5 a6 a7 a8 a9 a10 a11 a12 a13:Option V}{v:V}{r:St}{R:St->Hp->Prop}(h:R (a0::a1::a2::a3::a4::a5::a6::a7::a8::a9::a10::a11::a12::some v::r) H):gName 13 v (a0::a1::a2::a3::a4::a5::a6::a7::a8::a9::a10::a11::a12::a13::r) H R:=h
theorem rd_v14{a0 a1 a2 a3 a4 a5 a6 a7 a8 a9 a10 a11 a12 a13:Option V}{v:V}{r:St}(h:Q v H):tVar 14 (a0::a1::a2::a3::a4::a5::a6::a7::a8::a9::a10::a11::a12::a13::some v::r) H Q:=⟨v,rfl,h⟩
theorem rd_n14{a0 a1 a2 a3 a4 a5 a6 a7 a8 a9 a10 a11 a12 a13 a14:Option V}{v:V}{r:St}{R:St->Hp->Prop}(h:R (a0::a1::a2::a3::a4::a5::a6::a7::a8::a9::a10::a11::a12::a13::some v::r) H):gName 14 v (a0::a1::a2::a3::a4::a5::a6::a7::a8::a9::a10::a11::a12::a13::a14::r) H R:=h
theorem rd_const{v:V}(h:Q v H):tC v σ H Q:=h
theorem rd_op{r:R2}(h:ta σ H fun x H1=>tb σ H1 fun y H2=>r x y H2 Q):tOp r ta tb σ H Q:=h
theorem rd_un{r:V->Hp->VK->Prop}(h:ta σ H fun x H1=>r x H1 Q):tUn r ta σ H Q:=h
theorem rd_i0{g:Int->Int->V}{i j:Int}(h:Q (g i j) H):rI0 g (.int i) (.int j) H Q:=⟨i,j,rfl,rfl,h⟩
theorem j4u{C:Int->Int->Prop}{g:Int->Int->V}{i j:Int}(c:C i j)(h:Q (g i j) H):rI C g (.int i) (.int j) H Q:=⟨i,j,rfl,rfl,c,h⟩
theorem rd_u{g:Int->V}{i:Int}(h:Q (g i) H):rU g (.int i) H Q:=⟨i,rfl,h⟩
theorem rd_eqI{i j:Int}(h:Q (.bl (decide (i=j))) H):rEq (.int i) (.int j) H Q:=by
 refine⟨rfl,?_⟩;rw[show decide (V.int i=V.int j)=decide (i=j) by simp];exact h
theorem rd_neI{i j:Int}(h:Q (.bl (!decide (i=j))) H):rNe (.int i) (.int j) H Q:=by
 refine⟨rfl,?_⟩;rw[show decide (V.int i=V.int j)=decide (i=j) by simp];exact h
theorem rd_eqS{i j:Str}(h:Q (.bl (decide (i=j))) H):rEq (.str i) (.str j) H Q:=by
 refine⟨rfl,?_⟩;rw[show decide (V.str i=V.str j)=decide (i=j) by simp];exact h
theorem rd_neS{i j:Str}(h:Q (.bl (!decide (i=j))) H):rNe (.str i) (.str j) H Q:=by
 refine⟨rfl,?_⟩;rw[show decide (V.str i=V.str j)=decide (i=j) by simp];exact h
theorem rd_if{c:TT}{t u:TS}(h:c σ H fun b H1=>if b=true then t D σ H1 else u D σ H1):tIfS c t u D σ H:=h
theorem rd_test{R:Bool->Hp->Prop}(h:te σ H fun x H'=>∃k,x = .bl k/\R k H'):tTest te σ H R:=h
theorem rd_tB{R:Bool->Hp->Prop}(h:te σ H fun x H'=>∃k,x = .bl k/\R k H'):tB te σ H R:=h
theorem rd_blP{k:Bool}{R:Bool->Prop}(h:R k):∃k',V.bl k = .bl k'/\R k':=⟨k,rfl,h⟩
theorem rd_not{t:TT}{R:Bool->Hp->Prop}(h:t σ H fun c H1=>R (!c) H1):tNot t σ H R:=h
theorem rd_and{t u:TT}{R:Bool->Hp->Prop}(h:t σ H fun c H1=>if c=true then u σ H1 R else R false H1):tAnd t u σ H R:=h
theorem rd_or{t u:TT}{R:Bool->Hp->Prop}(h:t σ H fun c H1=>if c=true then R true H1 else u σ H1 R):tOr t u σ H R:=h
theorem rd_andV(h:ta σ H fun x H1=>∃c,x = .bl c/\if c=true then tb σ H1 Q else Q (.bl false) H1):tAndV ta tb σ H Q:=h
theorem rd_ifE{t:TT}(h:t σ H fun c H1=>if c=true then ta σ H1 Q else tb σ H1 Q):tIf t ta tb σ H Q:=h
theorem rd_ret(h:te σ H D.rt):tRet te D σ H:=h
theorem rd_next(h:D.nx σ H):tNext D σ H:=h
theorem rd_drop(h:te σ H fun _ H1=>D.nx σ H1):tDrop te D σ H:=h
theorem rd_cb{r:List V->Hp->VK->Prop}{t:TA}(h:t σ H fun vs H1=>r vs H1 Q):tCB r t σ H Q:=h
theorem rd_call{sp:Sp}{dvs:List V}{E:XK}{t:TA}(h:t σ H fun vs H1=>sp (vs++dvs) H1 Q E):tCall sp dvs E t σ H Q:=h
theorem rd_fld{K:Frg}{f:Str}(h:ta σ H fun x H1=>∃a C dx fs v,x = .ref a/\H1 a=some (.ins C dx fs)/\Cls K C/\NoAttr K C f/\fs.lookup f=some v/\Q v H1):tFld K ta f σ H Q:=h
theorem rd_sfld{K:Frg}{f:Str}(h:tb σ H fun y H1=>ta σ H1 fun x H2=>∃a C dx fs,x = .ref a/\H2 a=some (.ins C dx fs)/\Cls K C/\NoAttr K C f/\fs.length<1000/\D.nx σ (upd H2 a (.ins C dx (putF f y fs)))):sFld K ta tb f D σ H:=h
theorem rd_meth{C:Addr}{m:Str}{sp:Sp}{dvs:List V}{E:XK}{t:TA}(h:ta σ H fun x H1=>∃a dx fs,x = .ref a/\H1 a=some (.ins C dx fs)/\fs.lookup m=none/\t σ H1 fun vs H2=>sp (x::(vs++dvs)) H2 Q E):tMeth C m sp dvs E ta t σ H Q:=h
theorem rd_make{C:Addr}{sp:Sp}{dvs:List V}{E:XK}{t:TA}(h:t σ H fun vs H1=>∀x dx,H1 x=none->H1 dx=none->dx≠x->sp (.ref x::(vs++dvs)) (upd (upd H1 dx (.own x)) x (.ins C dx [])) (fun v H2=>v = .non/\Q (.ref x) H2) E):tMake C sp dvs E t σ H Q:=h
theorem rd_nil{R:List V->Hp->Prop}(h:R [] H):tNil σ H R:=h
theorem rd_cons{tr:TA}{R:List V->Hp->Prop}(h:ta σ H fun x H1=>tr σ H1 fun xs H2=>R (x::xs) H2):tCons ta tr σ H R:=h
theorem rd_lst{t:TA}(h:t σ H fun xs H1=>xs.length<=sizeLine/\∀p,H1 p=none->Q (.ref p) (upd H1 p (.lst xs))):tLst t σ H Q:=h
theorem rd_tup{t:TA}(h:t σ H fun xs H1=>xs.length<=sizeLine/\∀p,H1 p=none->Q (.ref p) (upd H1 p (.tup xs))):tTup t σ H Q:=h
theorem rd_chain{r r':R2}{tc:TE}(h:ta σ H fun x H1=>tb σ H1 fun y H2=>r x y H2 fun z H3=>∃k,z = .bl k/\(if k=true then tc σ H3 fun w' H4=>r' y w' H4 Q else Q (.bl false) H3)):tChain r r' ta tb tc σ H Q:=h
theorem rd_bm{K:Frg}{T:String}{r:V->List V->Hp->VK->Prop}{t:TA}(h:te σ H fun x H1=>tyV K T x H1/\t σ H1 fun xs H2=>r x xs H2 Q):tBM K T r te t σ H Q:=h
theorem rd_sl{r:V->Option Int->Option Int->Hp->VK->Prop}{tl th:TO}(h:te σ H fun x H1=>tl σ H1 fun l H2=>th σ H2 fun u H3=>r x l u H3 Q):tSl r te tl th σ H Q:=h
theorem rd_nopart{R:Option Int->Hp->Prop}(h:R none H):tNoPart σ H R:=h
theorem rd_part{R:Option Int->Hp->Prop}(h:te σ H fun x H1=>∃i,x = .int i/\R (some i) H1):tPart te σ H R:=h
theorem rd_int{i:Int}{R:Int->Prop}(h:R i):∃i',V.int i = .int i'/\R i':=⟨i,rfl,h⟩
theorem iteD{p A B:Prop}[Decidable p](h1:p->A)(h2:¬p->B):if decide p=true then A else B:=by
 by_cases h:p
 ·rw[if_pos (decide_eq_true h)];exact h1 h
 ·rw[if_neg (by simpa using h)];exact h2 h
theorem iteN{p A B:Prop}[Decidable p](h1:¬p->A)(h2:p->B):if(!decide p)=true then A else B:=by
 by_cases h:p
 ·rw[if_neg (by simpa using h)];exact h2 h
 ·rw[if_pos (by simpa using h)];exact h1 h
theorem rd_rng1{ta:TA}{R:It->Hp->Prop}(h:ta σ H fun vs H1=>∃j:Int,vs=[.int j]/\-(2^62)<=j/\j<2^62/\R (Itr 0 j.toNat) H1):iRng1 ta σ H R:=h
theorem rd_rng2{ta:TA}{R:It->Hp->Prop}(h:ta σ H fun vs H1=>∃i j:Int,vs=[.int i,.int j]/\(-(2^62)<=i/\i<2^62/\-(2^62)<=j/\j<2^62)/\R (Itr i (j-i).toNat) H1):iRng2 ta σ H R:=h
theorem rd_iList{K:Frg}{R:It->Hp->Prop}(h:te σ H fun x H1=>∃a,x = .ref a/\(∃xs,SqL K H1 a xs)/\R (Itl K a) H1):iList K te σ H R:=h
theorem rd_p18(h:Q (.int (10^18)) H):rI CPow (fun i j=>.int (i^j.toNat)) (.int 10) (.int 18) H Q:=⟨10,18,rfl,rfl,⟨by decide,by decide,by decide⟩,h⟩
theorem rd_p60(h:Q (.int (10^60)) H):rI CPow (fun i j=>.int (i^j.toNat)) (.int 10) (.int 60) H Q:=⟨10,60,rfl,rfl,⟨by decide,by decide,by decide⟩,h⟩
theorem rd_aug{i:Nat}{ti:TIp}(h:tVar i σ H fun x H0=>te σ H0 fun y H1=>ti x y H1 fun z H2=>gName i z σ H2 D.nx):tAug i te ti D σ H:=h
theorem rd_ipI{f:Int->Int->Int}{i j:Int}(h:Q (.int (f i j)) H):ipI f (.int i) (.int j) H Q:=⟨i,j,rfl,rfl,h⟩
theorem rd_for{wi:TI}{g:TG}{tb:TS} (h:wi σ H fun J H1=>∃W:Nat->Nat->St->Hp->Prop,(∃m,W 0 m σ H1)/\∀i m σ H,W i m σ H->
 (J.stop i H/\D.nx σ H)\/(J.go i H/\∃N:St->Hp->Prop,(∀σ' H',N σ' H'->∃m',m'<m/\W (i+1) m' σ' H')/\∀x H',J.yld i H x H'->g x σ H' fun σ2 H2=>tb {D with nx:=N,ct:=N,bk:=D.nx} σ2 H2)):tFor wi g tb D σ H:=h
theorem rd_comp{wi:TI}{n:Nat}{ci:List Nat}{g:TG}{tf:TT} (h:wi σ H fun J H1=>∃W:Nat->Nat->List V->Hp->Prop,(∃m,W 0 m [] H1)/\∀i m ys H,W i m ys H->
 (J.stop i H/\ys.length<=sizeLine/\∀p,H p=none->Q (.ref p) (upd H p (.lst ys)))\/
 (J.go i H/\∃N:List V->Hp->Prop,(∀ys' H',N ys' H'->∃m',m'<m/\W (i+1) m' ys' H')/\∀x H',J.yld i H x H'->g x (capS n ci σ) H' fun σ2 H2=>tf σ2 H2 fun b H3=>
  if b=true then te σ2 H3 fun v H4=>ys.length<sizeLine/\N (ys++[v]) H4 else N ys H3)):tComp wi n ci g tf te σ H Q:=h
theorem rd_yes{R:Bool->Hp->Prop}(h:R true H):tYes σ H R:=h
theorem Jc{n:Nat}{ci:List Nat}{g:TG}{x:V}{σ':St}{R:St->Hp->Prop}(e:capS n ci σ=σ')(h:g x σ' H R):g x (capS n ci σ) H R:=by rw[e];exact h
theorem jx{t:TS}{σ':St}(e:σ=σ')(h:t D σ' H):t D σ H:=by subst e;exact h
theorem Xe{x y A B:Int}(h1 : -A<=x)(h2:x<=A)(h3 : -B<=y)(h4:y<=B) : -(A*B)<=x*y/\x*y<=A*B:=by
 have hx:x.natAbs<=A.toNat:=by omega
 have hy:y.natAbs<=B.toNat:=by omega
 have h:=Nat.mul_le_mul hx hy;rw[<-Int.natAbs_mul]at h;have e:((A.toNat*B.toNat:Nat):Int)=A*B:=by
  rw[Int.natCast_mul,Int.toNat_of_nonneg (by omega),Int.toNat_of_nonneg (by omega)]
 have h':((x*y).natAbs:Int)<=A*B:=by rw[<-e];exact Int.ofNat_le.mpr h
 omega
theorem j3a{H H':Hp}{p:Addr}{o:HO}(h:H p=none)(e:upd H p o=H'):Same H H':=fun b u q=>by rw[<-e,jh (je q h)];exact q
theorem Kc{H H':Hp}{p:Addr}{o:HO}(e:upd H p o=H'):H' p=some o:=by rw[<-e];exact jr
end
theorem ixLm{K:Frg}{p:Addr}{xs:List V}{i:Int}{v:V}{H:Hp}{Q:VK}(h:SqL K H p xs)(e:atI xs i=some v)(q:Q v H):rIxL K (.ref p) (.int i) H Q:=⟨p,xs,i,v,rfl,rfl,h,e,q⟩
theorem ixTm{K:Frg}{p:Addr}{xs:List V}{i:Int}{v:V}{H:Hp}{Q:VK}(h:SqT K H p xs)(e:atI xs i=some v)(q:Q v H):rIxT K (.ref p) (.int i) H Q:=⟨p,xs,i,v,rfl,rfl,h,e,q⟩
end L2
local macro_rules | `(tactic| walk_at "side") => `(tactic| first | with_reducible assumption | exact L2.cdivB (by omega) (by omega) | exact L2.mulOk (by omega) (by omega) (by omega) (by omega) | exact L2.mulOkC (by first | assumption | exact L2.bits_ediv (by assumption) _) (by omega) (by omega) | omega)
local macro_rules | `(tactic| walk_at $s:str) => do
 let ws:=s.getString.splitOn " "
 if ws.head?==some "f" then
  let vs:=if ws.length==3 then["p"++ws.getD 1 "","hp"++ws.getD 1 "","H"++ws.getD 1 "","s"++ws.getD 1 "",ws.getD 2 ""++ws.getD 1 ""]else ws.drop 1
  let i:=fun(k:Nat)=>Lean.mkIdent (Lean.Name.mkSimple (vs.getD k ""))
  return <-`(tactic| (intro $(i 0):ident $(i 1):ident;generalize eH:L2.upd _ $(i 0) _ = $(i 2):ident;have $(i 3):ident:=L2.j3a $(i 1) eH;have $(i 4):ident:=L2.Kc eH;clear eH))
 if s.getString != "g" then Lean.Macro.throwUnsupported
 let as <-("rd_seq rd_asg rd_op rd_const rd_i0 rd_cons rd_nil rd_call rd_ret rd_if rd_test rd_tB rd_blP rd_not rd_next rd_v0 rd_v1 rd_v2 rd_v3 rd_v4 rd_v5 rd_v6 rd_v7 rd_v8 rd_v9 rd_v10 rd_v11 rd_v12 rd_v13 rd_v14 rd_un rd_u rd_and rd_or rd_andV rd_ifE rd_drop rd_cb rd_lst rd_tup rd_chain rd_bm rd_sl rd_nopart rd_part rd_eqI rd_neI rd_eqS rd_neS rd_str rd_int rd_rng1 rd_rng2 rd_iList rd_ipI rd_aug rd_for rd_comp rd_yes rd_dget rd_iTup rd_sub rd_iEnum rd_iZip rd_dnew rd_dput rd_bm0 rd_tru rd_revS rd_lz rd_rngD rd_fld rd_sfld rd_meth rd_make rd_n0 rd_n1 rd_n2 rd_n3 rd_n4 rd_n5 rd_n6 rd_n7 rd_n8 rd_n9 rd_n10 rd_n11 rd_n12 rd_n13 rd_n14 rd_p18 rd_p60".splitOn " ").toArray.mapM λn=>`(Lean.Parser.Tactic.tacticSeq| refine $(Lean.mkIdent (Lean.Name.mkStr2 "L2" n)) ?_)
 `(tactic| repeat first | with_reducible (first $[| $as]*) | (with_reducible refine L2.j4u ?c ?_; (case c => ((try dsimp only); walk_at "side"))))
local macro_rules | `(tactic| exists $e) => `(tactic| (walk_at "g"; refine $e))
namespace Fs
end Fs
namespace Rp
noncomputable def ramp(s g b j:Int):Int:=s+(g-s)*j/b
theorem ends{s g b:Int}(hb:0<b):ramp s g b b=g:=by
 unfold ramp;rw[Int.mul_ediv_cancel _ (by omega)];omega
theorem begins{s g b:Int}:ramp s g b 0=s:=by
 unfold ramp;rw[Int.mul_zero,Int.zero_ediv,Int.add_zero]
end Rp
namespace Rp
end Rp
namespace Pr
open PySem L2
noncomputable def cell(ns:List Int)(k:Int):Int:=ns.getD k.toNat 0
theorem j0b{ns:List Int}(h:∀x∈ns,Builtin.Int.intBits x<=1048576)(k:Int):Builtin.Int.intBits (cell ns k)<=1048576:=by
 unfold cell;rw[getD_eq_getElem?_getD];cases e:ns[k.toNat]? with
 | none=>decide
 | some x=>exact h x (List.mem_of_getElem? e)
theorem XL{ns:List Int}{k:Int}(h0:0<=k)(h:k<(ns.length:Int)):atI (ns.map V.int) k=some (.int (cell ns k)):=by
 have ek:k=((k.toNat:Nat):Int):=by omega
 have hk:k.toNat<ns.length:=by omega
 have q:atI (ns.map V.int) ((k.toNat:Nat):Int)=some (.int ns[k.toNat]):=jO (by rw[List.getElem?_map,List.getElem?_eq_getElem hk]<;>rfl);rw[<-ek]at q;rw[q];unfold cell;rw[getD_eq_getElem?_getD,List.getElem?_eq_getElem hk];rfl
end Pr
namespace Pr
open PySem L2
inductive sp_law(K:Frg)(vs:List V)(H:Hp)(Q:VK)(xk:XK):Prop
 | mk (a:Addr) (ns:List Int) (_:vs=[.ref a]) (_:SqL K H a (ns.map V.int)) (_:ns.length<=63) (_:(∀x∈ns,Builtin.Int.intBits x<=1048576)) (_:∀H',Q (.bl true) H'):sp_law K vs H Q xk
end Pr
namespace Pr
open PySem L2
end Pr
namespace Pr
open PySem L2
theorem j27{H:Hp}{p:Addr}(h:H p=none)(o:HO):Same H (upd H p o):=fun b u q=>by rw[jh (je q h)];exact q
end Pr
namespace Pr
open PySem L2
end Pr
namespace Pr
open PySem L2
end Pr
namespace Pr
open PySem L2
def B4(s g b j:Int):Prop:=-10^61<=s/\s<=10^61/\-10^61<=g/\g<=10^61/\0<b/\b<=10^61/\-10^61<=j/\j<=10^61
def Wh:Sp:=fun vs H Q _=>∃s g b j:Int,vs=[.int s,.int g,.int b,.int j]/\B4 s g b j/\Q (.int (Rp.ramp s g b j)) H
end Pr
namespace Pr
open PySem L2
end Pr
namespace Ws
open PySem PySem.NumText L2
noncomputable def lets:Str:="abcdefghijklmnopqrstuvwxyz"
noncomputable def among(x z:Str):Bool:=decide (∀c∈x.cps.toList,c∈z.cps.toList)
noncomputable def isW(x:Str):Bool:=decide (1<=x.length/\x.length<=8)&&among x lets
theorem wv(x:Str):x.cps.toList.length=x.length:=Array.length_toList
theorem j28{H H':Hp}{p:Addr}{o:HO}(h:Same H H')(hp:H p=none):Same H (upd H' p o):=fun b u q=>by
 rw[jh (je q hp)];exact h b u q
end Ws
namespace Ws
open PySem PySem.NumText L2
end Ws
namespace Ws
open PySem L2
end Ws
namespace Rm
open PySem PySem.NumText PyProof.Rows L2
theorem cutTo{x:Str}{j:Int}(h0:0<=j)(h:j<=(x.length:Int)):(Txt.slice x none (some j)).cps.toList=x.cps.toList.take j.toNat:=by
 have e:Txt.slice x none (some j)=⟨((x.cps.toList.drop 0).take (j-0).toNat).toArray⟩:=StrLaws.sliceText_to ⟨h0,by rw[Ws.wv];exact h⟩;rw[e];simp
theorem cutFrom{x:Str}{i:Int}(h0:0<=i)(h:i<=(x.length:Int)):(Txt.slice x (some i) none).cps.toList=x.cps.toList.drop i.toNat:=by
 have e:Txt.slice x (some i) none=⟨((x.cps.toList.drop i.toNat).take ((x.cps.toList.length:Int)-i).toNat).toArray⟩:=StrLaws.sliceText_from ⟨h0,by rw[Ws.wv];exact h⟩;rw[e];show List.take _ _=_;rw[take_of_length_le];rw[length_drop];omega
theorem app_list(a y:Str):(a++y).cps.toList=a.cps.toList++y.cps.toList:=by rw[Str.cps_append,Array.toList_append]
theorem j1w{c:Nat}:c∈Ws.lets.cps.toList↔97<=c/\c<=122:=by
 rw[show Ws.lets.cps.toList=List.range' 97 26 by decide +kernel,List.mem_range'_1];omega
theorem j1o{i:Int}(h0:0<=i)(h1:i<26):atI (Str.ofString "abcdefghijklmnopqrstuvwxyz").cps.toList i=some (97+i.toNat):=by
 have h:∀k:Nat,k<26->atI (Str.ofString "abcdefghijklmnopqrstuvwxyz").cps.toList (k:Int)=some (97+(k:Int).toNat):=by decide +kernel
 have e:=h i.toNat (by omega);rw[Int.toNat_of_nonneg h0]at e;exact e
theorem j3K{x:Str}(h1:1<=x.cps.toList.length)(h2:x.cps.toList.length<=8)(h:∀c∈x.cps.toList,97<=c/\c<=122):Ws.isW x=true:=by
 rw[Ws.wv]at h1 h2;unfold Ws.isW Ws.among;rw[decide_eq_true ⟨h1,h2⟩,Bool.true_and];exact decide_eq_true fun c hc=>j1w.mpr (h c hc)
open PySem L2
theorem none_of{H H':Hp}{p:Addr}(s:Same H H')(h:H' p=none):H p=none:=by
 cases e:H p with
 | none=>rfl
 | some u=>rw[s _ _ e]at h;cases h
inductive Fm where
 | hold (n:Int) | ring (x:Str) (n:Int) | rise (x:Str) (h n:Int) | row (ps:List Str) | side (ps:List Str) | again (k:Int) (x:Str)
noncomputable def FormAt(H:Hp)(a:Addr):Fm->Prop
 | .hold n=>H a=some (.tup [.str "hold",.int n])
 | .ring x n=>H a=some (.tup [.str "ring",.str x,.int n])
 | .rise x h n=>H a=some (.tup [.str "raise",.str x,.int h,.int n])
 | .row ps=>∃b,H a=some (.tup [.str "row",.ref b])/\H b=some (.tup (ps.map V.str))
 | .side ps=>∃b,H a=some (.tup [.str "side",.ref b])/\H b=some (.tup (ps.map V.str))
 | .again k x=>H a=some (.tup [.str "again",.int k,.str x])
def PartAt(H:Hp)(a:Addr)(p:Str×Fm):Prop:=∃b,H a=some (.tup [.str p.1,.ref b])/\FormAt H b p.2
def LimbAt(H:Hp)(a:Addr)(p:Str×Int):Prop:=H a=some (.tup [.str p.1,.int p.2])
def All2{α:Type}(R:Addr->α->Prop)(as:List Addr)(xs:List α):Prop:=as.length=xs.length/\∀(i:Nat) (a:Addr) (x:α),as[i]?=some a->xs[i]?=some x->R a x
theorem All2.nil{α:Type}{R:Addr->α->Prop}:All2 R [] []:=⟨rfl,fun i a x h=>by simp at h⟩
theorem All2.mono{α:Type}{R S:Addr->α->Prop}{as:List Addr}{xs:List α}(h:All2 R as xs)(k:∀a x,R a x->S a x):All2 S as xs:=⟨h.1,fun i a x h1 h2=>k a x (h.2 i a x h1 h2)⟩
theorem All2.snoc{α:Type}{R:Addr->α->Prop}{as:List Addr}{xs:List α}{a:Addr}{x:α}(h:All2 R as xs)(hx:R a x):All2 R (as++[a]) (xs++[x]):=by
 have hl:=h.1;refine⟨by simp[hl],fun i b y h1 h2=>?_⟩;by_cases hi:i<as.length
 ·rw[List.getElem?_append_left hi]at h1;rw[List.getElem?_append_left (by omega)]at h2;exact h.2 i b y h1 h2
 ·rw[List.getElem?_append_right (by omega)]at h1;rw[List.getElem?_append_right (by omega)]at h2;have e:i-as.length=0:=by
   have:=(List.getElem?_eq_some_iff.mp h1).1;simp at this;omega
  rw[e]at h1;rw[show i-xs.length=0 by omega]at h2;simp at h1 h2;subst h1 h2;exact hx
theorem All2.get{α:Type}{R:Addr->α->Prop}{as:List Addr}{xs:List α}{i:Nat}{x:α}(h:All2 R as xs)(hx:xs[i]?=some x):∃a,as[i]?=some a/\R a x:=by
 have hi:=(List.getElem?_eq_some_iff.mp hx).1;have hl:=h.1;have ha:as[i]?=some as[i]:=List.getElem?_eq_getElem (by omega);exact⟨_,ha,h.2 i _ _ ha hx⟩
section
variable{H H':Hp}{z:Ra}{m:Rr}
end
section
variable{m:Rr}{f:Fm}{ks:List Int}{g:Int}
theorem getD_snoc{α:Type}{l:List α}{x d:α}{j:Nat}(h:j<l.length):(l++[x]).getD j d=l.getD j d:=by
 rw[getD_eq_getElem?_getD,getD_eq_getElem?_getD,List.getElem?_append_left h]
end
theorem jY{as:List Addr}{i:Int}{a:Addr}(h0:0<=i)(h:as[i.toNat]?=some a):atI (as.map V.ref) i=some (.ref a):=by
 have e:atI (as.map V.ref) ((i.toNat:Nat):Int)=some (.ref a):=jO (by rw[List.getElem?_map,h];rfl);rw[Int.toNat_of_nonneg h0]at e;exact e
open PySem PySem.Spec PyProof.Rows L2
noncomputable def vN(j:Nat):V:=.int j
theorem Zw:∀{ks:List Int} {lo hi:Int},ks.Pairwise (· < ·)->(∀k∈ks,lo<=k/\k<hi)->ks.length<=(hi-lo).toNat
 | [],_,_,_,_=>Nat.zero_le _
 | k::r,lo,hi,h,b=>by
  have h1:=Zw (ks:=r) (lo:=k+1) (hi:=hi) (pairwise_cons.mp h).2 fun x hx=>⟨(pairwise_cons.mp h).1 x hx,(b x (mem_cons_of_mem _ hx)).2⟩
  have h2:=b k mem_cons_self;rw[length_cons];omega
theorem XT{H:Hp}:∀(ks:List Int),DVs H (ks.map V.int) (ks.map PyData.int)
 | []=>.nil
 | k::r=>.cons (.int k) (XT r)
theorem j3p{H:Hp}{a:Addr}{ks:List Int}(h:H a=some (.lst (ks.map V.int))):DV H (.ref a) (.list (ks.map PyData.int)):=.lst h (XT ks)
theorem j4l{H:Hp}{a:Addr}(h:H a=some (.lst [])):DV H (.ref a) (.list []):=.lst h .nil
theorem j3q(ks:List Int):PyData.eqv (.list (ks.map PyData.int)) (.list [])=decide (ks=[]):=by
 cases ks<;>simp[PyData.eqv,PyData.eqvAll]
theorem shp(ks:List Int):SeqAt.shaped (.list (ks.map PyData.int))=true:=PySem.W.ke_shaped_ints ks
theorem shp0:SeqAt.shaped (.list [])=true:=PySem.W.ke_shaped_ints []
theorem wp(n:Int):∀hs:List Int,inV (.int n) (hs.map V.int)=decide (n∈hs)
 | []=>rfl
 | h::r=>by
  have ih:=wp n r;unfold inV at ih|-;rw[map_cons,any_cons,ih];have e:eqV (.int h) (.int n)=decide (h=n):=by
   show decide _=_;simp
  rw[e,Bool.eq_iff_iff];simp only[Bool.or_eq_true,decide_eq_true_eq,mem_cons];constructor
  ·rintro(x | x)
   ·exact .inl x.symm
   ·exact .inr x
  ·rintro(x | x)
   ·exact .inl x.symm
   ·exact .inr x
theorem inI(n:Int)(hs:List Int):(if false=true then !inV (.int n) (hs.map V.int)else inV (.int n) (hs.map V.int))=decide (n∈hs):=by rw[if_neg (by decide),wp]
theorem notInI(n:Int)(hs:List Int):(if true=true then !inV (.int n) (hs.map V.int)else inV (.int n) (hs.map V.int)) = !decide (n∈hs):=by rw[if_pos rfl,wp]
theorem flats:∀hs:List Int,(hs.map V.int).all flatV=true
 | []=>rfl
 | h::r=>by rw[map_cons,all_cons,flats r];rfl
theorem take_snoc{α:Type}{l:List α}{i:Nat}{x:α}(h:l[i]?=some x):l.take (i+1)=l.take i++[x]:=by
 rw[List.take_add_one,h];rfl
theorem kE{is:List Nat}{i:Nat}{x:V}(h:(is.map vN)[i]?=some x):∃j,is[i]?=some j/\x = .int j/\j∈is:=by
 rw[List.getElem?_map]at h;obtain⟨j,hj,rfl⟩:=Option.map_eq_some_iff.mp h;exact⟨j,hj,rfl,List.mem_of_getElem? hj⟩
theorem KK{ms hs:List Int}(hp:ms.Perm hs)(nd:hs.Nodup)(ho:ms.Pairwise (·<=·)):ms.Pairwise (· < ·):=
 (List.Pairwise.and ho (hp.nodup_iff.mpr nd)).imp fun {a b} h=>by have h1:=h.1;have h2:a≠b:=h.2;omega
theorem All2.tail{α:Type}{R:Addr->α->Prop}{a:Addr}{x:α}{as:List Addr}{xs:List α}(h:All2 R (a::as) (x::xs)):R a x/\All2 R as xs:=
 ⟨h.2 0 a x rfl rfl,Nat.succ.inj h.1,fun i b y h1 h2=>h.2 (i+1) b y (by simpa using h1) (by simpa using h2)⟩
structure BookAt(H:Hp)(b pl pp:Addr)(las pas:List Addr)(ls:List (Str×Int))(ps:List (Str×Fm)):Prop where
 t:H b=some (.tup [.ref pl,.ref pp])
 l:H pl=some (.lst (las.map V.ref))
 la:All2 (LimbAt H) las ls
 p:H pp=some (.lst (pas.map V.ref))
 pa:All2 (PartAt H) pas ps
theorem FormAt.same{H H':Hp}{a:Addr}{f:Fm}(s:Same H H')(h:FormAt H a f):FormAt H' a f:=by
 cases f with
 | row ps=>obtain⟨b,h1,h2⟩:=h;exact⟨b,s _ _ h1,s _ _ h2⟩
 | side ps=>obtain⟨b,h1,h2⟩:=h;exact⟨b,s _ _ h1,s _ _ h2⟩
 | hold n=>exact s _ _ h
 | ring x n=>exact s _ _ h
 | rise x g n=>exact s _ _ h
 | again x n=>exact s _ _ h
theorem PartAt.same{H H':Hp}{a:Addr}{p:Str×Fm}(s:Same H H')(h:PartAt H a p):PartAt H' a p:=by
 obtain⟨b,h1,h2⟩:=h;exact⟨b,s _ _ h1,FormAt.same s h2⟩
theorem BookAt.same{H H':Hp}{b pl pp:Addr}{las pas:List Addr}{ls:List (Str×Int)}{ps:List (Str×Fm)}(B:BookAt H b pl pp las pas ls ps)(s:Same H H'):BookAt H' b pl pp las pas ls ps:=
 ⟨s _ _ B.t,s _ _ B.l,B.la.mono fun a x h=>s _ _ h,s _ _ B.p,B.pa.mono fun a x h=>PartAt.same s h⟩
theorem getD_inj{ws:List Str}(nd:ws.Nodup){i j:Nat}(hi:i<ws.length)(hj:j<ws.length)(h:ws.getD i ⟨#[]⟩=ws.getD j ⟨#[]⟩):i=j:=by
 rw[getD_eq_getElem?_getD,getD_eq_getElem?_getD,List.getElem?_eq_getElem hi,List.getElem?_eq_getElem hj]at h;have h':ws[i]=ws[j]:=h;rcases Nat.lt_trichotomy i j with q | q | q
 ·exact absurd h' (pairwise_iff_getElem.mp nd i j hi hj q)
 ·exact q
 ·exact absurd h'.symm (pairwise_iff_getElem.mp nd j i hj hi q)
open PyProof.Rows.KTD (inKeys Dat)
theorem at0{x:V}{xs:List V}:atI (x::xs) 0=some x:=jO (j:=0) rfl
theorem iteB0{b:Bool}{A B:Prop}(e:b=false)(h:B):if b=true then A else B:=by rw[e];exact h
theorem iteB1{b:Bool}{A B:Prop}(e:b=true)(h:A):if b=true then A else B:=by rw[e];exact h
theorem All2.at_ref{α:Type}{R:Addr->α->Prop}{as:List Addr}{xs:List α}{i:Nat}{v:V}(h:All2 R as xs)(hv:(as.map V.ref)[i]?=some v):∃a x,v = .ref a/\xs[i]?=some x/\R a x:=by
 rw[List.getElem?_map]at hv;obtain⟨a,ha,rfl⟩:=Option.map_eq_some_iff.mp hv;have hi:=(List.getElem?_eq_some_iff.mp ha).1;have hl:=h.1;have hx:xs[i]?=some xs[i]:=List.getElem?_eq_getElem (by omega);exact⟨a,_,rfl,hx,h.2 i a _ ha hx⟩
theorem Zx:∀{n:Nat} {hs:List Int},hs.Nodup->(∀k∈hs,0<=k/\k<(n:Int))->hs.length<=n
 | 0,hs,_,h=>by
  cases hs with
  | nil=>exact Nat.le_refl _
  | cons k r=>have:=h k mem_cons_self;omega
 | n+1,hs,nd,h=>by
  by_cases e:(n:Int)∈hs
  ·have i:=Zx (n:=n) (nd.erase (n:Int)) fun k hk=>by
    have h1:=h k (List.mem_of_mem_erase hk);have h2:k≠(n:Int):=fun z=>nd.not_mem_erase (z▸hk)
    omega
   have l:=List.length_erase_of_mem e;omega
  ·have i:=Zx (n:=n) nd fun k hk=>by
    have h1:=h k hk;have h2:k≠(n:Int):=fun z=>e (z▸hk)
    omega
   omega
noncomputable def Fm.ns:Fm->List Str
 | .row ps=>ps
 | .side ps=>ps
 | .again _ x=>[x]
 | _=>[]
noncomputable def numK(xs:List Str):List (Key×V):=xs.zipIdx.map fun p=>(Sum.inr p.1,.int (p.2:Nat))
theorem j0A(xs:List Str)(x:Str):numK (xs++[x])=numK xs++[(Sum.inr x,.int (xs.length:Nat))]:=by
 unfold numK;rw[List.zipIdx_append,map_append];simp
theorem j1E(xs:List Str):(numK xs).length=xs.length:=by simp[numK]
theorem KE(xs:List Str):(numK xs).map (·.1)=xs.map Sum.inr:=by
 unfold numK;rw[List.map_map];have e:∀(k:Nat) (xs:List Str),(xs.zipIdx k).map ((fun x=>x.1)∘fun p:Str×Nat=>((Sum.inr p.1:Key),V.int (p.2:Nat)))=xs.map Sum.inr:=fun k xs=>by
  induction xs generalizing k with
  | nil=>rfl
  | cons x r ih=>rw[List.zipIdx_cons,map_cons,map_cons,ih];rfl
 exact e 0 xs
theorem j2V{xs:List Str}{j:Nat}{x:Str}(h:xs[j]?=some x):(numK xs)[j]?=some (Sum.inr x,.int (j:Nat)):=by
 unfold numK;rw[List.getElem?_map,List.getElem?_zipIdx,h];simp
theorem j2l:∀{kvs:List (Key×V)} {j:Nat} {k:Key} {v:V},(kvs.map (·.1)).Nodup->kvs[j]?=some (k,v)->valV kvs k=some v
 | [],j,k,v,_,h=>by simp at h
 | p::r,0,k,v,_,h=>by
  simp at h;subst h;unfold valV;simp
 | p::r,j+1,k,v,nd,h=>by
  rw[map_cons,nodup_cons]at nd;have h':r[j]?=some (k,v):=by simpa using h
  have ne:p.1≠k:=fun e=>nd.1 (e▸mem_map.mpr ⟨(k,v),List.mem_of_getElem? h',rfl⟩)
  have ih:=j2l nd.2 h';unfold valV at ih|-;rw[List.find?_cons,decide_eq_false ne];exact ih
theorem yp{xs:List Str}(nd:xs.Nodup){j:Nat}{x:Str}(h:xs[j]?=some x):valV (numK xs) (Sum.inr x)=some (.int (j:Nat)):=
 j2l (by rw[KE];exact pairwise_map.mpr (nd.imp fun h e=>h (Sum.inr.inj e))) (j2V h)
theorem j1W{kvs:List (Key×V)}{k:Key}{v:V}(h:k∉kvs.map (·.1)):putK kvs k v=kvs++[(k,v)]:=by
 unfold putK;rw[if_neg];intro e;obtain⟨p,hp,hk⟩:=any_eq_true.mp e;exact h (mem_map.mpr ⟨p,hp,of_decide_eq_true hk⟩)
noncomputable def ixOf:List Str->Str->Nat
 | [],_=>0
 | y::r,x=>if y=x then 0 else ixOf r x+1
theorem Jm:∀{xs:List Str} {j:Nat} {x:Str},xs.Nodup->xs[j]?=some x->ixOf xs x=j
 | [],j,x,_,h=>by simp at h
 | y::r,0,x,_,h=>by
  simp at h;subst h;exact if_pos rfl
 | y::r,j+1,x,nd,h=>by
  rw[nodup_cons]at nd;have h':r[j]?=some x:=by simpa using h
  have ne:y≠x:=fun e=>nd.1 (e▸List.mem_of_getElem? h')
  show(if y=x then 0 else ixOf r x+1)=j+1;rw[if_neg ne,Jm nd.2 h']
noncomputable def nmsOf{α:Type}(ps:List (Str×α)):List Str:=ps.map (·.1)
noncomputable def inP(ps:List (Str×Fm))(f:Fm):List Nat:=f.ns.map (ixOf (nmsOf ps))
structure WfB(ls:List (Str×Int))(ps:List (Str×Fm)):Prop where
 ln:(nmsOf ls).Nodup
 l8:ls.length<=8
 pn:(nmsOf ps).Nodup
 p61:ps.length<=61
 f:∀(i:Nat) (p:Str×Fm),ps[i]?=some p->(∀x∈p.2.ns,∃j,j<i/\(nmsOf ps)[j]?=some x)/\p.2.ns.length<=8
 r:∀(i:Nat) (y x:Str) (h n:Int),ps[i]?=some (y,.rise x h n)->∃j:Nat,(nmsOf ls)[j]?=some x
theorem WfB.inP_lt{ls:List (Str×Int)}{ps:List (Str×Fm)}(W:WfB ls ps){i:Nat}{p:Str×Fm}(h:ps[i]?=some p){j:Nat}(hj:j∈inP ps p.2):j<i:=by
 obtain⟨x,hx,rfl⟩:=mem_map.mp hj;obtain⟨k,hk,e⟩:=(W.f i p h).1 x hx;rw[Jm W.pn e];exact hk
inductive sp_numbers_of(vs:List V)(H:Hp)(Q:VK)(xk:XK):Prop
 | mk (l:Addr) (as:List Addr) (xs:List Str) (_:vs=[.ref l]) (_:H l=some (.lst (as.map V.ref))) (_:as.length=xs.length) (_:(∀(i:Nat) (a:Addr) (x:Str),as[i]?=some a->xs[i]?=some x->∃r,H a=some (.tup [.str x,r]))) (_:xs.Nodup) (_:xs.length<=100) (_:∀(d:Addr) (H':Hp),Same H H'->H d=none->H' d=some (.dK (numK xs))->Q (.ref d) H'):sp_numbers_of vs H Q xk
inductive sp_names_in(vs:List V)(H:Hp)(Q:VK)(xk:XK):Prop
 | mk (a:Addr) (f:Fm) (_:vs=[.ref a]) (_:FormAt H a f) (_:∀(b:Addr) (H':Hp),Same H H'->H' b=some (.tup (f.ns.map V.str))->Q (.ref b) H'):sp_names_in vs H Q xk
def ListsAt(H:Hp)(as:List Addr)(M:List (List Int)):Prop:=All2 (fun a ks=>H a=some (.lst (ks.map V.int))) as M
theorem All2.monoM{α:Type}{R S:Addr->α->Prop}{as:List Addr}{xs:List α}(h:All2 R as xs)(k:∀a∈as,∀x,R a x->S a x):All2 S as xs:=⟨h.1,fun i a x h1 h2=>k a (List.mem_of_getElem? h1) x (h.2 i a x h1 h2)⟩
inductive sp_inner(vs:List V)(H:Hp)(Q:VK)(xk:XK):Prop
 | mk (b pl pp:Addr) (las pas:List Addr) (ls:List (Str×Int)) (ps:List (Str×Fm)) (_:vs=[.ref b]) (_:BookAt H b pl pp las pas ls ps) (_:WfB ls ps) (_:∀(l:Addr) (as:List Addr) (H':Hp),Same H H'->H l=none->H' l=some (.lst (as.map V.ref))->(∀a∈as,H a=none)->ListsAt H' as (ps.map fun p=>(inP ps p.2).map fun j:Nat=>(j:Int))->Q (.ref l) H'):sp_inner vs H Q xk
def PrsAt(H:Hp)(bs:List Addr)(e:List (Int×Int)):Prop:=All2 (fun b q=>H b=some (.tup [.int q.1,.int q.2])) bs e
def EndsAt(H:Hp)(as:List Addr)(E:List (List (Int×Int))):Prop:=All2 (fun a e=>∃bs,H a=some (.lst (bs.map V.ref))/\PrsAt H bs e) as E
def LastIn(E:List (List (Int×Int)))(is:List Nat)(k v:Int):Prop:=∃pre j post,is=pre++j::post/\(k,v)∈E.getD j []/\∀j'∈post,∀v',(k,v')∉E.getD j' []
def EndIs(ls:List (Str×Int))(ps:List (Str×Fm))(E:List (List (Int×Int)))(f:Fm)(k v:Int):Prop:=LastIn E (inP ps f) k v\/∃x n,f = .rise x v n/\k=(ixOf (nmsOf ls) x:Nat)
def EndOk(ls:List (Str×Int))(ps:List (Str×Fm))(E:List (List (Int×Int))):Prop:=∀(i:Nat) (p:Str×Fm) (e:List (Int×Int)),ps[i]?=some p->E[i]?=some e->(e.map (·.1)).Pairwise (· < ·)/\∀k v,(k,v)∈e↔EndIs ls ps E p.2 k v
inductive sp_ends(vs:List V)(H:Hp)(Q:VK)(xk:XK):Prop
 | mk (b pl pp:Addr) (las pas:List Addr) (ls:List (Str×Int)) (ps:List (Str×Fm)) (_:vs=[.ref b]) (_:BookAt H b pl pp las pas ls ps) (_:WfB ls ps) (_:∀(l:Addr) (as:List Addr) (E:List (List (Int×Int))) (H':Hp),Same H H'->H l=none->H' l=some (.lst (as.map V.ref))->(∀a∈as,H a=none)->E.length=ps.length->EndsAt H' as E->EndOk ls ps E->Q (.ref l) H'):sp_ends vs H Q xk
def MovOk(ls:List (Str×Int))(ps:List (Str×Fm))(M:List (List Int)):Prop:=∀(i:Nat) (p:Str×Fm) (ks:List Int),ps[i]?=some p->M[i]?=some ks->ks.Pairwise (· < ·)/\∀k,k∈ks↔(∃j∈inP ps p.2,k∈M.getD j [])\/∃x h n,p.2 = .rise x h n/\k=(ixOf (nmsOf ls) x:Nat)
inductive sp_moved(vs:List V)(H:Hp)(Q:VK)(xk:XK):Prop
 | mk (b pl pp:Addr) (las pas:List Addr) (ls:List (Str×Int)) (ps:List (Str×Fm)) (_:vs=[.ref b]) (_:BookAt H b pl pp las pas ls ps) (_:WfB ls ps) (_:∀(l:Addr) (as:List Addr) (M:List (List Int)) (H':Hp),Same H H'->H l=none->H' l=some (.lst (as.map V.ref))->(∀a∈as,H a=none)->M.length=ps.length->ListsAt H' as M->MovOk ls ps M->Q (.ref l) H'):sp_moved vs H Q xk
theorem j2k:∀{a b:List Int},a.Pairwise (· < ·)->b.Pairwise (· < ·)->(∀k,k∈a↔k∈b)->a=b
 | [],[],_,_,_=>rfl
 | [],y::s,_,_,h=>absurd ((h y).mpr mem_cons_self) (by simp)
 | x::r,[],_,_,h=>absurd ((h x).mp mem_cons_self) (by simp)
 | x::r,y::s,ha,hb,h=>by
  rw[pairwise_cons]at ha hb;have e:x=y:=by
   rcases mem_cons.mp ((h x).mp mem_cons_self)with q | q
   ·exact q
   ·rcases mem_cons.mp ((h y).mpr mem_cons_self)with q' | q'
    ·exact q'.symm
    ·have h1:=hb.1 x q;have h2:=ha.1 y q';omega
  subst e;congr 1;refine j2k ha.2 hb.2 fun k=>⟨fun hk=>?_,fun hk=>?_⟩
  ·rcases mem_cons.mp ((h k).mp (mem_cons_of_mem _ hk))with q | q
   ·have:=ha.1 k hk;omega
   ·exact q
  ·rcases mem_cons.mp ((h k).mpr (mem_cons_of_mem _ hk))with q | q
   ·have:=hb.1 k hk;omega
   ·exact q
theorem getD_map{E:List (List (Int×Int))}(j:Nat):(E.map fun e=>e.map (·.1)).getD j []=(E.getD j []).map (·.1):=by
 rw[getD_eq_getElem?_getD,getD_eq_getElem?_getD,List.getElem?_map];cases E[j]?<;>rfl
theorem wC{k:Int}{e:List (Int×Int)}:k∈e.map (·.1)↔∃v,(k,v)∈e:=by
 constructor
 ·intro h;obtain⟨p,hp,rfl⟩:=mem_map.mp h;exact⟨p.2,hp⟩
 ·rintro⟨v,h⟩;exact mem_map.mpr ⟨_,h,rfl⟩
theorem wt{E:List (List (Int×Int))}{k:Int}:∀{is:List Nat},(∃v,LastIn E is k v)↔∃j∈is,∃v,(k,v)∈E.getD j []
 | []=>⟨fun⟨v,pre,j,post,e,_⟩=>by cases pre<;>simp at e,fun⟨j,h,_⟩=>by simp at h⟩
 | i::r=>by
  have ih:=wt (E:=E) (k:=k) (is:=r);constructor
  ·rintro⟨v,pre,j,post,e,h1,h2⟩;exact⟨j,by rw[e];simp,v,h1⟩
  ·rintro⟨j,hj,v,hv⟩;by_cases q:∃j∈r,∃v,(k,v)∈E.getD j []
   ·obtain⟨v',pre,j',post,e,h1,h2⟩:=ih.mpr q;exact⟨v',i::pre,j',post,by rw[e];rfl,h1,h2⟩
   ·rcases mem_cons.mp hj with rfl | hj
    ·exact⟨v,[],j,r,rfl,hv,fun j' h' v' hv'=>q ⟨j',h',v',hv'⟩⟩
    ·exact absurd ⟨j,hj,v,hv⟩ q
theorem j1y{ls:List (Str×Int)}{ps:List (Str×Fm)}{E:List (List (Int×Int))}(hl:E.length=ps.length)(h:EndOk ls ps E):MovOk ls ps (E.map fun e=>e.map (·.1)):=fun i p ks hp hk=>by
 rw[List.getElem?_map]at hk;obtain⟨e,he,rfl⟩:=Option.map_eq_some_iff.mp hk;obtain⟨a,b⟩:=h i p e hp he;refine⟨a,fun k=>?_⟩;rw[wC];constructor
 ·rintro⟨v,hv⟩;rcases(b k v).mp hv with z | ⟨x,n,e1,e2⟩
  ·obtain⟨j,hj,v',hv'⟩:=wt.mp ⟨v,z⟩;exact .inl ⟨j,hj,by rw[getD_map];exact wC.mpr ⟨v',hv'⟩⟩
  ·exact .inr ⟨x,v,n,e1,e2⟩
 ·rintro(⟨j,hj,hk⟩ | ⟨x,h,n,e1,e2⟩)
  ·rw[getD_map]at hk;obtain⟨v',hv'⟩:=wC.mp hk;obtain⟨v,z⟩:=wt.mpr ⟨j,hj,v',hv'⟩;exact⟨v,(b k v).mpr (.inl z)⟩
  ·exact⟨h,(b k h).mpr (.inr ⟨x,n,e1,e2⟩)⟩
theorem XY{xs:List Str}{x:Str}(h:x∈xs):ixOf xs x<xs.length:=by
 induction xs with
 | nil=>exact nomatch h
 | cons y r ih=>
  show(if y=x then 0 else ixOf r x+1)<r.length+1;split
  ·omega
  ·rename_i hne;rcases mem_cons.mp h with e | e
   ·exact absurd e.symm hne
   ·have:=ih e;omega
theorem yg{ls:List (Str×Int)}{ps:List (Str×Fm)}(W:WfB ls ps){E:List (List (Int×Int))}(hl:E.length<=ps.length)(h:EndOk ls ps E):∀(i:Nat),∀q∈E.getD i [],0<=q.1/\q.1<(ls.length:Int):=by
 intro i
 induction i using Nat.strongRecOn with
 | ind i ih=>
  intro q hq;rw[getD_eq_getElem?_getD]at hq;cases e:E[i]? with
  | none=>rw[e]at hq;exact nomatch hq
  | some ev=>
   rw[e]at hq;have hi:=(List.getElem?_eq_some_iff.mp e).1;have ep:ps[i]?=some ps[i]:=List.getElem?_eq_getElem (by omega);obtain⟨_,b⟩:=h i _ ev ep e;rcases(b q.1 q.2).mp hq with⟨pre,j,post,e1,e2,_⟩ | ⟨x,n,e1,e2⟩
   ·exact ih j (W.inP_lt ep (by rw[e1];simp)) _ e2
   ·have ep':ps[i]?=some (ps[i].1,.rise x q.2 n):=by rw[ep,<-e1]
    obtain⟨j,hj⟩:=W.r i _ _ _ _ ep';have h3:=XY (List.mem_of_getElem? hj);have h4:(nmsOf ls).length=ls.length:=length_map _;rw[e2];omega
theorem WF{ls:List (Str×Int)}{ps:List (Str×Fm)}(W:WfB ls ps){E:List (List (Int×Int))}(hl:E.length<=ps.length)(h:EndOk ls ps E){i:Nat}{e:List (Int×Int)}(he:E[i]?=some e):e.length<=8:=by
 have hi:=(List.getElem?_eq_some_iff.mp he).1;have a:=(h i _ e (List.getElem?_eq_getElem (by omega)) he).1;have b:=yg W hl h i;rw[getD_eq_getElem?_getD,he]at b;have z:=Zw (ks:=e.map (·.1)) (lo:=0) (hi:=ls.length) a fun k hk=>by
  obtain⟨q,hq,rfl⟩:=mem_map.mp hk;exact b q hq
 rw[length_map]at z;have:=W.l8;omega
noncomputable def putI(kvs:List (Int×Int))(k v:Int):List (Int×Int):=if k∈kvs.map (·.1)then kvs.map (fun q=>if q.1=k then(q.1,v)else q)else kvs++[(k,v)]
noncomputable def mergeI(kvs more:List (Int×Int)):List (Int×Int):=more.foldl (fun acc q=>putI acc q.1 q.2) kvs
theorem j1V(kvs:List (Int×Int))(k v:Int):putK (kvs.map iiK) (Sum.inl k) (.int v)=(putI kvs k v).map iiK:=by
 have e:(((kvs.map iiK).any fun kv=>decide (kv.1=(Sum.inl k:Key)))=true)↔k∈kvs.map (·.1):=by
  rw[List.any_map,any_eq_true];constructor
  ·rintro⟨q,hq,h⟩;have h':(Sum.inl q.1:Key)=Sum.inl k:=of_decide_eq_true h;exact mem_map.mpr ⟨q,hq,Sum.inl.inj h'⟩
  ·intro h;obtain⟨q,hq,rfl⟩:=mem_map.mp h;exact⟨q,hq,decide_eq_true rfl⟩
 unfold putK putI;by_cases c:k∈kvs.map (·.1)
 ·rw[if_pos (e.mpr c),if_pos c,List.map_map,List.map_map];refine map_congr_left fun q _=>?_
  show(if(Sum.inl q.1:Key)=Sum.inl k then _ else _)=iiK (if q.1=k then(q.1,v)else q);by_cases z:q.1=k
  ·rw[if_pos z,if_pos (by rw[z])];rfl
  ·rw[if_neg z,if_neg (fun w=>z (Sum.inl.inj w))]
 ·rw[if_neg (fun w=>c (e.mp w)),if_neg c,map_append];rfl
theorem ZO:∀(more kvs:List (Int×Int)),mergeK (kvs.map iiK) (more.map iiK)=(mergeI kvs more).map iiK
 | [],kvs=>rfl
 | q::r,kvs=>by
  show mergeK (putK (kvs.map iiK) (Sum.inl q.1) (.int q.2)) (r.map iiK)=(mergeI (putI kvs q.1 q.2) r).map iiK;rw[j1V,ZO r]
theorem j0I(kvs:List (Int×Int))(k v:Int)(nd:(kvs.map (·.1)).Nodup):((putI kvs k v).map (·.1)).Nodup:=by
 unfold putI;split
 ·rw[List.map_map];have e:kvs.map ((fun x=>x.1)∘fun q=>if q.1=k then(q.1,v)else q)=kvs.map (·.1):=map_congr_left fun q _=>by
   show(if q.1=k then(q.1,v)else q).1=q.1;split<;>rfl
  rw[e];exact nd
 ·rename_i c;rw[map_append,nodup_append];exact⟨nd,pairwise_singleton _ _,fun a ha b hb e=>c (by rw[show k=b from(mem_singleton.mp hb).symm,<-e];exact ha)⟩
theorem j1x{kvs:List (Int×Int)}{k v a b:Int}:(a,b)∈putI kvs k v↔(a=k/\b=v)\/(a≠k/\(a,b)∈kvs):=by
 unfold putI;split
 ·rename_i c;rw[mem_map];constructor
  ·rintro⟨q,hq,e⟩;by_cases z:q.1=k
   ·rw[if_pos z]at e;cases e;exact .inl ⟨z,rfl⟩
   ·rw[if_neg z]at e;subst e;exact .inr ⟨z,hq⟩
  ·rintro(⟨rfl,rfl⟩ | ⟨h1,h2⟩)
   ·obtain⟨q,hq,e⟩:=mem_map.mp c;exact⟨q,hq,by rw[if_pos e,e]⟩
   ·exact⟨(a,b),h2,by rw[if_neg h1]⟩
 ·rename_i c;rw[mem_append];constructor
  ·rintro(h | h)
   ·exact .inr ⟨fun e=>c (e▸mem_map.mpr ⟨(a,b),h,rfl⟩),h⟩
   ·cases mem_singleton.mp h;exact .inl ⟨rfl,rfl⟩
  ·rintro(⟨rfl,rfl⟩ | ⟨_,h⟩)
   ·exact .inr (mem_singleton.mpr rfl)
   ·exact .inl h
theorem KB:∀{more kvs:List (Int×Int)},(kvs.map (·.1)).Nodup->(more.map (·.1)).Nodup->((mergeI kvs more).map (·.1)).Nodup/\∀k v,(k,v)∈mergeI kvs more↔(k,v)∈more\/((∀v',(k,v')∉more)/\(k,v)∈kvs)
 | [],kvs,nd,_=>⟨nd,fun k v=>⟨fun h=>.inr ⟨(fun _ h=>nomatch h),h⟩,fun h=>h.elim (fun h=>nomatch h) (·.2)⟩⟩
 | q::r,kvs,nd,nm=>by
  rw[map_cons,nodup_cons]at nm;obtain⟨a,b⟩:=KB (more:=r) (kvs:=putI kvs q.1 q.2) (j0I _ _ _ nd) nm.2;refine⟨a,fun k v=>(b k v).trans ?_⟩;rw[j1x];have nq:∀v',(q.1,v')∉r:=fun v' h=>nm.1 (mem_map.mpr ⟨_,h,rfl⟩)
  constructor
  ·rintro(h | ⟨h1,⟨rfl,rfl⟩ | ⟨h2,h3⟩⟩)
   ·exact .inl (mem_cons_of_mem _ h)
   ·exact .inl mem_cons_self
   ·refine .inr ⟨fun v' hv=>?_,h3⟩;rcases mem_cons.mp hv with e | e
    ·exact h2 (by rw[<-e])
    ·exact h1 v' e
  ·rintro(h | ⟨h1,h2⟩)
   ·rcases mem_cons.mp h with e | e
    ·refine .inr ⟨fun v' hv=>?_,.inl ⟨by rw[<-e],by rw[<-e]⟩⟩;rw[<-e]at nq;exact nq v' hv
    ·exact .inl e
   ·refine .inr ⟨fun v' hv=>h1 v' (mem_cons_of_mem _ hv),.inr ⟨fun e=>?_,h2⟩⟩;exact h1 q.2 (by rw[e];exact mem_cons_self)
theorem Xd{ms:List (Int×Int)}(nd:(ms.map (·.1)).Nodup):mergeI [] ms=ms:=by
 have e:∀(r acc:List (Int×Int)),((acc++r).map (·.1)).Nodup->mergeI acc r=acc++r:=by
  intro r
  induction r with
  | nil=>intro acc _;exact(append_nil _).symm
  | cons q r ih=>
   intro acc nd;have c:q.1∉acc.map (·.1):=fun h=>by
    rw[map_append,nodup_append]at nd;exact nd.2.2 q.1 h q.1 (by simp) rfl
   show mergeI (putI acc q.1 q.2) r=_;unfold putI;rw[if_neg c,ih (acc++[(q.1,q.2)]) (by rw[List.append_assoc];exact nd),List.append_assoc];rfl
 exact e ms [] nd
theorem j0r{E:List (List (Int×Int))}{is:List Nat}{j:Nat}{k v:Int}:LastIn E (is++[j]) k v↔(k,v)∈E.getD j []\/((∀v',(k,v')∉E.getD j [])/\LastIn E is k v):=by
 constructor
 ·rintro⟨pre,i,post,e,h1,h2⟩;rcases eq_nil_or_concat post with rfl | ⟨post',x,rfl⟩
  ·have e':=List.append_inj' (show is++[j]=pre++[i]from e) rfl;have ej:j=i:=by simpa using e'.2
   rw[ej];exact .inl h1
  ·have e2:is++[j]=(pre++i::post')++[x]:=by rw[e];simp
   have e':=List.append_inj' e2 rfl;have ej:j=x:=by simpa using e'.2
   subst ej;exact .inr ⟨h2 j (by simp),pre,i,post',e'.1,h1,fun j' hj'=>h2 j' (by simp[hj'])⟩
 ·rintro(h | ⟨h1,pre,i,post,e,h2,h3⟩)
  ·exact⟨is,j,[],rfl,h,(fun _ h=>nomatch h)⟩
  ·refine⟨pre,i,post++[j],by rw[e];simp,h2,fun j' hj' v'=>?_⟩;rcases mem_append.mp hj' with z | z
   ·exact h3 j' z v'
   ·rw[mem_singleton.mp z];exact h1 v'
theorem yl{E E':List (List (Int×Int))}{is:List Nat}(h:∀j∈is,E.getD j []=E'.getD j []){k v:Int}:LastIn E is k v->LastIn E' is k v:=by
 rintro⟨pre,j,post,e,h1,h2⟩;refine⟨pre,j,post,e,by rw[<-h j (by rw[e];simp)];exact h1,fun j' hj'=>?_⟩;rw[<-h j' (by rw[e];simp[hj'])];exact h2 j' hj'
theorem EndOk.snoc{ls:List (Str×Int)}{ps:List (Str×Fm)}(W:WfB ls ps){E:List (List (Int×Int))}{p:Str×Fm}{e:List (Int×Int)}(h:EndOk ls ps E)(hp:ps[E.length]?=some p)(h1:(e.map (·.1)).Pairwise (· < ·))
  (h2:∀k v,(k,v)∈e↔EndIs ls ps E p.2 k v):EndOk ls ps (E++[e]):=fun i q f hq hf=>by
 have hle:i<=E.length:=by
  have:=(List.getElem?_eq_some_iff.mp hf).1;rw[List.length_append]at this;exact Nat.le_of_lt_succ this
 have ext:∀j∈inP ps q.2,E.getD j []=(E++[e]).getD j []:=fun j hj=>(getD_snoc (by have:=W.inP_lt hq hj;omega)).symm
 have iff:∀k v,EndIs ls ps E q.2 k v↔EndIs ls ps (E++[e]) q.2 k v:=fun k v=>by
  unfold EndIs;exact⟨fun h=>h.imp (yl ext) id,fun h=>h.imp (yl fun j hj=>(ext j hj).symm) id⟩
 by_cases hi:i<E.length
 ·rw[List.getElem?_append_left hi]at hf;obtain⟨a,b⟩:=h i q f hq hf;exact⟨a,fun k v=>(b k v).trans (iff k v)⟩
 ·have ei:i=E.length:=by omega
  subst ei;rw[List.getElem?_append_right (Nat.le_refl _),Nat.sub_self]at hf;have ef:e=f:=by simpa using hf
  subst ef;rw[hp]at hq;cases hq;exact⟨h1,fun k v=>(h2 k v).trans (iff k v)⟩
theorem WL{H:Hp}{a:Addr}{f:Fm}(h:FormAt H a f)(hn:∀x v n,f≠.rise x v n):∃k xs,H a=some (.tup (.str k::xs))/\decide (k=("raise" : Str))=false:=by
 cases f with
 | hold n=>exact⟨_,_,h,by decide +kernel⟩
 | ring x n=>exact⟨_,_,h,by decide +kernel⟩
 | rise x v n=>exact absurd rfl (hn x v n)
 | row ps=>obtain⟨b,h1,_⟩:=h;exact⟨_,_,h1,by decide +kernel⟩
 | side ps=>obtain⟨b,h1,_⟩:=h;exact⟨_,_,h1,by decide +kernel⟩
 | again k x=>exact⟨_,_,h,by decide +kernel⟩
noncomputable def kv0(ls:List (Str×Int)):Fm->List (Int×Int)
 | .rise x h _=>[((ixOf (nmsOf ls) x:Nat),h)]
 | _=>[]
theorem j2J{ls:List (Str×Int)}{f:Fm}(hn:∀x v n,f≠.rise x v n):kv0 ls f=[]:=by
 cases f with
 | rise x v n=>exact absurd rfl (hn x v n)
 | _=>rfl
theorem wD{ls:List (Str×Int)}{f:Fm}{k v:Int}:(k,v)∈kv0 ls f↔∃x n,f = .rise x v n/\k=(ixOf (nmsOf ls) x:Nat):=by
 cases f with
 | rise x h n=>
  constructor
  ·intro hk;cases mem_singleton.mp hk;exact⟨x,n,rfl,rfl⟩
  ·rintro⟨x',n',e,rfl⟩;injection e with e1 e2 e3;subst e1 e2;exact mem_singleton.mpr rfl
 | _=>exact⟨(fun h=>nomatch h),fun⟨_,_,e,_⟩=>nomatch e⟩
theorem j3P{ps:List (Str×Fm)}{ls:List (Str×Int)}(f:Fm):inP ps f=[]\/kv0 ls f=[]:=by
 cases f with
 | rise x h n=>exact .inl rfl
 | _=>exact .inr rfl
theorem j3Q{ls:List (Str×Int)}(f:Fm):((kv0 ls f).map (·.1)).Nodup:=by
 cases f with
 | rise x h n=>exact pairwise_singleton _ _
 | _=>exact .nil
inductive sp_check_side(vs:List V)(H:Hp)(Q:VK)(xk:XK):Prop
 | mk (r:Int) (l ll:Addr) (as las:List Addr) (M:List (List Int)) (_:vs=[.int r,.ref l,.ref ll]) (_:H l=some (.lst (as.map V.ref))) (_:ListsAt H as M) (_:(∀ks∈M,ks≠[])) (_:M.length<=8) (_:H ll=some (.lst (las.map V.ref))) (_:(∀k:Int,(M.filter fun ks=>decide (k∈ks)).length<=1)) (_:∀H',Same H H'->Q .non H'):sp_check_side vs H Q xk
noncomputable def LenIs:Fm->List Int->Int->Prop
 | .hold n,_,g=>g=n
 | .ring _ n,_,g=>g=n
 | .rise _ _ n,_,g=>g=n
 | .row _,gs,g=>g=gs.sum
 | .side _,gs,g=>g∈gs/\∀x∈gs,x<=g
 | .again k _,gs,g=>∃y,gs.head?=some y/\g=k*y
noncomputable def LenPre:Fm->List Int->Prop
 | .side _,gs=>gs≠[]
 | .again k _,gs=>∃y r,gs=y::r/\0<=k/\k<=10^18/\0<=y/\y<=10^60
 | _,_=>True
inductive sp_length_of(vs:List V)(H:Hp)(Q:VK)(xk:XK):Prop
 | mk (a l:Addr) (f:Fm) (gs:List Int) (_:vs=[.ref a,.ref l]) (_:FormAt H a f) (_:H l=some (.lst (gs.map V.int))) (_:LenPre f gs) (_:∀g,LenIs f gs g->Q (.int g) H):sp_length_of vs H Q xk
structure Snd(ls:List (Str×Int))(ps:List (Str×Fm))(gs:List Int)(hs:List (List Int)):Prop where
 w:WfB ls ps
 gl:gs.length=ps.length
 gb:∀i,i<ps.length->0<=gs.getD i 0/\gs.getD i 0<=10^60
 mv:∀M:List (List Int),M.length=ps.length->MovOk ls ps M->∀i,i<ps.length->M.getD i []=hs.getD i []
 ln:∀(i:Nat) (p:Str×Fm),ps[i]?=some p->LenPre p.2 ((inP ps p.2).map fun j=>gs.getD j 0)/\∀g,LenIs p.2 ((inP ps p.2).map fun j=>gs.getD j 0) g->g=gs.getD i 0
 sd:∀(i:Nat) (p:Str×Fm) (qs:List Str),ps[i]?=some p->p.2 = .side qs->(∀j∈inP ps p.2,hs.getD j []≠[])/\∀k:Int,(((inP ps p.2).map fun j=>hs.getD j []).filter fun ks=>decide (k∈ks)).length<=1
inductive sp_lengths(vs:List V)(H:Hp)(Q:VK)(xk:XK):Prop
 | mk (b pl pp:Addr) (las pas:List Addr) (ls:List (Str×Int)) (ps:List (Str×Fm)) (gs:List Int) (hs:List (List Int)) (_:vs=[.ref b]) (_:BookAt H b pl pp las pas ls ps) (_:Snd ls ps gs hs) (_:∀(l:Addr) (H':Hp),Same H H'->H l=none->H' l=some (.lst (gs.map V.int))->Q (.ref l) H'):sp_lengths vs H Q xk
theorem any_empty{M:List (List Int)}(h:∀ks∈M,ks≠[]):(M.any fun ks=>decide (ks=[]))=false:=by
 rw[List.any_eq_false];intro ks hks;simpa using h ks hks
theorem j2H{gs:List Int}{i:Nat}(h:i<gs.length):gs.take (i+1)=gs.take i++[gs.getD i 0]:=by
 refine take_snoc ?_;rw[getD_eq_getElem?_getD,List.getElem?_eq_getElem h];rfl
theorem j1g{gs:List Int}{i j:Nat}(hi:i<=gs.length)(hj:j<i):atI ((gs.take i).map V.int) (j:Int)=some (.int (gs.getD j 0)):=by
 refine jO ?_;rw[List.getElem?_map,List.getElem?_take,if_pos hj,getD_eq_getElem?_getD,List.getElem?_eq_getElem (by omega)];rfl
theorem jO{xs:List V}{i:Nat}{x:V}(h:xs[i]?=some x):atI xs (0+(i:Int))=some x:=by
 obtain⟨hi,rfl⟩:=List.getElem?_eq_some_iff.mp h;rw[Int.zero_add];unfold atI;simp[hi,ixN]
theorem j07:∀{a b:List (Int×Int)},(a.map (·.1)).Pairwise (· < ·)->(b.map (·.1)).Pairwise (· < ·)->(∀k v,(k,v)∈a↔(k,v)∈b)->a=b
 | [],[],_,_,_=>rfl
 | [],y::s,_,_,h=>absurd ((h y.1 y.2).mpr mem_cons_self) (by simp)
 | x::r,[],_,_,h=>absurd ((h x.1 x.2).mp mem_cons_self) (by simp)
 | x::r,y::s,ha,hb,h=>by
  rw[map_cons,pairwise_cons]at ha hb;have hx:∀q∈r,x.1<q.1:=fun q hq=>ha.1 _ (mem_map.mpr ⟨q,hq,rfl⟩)
  have hy:∀q∈s,y.1<q.1:=fun q hq=>hb.1 _ (mem_map.mpr ⟨q,hq,rfl⟩)
  have e:x=y:=by
   rcases mem_cons.mp ((h x.1 x.2).mp mem_cons_self)with q | q
   ·exact q
   ·rcases mem_cons.mp ((h y.1 y.2).mpr mem_cons_self)with q' | q'
    ·exact q'.symm
    ·have h1:=hy _ q;have h2:=hx _ q';simp only at h1 h2;omega
  subst e;rw[j07 ha.2 hb.2 fun k v=>?_];constructor
  ·intro hk;rcases mem_cons.mp ((h k v).mp (mem_cons_of_mem _ hk))with q | q
   ·have:=hx _ hk;rw[<-q]at this;simp only at this;omega
   ·exact q
  ·intro hk;rcases mem_cons.mp ((h k v).mpr (mem_cons_of_mem _ hk))with q | q
   ·have:=hy _ hk;rw[<-q]at this;simp only at this;omega
   ·exact q
theorem j2S{ls:List (Str×Int)}{ps:List (Str×Fm)}(W:WfB ls ps){M:List (List Int)}(hl:M.length=ps.length)(h:MovOk ls ps M):∀(i:Nat),∀k∈M.getD i [],0<=k/\k<(ls.length:Int):=by
 intro i
 induction i using Nat.strongRecOn with
 | ind i ih=>
  intro k hk;rw[getD_eq_getElem?_getD]at hk;cases e:M[i]? with
  | none=>rw[e]at hk;exact nomatch hk
  | some ks=>
   rw[e]at hk;have hi:=(List.getElem?_eq_some_iff.mp e).1;have ep:ps[i]?=some ps[i]:=List.getElem?_eq_getElem (by omega);obtain⟨_,b⟩:=h i _ ks ep e;rcases(b k).mp hk with⟨j,hj,hk'⟩ | ⟨x,v,n,e1,rfl⟩
   ·exact ih j (W.inP_lt ep hj) k hk'
   ·obtain⟨j,hj⟩:=W.r i (ps[i]).1 x v n (by rw[ep,<-e1]);rw[Jm W.ln hj];have:=(List.getElem?_eq_some_iff.mp hj).1;unfold nmsOf at this;rw[length_map]at this;omega
theorem j2T{ls:List (Str×Int)}{ps:List (Str×Fm)}(W:WfB ls ps){M:List (List Int)}(hl:M.length=ps.length)(h:MovOk ls ps M){i:Nat}{ks:List Int}(he:M[i]?=some ks):ks.length<=8:=by
 have hi:=(List.getElem?_eq_some_iff.mp he).1;have a:=(h i _ ks (List.getElem?_eq_getElem (by omega)) he).1;have b:=j2S W hl h i;rw[getD_eq_getElem?_getD,he]at b;have z:=Zw (ks:=ks) (lo:=0) (hi:=ls.length) a b;have:=W.l8;omega
section
variable{ls:List (Str×Int)}{x:Str}{f:Fm}
end
inductive sp_onames(vs:List V)(H:Hp)(Q:VK)(xk:XK):Prop
 | mk (c:Int) (n:Nat) (_:vs=[.int c,.int n]) (_:n<=26) (_:∀(p:Addr) (ws:List Str) (H':Hp),Same H H'->H p=none->H' p=some (.lst (ws.map V.str))->ws.length=n->ws.Nodup->(∀x∈ws,Ws.isW x=true)->Q (.ref p) H'):sp_onames vs H Q xk
inductive sp_oalike(vs:List V)(H:Hp)(Q:VK)(xk:XK):Prop
 | mk (l1 l2:Addr) (xs:List V) (_:vs=[.ref l1,.ref l2]) (_:H l1=some (.lst xs)) (_:H l2=some (.lst xs)) (_:(∀x∈xs,(∃i,x = .int i)\/∃z,x = .str z)) (_:xs.length<=6000) (_:∀H',Same H H'->Q (.bl true) H'):sp_oalike vs H Q xk
noncomputable def onL(b:List Nat)(a s m k:Nat):List Nat:=b.take a++[97+(s+3*k)%26]++b.drop (a+1)++[97,98].take m
theorem j31{b:List Nat}{a s m m' j k:Nat}(hj:j<26)(hk:k<26)(h:onL b a s m j=onL b a s m' k):j=k:=by
 unfold onL at h;rw[List.append_assoc,List.append_assoc,List.append_assoc,List.append_assoc]at h;have h':=List.append_cancel_left h;simp only[cons_append,nil_append,List.cons.injEq]at h';omega
theorem j4o{b:List Nat}{a s m k:Nat}{x:Str}(hb:∀c∈b,97<=c/\c<=122)(hl:b.length<=6)(ha:a<b.length)(e:x.cps.toList=onL b a s m k):Ws.isW x=true:=by
 have hm:([97,98].take m).length<=2:=by rw[length_take];exact Nat.min_le_right _ _
 have len:(onL b a s m k).length=b.length+([97,98].take m).length:=by
  unfold onL;simp only[List.length_append,length_take,length_drop,length_cons,length_nil];omega
 refine j3K ?_ ?_ ?_<;>rw[e]
 ·omega
 ·omega
 ·intro c hc;unfold onL at hc;rcases mem_append.mp hc with hc | hc
  ·rcases mem_append.mp hc with hc | hc
   ·rcases mem_append.mp hc with hc | hc
    ·exact hb c (mem_of_mem_take hc)
    ·rw[mem_singleton.mp hc];omega
   ·exact hb c (List.mem_of_mem_drop hc)
  ·have:=mem_of_mem_take hc;simp only[mem_cons,List.not_mem_nil,or_false]at this;omega
theorem j2M{c:Nat}(h1:97<=c)(h2:c<=122):Builtin.Str.occurrences (Str.ofString "abcdefghijklmnopqrstuvwxyz") ⟨#[c]⟩ 0 (Str.ofString "abcdefghijklmnopqrstuvwxyz").length 1=[c-97]:=by
 have h:∀k:Nat,k<26->Builtin.Str.occurrences (Str.ofString "abcdefghijklmnopqrstuvwxyz") ⟨#[97+k]⟩ 0 (Str.ofString "abcdefghijklmnopqrstuvwxyz").length 1=[97+k-97]:=by decide +kernel
 have e:=h (c-97) (by omega);rw[show 97+(c-97)=c by omega]at e;exact e
theorem at2{a b k:Int}(h0:0<=k)(h1:k<2):∃j:Int,atI [V.int a,.int b] k=some (.int j)/\(j=a\/j=b):=by
 have:k=0\/k=1:=by omega
 rcases this with rfl | rfl
 ·exact⟨a,rfl,.inl rfl⟩
 ·exact⟨b,rfl,.inr rfl⟩
theorem j10{xs:List Nat}{i:Int}{c:Nat}(h0:0<=i)(h:xs[i.toNat]?=some c):atI xs i=some c:=by
 have q:∀k:Nat,xs[k]?=some c->atI xs (k:Int)=some c:=fun k hk=>by
  obtain⟨hi,rfl⟩:=List.getElem?_eq_some_iff.mp hk;unfold atI ixN;simp[hi]
 have:=q i.toNat h;rw[Int.toNat_of_nonneg h0]at this;exact this
theorem j1L{b:List Nat}{a s n e:Nat}{ws:List Str}(hn:n<=26)(hb:∀c∈b,97<=c/\c<=122)(hl:b.length<=6)(ha:a<b.length)(hw:ws.length=n)(h:∀j,j<n->(ws[j]?).map (·.cps.toList)=some (onL b a s (j%3*e) j)) :
  ws.Nodup/\∀x∈ws,Ws.isW x=true:=by
 have h':∀j (hj:j<ws.length),ws[j].cps.toList=onL b a s (j%3*e) j:=fun j hj=>by
  have e:=h j (by omega);rw[List.getElem?_eq_getElem hj]at e;exact Option.some.inj e
 constructor
 ·refine pairwise_iff_getElem.mpr fun i j hi hj hij e=>?_
  have e1:=h' i hi;rw[e,h' j hj]at e1;have:=j31 (by omega) (by omega) e1;omega
 ·intro x hx;obtain⟨j,hj,rfl⟩:=mem_iff_getElem.mp hx;exact j4o hb hl ha (h' j hj)
theorem j32{F:Nat->List Nat}{ws:List Str}{i:Nat}{y:Str}(hn:ws.length=i)(h:∀j,j<i->(ws[j]?).map (·.cps.toList)=some (F j))(hy:y.cps.toList=F i):∀j,j<i+1->((ws++[y])[j]?).map (·.cps.toList)=some (F j):=fun j hj=>by
 by_cases z:j<i
 ·rw[List.getElem?_append_left (by omega)];exact h j z
 ·have e:j=i:=by omega
  subst e;rw[List.getElem?_append_right (by omega),hn,Nat.sub_self];exact congrArg some hy
theorem ixZ{n:Nat}{k:Int}(h0:0<=k)(h1:k<n):ixN n k=some k.toNat:=by
 have q0:∀j:Nat,j<n->ixN n (j:Int)=some j:=fun j h=>by
  unfold ixN;simp[h]
 have q:=q0 k.toNat (by omega);rw[Int.toNat_of_nonneg h0]at q;exact q
noncomputable abbrev Pc:=Nat×Int×Int
noncomputable abbrev Pr4:=Nat×Int×Int×Option Int
noncomputable def rowPc(gs:List Int):List Nat->Int->List Pc
 | [],_=>[]
 | j::r,b=>(j,1,b)::rowPc gs r (b+gs.getD j 0)
noncomputable def pcsI(gs:List Int)(f:Fm)(is:List Nat):List Pc:=
 match f with
 | .again k _=>match is with
  | []=>[]
  | j::_=>(j,1,0)::(if 1<k then[(j,k-1,gs.getD j 0)]else[])
 | .row _=>rowPc gs is 0
 | _=>is.map fun j=>(j,1,0)
def PcsAt(H:Hp)(as:List Addr)(qs:List Pc):Prop:=All2 (fun a q=>H a=some (.tup [.int (q.1:Nat),.int q.2.1,.int q.2.2])) as qs
def PssAt(H:Hp)(as:List Addr)(qss:List (List Pc)):Prop:=All2 (fun a qs=>∃bs,H a=some (.lst (bs.map V.ref))/\PcsAt H bs qs) as qss
inductive sp_pieces_in(vs:List V)(H:Hp)(Q:VK)(xk:XK):Prop
 | mk (a l s:Addr) (f:Fm) (is:List Nat) (gs:List Int) (_:vs=[.ref a,.ref l,.ref s]) (_:FormAt H a f) (_:H l=some (.lst ((is.map fun j:Nat=>(j:Int)).map V.int))) (_:H s=some (.lst (gs.map V.int))) (_:is.length<=8) (_:(∀j∈is,j<gs.length)) (_:(∀k x,f = .again k x->is≠[])) (_:∀(p:Addr) (as:List Addr) (H':Hp),Same H H'->H p=none->H' p=some (.lst (as.map V.ref))->PcsAt H' as (pcsI gs f is)->Q (.ref p) H'):sp_pieces_in vs H Q xk
inductive sp_pieces_of(vs:List V)(H:Hp)(Q:VK)(xk:XK):Prop
 | mk (b pl pp s:Addr) (las pas:List Addr) (ls:List (Str×Int)) (ps:List (Str×Fm)) (gs:List Int) (_:vs=[.ref b,.ref s]) (_:BookAt H b pl pp las pas ls ps) (_:WfB ls ps) (_:H s=some (.lst (gs.map V.int))) (_:gs.length=ps.length) (_:∀(l:Addr) (as:List Addr) (H':Hp),Same H H'->H l=none->H' l=some (.lst (as.map V.ref))->PssAt H' as (ps.map fun p=>pcsI gs p.2 (inP ps p.2))->Q (.ref l) H'):sp_pieces_of vs H Q xk
noncomputable def ov(gs:List Int)(t:Int)(q:Pc):Int:=if q.2.1<(t-q.2.2)/gs.getD q.1 0 then q.2.1 else(t-q.2.2)/gs.getD q.1 0
noncomputable def prg1(gs:List Int)(t:Int)(q:Pc):Option Pr4:=
 if q.2.2<=t then some (q.1,q.2.2,ov gs t q,if ov gs t q<q.2.1 then some (t-q.2.2-ov gs t q*gs.getD q.1 0)else none)else none
noncomputable def prg(gs:List Int)(t:Int)(qs:List Pc):List Pr4:=qs.filterMap (prg1 gs t)
noncomputable def optV:Option Int->V
 | none=>.non
 | some r=>.int r
def PrgAt(H:Hp)(as:List Addr)(ys:List Pr4):Prop:=All2 (fun a y=>H a=some (.tup [.int (y.1:Nat),.int y.2.1,.int y.2.2.1,optV y.2.2.2])) as ys
def PcOk(gs:List Int)(q:Pc):Prop:=q.1<gs.length/\1<=gs.getD q.1 0/\gs.getD q.1 0<=10^60/\1<=q.2.1/\q.2.1<=10^18/\0<=q.2.2/\q.2.2<=10^62
inductive sp_progress(vs:List V)(H:Hp)(Q:VK)(xk:XK):Prop
 | mk (l s:Addr) (t:Int) (bs:List Addr) (qs:List Pc) (gs:List Int) (_:vs=[.ref l,.ref s,.int t]) (_:H l=some (.lst (bs.map V.ref))) (_:PcsAt H bs qs) (_:H s=some (.lst (gs.map V.int))) (_:qs.length<=8) (_:(∀q∈qs,PcOk gs q)) (_:0<=t) (_:t<=10^62) (_:∀(p:Addr) (as:List Addr) (H':Hp),Same H H'->H p=none->H' p=some (.lst (as.map V.ref))->PrgAt H' as (prg gs t qs)->Q (.ref p) H'):sp_progress vs H Q xk
def GonAt(H:Hp)(as:List Addr)(xs:List (Nat×Int)):Prop:=All2 (fun a x=>H a=some (.tup [.int (x.1:Nat),.int x.2])) as xs
noncomputable def wth1(gs:List Int)(y:Pr4):List (Nat×Int):=(if 0<y.2.2.1 then[(y.1,gs.getD y.1 0)]else[])++(match y.2.2.2 with | some r=>[(y.1,r)] | none=>[])
noncomputable def wth(gs:List Int)(t:Int)(qs:List Pc):List (Nat×Int):=(prg gs t qs).flatMap (wth1 gs)
inductive sp_within(vs:List V)(H:Hp)(Q:VK)(xk:XK):Prop
 | mk (l s:Addr) (t:Int) (bs:List Addr) (qs:List Pc) (gs:List Int) (_:vs=[.ref l,.ref s,.int t]) (_:H l=some (.lst (bs.map V.ref))) (_:PcsAt H bs qs) (_:H s=some (.lst (gs.map V.int))) (_:qs.length<=8) (_:(∀q∈qs,PcOk gs q)) (_:0<=t) (_:t<=10^62) (_:∀(p:Addr) (as:List Addr) (H':Hp),Same H H'->H p=none->H' p=some (.lst (as.map V.ref))->GonAt H' as (wth gs t qs)->Q (.ref p) H'):sp_within vs H Q xk
noncomputable def reachL(pc:Nat->List Pc)(gs:List Int):Nat->Nat->Int->List (Nat×Int)
 | 0,i,t=>[(i,t)]
 | n+1,i,t=>if gs.getD i 0<=t\/pc i=[]then[(i,t)]else(wth gs t (pc i)).flatMap fun x=>reachL pc gs n x.1 x.2
noncomputable def nodesL(pc:Nat->List Pc)(gs:List Int):Nat->Nat->Int->Nat
 | 0,_,_=>1
 | n+1,i,t=>if gs.getD i 0<=t\/pc i=[]then 1 else 1+((wth gs t (pc i)).map fun x=>nodesL pc gs n x.1 x.2).sum
noncomputable def pcB(ps:List (Str×Fm))(gs:List Int)(i:Nat):List Pc:=match ps[i]? with | some p=>pcsI gs p.2 (inP ps p.2) | none=>[]
section
variable{gs:List Int}{t:Int}
theorem KA{is:List Nat}{b:Int}{q:Pc}(h:q∈rowPc gs is b):q.1∈is/\q.2.1=1:=by
 induction is generalizing b with
 | nil=>exact nomatch h
 | cons j r ih=>
  rcases mem_cons.mp h with rfl | h
  ·exact⟨mem_cons_self,rfl⟩
  ·obtain⟨a,b⟩:=ih h;exact⟨mem_cons_of_mem _ a,b⟩
theorem j0u(is:List Nat)(b:Int):(rowPc gs is b).length=is.length:=by
 induction is generalizing b with
 | nil=>rfl
 | cons j r ih=>rw[rowPc,length_cons,length_cons,ih]
theorem Yt{is:List Nat}{b:Int}{q:Pc}(hg:∀j∈is,0<=gs.getD j 0/\gs.getD j 0<=10^60)(h:q∈rowPc gs is b):b<=q.2.2/\q.2.2<=b+10^60*is.length:=by
 induction is generalizing b with
 | nil=>exact nomatch h
 | cons j r ih=>
  have g:=hg j mem_cons_self;rw[length_cons];rcases mem_cons.mp h with rfl | h
  ·have:(0:Int)<=10^60*((r.length+1:Nat):Int):=Int.mul_nonneg (by decide) (by omega);exact⟨Int.le_refl _,by show b<=_;omega⟩
  ·obtain⟨a,c⟩:=ih (fun k hk=>hg k (mem_cons_of_mem _ hk)) h;refine⟨by omega,?_⟩;rw[show((r.length+1:Nat):Int)=(r.length:Int)+1 by omega,Int.mul_add];omega
theorem kb{f:Fm}{is:List Nat}{q:Pc}(h:q∈pcsI gs f is):q.1∈is:=by
 unfold pcsI at h;split at h
 ·split at h
  ·exact nomatch h
  ·rcases mem_cons.mp h with rfl | h
   ·exact mem_cons_self
   ·split at h
    ·rw[mem_singleton.mp h];exact mem_cons_self
    ·exact nomatch h
 ·exact(KA h).1
 ·obtain⟨j,hj,rfl⟩:=mem_map.mp h;exact hj
theorem j1m{f:Fm}{is:List Nat}(h8:is.length<=8):(pcsI gs f is).length<=8:=by
 unfold pcsI;split
 ·split
  ·exact Nat.zero_le _
  ·split<;>simp
 ·rw[j0u];exact h8
 ·rw[length_map];exact h8
theorem wE{qs:List Pc}{y:Pr4}(h:y∈prg gs t qs):∃q∈qs,prg1 gs t q=some y:=List.mem_filterMap.mp h
theorem X0(qs:List Pc):(prg gs t qs).length<=qs.length:=List.length_filterMap_le _ _
theorem W4{q:Pc}{y:Pr4}(h:prg1 gs t q=some y):y.1=q.1:=by
 unfold prg1 at h;split at h
 ·cases h;rfl
 ·cases h
theorem wF{qs:List Pc}{x:Nat×Int}(h:x∈wth gs t qs):∃q∈qs,x.1=q.1:=by
 obtain⟨y,hy,hx⟩:=mem_flatMap.mp h;obtain⟨q,hq,e⟩:=wE hy;refine⟨q,hq,?_⟩;rw[<-W4 e];unfold wth1 at hx;rcases mem_append.mp hx with z | z
 ·split at z
  ·rw[mem_singleton.mp z]
  ·exact nomatch z
 ·split at z
  ·rw[mem_singleton.mp z]
  ·exact nomatch z
theorem j1n(y:Pr4):(wth1 gs y).length<=2:=by
 unfold wth1;rw[List.length_append];have h1:(if 0<y.2.2.1 then[(y.1,gs.getD y.1 0)]else[]).length<=1:=by split<;>simp
 have h2:(match y.2.2.2 with | some r=>[(y.1,r)] | none=>[]:List (Nat×Int)).length<=1:=by split<;>simp
 omega
theorem j2L(qs:List Pc):(wth gs t qs).length<=2*qs.length:=by
 have h:∀ys:List Pr4,(ys.flatMap (wth1 gs)).length<=2*ys.length:=fun ys=>by
  induction ys with
  | nil=>exact Nat.zero_le _
  | cons y r ih=>
   rw[flatMap_cons,List.length_append,length_cons];have:=j1n (gs:=gs) y;omega
 have:=h (prg gs t qs);have:=X0 (gs:=gs) (t:=t) qs;unfold wth;omega
end
section
variable{ls:List (Str×Int)}{ps:List (Str×Fm)}{gs:List Int}
theorem wT(W:WfB ls ps){i:Nat}{q:Pc}(h:q∈pcB ps gs i):q.1<i:=by
 unfold pcB at h;split at h
 ·rename_i p hp;exact W.inP_lt hp (kb h)
 ·exact nomatch h
theorem Qb(W:WfB ls ps){i:Nat}{t:Int}{x:Nat×Int}(h:x∈wth gs t (pcB ps gs i)):x.1<i:=by
 obtain⟨q,hq,e⟩:=wF h;rw[e];exact wT W hq
theorem jV{α β:Type}{f g:α->List β}:∀{l:List α},(∀x∈l,f x=g x)->l.flatMap f=l.flatMap g
 | [],_=>rfl
 | x::r,h=>by rw[flatMap_cons,flatMap_cons,h x mem_cons_self,jV fun y hy=>h y (mem_cons_of_mem _ hy)]
theorem kq(W:WfB ls ps):∀{n m i:Nat} {t:Int},i<n->i<m->reachL (pcB ps gs) gs n i t=reachL (pcB ps gs) gs m i t
 | 0,_,_,_,h,_=>absurd h (Nat.not_lt_zero _)
 | _,0,_,_,_,h=>absurd h (Nat.not_lt_zero _)
 | n+1,m+1,i,t,h1,h2=>by
  unfold reachL;split
  ·rfl
  ·exact jV fun x hx=>by
    have:=Qb W hx;exact kq W (by omega) (by omega)
theorem kc(W:WfB ls ps):∀{n m i:Nat} {t:Int},i<n->i<m->nodesL (pcB ps gs) gs n i t=nodesL (pcB ps gs) gs m i t
 | 0,_,_,_,h,_=>absurd h (Nat.not_lt_zero _)
 | _,0,_,_,_,h=>absurd h (Nat.not_lt_zero _)
 | n+1,m+1,i,t,h1,h2=>by
  unfold nodesL;split
  ·rfl
  ·congr 2;exact map_congr_left fun x hx=>by
    have:=Qb W hx;exact kc W (by omega) (by omega)
noncomputable def reach(ps:List (Str×Fm))(gs:List Int)(i:Nat)(t:Int):List (Nat×Int):=reachL (pcB ps gs) gs (i+1) i t
noncomputable def nodes(ps:List (Str×Fm))(gs:List Int)(i:Nat)(t:Int):Nat:=nodesL (pcB ps gs) gs (i+1) i t
theorem jU{i:Nat}{t:Int}(h:gs.getD i 0<=t\/pcB ps gs i=[]):reach ps gs i t=[(i,t)]:=by
 unfold reach reachL;rw[if_pos h]
theorem JA(W:WfB ls ps){i:Nat}{t:Int}(h:¬(gs.getD i 0<=t\/pcB ps gs i=[])):reach ps gs i t=(wth gs t (pcB ps gs i)).flatMap fun x=>reach ps gs x.1 x.2:=by
 unfold reach;rw[reachL,if_neg h];exact jV fun x hx=>by
  have:=Qb W hx;exact kq W (by omega) (by omega)
theorem ZP{i:Nat}{t:Int}(h:gs.getD i 0<=t\/pcB ps gs i=[]):nodes ps gs i t=1:=by
 unfold nodes nodesL;rw[if_pos h]
theorem ke(W:WfB ls ps){i:Nat}{t:Int}(h:¬(gs.getD i 0<=t\/pcB ps gs i=[])):nodes ps gs i t=1+((wth gs t (pcB ps gs i)).map fun x=>nodes ps gs x.1 x.2).sum:=by
 unfold nodes;rw[nodesL,if_neg h];congr 2;exact map_congr_left fun x hx=>by
  have:=Qb W hx;exact kc W (by omega) (by omega)
theorem KD(i:Nat)(t:Int):1<=nodes ps gs i t:=by
 unfold nodes nodesL;split<;>omega
end
section
variable{gs:List Int}{t:Int}
noncomputable def wq(gs:List Int)(t:Int)(q:Pc):List (Nat×Int):=match prg1 gs t q with | some y=>wth1 gs y | none=>[]
theorem QH:wth gs t []=[]:=rfl
theorem JO(q:Pc)(qs:List Pc):wth gs t (q::qs)=wq gs t q++wth gs t qs:=by
 unfold wth prg wq;rw[filterMap_cons];cases prg1 gs t q with
 | none=>rfl
 | some y=>rfl
theorem j08{q:Pc}(h:t<q.2.2):wq gs t q=[]:=by
 unfold wq prg1;rw[if_neg (by omega)]
theorem kJ{j:Nat}{b:Int}(hg:1<=gs.getD j 0)(h:b<=t):wq gs t (j,1,b)=if gs.getD j 0<=t-b then[(j,gs.getD j 0)]else[(j,t-b)]:=by
 have eq:wq gs t (j,1,b)=wth1 gs (j,b,ov gs t (j,1,b),if ov gs t (j,1,b)<1 then some (t-b-ov gs t (j,1,b)*gs.getD j 0)else none):=by
  unfold wq prg1;rw[if_pos (show b<=t from h)]
 rw[eq];generalize hgj:gs.getD j 0=g at hg|-;have e:ov gs t (j,1,b)=if g<=t-b then 1 else 0:=by
  show(if(1:Int)<(t-b)/gs.getD j 0 then(1:Int)else(t-b)/gs.getD j 0)=_;rw[hgj];by_cases z:g<=t-b
  ·rw[if_pos z];have:1<=(t-b)/g:=by
    rw[Int.le_ediv_iff_mul_le (by omega)];omega
   split<;>omega
  ·rw[if_neg z];have:(t-b)/g=0:=Int.ediv_eq_zero_of_lt (by omega) (by omega);rw[this];rfl
 by_cases z:g<=t-b
 ·rw[if_pos z]at e;rw[if_pos z,e];unfold wth1;simp;rw[<-getD_eq_getElem?_getD];exact hgj
 ·rw[if_neg z]at e;rw[if_neg z,e];unfold wth1;simp
theorem Wl{q:Pc}(h:q.2.2<=t):wq gs t q=(if 0<ov gs t q then[(q.1,gs.getD q.1 0)]else[])++(if ov gs t q<q.2.1 then[(q.1,t-q.2.2-ov gs t q*gs.getD q.1 0)]else[]):=by
 unfold wq prg1;rw[if_pos h];show wth1 gs _=_;unfold wth1;congr 1;show(match(if ov gs t q<q.2.1 then some (t-q.2.2-ov gs t q*gs.getD q.1 0)else none)with | some r=>[(q.1,r)] | none=>[])=_;split<;>rename_i e<;>split at e
 ·cases e;rw[if_pos (by assumption)]
 ·cases e
 ·cases e
 ·rw[if_neg (by assumption)]
theorem yD:∀{qs:List Pc},(∀q∈qs,t<q.2.2)->wth gs t qs=[]
 | [],_=>rfl
 | q::r,h=>by rw[JO,j08 (h q mem_cons_self),yD fun q hq=>h q (mem_cons_of_mem _ hq)];rfl
theorem kr{is:List Nat}{b:Int}(hg:∀j∈is,0<=gs.getD j 0/\gs.getD j 0<=10^60)(h:t<b):wth gs t (rowPc gs is b)=[]:=
 yD fun q hq=>by have:=(Yt hg hq).1;omega
theorem Zi{j:Nat}{r:List Nat}{b:Int}(hg:∀k∈j::r,1<=gs.getD k 0/\gs.getD k 0<=10^60)(h:b<=t):wth gs t (rowPc gs (j::r) b)=if gs.getD j 0<=t-b then(j,gs.getD j 0)::wth gs t (rowPc gs r (b+gs.getD j 0))else[(j,t-b)]:=by
 have g:=hg j mem_cons_self;rw[rowPc,JO,kJ g.1 h];split
 ·rfl
 ·rw[kr (fun k hk=>by have:=hg k (mem_cons_of_mem _ hk);omega) (by omega)];rfl
theorem j2e{α:Type}{f g:α->Nat}:∀{l:List α},(∀x∈l,f x<=g x)->(l.map f).sum<=(l.map g).sum
 | [],_=>Nat.le_refl _
 | x::r,h=>by
  rw[map_cons,map_cons,sum_cons,sum_cons];have:=h x mem_cons_self;have:=j2e (l:=r) fun y hy=>h y (mem_cons_of_mem _ hy)
  omega
theorem j05{N:Nat×Int->Nat}{B:Nat}:∀{is:List Nat} {b:Int},(∀k∈is,1<=gs.getD k 0/\gs.getD k 0<=10^60)->(∀k∈is,N (k,gs.getD k 0)=1)->(∀k∈is,∀r,0<=r->N (k,r)<=B)->((wth gs t (rowPc gs is b)).map N).sum<=is.length+B
 | [],b,_,_,_=>Nat.zero_le _
 | j::r,b,hg,h1,h2=>by
  by_cases h:b<=t
  ·rw[Zi hg h];split
   ·rw[map_cons,sum_cons,h1 j mem_cons_self,length_cons];have:=j05 (N:=N) (B:=B) (is:=r) (b:=b+gs.getD j 0) (fun k hk=>hg k (mem_cons_of_mem _ hk)) (fun k hk=>h1 k (mem_cons_of_mem _ hk)) fun k hk=>h2 k (mem_cons_of_mem _ hk)
    omega
   ·have:=h2 j mem_cons_self (t-b) (by omega);simp;omega
  ·rw[kr (fun k hk=>by have:=hg k hk;omega) (by omega)];exact Nat.zero_le _
theorem Zr{is:List Nat}(hg:∀k∈is,1<=gs.getD k 0)(ht:0<=t):wth gs t (is.map fun j=>(j,1,0))=is.map fun j=>if gs.getD j 0<=t then(j,gs.getD j 0)else(j,t):=by
 induction is with
 | nil=>rfl
 | cons j r ih=>
  rw[map_cons,JO,kJ (hg j mem_cons_self) ht,ih fun k hk=>hg k (mem_cons_of_mem _ hk),map_cons,Int.sub_zero];split<;>rfl
theorem j0a{N:Nat×Int->Nat}{B:Nat}{j:Nat}{k:Int}(hg:1<=gs.getD j 0)(ht:0<=t)(h1:N (j,gs.getD j 0)=1)(h2:∀r,0<=r->N (j,r)<=B) :
  ((wth gs t ((j,1,0)::(if 1<k then[(j,k-1,gs.getD j 0)]else[]))).map N).sum<=2+B:=by
 rw[JO,kJ hg ht,Int.sub_zero,map_append,sum_append];by_cases z:gs.getD j 0<=t
 ·rw[if_pos z];have a:((wth gs t (if 1<k then[(j,k-1,gs.getD j 0)]else[])).map N).sum<=1+B:=by
   split
   ·rw[JO,QH,append_nil,Wl (show gs.getD j 0<=t from z),map_append,sum_append];have b1:(((if 0<ov gs t (j,k-1,gs.getD j 0)then[(j,gs.getD j 0)]else[]):List (Nat×Int)).map N).sum<=1:=by
     split
     ·simp;rw[<-getD_eq_getElem?_getD,h1];exact Nat.le_refl _
     ·simp
    have b2:(((if ov gs t (j,k-1,gs.getD j 0)<k-1 then[(j,t-gs.getD j 0-ov gs t (j,k-1,gs.getD j 0)*gs.getD j 0)]else[]):List (Nat×Int)).map N).sum<=B:=by
     split
     ·have ho:ov gs t (j,k-1,gs.getD j 0)=(t-gs.getD j 0)/gs.getD j 0:=by
       show(if k-1<(t-gs.getD j 0)/gs.getD j 0 then k-1 else(t-gs.getD j 0)/gs.getD j 0)=_;rename_i c;have c':(if k-1<(t-gs.getD j 0)/gs.getD j 0 then k-1 else(t-gs.getD j 0)/gs.getD j 0)<k-1:=c;split at c'
       ·omega
       ·rename_i z;rw[if_neg z]
      have:=h2 (t-gs.getD j 0-ov gs t (j,k-1,gs.getD j 0)*gs.getD j 0) (by
       rw[ho];have:=Int.ediv_mul_le (t-gs.getD j 0) (show gs.getD j 0≠0 by omega);omega)
      simp;exact this
     ·simp
    have e1:((if 0<ov gs t (j,k-1,gs.getD j 0)then[((j,k-1,gs.getD j 0):Pc).1].map fun a=>(a,gs.getD a 0)else[]):List (Nat×Int))=if 0<ov gs t (j,k-1,gs.getD j 0)then[(j,gs.getD j 0)]else[]:=rfl
    exact Nat.add_le_add b1 b2
   ·exact Nat.zero_le _
  have:(([(j,gs.getD j 0)]:List (Nat×Int)).map N).sum=1:=by
   simp;rw[<-getD_eq_getElem?_getD,h1]
  omega
 ·rw[if_neg z];have e:wth gs t (if 1<k then[(j,k-1,gs.getD j 0)]else[])=[]:=by
   split
   ·exact yD fun q hq=>by rw[mem_singleton.mp hq];show t<gs.getD j 0;omega
   ·rfl
  rw[e];have:=h2 t ht;simp;omega
end
theorem len_sub{a b:List Int}(h1:a.Nodup)(h2:∀x∈a,x∈b):a.length<=b.length:=by
 induction a generalizing b with
 | nil=>exact Nat.zero_le _
 | cons x r ih=>
  rw[nodup_cons]at h1;have hx:=h2 x mem_cons_self;have:=ih (b:=b.erase x) h1.2 fun y hy=>by
   have hne:y≠x:=fun e=>h1.1 (e▸hy)
   exact(List.mem_erase_of_ne hne).mpr (h2 y (mem_cons_of_mem _ hy))
  rw[List.length_erase_of_mem hx]at this;have:0<b.length:=List.length_pos_of_mem hx;rw[length_cons];omega
section
variable{ls:List (Str×Int)}{ps:List (Str×Fm)}{gs:List Int}{hs:List (List Int)}
theorem Y8(S:Snd ls ps gs hs)(hl:hs.length=ps.length){i:Nat}(hi:i<ps.length):hs[i]?=some (hs.getD i []):=by
 rw[getD_eq_getElem?_getD,List.getElem?_eq_getElem (by omega)];rfl
theorem j3T(S:Snd ls ps gs hs)(hl:hs.length=ps.length)(M:MovOk ls ps hs){i:Nat}{p:Str×Fm}(hp:ps[i]?=some p){j:Nat}(hj:j∈inP ps p.2):(hs.getD j []).length<=(hs.getD i []).length:=by
 have hi:=(List.getElem?_eq_some_iff.mp hp).1;have lj:=S.w.inP_lt hp hj;obtain⟨_,b⟩:=M i p _ hp (Y8 S hl hi);obtain⟨a,_⟩:=M j _ _ (List.getElem?_eq_getElem (show j<ps.length by omega)) (Y8 S hl (by omega));exact len_sub (a.imp fun h=>by omega) fun k hk=>(b k).mpr (.inl ⟨j,hj,hk⟩)
theorem j2b(S:Snd ls ps gs hs)(hl:hs.length=ps.length)(M:MovOk ls ps hs){i:Nat}{p:Str×Fm}{qs:List Str}(hp:ps[i]?=some p)(e:p.2 = .side qs):((inP ps p.2).map fun j=>(hs.getD j []).length).sum<=(hs.getD i []).length:=by
 have hi:=(List.getElem?_eq_some_iff.mp hp).1;obtain⟨_,one⟩:=S.sd i p qs hp e;obtain⟨_,b⟩:=M i p _ hp (Y8 S hl hi);have lt:=fun j=>S.w.inP_lt (j:=j) hp
 have nd:∀is:List Nat,(∀j∈is,j<ps.length)->(∀k:Int,((is.map fun j=>hs.getD j []).filter fun ks=>decide (k∈ks)).length<=1)->(is.flatMap fun j=>hs.getD j []).Nodup:=fun is=>by
  induction is with
  | nil=>exact fun _ _=>.nil
  | cons j r ih=>
   intro h1 h2;rw[flatMap_cons];have nj:(hs.getD j []).Nodup:=by
    obtain⟨a,_⟩:=M j _ _ (List.getElem?_eq_getElem (h1 j mem_cons_self)) (Y8 S hl (h1 j mem_cons_self));exact a.imp fun h=>by omega
   refine nodup_append.mpr ⟨nj,ih (fun k hk=>h1 k (mem_cons_of_mem _ hk)) fun k=>?_,fun a ha b hb eab=>?_⟩
   ·have:=h2 k;rw[map_cons,filter_cons]at this;split at this
    ·rw[length_cons]at this;omega
    ·exact this
   ·subst eab;obtain⟨j',hj',hk'⟩:=mem_flatMap.mp hb;have:=h2 a;rw[map_cons,filter_cons,if_pos (decide_eq_true ha),length_cons]at this;have pos:0<((r.map fun j=>hs.getD j []).filter fun ks=>decide (a∈ks)).length:=List.length_pos_of_mem (mem_filter.mpr ⟨mem_map.mpr ⟨j',hj',rfl⟩,decide_eq_true hk'⟩);omega
 have n:=nd (inP ps p.2) (fun j hj=>by have:=lt j hj;omega) one;have le:=len_sub (b:=hs.getD i []) n fun k hk=>by
  obtain⟨j,hj,hk⟩:=mem_flatMap.mp hk;exact(b k).mpr (.inl ⟨j,hj,hk⟩)
 rw[length_flatMap]at le;exact le
theorem j06{α:Type}{f:α->Nat}{c:Nat}:∀{l:List α},(l.map fun x=>c*f x).sum=c*(l.map f).sum
 | []=>rfl
 | x::r=>by rw[map_cons,map_cons,sum_cons,sum_cons,j06,Nat.mul_add]
theorem j1D(S:Snd ls ps gs hs)(hl:hs.length=ps.length)(M:MovOk ls ps hs)(g1:∀i,i<ps.length->1<=gs.getD i 0):∀i t,i<ps.length->0<=t->nodes ps gs i t<=9*(i+1)*max 1 (hs.getD i []).length:=by
 intro i
 induction i using Nat.strongRecOn with
 | ind i ih=>
  intro t hi ht;have W:=S.w;have m1:1<=max 1 (hs.getD i []).length:=Nat.le_max_left _ _;by_cases hleaf:gs.getD i 0<=t\/pcB ps gs i=[]
  ·rw[ZP hleaf];have:1*1<=9*(i+1)*max 1 (hs.getD i []).length:=Nat.mul_le_mul (by omega) m1;omega
  rw[ke W hleaf];obtain⟨p,hp⟩:∃p,ps[i]?=some p:=⟨_,List.getElem?_eq_getElem hi⟩
  have epc:pcB ps gs i=pcsI gs p.2 (inP ps p.2):=by unfold pcB;rw[hp]
  have lt:=fun j=>W.inP_lt (j:=j) hp
  have hg:∀k∈inP ps p.2,1<=gs.getD k 0/\gs.getD k 0<=10^60:=fun k hk=>by
   have:=lt k hk;exact⟨g1 k (by omega),(S.gb k (by omega)).2⟩
  have i8:(inP ps p.2).length<=8:=by unfold inP;rw[length_map];exact(W.f i p hp).2
  have hone:∀k∈inP ps p.2,nodes ps gs k (gs.getD k 0)=1:=fun k _=>ZP (.inl (Int.le_refl _))
  have hB:∀k∈inP ps p.2,∀r,0<=r->nodes ps gs k r<=9*i*max 1 (hs.getD i []).length:=fun k hk r hr=>by
   have l:=lt k hk;have:=ih k l r (by omega) hr;have s:=j3T S hl M hp hk;refine Nat.le_trans this (Nat.mul_le_mul (by omega) ?_);exact Nat.max_le.mpr ⟨Nat.le_max_left _ _,Nat.le_trans s (Nat.le_max_right _ _)⟩
  have fin:∀X:Nat,X<=8+9*i*max 1 (hs.getD i []).length->1+X<=9*(i+1)*max 1 (hs.getD i []).length:=fun X hX=>by
   rw[Nat.mul_add,Nat.add_mul];have:9*1*1<=9*1*max 1 (hs.getD i []).length:=Nat.mul_le_mul (Nat.le_refl _) m1;omega
  rw[epc];cases e:p.2 with
  | again k x=>
   have ein:inP ps p.2=[ixOf (nmsOf ps) x]:=by rw[e];rfl
   rw[e]at ein;rw[ein];have mem:ixOf (nmsOf ps) x∈inP ps p.2:=by rw[e,ein];exact mem_cons_self
   refine fin _ (Nat.le_trans (j0a (N:=fun x=>nodes ps gs x.1 x.2) (hg _ mem).1 ht (hone _ mem) (hB _ mem)) (by omega))
  | row xs=>
   rw[e]at hg hone hB i8;exact fin _ (Nat.le_trans (j05 (N:=fun x=>nodes ps gs x.1 x.2) hg hone hB) (by omega))
  | side xs=>
   have sl:=j2b S hl M hp e;obtain⟨ne,_⟩:=S.sd i p xs hp e;rw[show pcsI gs (.side xs) (inP ps (.side xs))=(inP ps (.side xs)).map fun j=>(j,1,0)from rfl];rw[e]at hg hone sl ne lt;rw[Zr (fun k hk=>(hg k hk).1) ht,List.map_map];have le:((inP ps (.side xs)).map ((fun x=>nodes ps gs x.1 x.2)∘fun j=>if gs.getD j 0<=t then(j,gs.getD j 0)else(j,t))).sum<=((inP ps (.side xs)).map fun j=>9*i*(hs.getD j []).length).sum:=by
    refine j2e fun j hj=>?_
    have l:=lt j hj;have n1:1<=(hs.getD j []).length:=length_pos_iff.mpr (ne j hj);have nd:∀r,0<=r->nodes ps gs j r<=9*i*(hs.getD j []).length:=fun r hr=>by
     have:=ih j l r (by omega) hr;rw[Nat.max_eq_right n1]at this;exact Nat.le_trans this (Nat.mul_le_mul (by omega) (Nat.le_refl _))
    show nodes ps gs (if gs.getD j 0<=t then(j,gs.getD j 0)else(j,t)).1 (if gs.getD j 0<=t then(j,gs.getD j 0)else(j,t)).2<=_;split
    ·exact nd _ (by have:=hg j hj;omega)
    ·exact nd _ ht
   rw[j06]at le;refine fin _ (Nat.le_trans le (Nat.le_trans (Nat.mul_le_mul (Nat.le_refl (9*i)) (Nat.le_trans sl (Nat.le_max_right 1 _))) (Nat.le_add_left _ _)))
  | hold n=>
   exact absurd (.inr (by rw[epc,e];rfl)) hleaf
  | ring x n=>
   exact absurd (.inr (by rw[epc,e];rfl)) hleaf
  | rise x v n=>
   exact absurd (.inr (by rw[epc,e];rfl)) hleaf
end
structure Sn(ls:List (Str×Int))(ps:List (Str×Fm))(gs:List Int)(hs:List (List Int)):Prop where
 s:Snd ls ps gs hs
 hl:hs.length=ps.length
 m:MovOk ls ps hs
 g1:∀i,i<ps.length->1<=gs.getD i 0
 ne:1<=ps.length
 l18:∀q∈ls,0<=q.2/\q.2<=10^18
 r18:∀(i:Nat) (y x:Str) (v n:Int),ps[i]?=some (y,.rise x v n)->0<=v/\v<=10^18/\1<=n/\n<=10^18
 a18:∀(i:Nat) (y x:Str) (k:Int),ps[i]?=some (y,.again k x)->1<=k/\k<=10^18
section
variable{ls:List (Str×Int)}{ps:List (Str×Fm)}{gs:List Int}{hs:List (List Int)}
theorem Sn.g(N:Sn ls ps gs hs){i:Nat}(hi:i<ps.length):1<=gs.getD i 0/\gs.getD i 0<=10^60:=⟨N.g1 i hi,(N.s.gb i hi).2⟩
theorem Sn.j1g(N:Sn ls ps gs hs){i:Nat}(hi:i<ps.length):gs[i]?=some (gs.getD i 0):=by
 rw[getD_eq_getElem?_getD,List.getElem?_eq_getElem (by rw[N.s.gl];exact hi)];rfl
theorem Sn.i8(N:Sn ls ps gs hs){i:Nat}{p:Str×Fm}(hp:ps[i]?=some p):(inP ps p.2).length<=8:=by
 unfold inP;rw[length_map];exact(N.s.w.f i p hp).2
theorem Sn.pcOk(N:Sn ls ps gs hs){i:Nat}{q:Pc}(h:q∈pcB ps gs i):PcOk gs q:=by
 have lt:=wT N.s.w h;have h0:=h;unfold pcB at h;split at h
 case h_2=>exact nomatch h
 rename_i p hp;have hi:=(List.getElem?_eq_some_iff.mp hp).1;have g:=N.g (show q.1<ps.length by omega);have i8:=N.i8 hp;have hg:∀k∈inP ps p.2,0<=gs.getD k 0/\gs.getD k 0<=10^60:=fun k hk=>by
  have:=N.s.w.inP_lt hp hk;have:=N.g (show k<ps.length by omega);omega
 refine⟨by rw[N.s.gl];omega,g.1,g.2,?_⟩;unfold pcsI at h;split at h
 ·rename_i k x e;have k18:=N.a18 i p.1 x k (by rw[hp,<-e]);split at h
  ·exact nomatch h
  ·rename_i j r ein;have gj:=hg j (by rw[ein];exact mem_cons_self);rcases mem_cons.mp h with rfl | h
   ·exact⟨(by show(1:Int)<=1;decide),(by show(1:Int)<=10^18;decide),(by show(0:Int)<=0;decide),(by show(0:Int)<=10^62;decide)⟩
   ·split at h
    ·rw[mem_singleton.mp h];refine⟨?_,?_,gj.1,?_⟩
     ·show 1<=k-1;omega
     ·show k-1<=_;omega
     ·show gs.getD j 0<=_;omega
    ·exact nomatch h
 ·obtain⟨b0,b1⟩:=Yt hg h;have e1:=(KA h).2;refine⟨by omega,by omega,b0,?_⟩;have:(10:Int)^60*((inP ps p.2).length:Int)<=10^60*8:=Int.mul_le_mul_of_nonneg_left (by omega) (by decide);omega
 ·obtain⟨j,hj,rfl⟩:=mem_map.mp h;exact⟨(by show(1:Int)<=1;decide),(by show(1:Int)<=10^18;decide),(by show(0:Int)<=0;decide),(by show(0:Int)<=10^62;decide)⟩
theorem j1N{t:Int}{q:Pc}(ok:PcOk gs q)(h:q.2.2<=t):0<=ov gs t q/\ov gs t q<=q.2.1/\ov gs t q*gs.getD q.1 0<=t-q.2.2/\0<=ov gs t q*gs.getD q.1 0:=by
 obtain⟨_,g1,_,t1,_,_⟩:=ok;have d0:0<=(t-q.2.2)/gs.getD q.1 0:=Int.ediv_nonneg (by omega) (by omega);have dm:=Int.ediv_mul_le (t-q.2.2) (show gs.getD q.1 0≠0 by omega);have o0:0<=ov gs t q/\ov gs t q<=q.2.1/\ov gs t q<=(t-q.2.2)/gs.getD q.1 0:=by
  unfold ov;split<;>omega
 refine⟨o0.1,o0.2.1,?_,Int.mul_nonneg o0.1 (by omega)⟩;exact Int.le_trans (Int.mul_le_mul_of_nonneg_right o0.2.2 (by omega)) dm
theorem ZT{t:Int}{qs:List Pc}(ok:∀q∈qs,PcOk gs q){x:Nat×Int}(h:x∈wth gs t qs):0<=x.2:=by
 obtain⟨y,hy,hx⟩:=mem_flatMap.mp h;obtain⟨q,hq,e⟩:=wE hy;have o:=ok q hq;by_cases c:q.2.2<=t
 case neg=>unfold prg1 at e;rw[if_neg c]at e;cases e
 have b:=j1N o c;unfold prg1 at e;rw[if_pos c]at e;have e':=Option.some.inj e;subst e';unfold wth1 at hx;rcases mem_append.mp hx with z | z
 ·have z:x∈(if 0<ov gs t q then[(q.1,gs.getD q.1 0)]else[]):=z;split at z
  ·rw[mem_singleton.mp z];exact Int.le_trans (by decide) o.2.1
  ·exact nomatch z
 ·split at z
  ·rename_i r er;rw[mem_singleton.mp z];have er:(if ov gs t q<q.2.1 then some (t-q.2.2-ov gs t q*gs.getD q.1 0)else none)=some r:=er;split at er
   ·cases er;show 0<=t-q.2.2-ov gs t q*gs.getD q.1 0;omega
   ·cases er
  ·exact nomatch z
theorem Sn.nodes(N:Sn ls ps gs hs)(M8:∀i,i<ps.length->(hs.getD i []).length<=8){i:Nat}{t:Int}(hi:i<ps.length)(ht:0<=t):Rm.nodes ps gs i t<=5000:=by
 have:=j1D N.s N.hl N.m N.g1 i t hi ht;have p61:=N.s.w.p61;have m8:=M8 i hi;have:9*(i+1)*max 1 (hs.getD i []).length<=9*61*8:=Nat.mul_le_mul (by omega) (by omega);omega
end
noncomputable def appH(ls:List (Str×Int))(ps:List (Str×Fm))(gs:List Int)(E:List (List (Int×Int)))(h:List Int)(x:Nat×Int):List Int:=
 if gs.getD x.1 0<=x.2 then(E.getD x.1 []).foldl (fun h q=>h.set q.1.toNat q.2) h
 else match ps[x.1]? with
  | some (_,.rise y v n)=>h.set (ixOf (nmsOf ls) y) (Rp.ramp (h.getD (ixOf (nmsOf ls) y) 0) v n x.2)
  | _=>h
noncomputable def standH(ls:List (Str×Int))(ps:List (Str×Fm))(gs:List Int)(E:List (List (Int×Int)))(t:Int):List Int:=(reach ps gs (ps.length-1) t).foldl (appH ls ps gs E) (ls.map (·.2))
noncomputable def ringX(ps:List (Str×Fm))(x:Nat×Int):List Str:=match ps[x.1]? with
 | some (_,.ring y _)=>if x.2=0 then[y]else[]
 | _=>[]
noncomputable def ringsW(ps:List (Str×Fm))(gs:List Int)(t:Int):List Str:=(reach ps gs (ps.length-1) t).flatMap (ringX ps)
inductive sp_standG(vs:List V)(H:Hp)(Q:VK)(xk:XK):Prop
 | mk (b pl pp:Addr) (las pas:List Addr) (ls:List (Str×Int)) (ps:List (Str×Fm)) (gs:List Int) (hs:List (List Int)) (t:Int) (_:vs=[.ref b,.int t]) (_:BookAt H b pl pp las pas ls ps) (_:Sn ls ps gs hs) (_:0<=t) (_:t<=gs.getD (ps.length-1) 0) (_:∀(l:Addr) (E:List (List (Int×Int))) (H':Hp),Same H H'->H l=none->E.length=ps.length->EndOk ls ps E->H' l=some (.lst ((standH ls ps gs E t).map V.int))->(standH ls ps gs E t).length=ls.length->Q (.ref l) H'):sp_standG vs H Q xk
inductive sp_ringsG(vs:List V)(H:Hp)(Q:VK)(xk:XK):Prop
 | mk (b pl pp:Addr) (las pas:List Addr) (ls:List (Str×Int)) (ps:List (Str×Fm)) (gs:List Int) (hs:List (List Int)) (t:Int) (_:vs=[.ref b,.int t]) (_:BookAt H b pl pp las pas ls ps) (_:Sn ls ps gs hs) (_:0<=t) (_:t<=gs.getD (ps.length-1) 0) (_:∀(l:Addr) (H':Hp),Same H H'->H l=none->H' l=some (.lst ((ringsW ps gs t).map V.str))->(ringsW ps gs t).length<=5000->Q (.ref l) H'):sp_ringsG vs H Q xk
theorem All2.app{α:Type}{R:Addr->α->Prop}{as bs:List Addr}{xs ys:List α}(h:All2 R as xs)(k:All2 R bs ys):All2 R (as++bs) (xs++ys):=by
 have hl:=h.1;refine⟨by rw[List.length_append,List.length_append,h.1,k.1],fun i a x h1 h2=>?_⟩;by_cases hi:i<as.length
 ·rw[List.getElem?_append_left hi]at h1;rw[List.getElem?_append_left (by omega)]at h2;exact h.2 i a x h1 h2
 ·rw[List.getElem?_append_right (by omega)]at h1;rw[List.getElem?_append_right (by omega)]at h2;exact k.2 _ a x h1 (by rw[hl];exact h2)
theorem All2.cons{α:Type}{R:Addr->α->Prop}{a:Addr}{as:List Addr}{x:α}{xs:List α}(h:R a x)(k:All2 R as xs):All2 R (a::as) (x::xs):=All2.app (as:=[a]) (xs:=[x]) (All2.snoc (as:=[]) (xs:=[]) .nil h) k
theorem All2.rev{α:Type}{R:Addr->α->Prop}:∀{as:List Addr} {xs:List α},All2 R as xs->All2 R as.reverse xs.reverse
 | [],[],_=>.nil
 | [],_::_,h=>absurd h.1 (by simp)
 | _::_,[],h=>absurd h.1 (by simp)
 | a::as,x::xs,h=>by
  rw[reverse_cons,reverse_cons];exact All2.app (All2.rev (All2.tail h).2) (All2.snoc (as:=[]) (xs:=[]) .nil (All2.tail h).1)
theorem All2.last{α:Type}{R:Addr->α->Prop}{as:List Addr}{xs:List α}{x:α}(h:All2 R as (xs++[x])):∃as' a,as=as'++[a]/\All2 R as' xs/\R a x:=by
 rcases eq_nil_or_concat as with rfl | ⟨as',a,rfl⟩
 ·have:=h.1;simp at this
 ·rw[concat_eq_append]at h|-;have hl:=h.1;rw[List.length_append,List.length_append]at hl;have hl':as'.length=xs.length:=by simpa using hl
  refine⟨as',a,rfl,⟨hl',fun i b y h1 h2=>?_⟩,?_⟩
  ·have hi:=(List.getElem?_eq_some_iff.mp h1).1;exact h.2 i b y (by rw[List.getElem?_append_left hi];exact h1) (by rw[List.getElem?_append_left (by omega)];exact h2)
  ·exact h.2 as'.length a x (by simp) (by rw[hl'];simp)
theorem YD{gs:List Int}{n:Nat}(h:1<=n)(e:gs.length=n):atI (gs.map V.int) (-1)=some (.int (gs.getD (n-1) 0)):=by
 have i:ixN n (-1)=some (n-1):=by
  unfold ixN;simp;omega
 unfold atI;rw[length_map,e,i];show(gs.map V.int)[n-1]?=_;rw[List.getElem?_map,getD_eq_getElem?_getD,List.getElem?_eq_getElem (by omega)];rfl
section
variable{ls:List (Str×Int)}{ps:List (Str×Fm)}{gs:List Int}{hs:List (List Int)}
theorem yw(W:WfB ls ps):∀{i:Nat} {t:Int} {x:Nat×Int},i<ps.length->x∈reach ps gs i t->x.1<ps.length:=by
 intro i
 induction i using Nat.strongRecOn with
 | ind i ih=>
  intro t x hi hx;by_cases h:gs.getD i 0<=t\/pcB ps gs i=[]
  ·rw[jU h]at hx;rw[mem_singleton.mp hx];exact hi
  ·rw[JA W h]at hx;obtain⟨y,hy,hx⟩:=mem_flatMap.mp hx;have:=Qb W hy;exact ih y.1 this (by omega) hx
theorem j0L(N:Sn ls ps gs hs):∀{i:Nat} {t:Int} {x:Nat×Int},i<ps.length->0<=t->x∈reach ps gs i t->0<=x.2:=by
 intro i
 induction i using Nat.strongRecOn with
 | ind i ih=>
  intro t x hi ht hx;by_cases h:gs.getD i 0<=t\/pcB ps gs i=[]
  ·rw[jU h]at hx;rw[mem_singleton.mp hx];exact ht
  ·rw[JA N.s.w h]at hx;obtain⟨y,hy,hx⟩:=mem_flatMap.mp hx;have:=Qb N.s.w hy;exact ih y.1 this (by omega) (ZT (fun q hq=>N.pcOk hq) hy) hx
theorem j3H(N:Sn ls ps gs hs){E:List (List (Int×Int))}(lE:E.length=ps.length)(oE:EndOk ls ps E):∀{i:Nat},i<ps.length->∀q∈E.getD i [],0<=q.2/\q.2<=10^18:=by
 intro i
 induction i using Nat.strongRecOn with
 | ind i ih=>
  intro hi q hq;have hE:E[i]?=some (E.getD i []):=by rw[getD_eq_getElem?_getD,List.getElem?_eq_getElem (by omega)];rfl
  obtain⟨p,hp⟩:∃p,ps[i]?=some p:=⟨_,List.getElem?_eq_getElem hi⟩
  rcases((oE i p _ hp hE).2 q.1 q.2).mp hq with⟨pre,j,post,e,h1,_⟩ | ⟨x,n,e,_⟩
  ·have hj:j∈inP ps p.2:=by rw[e];simp
   have:=N.s.w.inP_lt hp hj;exact ih j this (by omega) _ h1
  ·have:=N.r18 i p.1 x q.2 n (by rw[hp,<-e]);omega
theorem wX{h v n j:Int}(h0:0<=h/\h<=10^18)(v0:0<=v/\v<=10^18)(n1:1<=n)(j0:0<=j)(j1:j<=n):0<=Rp.ramp h v n j/\Rp.ramp h v n j<=10^18:=by
 unfold Rp.ramp;by_cases c:h<=v
 ·have a:0<=(v-h)*j:=Int.mul_nonneg (by omega) j0;have b:(v-h)*j<=(v-h)*n:=Int.mul_le_mul_of_nonneg_left j1 (by omega);have d0:0<=(v-h)*j/n:=Int.ediv_nonneg a (by omega);have d1:(v-h)*j/n<=v-h:=by
   have:=Int.ediv_le_ediv (show 0<n by omega) b;rw[Int.mul_ediv_cancel _ (show n≠0 by omega)]at this;exact this
  omega
 ·have a:(v-h)*j<=0:=Int.mul_nonpos_of_nonpos_of_nonneg (by omega) j0;have b:(v-h)*n<=(v-h)*j:=Int.mul_le_mul_of_nonpos_left (by omega) j1;have d0:(v-h)*j/n<=0:=by
   have:=Int.ediv_le_ediv (show 0<n by omega) a;rw[Int.zero_ediv]at this;exact this
  have d1:v-h<=(v-h)*j/n:=by
   have:=Int.ediv_le_ediv (show 0<n by omega) b;rw[Int.mul_ediv_cancel _ (show n≠0 by omega)]at this;exact this
  omega
end
inductive Fn where
 | hold (n:Int) | ring (x:Str) (n:Int) | rise (x:Str) (h n:Int) | row (is:List Nat) | side (is:List Nat) | again (k:Int) (j:Nat)
noncomputable def Fn.js:Fn->List Nat
 | .row is=>is
 | .side is=>is
 | .again _ j=>[j]
 | _=>[]
noncomputable def FnAt(H:Hp)(a:Addr):Fn->Prop
 | .hold n=>H a=some (.tup [.str "hold",.int n])
 | .ring x n=>H a=some (.tup [.str "ring",.str x,.int n])
 | .rise x h n=>H a=some (.tup [.str "raise",.str x,.int h,.int n])
 | .row is=>∃b,H a=some (.tup [.str "row",.ref b])/\H b=some (.lst (is.map vN))
 | .side is=>∃b,H a=some (.tup [.str "side",.ref b])/\H b=some (.lst (is.map vN))
 | .again k j=>H a=some (.tup [.str "again",.int k,.int (j:Nat)])
theorem FnAt.same{H H':Hp}{a:Addr}{f:Fn}(s:Same H H')(h:FnAt H a f):FnAt H' a f:=by
 cases f with
 | row is=>obtain⟨b,h1,h2⟩:=h;exact⟨b,s _ _ h1,s _ _ h2⟩
 | side is=>obtain⟨b,h1,h2⟩:=h;exact⟨b,s _ _ h1,s _ _ h2⟩
 | hold n=>exact s _ _ h
 | ring x n=>exact s _ _ h
 | rise x v n=>exact s _ _ h
 | again k j=>exact s _ _ h
def Ex(p:Addr)(H H':Hp):Prop:=∀c u,c≠p->H c=some u->H' c=some u
theorem Ex.refl{p:Addr}(H:Hp):Ex p H H:=fun _ _ _ h=>h
theorem Ex.trans{p:Addr}{H1 H2 H3:Hp}(a:Ex p H1 H2)(b:Ex p H2 H3):Ex p H1 H3:=fun c u n h=>b c u n (a c u n h)
theorem Ex.none{p:Addr}{H H':Hp}{c:Addr}(x:Ex p H H')(h:H' c=none)(n:c≠p):H c=none:=by
 cases e:H c with
 | none=>rfl
 | some u=>rw[x c u n e]at h;cases h
theorem Ex.of{p:Addr}{H H':Hp}(s:Same H H'):Ex p H H':=fun c u _ h=>s c u h
noncomputable def LenN(gs:List Int):Fn->Int->Prop
 | .hold n,g=>g=n
 | .ring _ n,g=>g=n
 | .rise _ _ n,g=>g=n
 | .row is,g=>g=(is.map fun j=>gs.getD j 0).sum
 | .side is,g=>(∃j∈is,g=gs.getD j 0)/\∀j∈is,gs.getD j 0<=g
 | .again k j,g=>g=k*gs.getD j 0
def MovN(L:List Str)(M:List (List Int))(f:Fn)(ks:List Int):Prop:=ks.Pairwise (· < ·)/\∀k,k∈ks↔(∃j∈f.js,k∈M.getD j [])\/∃(x:Str) (h n:Int) (i:Nat),f = .rise x h n/\L[i]?=some x/\k=(i:Int)
def ApartN(M:List (List Int))(is:List Nat):Prop:=(∀j∈is,M.getD j []≠[])/\is.Pairwise fun a b=>∀k∈M.getD a [],¬k∈M.getD b []
noncomputable def PreN(L:List Str)(M:List (List Int))(n:Nat):Fn->Prop
 | .hold m=>1<=m/\m<=10^18
 | .ring x m=>1<=m/\m<=10^18/\Ws.isW x=true
 | .rise x h m=>(∃i:Nat,L[i]?=some x)/\0<=h/\h<=10^18/\1<=m/\m<=10^18
 | .row is=>is≠[]/\is.length<=8/\∀j∈is,j<n
 | .side is=>2<=is.length/\is.length<=8/\(∀j∈is,j<n)/\ApartN M is
 | .again k j=>1<=k/\k<=10^18/\j<n
theorem PreN.js{L:List Str}{M:List (List Int)}{n:Nat}{f:Fn}(h:PreN L M n f):f.js.length<=8/\∀j∈f.js,j<n:=by
 cases f with
 | row is=>exact h.2
 | side is=>exact⟨h.2.1,h.2.2.1⟩
 | again k j=>exact⟨by show 1<=8;omega,fun i hi=>by rw[mem_singleton.mp hi];exact h.2.2⟩
 | hold n=>exact⟨Nat.zero_le _,fun j h=>nomatch h⟩
 | ring x n=>exact⟨Nat.zero_le _,fun j h=>nomatch h⟩
 | rise x v n=>exact⟨Nat.zero_le _,fun j h=>nomatch h⟩
structure DOk(L:List Str)(fs:List Fn)(M:List (List Int))(gs:List Int):Prop where
 ml:M.length=fs.length
 gl:gs.length=fs.length
 f:∀(i:Nat) (f:Fn),fs[i]?=some f->PreN L M i f/\MovN L M f (M.getD i [])/\LenN gs f (gs.getD i 0)
 g:∀i,i<fs.length->1<=gs.getD i 0/\gs.getD i 0<=10^60
noncomputable def toldF(names:List Str):Fn->Fm
 | .hold n=>.hold n
 | .ring x n=>.ring x n
 | .rise x h n=>.rise x h n
 | .row is=>.row (is.map fun j=>names.getD j ⟨#[]⟩)
 | .side is=>.side (is.map fun j=>names.getD j ⟨#[]⟩)
 | .again k j=>.again k (names.getD j ⟨#[]⟩)
inductive sp_takeD(vs:List V)(H:Hp)(Q:VK)(xk:XK):Prop
 | mk (p:Addr) (x m:Int) (_:vs=[.ref p,.int m]) (_:H p=some (.lst [.int x])) (_:0<m) (_:m<=10^200) (_:∀(r y:Int) (H':Hp),0<=r->r<m->Ex p H H'->H' p=some (.lst [.int y])->Q (.int r) H'):sp_takeD vs H Q xk
def xh:Sp:=fun vs H Q _=>∃c:Int,vs=[.int c]/\∀(p:Addr) (y:Int) (H':Hp),Same H H'->H p=none->H' p=some (.lst [.int y])->Q (.ref p) H'
inductive sp_apartD(vs:List V)(H:Hp)(Q:VK)(xk:XK):Prop
 | mk (m l:Addr) (mas:List Addr) (M:List (List Int)) (is:List Nat) (_:vs=[.ref m,.ref l]) (_:H m=some (.lst (mas.map V.ref))) (_:ListsAt H mas M) (_:(∀ks∈M,ks.length<=8)) (_:H l=some (.lst (is.map vN))) (_:is.length<=8) (_:(∀j∈is,j<M.length)) (_:∀(p:Addr) (js:List Nat) (H':Hp),Same H H'->H p=none->H' p=some (.lst (js.map vN))->js.length<=is.length->(∀j∈js,j∈is)->ApartN M js->Q (.ref p) H'):sp_apartD vs H Q xk
inductive sp_longD(vs:List V)(H:Hp)(Q:VK)(xk:XK):Prop
 | mk (a l:Addr) (f:Fn) (gs:List Int) (_:vs=[.ref a,.ref l]) (_:FnAt H a f) (_:H l=some (.lst (gs.map V.int))) (_:f.js.length<=8) (_:(∀j∈f.js,j<gs.length)) (_:(∀is,f = .side is->is≠[])) (_:(∀k j,f = .again k j->0<=k/\k<=10^18)) (_:(∀g∈gs,0<=g/\g<=10^60)) (_:∀(g:Int) (H':Hp),Same H H'->LenN gs f g->Q (.int g) H'):sp_longD vs H Q xk
inductive sp_movesD(vs:List V)(H:Hp)(Q:VK)(xk:XK):Prop
 | mk (a l m:Addr) (f:Fn) (L:List Str) (mas:List Addr) (M:List (List Int)) (_:vs=[.ref a,.ref l,.ref m]) (_:FnAt H a f) (_:H l=some (.lst (L.map V.str))) (_:L.Nodup) (_:H m=some (.lst (mas.map V.ref))) (_:ListsAt H mas M) (_:(∀ks∈M,ks.Pairwise (· < ·)/\ks.length<=8)) (_:(∀ks∈M,∀k∈ks,0<=k/\k<8)) (_:f.js.length<=8) (_:(∀j∈f.js,j<M.length)) (_:(∀x h n,f = .rise x h n->∃i:Nat,L[i]?=some x)) (_:∀(p:Addr) (ks:List Int) (H':Hp),Same H H'->H p=none->H' p=some (.lst (ks.map V.int))->MovN L M f ks->Q (.ref p) H'):sp_movesD vs H Q xk
inductive sp_formD(vs:List V)(H:Hp)(Q:VK)(xk:XK):Prop
 | mk (p l w m:Addr) (x pace:Int) (L Wd:List Str) (mas:List Addr) (M:List (List Int)) (_:vs=[.ref p,.ref l,.ref w,.ref m,.int pace]) (_:H p=some (.lst [.int x])) (_:H l=some (.lst (L.map V.str))) (_:1<=L.length) (_:L.length<=8) (_:H w=some (.lst (Wd.map V.str))) (_:4<=Wd.length) (_:(∀x∈Wd,Ws.isW x=true)) (_:H m=some (.lst (mas.map V.ref))) (_:ListsAt H mas M) (_:(∀ks∈M,ks.length<=8)) (_:M.length<=60) (_:(∀a∈mas,a≠p)) (_:l≠p) (_:w≠p) (_:m≠p) (_:1<=pace) (_:pace<=10^18) (_:∀(a:Addr) (f:Fn) (y:Int) (H':Hp),Ex p H H'->H' p=some (.lst [.int y])->(∀H'',(∀c u,c≠p->H c=none->H' c=some u->H'' c=some u)->FnAt H'' a f)->PreN L M M.length f->Q (.ref a) H'):sp_formD vs H Q xk
inductive sp_playD(vs:List V)(H:Hp)(Q:VK)(xk:XK):Prop
 | mk (l:Addr) (gs:List Int) (most:Int) (_:vs=[.ref l,.int most]) (_:H l=some (.lst (gs.map V.int))) (_:1<=gs.length) (_:gs.length<=60) (_:(∀g∈gs,0<=g/\g<=most)) (_:most<=10^60) (_:∀(a:Addr) (is:List Nat) (H':Hp),Same H H'->H a=none->(∃b,H b=none/\H' a=some (.tup [.str "row",.ref b])/\H' b=some (.lst (is.map vN)))->is≠[]->is.length<=8->(∀j∈is,j<gs.length)->(is.map fun j=>gs.getD j 0).sum<=most->Q (.ref a) H'):sp_playD vs H Q xk
inductive sp_told_formD(vs:List V)(H:Hp)(Q:VK)(xk:XK):Prop
 | mk (a n:Addr) (f:Fn) (names:List Str) (_:vs=[.ref a,.ref n]) (_:FnAt H a f) (_:H n=some (.lst (names.map V.str))) (_:f.js.length<=8) (_:(∀j∈f.js,j<names.length)) (_:∀(b:Addr) (H':Hp),Same H H'->FormAt H' b (toldF names f)->Q (.ref b) H'):sp_told_formD vs H Q xk
theorem WW{M:List (List Int)}{is:List Nat}{hs:List Int}{i j:Nat}(hj:is[i]?=some j)(h:∀k,k∈hs↔∃x∈is.take i,k∈M.getD x [])(nd:hs.Nodup)(nj:(M.getD j []).Nodup) :
  (hs++(M.getD j []).filter fun k=>!decide (k∈hs)).Nodup/\∀k,k∈hs++((M.getD j []).filter fun k=>!decide (k∈hs))↔∃x∈is.take (i+1),k∈M.getD x []:=by
 rw[take_snoc hj];refine⟨nodup_append.mpr ⟨nd,nj.filter _,fun x hx y hy e=>?_⟩,fun k=>?_⟩
 ·have:=(mem_filter.mp hy).2;rw[<-e]at this;simp[hx]at this
 ·rw[mem_append,mem_filter];constructor
  ·rintro(hh | ⟨hk,_⟩)
   ·obtain⟨x,hx,hk⟩:=(h k).mp hh;exact⟨x,mem_append_left _ hx,hk⟩
   ·exact⟨j,mem_append_right _ mem_cons_self,hk⟩
  ·rintro⟨x,hx,hk⟩;rcases mem_append.mp hx with z | z
   ·exact .inl ((h k).mpr ⟨x,z,hk⟩)
   ·rw[mem_singleton.mp z]at hk;by_cases c:k∈hs
    ·exact .inl c
    ·exact .inr ⟨hk,by simpa using c⟩
theorem lt64{ts:List Int}(nd:ts.Nodup)(h:∀k∈ts,0<=k/\k<8):ts.length<64:=by
 have:=len_sub (a:=ts) (b:=[0,1,2,3,4,5,6,7]) nd fun k hk=>by
  have:=h k hk;have:k=0\/k=1\/k=2\/k=3\/k=4\/k=5\/k=6\/k=7:=by omega
  rcases this with rfl | rfl | rfl | rfl | rfl | rfl | rfl | rfl<;>simp
 exact Nat.lt_of_le_of_lt this (by decide)
theorem j2R{M:List (List Int)}(h:∀ks∈M,∀k∈ks,0<=k/\k<8){j:Nat}(hj:j<M.length){k:Int}(hk:k∈M.getD j []):0<=k/\k<8:=by
 refine h _ ?_ k hk;rw[getD_eq_getElem?_getD,List.getElem?_eq_getElem hj];exact getElem_mem hj
theorem qP{α:Type}{xs:List α}{x d:α}{j:Nat}(h:j<xs.length):(xs++[x]).getD j d=xs.getD j d:=by
 rw[getD_eq_getElem?_getD,getD_eq_getElem?_getD,List.getElem?_append_left h]
theorem QV{α:Type}{xs:List α}{x d:α}:(xs++[x]).getD xs.length d=x:=by
 rw[getD_eq_getElem?_getD,List.getElem?_append_right (Nat.le_refl _),Nat.sub_self];rfl
theorem PreN.ext{L:List Str}{M:List (List Int)}{ks:List Int}{n:Nat}{f:Fn}(hn:n<=M.length)(h:PreN L M n f):PreN L (M++[ks]) n f:=by
 cases f with
 | side is=>
  obtain⟨a,b,c,d,e⟩:=h;have g:∀j∈is,(M++[ks]).getD j []=M.getD j []:=fun j hj=>qP (by have:=c j hj;omega)
  refine⟨a,b,c,fun j hj=>by rw[g j hj];exact d j hj,?_⟩;exact(List.pairwise_iff_forall_sublist.mpr fun {x y} hs=>by
   have hx:x∈is:=hs.subset mem_cons_self;have hy:y∈is:=hs.subset (mem_cons_of_mem _ mem_cons_self);rw[g x hx,g y hy];exact List.pairwise_iff_forall_sublist.mp e hs)
 | hold m=>exact h
 | ring x m=>exact h
 | rise x v m=>exact h
 | row is=>exact h
 | again k j=>exact h
theorem MovN.ext{L:List Str}{M:List (List Int)}{ks hs:List Int}{f:Fn}(hj:∀j∈f.js,j<M.length)(h:MovN L M f hs):MovN L (M++[ks]) f hs:=by
 refine⟨h.1,fun k=>(h.2 k).trans ?_⟩;have:(∃j∈f.js,k∈M.getD j [])↔∃j∈f.js,k∈(M++[ks]).getD j []:=by
  constructor
  ·rintro⟨j,h1,h2⟩;exact⟨j,h1,by rw[qP (hj j h1)];exact h2⟩
  ·rintro⟨j,h1,h2⟩;exact⟨j,h1,by rw[qP (hj j h1)]at h2;exact h2⟩
 rw[this]
theorem LenN.ext{gs:List Int}{g' g:Int}{f:Fn}(hj:∀j∈f.js,j<gs.length)(h:LenN gs f g):LenN (gs++[g']) f g:=by
 have e:∀j∈f.js,(gs++[g']).getD j 0=gs.getD j 0:=fun j hj'=>qP (hj j hj')
 cases f with
 | hold m=>exact h
 | ring x m=>exact h
 | rise x v m=>exact h
 | row is=>
  show g=(is.map fun j=>(gs++[g']).getD j 0).sum;have e2:is.map (fun j=>(gs++[g']).getD j 0)=is.map fun j=>gs.getD j 0:=map_congr_left e
  rw[e2];exact h
 | side is=>
  obtain⟨⟨j,hj',ej⟩,h2⟩:=h;exact⟨⟨j,hj',by rw[e j hj'];exact ej⟩,fun j' hj''=>by rw[e j' hj''];exact h2 j' hj''⟩
 | again k j=>
  show g=k*(gs++[g']).getD j 0;rw[e j mem_cons_self];exact h
theorem DOk.add{L:List Str}{fs:List Fn}{M:List (List Int)}{gs:List Int}{f:Fn}{ks:List Int}{g:Int}(D:DOk L fs M gs)(h1:PreN L M fs.length f)(h2:MovN L M f ks)(h3:LenN gs f g)(h4:1<=g/\g<=10^60):DOk L (fs++[f]) (M++[ks]) (gs++[g]):=by
 have ml:=D.ml;have gl:=D.gl;refine⟨by simp[ml],by simp[gl],fun i f' hf'=>?_,fun i hi=>?_⟩
 ·by_cases hi:i<fs.length
  ·rw[List.getElem?_append_left hi]at hf';obtain⟨a,b,c⟩:=D.f i f' hf';have js:=a.js.2;rw[qP (by omega),qP (by omega)];exact⟨a.ext (by omega),b.ext fun j hj=>by have:=js j hj;omega,c.ext fun j hj=>by have:=js j hj;omega⟩
  ·rw[List.getElem?_append_right (by omega)]at hf';have hi':i=fs.length:=by
    have:=(List.getElem?_eq_some_iff.mp hf').1;simp at this;omega
   subst hi';rw[Nat.sub_self]at hf';have e:f=f':=by simpa using hf'
   subst e;rw[<-ml,QV,ml,<-gl,QV,gl];have js:=h1.js.2;exact⟨h1.ext (by omega),h2.ext fun j hj=>by have:=js j hj;omega,h3.ext fun j hj=>by have:=js j hj;omega⟩
 ·rw[List.length_append]at hi;by_cases hi':i<fs.length
  ·rw[qP (by omega)];exact D.g i hi'
  ·have e:i=gs.length:=by simp at hi;omega
   subst e;rw[QV];exact h4
theorem DOk.gpos{L:List Str}{fs:List Fn}{M:List (List Int)}{gs:List Int}(D:DOk L fs M gs){f:Fn}(h:PreN L M fs.length f){g:Int}(hg:LenN gs f g):1<=g:=by
 have js:=h.js.2;have gp:∀j,j<fs.length->1<=gs.getD j 0:=fun j hj=>(D.g j hj).1
 cases f with
 | hold m=>have:g=m:=hg;have:=h.1;omega
 | ring x m=>have:g=m:=hg;have:=h.1;omega
 | rise x v m=>have:g=m:=hg;have:=h.2.2.2.1;omega
 | row is=>
  have e:g=(is.map fun j=>gs.getD j 0).sum:=hg;rw[e];have:∀js:List Nat,(∀j∈js,j<fs.length)->(js.length:Int)<=(js.map fun j=>gs.getD j 0).sum:=fun js=>by
   induction js with
   | nil=>exact fun _=>Int.le_refl _
   | cons j r ih=>
    intro h;rw[map_cons,sum_cons,length_cons];have:=ih fun k hk=>h k (mem_cons_of_mem _ hk)
    have:=gp j (h j mem_cons_self);omega
  have:=this is js;have:=length_pos_iff.mpr h.1;omega
 | side is=>
  obtain⟨⟨j,hj,rfl⟩,_⟩:=hg;exact gp j (js j hj)
 | again k j=>
  have e:g=k*gs.getD j 0:=hg;have g1:=gp j (js j mem_cons_self);have k1:=h.1;rw[e];have:=Int.mul_le_mul k1 g1 (by omega) (by omega);omega
theorem DOk.bnd{L:List Str}{fs:List Fn}{M:List (List Int)}{gs:List Int}(D:DOk L fs M gs):∀i,i<fs.length->∀k∈M.getD i [],0<=k/\k<(L.length:Int):=by
 intro i
 induction i using Nat.strongRecOn with
 | ind i ih=>
  intro hi k hk;obtain⟨a,b,_⟩:=D.f i _ (List.getElem?_eq_getElem hi);rcases(b.2 k).mp hk with⟨j,hj,hk'⟩ | ⟨x,h,n,j,_,hj,rfl⟩
  ·have:=a.js.2 j hj;exact ih j this (by omega) k hk'
  ·have:=(List.getElem?_eq_some_iff.mp hj).1;omega
theorem DOk.up{L:List Str}{fs:List Fn}{M:List (List Int)}{gs:List Int}(D:DOk L fs M gs)(L8:L.length<=8):∀ks∈M,ks.Pairwise (· < ·)/\ks.length<=8/\∀k∈ks,0<=k/\k<8:=fun ks hks=>by
 obtain⟨i,hi,rfl⟩:=mem_iff_getElem.mp hks;have ml:=D.ml;obtain⟨_,b,_⟩:=D.f i _ (List.getElem?_eq_getElem (by omega));have e:M.getD i []=M[i]:=by rw[getD_eq_getElem?_getD,List.getElem?_eq_getElem hi];rfl
 rw[e]at b;have bn:=D.bnd i (by omega);rw[e]at bn;have:=Zw b.1 bn;exact⟨b.1,by omega,fun k hk=>by have:=bn k hk;omega⟩
noncomputable def drawnPs(names:List Str)(fs:List Fn):List (Str×Fm):=(List.range fs.length).map fun i=>(names.getD i ⟨#[]⟩,toldF names (fs.getD i (.hold 0)))
inductive sp_bookD(K:Frg)(vs:List V)(H:Hp)(Q:VK)(xk:XK):Prop
 | mk (a:Addr) (ns:List Int) (many pace most:Int) (_:vs=[.ref a,.int many,.int pace,.int most]) (_:SqL K H a (ns.map V.int)) (_:ns.length<=63) (_:1<=many) (_:many<=15) (_:1<=pace) (_:pace<=10^18) (_:3<=most) (_:most<=10^60) (_:∀(r b pl pp pf pm pg:Addr) (las pas fas mas:List Addr) (names:List Str) (ls:List (Str×Int)) (fs:List Fn) (M:List (List Int)) (gs:List Int) (H':Hp),Same H H'->H' r=some (.lst [.ref b,.ref pf,.ref pm,.ref pg])->BookAt H' b pl pp las pas ls (drawnPs names fs)->H' pf=some (.lst (fas.map V.ref))->All2 (FnAt H') fas fs->H' pm=some (.lst (mas.map V.ref))->ListsAt H' mas M->H' pg=some (.lst (gs.map V.int))->names.length=26->names.Nodup->(∀x∈names,Ws.isW x=true)->1<=fs.length->fs.length<=16->DOk (nmsOf ls) fs M gs->(nmsOf ls).Nodup->1<=ls.length->ls.length<=8->(∀q∈ls,0<=q.2/\q.2<=10^18)->(∀i,i<fs.length->gs.getD i 0<=most)->Q (.ref r) H'):sp_bookD K vs H Q xk
def Kp3(pf pm pg:Addr)(H H':Hp):Prop:=∀c u,c≠pf->c≠pm->c≠pg->H c=some u->H' c=some u
theorem Kp3.trans{pf pm pg:Addr}{H1 H2 H3:Hp}(a:Kp3 pf pm pg H1 H2)(b:Kp3 pf pm pg H2 H3):Kp3 pf pm pg H1 H3:=fun c u n1 n2 n3 h=>b c u n1 n2 n3 (a c u n1 n2 n3 h)
def FnSt(pf pm pg:Addr)(H:Hp)(a:Addr)(f:Fn):Prop:=∀H'',Kp3 pf pm pg H H''->FnAt H'' a f
theorem FnSt.mono{pf pm pg:Addr}{H H':Hp}{a:Addr}{f:Fn}(k:Kp3 pf pm pg H H')(h:FnSt pf pm pg H a f):FnSt pf pm pg H' a f:=fun H'' k'=>h H'' (k.trans k')
def MvSt(pf pm pg:Addr)(H:Hp)(a:Addr)(ks:List Int):Prop:=a≠pf/\a≠pm/\a≠pg/\H a=some (.lst (ks.map V.int))
theorem WY{ws:List Str}(nd:ws.Nodup):∀{is:List Nat},is.Nodup->(∀j∈is,j<ws.length)->(is.map fun j=>ws.getD j ⟨#[]⟩).Nodup
 | [],_,_=>.nil
 | i::r,h,hl=>by
  rw[nodup_cons]at h;rw[map_cons,nodup_cons];refine⟨fun hm=>?_,WY nd h.2 fun j hj=>hl j (mem_cons_of_mem _ hj)⟩;obtain⟨j,hj,e⟩:=mem_map.mp hm;have:=getD_inj nd (hl j (mem_cons_of_mem _ hj)) (hl i mem_cons_self) e;exact h.1 (this▸hj)
theorem j1l{gs:List Int}{f:Fn}{g g':Int}(h:LenN gs f g)(h':LenN gs f g'):g=g':=by
 cases f with
 | side is=>
  obtain⟨⟨j,hj,rfl⟩,h2⟩:=h;obtain⟨⟨j',hj',rfl⟩,h2'⟩:=h';have:=h2 j' hj';have:=h2' j hj;omega
 | hold m=>exact Eq.trans h (Eq.symm h')
 | ring x m=>exact Eq.trans h (Eq.symm h')
 | rise x v m=>exact Eq.trans h (Eq.symm h')
 | row is=>exact Eq.trans h (Eq.symm h')
 | again k j=>exact Eq.trans h (Eq.symm h')
section
variable{L:List Str}{fs:List Fn}{M:List (List Int)}{gs:List Int}{names:List Str}{ls:List (Str×Int)}
theorem Jq:(drawnPs names fs).length=fs.length:=by unfold drawnPs;rw[length_map,length_range]
theorem qO{i:Nat}{f:Fn}(h:fs[i]?=some f):(drawnPs names fs)[i]?=some (names.getD i ⟨#[]⟩,toldF names f):=by
 unfold drawnPs;have hi:=(List.getElem?_eq_some_iff.mp h).1;rw[List.getElem?_map,List.getElem?_range hi];have e:fs.getD i (.hold 0)=f:=by rw[getD_eq_getElem?_getD,h];rfl
 show some (names.getD i ⟨#[]⟩,toldF names (fs.getD i (.hold 0)))=_;rw[e]
theorem qW{i:Nat}{p:Str×Fm}(h:(drawnPs names fs)[i]?=some p):∃f,fs[i]?=some f/\p=(names.getD i ⟨#[]⟩,toldF names f):=by
 have hi:=(List.getElem?_eq_some_iff.mp h).1;rw[Jq]at hi;obtain⟨f,hf⟩:∃f,fs[i]?=some f:=⟨_,List.getElem?_eq_getElem hi⟩
 rw[qO hf]at h;exact⟨f,hf,(Option.some.inj h).symm⟩
theorem Kn(hn:fs.length<=names.length):nmsOf (drawnPs names fs)=names.take fs.length:=by
 unfold nmsOf drawnPs;rw[List.map_map];refine ext_getElem (by rw[length_map,length_range,length_take];omega) fun i h1 h2=>?_
 rw[getElem_map,getElem_range,List.getElem_take];show names.getD i ⟨#[]⟩=_;rw[getD_eq_getElem?_getD,List.getElem?_eq_getElem];rfl
theorem j3r(hn:fs.length<=names.length){j:Nat}(hj:j<fs.length):(nmsOf (drawnPs names fs))[j]?=some (names.getD j ⟨#[]⟩):=by
 rw[Kn hn,List.getElem?_take,if_pos hj,getD_eq_getElem?_getD,List.getElem?_eq_getElem (by omega)];rfl
theorem WE(hn:fs.length<=names.length)(nd:names.Nodup):(nmsOf (drawnPs names fs)).Nodup:=by
 rw[Kn hn];exact nd.sublist (List.take_sublist _ _)
theorem QS(hn:fs.length<=names.length)(nd:names.Nodup){f:Fn}(hj:∀j∈f.js,j<fs.length):inP (drawnPs names fs) (toldF names f)=f.js:=by
 have e:∀is:List Nat,(∀j∈is,j<fs.length)->(is.map fun j=>names.getD j ⟨#[]⟩).map (ixOf (nmsOf (drawnPs names fs)))=is:=fun is h=>by
  rw[List.map_map]
  conv=>rhs;rw[<-map_id is]
  exact map_congr_left fun j hj=>Jm (WE hn nd) (j3r hn (h j hj))
 unfold inP;cases f with
 | row is=>exact e is hj
 | side is=>exact e is hj
 | again k j=>exact e [j] hj
 | hold n=>rfl
 | ring x n=>rfl
 | rise x v n=>rfl
theorem xo(f:Fn):(toldF names f).ns=f.js.map fun j=>names.getD j ⟨#[]⟩:=by cases f<;>rfl
theorem DOk.wf(D:DOk (nmsOf ls) fs M gs)(hn:fs.length<=names.length)(nd:names.Nodup)(lnd:(nmsOf ls).Nodup)(l8:ls.length<=8)(f61:fs.length<=61):WfB ls (drawnPs names fs):=by
 refine⟨lnd,l8,WE hn nd,by rw[Jq];exact f61,fun i p hp=>?_,fun i y x h n hp=>?_⟩
 ·obtain⟨f,hf,rfl⟩:=qW hp;have hi:=(List.getElem?_eq_some_iff.mp hf).1;obtain⟨pre,_⟩:=D.f i f hf;have js:=pre.js;refine⟨fun x hx=>?_,?_⟩
  ·rw[xo]at hx;obtain⟨j,hj,rfl⟩:=mem_map.mp hx;have:=js.2 j hj;exact⟨j,this,j3r hn (by omega)⟩
  ·rw[xo,length_map];exact js.1
 ·obtain⟨f,hf,e⟩:=qW hp;obtain⟨pre,_⟩:=D.f i f hf;have e2:=(Prod.mk.inj e).2;cases f with
  | rise x' h' n'=>
   have:x=x':=by injection e2
   subst this;exact pre.1
  | hold n=>cases e2
  | ring x n=>cases e2
  | row is=>cases e2
  | side is=>cases e2
  | again k j=>cases e2
theorem DOk.mov(D:DOk (nmsOf ls) fs M gs)(hn:fs.length<=names.length)(nd:names.Nodup)(lnd:(nmsOf ls).Nodup):MovOk ls (drawnPs names fs) M:=by
 intro i p ks hp hk;obtain⟨f,hf,rfl⟩:=qW hp;have hi:=(List.getElem?_eq_some_iff.mp hf).1;obtain⟨pre,mv,_⟩:=D.f i f hf;have js:=pre.js.2;have ek:M.getD i []=ks:=by rw[getD_eq_getElem?_getD,hk];rfl
 rw[ek]at mv;refine⟨mv.1,fun k=>(mv.2 k).trans ?_⟩;rw[QS hn nd fun j hj=>by have:=js j hj;omega];refine⟨fun h=>h.imp id ?_,fun h=>h.imp id ?_⟩
 ·rintro⟨x,v,n,j,rfl,hj,rfl⟩;exact⟨x,v,n,rfl,by rw[Jm lnd hj]⟩
 ·rintro⟨x,v,n,e,rfl⟩;cases f with
  | rise x' h' n'=>
   have:x'=x:=by injection e
   subst this;obtain⟨j,hj⟩:=pre.1;exact⟨x',h',n',j,rfl,hj,by rw[Jm lnd hj]⟩
  | hold n=>cases e
  | ring x n=>cases e
  | row is=>cases e
  | side is=>cases e
  | again k j=>cases e
theorem j2U{ps:List (Str×Fm)}{M M':List (List Int)}(W:WfB ls ps)(h:MovOk ls ps M)(h':MovOk ls ps M')(l:M.length=ps.length)(l':M'.length=ps.length):∀i,i<ps.length->M'.getD i []=M.getD i []:=by
 intro i
 induction i using Nat.strongRecOn with
 | ind i ih=>
  intro hi;have ep:ps[i]?=some ps[i]:=List.getElem?_eq_getElem hi;have eM:M[i]?=some (M.getD i []):=by rw[getD_eq_getElem?_getD,List.getElem?_eq_getElem (by omega)];rfl
  have eM':M'[i]?=some (M'.getD i []):=by rw[getD_eq_getElem?_getD,List.getElem?_eq_getElem (by omega)];rfl
  obtain⟨a,b⟩:=h i _ _ ep eM;obtain⟨a',b'⟩:=h' i _ _ ep eM';refine j2k a' a fun k=>(b' k).trans (Iff.trans ?_ (b k).symm)
  have key:(∃j∈inP ps (ps[i]).2,k∈M'.getD j [])↔∃j∈inP ps (ps[i]).2,k∈M.getD j []:=by
   constructor
   ·rintro⟨j,hj,hk⟩;have:=W.inP_lt ep hj;exact⟨j,hj,by rw[<-ih j this (by omega)];exact hk⟩
   ·rintro⟨j,hj,hk⟩;have:=W.inP_lt ep hj;exact⟨j,hj,by rw[ih j this (by omega)];exact hk⟩
  rw[key]
theorem DOk.sn(D:DOk (nmsOf ls) fs M gs)(hn:fs.length<=names.length)(nd:names.Nodup)(lnd:(nmsOf ls).Nodup)(l8:ls.length<=8)(f61:fs.length<=61)(f1:1<=fs.length)(lh:∀q∈ls,0<=q.2/\q.2<=10^18):Sn ls (drawnPs names fs) gs M:=by
 have W:=D.wf hn nd lnd l8 f61;have MV:=D.mov hn nd lnd;have dl:(drawnPs names fs).length=fs.length:=Jq;have ml:=D.ml;have gl:=D.gl;refine⟨⟨W,by omega,fun i hi=>?_,fun M' l' h' i hi=>j2U W MV h' (by omega) l' i hi,fun i p hp=>?_,fun i p qs hp e=>?_⟩,by omega,MV,fun i hi=>(D.g i (by omega)).1,by omega,lh,fun i y x v n hp=>?_,fun i y x k hp=>?_⟩
 ·have:=D.g i (by omega);omega
 ·obtain⟨f,hf,rfl⟩:=qW hp;have hi:=(List.getElem?_eq_some_iff.mp hf).1;obtain⟨pre,_,ln⟩:=D.f i f hf;have js:=pre.js.2;rw[show inP (drawnPs names fs) (names.getD i ⟨#[]⟩,toldF names f).2=f.js from QS hn nd fun j hj=>by have:=js j hj;omega];cases f with
  | hold n=>exact⟨trivial,fun g h=>Eq.trans h (Eq.symm ln)⟩
  | ring x n=>exact⟨trivial,fun g h=>Eq.trans h (Eq.symm ln)⟩
  | rise x v n=>exact⟨trivial,fun g h=>Eq.trans h (Eq.symm ln)⟩
  | row is=>exact⟨trivial,fun g h=>Eq.trans h (Eq.symm ln)⟩
  | side is=>
   refine⟨fun z=>?_,fun g h=>?_⟩
   ·have p2:=pre.1;have:is.length=0:=by rw[<-length_map (f:=fun j=>gs.getD j 0)];exact congrArg List.length z
    omega
   ·obtain⟨h1,h2⟩:=h;obtain⟨j,hj,rfl⟩:=mem_map.mp h1;obtain⟨⟨j',hj',e'⟩,l2⟩:=ln;have a1:=l2 j hj;have a2:=h2 (gs.getD j' 0) (mem_map.mpr ⟨j',hj',rfl⟩);omega
  | again k j=>
   have gj:=D.g j (by have:=js j mem_cons_self;omega);refine⟨⟨gs.getD j 0,[],rfl,Int.le_trans (by decide) pre.1,pre.2.1,by omega,gj.2⟩,fun g h=>?_⟩;obtain⟨y,hy,rfl⟩:=h;cases hy;exact Eq.symm ln
 ·obtain⟨f,hf,rfl⟩:=qW hp;have hi:=(List.getElem?_eq_some_iff.mp hf).1;obtain⟨pre,_,_⟩:=D.f i f hf;have js:=pre.js.2;rw[show inP (drawnPs names fs) (names.getD i ⟨#[]⟩,toldF names f).2=f.js from QS hn nd fun j hj=>by have:=js j hj;omega];cases f with
  | side is=>
   obtain⟨_,_,_,ap1,ap2⟩:=pre;refine⟨ap1,fun k=>?_⟩;have one:∀js:List Nat,js.Pairwise (fun a b=>∀k∈M.getD a [],¬k∈M.getD b [])->((js.map fun j=>M.getD j []).filter fun ks=>decide (k∈ks)).length<=1:=fun js=>by
    induction js with
    | nil=>exact fun _=>Nat.zero_le _
    | cons j r ih=>
     intro h;rw[pairwise_cons]at h;rw[map_cons,filter_cons];split
     ·rename_i c;have e:(r.map fun j=>M.getD j []).filter (fun ks=>decide (k∈ks))=[]:=by
       rw[List.filter_eq_nil_iff];intro ks hks;obtain⟨j',hj',rfl⟩:=mem_map.mp hks;have:=h.1 j' hj' k (of_decide_eq_true c);simpa using this
      rw[e];exact Nat.le_refl _
     ·exact ih h.2
   exact one is ap2
  | hold n=>cases e
  | ring x n=>cases e
  | rise x v n=>cases e
  | row is=>cases e
  | again k j=>cases e
 ·obtain⟨f,hf,e⟩:=qW hp;obtain⟨pre,_⟩:=D.f i f hf;have e2:=(Prod.mk.inj e).2;cases f with
  | rise x' h' n'=>
   injection e2 with e3 e4 e5;subst e3 e4 e5;exact pre.2
  | hold n=>cases e2
  | ring x n=>cases e2
  | row is=>cases e2
  | side is=>cases e2
  | again k j=>cases e2
 ·obtain⟨f,hf,e⟩:=qW hp;obtain⟨pre,_⟩:=D.f i f hf;have e2:=(Prod.mk.inj e).2;cases f with
  | again k' j=>
   injection e2 with e3 e4;subst e3;exact⟨pre.1,pre.2.1⟩
  | rise x' h' n'=>cases e2
  | hold n=>cases e2
  | ring x n=>cases e2
  | row is=>cases e2
  | side is=>cases e2
end
section
variable{L:List Str}{fs:List Fn}{M:List (List Int)}{gs:List Int}{names:List Str}{ls:List (Str×Int)}{n:Nat}
theorem Js{α:Type}{xs:List α}{d:α}{i:Nat}(h:i<n):(xs.take n).getD i d=xs.getD i d:=by
 rw[getD_eq_getElem?_getD,getD_eq_getElem?_getD,List.getElem?_take,if_pos h]
theorem QT:(drawnPs names fs).take n=drawnPs names (fs.take n):=by
 unfold drawnPs;rw[<-map_take,List.take_range,length_take];exact map_congr_left fun i hi=>by
  have:=mem_range.mp hi;rw[Js (by omega)]
theorem PreN.take{f:Fn}{i:Nat}(hi:i<=n)(h:PreN L M i f):PreN L (M.take n) i f:=by
 cases f with
 | side is=>
  obtain⟨a,b,c,d,e⟩:=h;have g:∀j∈is,(M.take n).getD j []=M.getD j []:=fun j hj=>Js (by have:=c j hj;omega)
  refine⟨a,b,c,fun j hj=>by rw[g j hj];exact d j hj,?_⟩;exact(List.pairwise_iff_forall_sublist.mpr fun {x y} hs=>by
   have hx:x∈is:=hs.subset mem_cons_self;have hy:y∈is:=hs.subset (mem_cons_of_mem _ mem_cons_self);rw[g x hx,g y hy];exact List.pairwise_iff_forall_sublist.mp e hs)
 | hold m=>exact h
 | ring x m=>exact h
 | rise x v m=>exact h
 | row is=>exact h
 | again k j=>exact h
theorem MovN.take{ks:List Int}{f:Fn}(hj:∀j∈f.js,j<n)(h:MovN L M f ks):MovN L (M.take n) f ks:=by
 refine⟨h.1,fun k=>(h.2 k).trans ?_⟩;have:(∃j∈f.js,k∈M.getD j [])↔∃j∈f.js,k∈(M.take n).getD j []:=by
  constructor
  ·rintro⟨j,h1,h2⟩;exact⟨j,h1,by rw[Js (hj j h1)];exact h2⟩
  ·rintro⟨j,h1,h2⟩;exact⟨j,h1,by rw[Js (hj j h1)]at h2;exact h2⟩
 rw[this]
theorem LenN.take{g:Int}{f:Fn}(hj:∀j∈f.js,j<n)(h:LenN gs f g):LenN (gs.take n) f g:=by
 have e:∀j∈f.js,(gs.take n).getD j 0=gs.getD j 0:=fun j hj'=>Js (hj j hj')
 cases f with
 | hold m=>exact h
 | ring x m=>exact h
 | rise x v m=>exact h
 | row is=>
  show g=(is.map fun j=>(gs.take n).getD j 0).sum;have e2:is.map (fun j=>(gs.take n).getD j 0)=is.map fun j=>gs.getD j 0:=map_congr_left e
  rw[e2];exact h
 | side is=>
  obtain⟨⟨j,hj',ej⟩,h2⟩:=h;exact⟨⟨j,hj',by rw[e j hj'];exact ej⟩,fun j' hj''=>by rw[e j' hj''];exact h2 j' hj''⟩
 | again k j=>
  show g=k*(gs.take n).getD j 0;rw[e j mem_cons_self];exact h
theorem DOk.take(D:DOk L fs M gs)(hn:n<=fs.length):DOk L (fs.take n) (M.take n) (gs.take n):=by
 have ml:=D.ml;have gl:=D.gl;refine⟨by rw[length_take,length_take];omega,by rw[length_take,length_take];omega,fun i f hf=>?_,fun i hi=>?_⟩
 ·have hi:=(List.getElem?_eq_some_iff.mp hf).1;rw[length_take]at hi;rw[List.getElem?_take,if_pos (by omega)]at hf;obtain⟨a,b,c⟩:=D.f i f hf;have js:=a.js.2;rw[Js (by omega),Js (by omega)];exact⟨a.take (by omega),b.take fun j hj=>by have:=js j hj;omega,c.take fun j hj=>by have:=js j hj;omega⟩
 ·rw[length_take]at hi;rw[Js (by omega)];exact D.g i (by omega)
theorem Yu{gs gs':List Int}:∀{is:List Nat} {b:Int},(∀j∈is,gs.getD j 0=gs'.getD j 0)->rowPc gs is b=rowPc gs' is b
 | [],_,_=>rfl
 | j::r,b,h=>by
  unfold rowPc;rw[h j mem_cons_self,Yu fun k hk=>h k (mem_cons_of_mem _ hk)]
theorem Xi{gs gs':List Int}{f:Fm}{is:List Nat}(h:∀j∈is,gs.getD j 0=gs'.getD j 0):pcsI gs f is=pcsI gs' f is:=by
 unfold pcsI;split
 ·split
  ·rfl
  ·rw[h _ mem_cons_self]
 ·exact Yu h
 ·rfl
theorem j2p{gs gs':List Int}{t:Int}{q:Pc}(h:gs.getD q.1 0=gs'.getD q.1 0):wq gs t q=wq gs' t q:=by
 unfold wq prg1 ov wth1;rw[h];split
 ·rename_i y e;split at e
  ·have e':=Option.some.inj e;subst e';show _=_;rw[h]
  ·cases e
 ·rfl
theorem KP{gs gs':List Int}{t:Int}:∀{qs:List Pc},(∀q∈qs,gs.getD q.1 0=gs'.getD q.1 0)->wth gs t qs=wth gs' t qs
 | [],_=>rfl
 | q::r,h=>by rw[JO,JO,j2p (h q mem_cons_self),KP fun p hp=>h p (mem_cons_of_mem _ hp)]
theorem ZA(D:DOk (nmsOf ls) fs M gs)(hnm:fs.length<=names.length)(nd:names.Nodup)(W:WfB ls (drawnPs names fs))(W':WfB ls (drawnPs names (fs.take n)))(hn:n<=fs.length):∀{i:Nat} {t:Int},i<n->reach (drawnPs names (fs.take n)) (gs.take n) i t=reach (drawnPs names fs) gs i t:=by
 intro i
 induction i using Nat.strongRecOn with
 | ind i ih=>
  intro t hi;obtain⟨f,hf⟩:∃f,fs[i]?=some f:=⟨_,List.getElem?_eq_getElem (by omega)⟩
  have hf':(fs.take n)[i]?=some f:=by rw[List.getElem?_take,if_pos hi];exact hf
  have js:=(D.f i f hf).1.js.2;have ep:pcB (drawnPs names (fs.take n)) (gs.take n) i=pcB (drawnPs names fs) gs i:=by
   unfold pcB;rw[qO hf,qO hf'];show pcsI _ _ _=pcsI _ _ _;rw[QS (by rw[length_take];omega) nd (fun j hj=>by rw[length_take];have:=js j hj;omega),QS hnm nd (fun j hj=>by have:=js j hj;omega)];exact Xi fun j hj=>Js (by have:=js j hj;omega)
  have eg:(gs.take n).getD i 0=gs.getD i 0:=Js hi;by_cases h:gs.getD i 0<=t\/pcB (drawnPs names fs) gs i=[]
  ·rw[jU h,jU (by rw[eg,ep];exact h)]
  ·rw[JA W h,JA W' (by rw[eg,ep];exact h),ep];have ew:wth (gs.take n) t (pcB (drawnPs names fs) gs i)=wth gs t (pcB (drawnPs names fs) gs i):=KP fun q hq=>Js (by have:=wT W hq;omega)
   rw[ew];exact jV fun x hx=>by
    have:=Qb W hx;exact ih x.1 this (by omega)
end
noncomputable def setE(es:List (Int×Int))(h:List Int):List Int:=es.foldl (fun h q=>h.set q.1.toNat q.2) h
theorem qY(q:Int×Int)(r:List (Int×Int))(h:List Int):setE (q::r) h=setE r (h.set q.1.toNat q.2):=rfl
theorem qT:∀(es:List (Int×Int)) (h:List Int),(setE es h).length=h.length
 | [],_=>rfl
 | q::r,h=>by rw[qY,qT r,length_set]
theorem zu:∀{es:List (Int×Int)} {h:List Int} {i:Nat},(∀q∈es,0<=q.1)->(∀v,((i:Int),v)∉es)->(setE es h)[i]?=h[i]?
 | [],_,_,_,_=>rfl
 | q::r,h,i,p,n=>by
  rw[qY,zu (fun x hx=>p x (mem_cons_of_mem _ hx)) (fun v hv=>n v (mem_cons_of_mem _ hv))];have:q.1.toNat≠i:=fun e=>by
   have p0:=p q mem_cons_self;have e':q.1=(i:Int):=by omega
   exact n q.2 (by rw[<-e'];exact mem_cons_self)
  rw[List.getElem?_set_ne this]
theorem ZB:∀{es:List (Int×Int)} {h:List Int} {i:Nat} {v:Int},(es.map (·.1)).Pairwise (· < ·)->(∀q∈es,0<=q.1)->((i:Int),v)∈es->i<h.length->(setE es h)[i]?=some v
 | [],_,_,_,_,_,m,_=>nomatch m
 | q::r,h,i,v,pw,p,m,hi=>by
  rw[map_cons,pairwise_cons]at pw;rw[qY];rcases mem_cons.mp m with e | m
  ·subst e;rw[zu (fun x hx=>p x (mem_cons_of_mem _ hx)) (fun w hw=>by
    have:=pw.1 _ (mem_map.mpr ⟨_,hw,rfl⟩);exact absurd this (Int.lt_irrefl _))]
   show(h.set (i:Int).toNat v)[i]?=_;rw[Int.toNat_natCast,List.getElem?_set_self hi]
  ·exact ZB pw.2 (fun x hx=>p x (mem_cons_of_mem _ hx)) m (by rw[length_set];exact hi)
theorem kz{es:List (Int×Int)}(pw:(es.map (·.1)).Pairwise (· < ·))(p:∀q∈es,0<=q.1)(h:List Int):setE es (setE es h)=setE es h:=by
 refine List.ext_getElem? fun i=>?_
 by_cases hi:i<h.length
 case neg=>rw[List.getElem?_eq_none (by rw[qT,qT];omega),List.getElem?_eq_none (by rw[qT];omega)]
 by_cases c:∃v,((i:Int),v)∈es
 ·obtain⟨v,hv⟩:=c;rw[ZB pw p hv (by rw[qT];exact hi),ZB pw p hv hi]
 ·rw[zu p (fun v hv=>c ⟨v,hv⟩)]
def EN(L:List Str)(fs:List Fn)(n:Nat)(E:List (List (Int×Int))):Prop:=∀(i:Nat) (f:Fn),i<n->fs[i]?=some f->((E.getD i []).map (·.1)).Pairwise (· < ·)/\∀k v,(k,v)∈E.getD i []↔LastIn E f.js k v\/∃x m,f = .rise x v m/\k=(ixOf L x:Nat)
noncomputable def apN(L:List Str)(fs:List Fn)(gs:List Int)(E:List (List (Int×Int)))(h:List Int)(x:Nat×Int):List Int:=
 if gs.getD x.1 0<=x.2 then setE (E.getD x.1 []) h
 else match fs[x.1]? with
  | some (.rise y v n)=>h.set (ixOf L y) (Rp.ramp (h.getD (ixOf L y) 0) v n x.2)
  | _=>h
noncomputable def plN(L:List Str)(names:List Str)(fs:List Fn)(gs:List Int)(E:List (List (Int×Int)))(j:Nat)(t:Int)(h:List Int):List Int:=(reach (drawnPs names fs) gs j t).foldl (apN L fs gs E) h
noncomputable def rgN(names:List Str)(fs:List Fn)(gs:List Int)(j:Nat)(t:Int):List Str:=(reach (drawnPs names fs) gs j t).flatMap (ringX (drawnPs names fs))
noncomputable def wsN(names:List Str)(fs:List Fn)(gs:List Int)(j:Nat)(t:Int):List (Nat×Int):=wth gs t (pcB (drawnPs names fs) gs j)
section
variable{L:List Str}{fs:List Fn}{M:List (List Int)}{gs:List Int}{names:List Str}{ls:List (Str×Int)}{n:Nat}{E:List (List (Int×Int))}
theorem EN.mov(D:DOk L fs M gs)(nd:L.Nodup)(e:EN L fs n E)(hn:n<=fs.length):∀{i:Nat},i<n->∀q∈E.getD i [],q.1∈M.getD i []:=by
 intro i
 induction i using Nat.strongRecOn with
 | ind i ih=>
  intro hi q hq;obtain⟨f,hf⟩:∃f,fs[i]?=some f:=⟨_,List.getElem?_eq_getElem (by omega)⟩
  obtain⟨d1,d2,_⟩:=D.f i f hf;rcases((e i f hi hf).2 q.1 q.2).mp hq with⟨pre,j,post,ej,h1,_⟩ | ⟨x,m,ef,ek⟩
  ·have hj:j∈f.js:=by rw[ej];simp
   have:=d1.js.2 j hj;exact(d2.2 q.1).mpr (.inl ⟨j,hj,ih j this (by omega) _ h1⟩)
  ·subst ef;obtain⟨⟨k,hk⟩,_⟩:=d1;refine(d2.2 q.1).mpr (.inr ⟨x,q.2,m,k,rfl,hk,?_⟩);rw[ek,Jm nd hk]
theorem EN.pos(D:DOk L fs M gs)(nd:L.Nodup)(e:EN L fs n E)(hn:n<=fs.length){i:Nat}(hi:i<n):∀q∈E.getD i [],0<=q.1:=fun q hq=>(D.bnd i (by omega) q.1 (e.mov D nd hn hi q hq)).1
theorem Ky{j:Nat}{r:List Nat}{k v:Int}(h:LastIn E r k v):LastIn E (j::r) k v:=by
 obtain⟨pre,i,post,e,h1,h2⟩:=h;exact⟨j::pre,i,post,by rw[e];rfl,h1,h2⟩
theorem Kq:∀{js:List Nat} {h:List Int} {i:Nat},(∀j∈js,((E.getD j []).map (·.1)).Pairwise (· < ·)/\∀q∈E.getD j [],0<=q.1)->i<h.length->
  (∃v,LastIn E js i v/\(js.foldl (fun h j=>setE (E.getD j []) h) h)[i]?=some v)\/((∀v,¬LastIn E js i v)/\(js.foldl (fun h j=>setE (E.getD j []) h) h)[i]?=h[i]?)
 | [],h,i,_,_=>.inr ⟨fun v ⟨pre,j,post,e,_⟩=>by simp at e,rfl⟩
 | j::r,h,i,p,hi=>by
  obtain⟨p1,p2⟩:=p j mem_cons_self;rw[foldl_cons];rcases Kq (js:=r) (h:=setE (E.getD j []) h) (i:=i) (fun k hk=>p k (mem_cons_of_mem _ hk)) (by rw[qT];exact hi)with⟨v,a,b⟩ | ⟨a,b⟩
  ·exact .inl ⟨v,Ky a,b⟩
  ·by_cases c:∃v,((i:Int),v)∈E.getD j []
   ·obtain⟨v,hv⟩:=c;refine .inl ⟨v,⟨[],j,r,rfl,hv,fun j' hj' v' hv'=>?_⟩,by rw[b];exact ZB p1 p2 hv hi⟩;exact no_last a hj' hv'
   ·refine .inr ⟨fun v hv=>?_,by rw[b];exact zu p2 fun v hv=>c ⟨v,hv⟩⟩;obtain⟨pre,k,post,e,h1,h2⟩:=hv;cases pre with
    | nil=>rw[nil_append]at e;cases e;exact c ⟨v,h1⟩
    | cons y pre=>rw[cons_append]at e;cases e;exact a v ⟨pre,k,post,rfl,h1,h2⟩
where
 no_last:∀{r:List Nat} {i j':Nat} {v':Int},(∀v,¬LastIn E r i v)->j'∈r->((i:Int),v')∈E.getD j' []->False
  | [],_,_,_,_,m,_=>nomatch m
  | y::r,i,j',v',a,m,hv=>by
   have a':∀v,¬LastIn E r i v:=fun v hv=>a v (Ky hv)
   rcases mem_cons.mp m with e | m
   ·subst e;exact a v' ⟨[],j',r,rfl,hv,fun j'' h'' v'' hv''=>no_last a' h'' hv''⟩
   ·exact no_last a' m hv
theorem WI:∀(js:List Nat) (h:List Int),(js.foldl (fun h j=>setE (E.getD j []) h) h).length=h.length
 | [],_=>rfl
 | j::r,h=>by rw[foldl_cons,WI r,qT]
theorem EN.all(D:DOk L fs M gs)(nd:L.Nodup)(e:EN L fs n E)(hn:n<=fs.length){i:Nat}(hi:i<n){f:Fn}(hf:fs[i]?=some f)(nr:∀x v m,f≠.rise x v m)(h:List Int):setE (E.getD i []) h=f.js.foldl (fun h j=>setE (E.getD j []) h) h:=by
 have js:=(D.f i f hf).1.js.2;obtain⟨a,b⟩:=e i f hi hf;have pj:∀j∈f.js,((E.getD j []).map (·.1)).Pairwise (· < ·)/\∀q∈E.getD j [],0<=q.1:=fun j hj=>by
  have:=js j hj;obtain⟨g,hg⟩:∃g,fs[j]?=some g:=⟨_,List.getElem?_eq_getElem (by omega)⟩
  exact⟨(e j g (by omega) hg).1,e.pos D nd hn (by omega)⟩
 refine List.ext_getElem? fun k=>?_
 by_cases hk:k<h.length
 case neg=>rw[List.getElem?_eq_none (by rw[qT];omega),List.getElem?_eq_none (by rw[WI];omega)]
 rcases Kq pj hk with⟨v,l,q⟩ | ⟨l,q⟩
 ·rw[q];exact ZB a (e.pos D nd hn hi) ((b _ _).mpr (.inl l)) hk
 ·rw[q];refine zu (e.pos D nd hn hi) fun v hv=>?_
  rcases(b _ _).mp hv with z | ⟨x,m,z,_⟩
  ·exact l v z
  ·exact nr x v m z
theorem EN.one{m:Nat}{E':List (List (Int×Int))}(D:DOk L fs M gs)(e:EN L fs n E)(e':EN L fs m E')(hm:m<=n)(hn:n<=fs.length):∀i,i<m->E'.getD i []=E.getD i []:=by
 intro i
 induction i using Nat.strongRecOn with
 | ind i ih=>
  intro hi;obtain⟨f,hf⟩:∃f,fs[i]?=some f:=⟨_,List.getElem?_eq_getElem (by omega)⟩
  have js:=(D.f i f hf).1.js.2;obtain⟨a,b⟩:=e i f (by omega) hf;obtain⟨a',b'⟩:=e' i f hi hf;refine j07 a' a fun k v=>(b' k v).trans (Iff.trans ?_ (b k v).symm)
  have ext:∀j∈f.js,E'.getD j []=E.getD j []:=fun j hj=>ih j (js j hj) (by have:=js j hj;omega)
  exact⟨fun z=>z.imp (yl ext) id,fun z=>z.imp (yl fun j hj=>(ext j hj).symm) id⟩
theorem EN.of{ls':List (Str×Int)}(D:DOk L fs M gs)(hnm:fs.length<=names.length)(nd:names.Nodup)(hn:n<=fs.length)(hL:nmsOf ls'=L)(lE:E.length=(drawnPs names (fs.take n)).length)(h:EndOk ls' (drawnPs names (fs.take n)) E):EN L fs n E:=fun i f hi hf=>by
 have hf':(fs.take n)[i]?=some f:=by rw[List.getElem?_take,if_pos hi];exact hf
 have js:=(D.f i f hf).1.js.2;have lt:(fs.take n).length=n:=by rw[length_take];omega
 have eE:E[i]?=some (E.getD i []):=by
  rw[getD_eq_getElem?_getD,List.getElem?_eq_getElem (by rw[lE,Jq,lt];exact hi)];rfl
 obtain⟨a,b⟩:=h i _ _ (qO hf') eE;refine⟨a,fun k v=>(b k v).trans ?_⟩;unfold EndIs;rw[QS (by rw[lt];omega) nd (fun j hj=>by rw[lt];have:=js j hj;omega),hL];refine or_congr_right ⟨?_,?_⟩
 ·rintro⟨x,m,h1,h2⟩;refine⟨x,m,?_,h2⟩;cases f<;>cases h1
  rfl
 ·rintro⟨x,m,h1,h2⟩;exact⟨x,m,by rw[h1];rfl,h2⟩
theorem Y5{α β γ:Type}{g:α->List β}{f:γ->β->γ}:∀{l:List α} {h:γ},(l.flatMap g).foldl f h=l.foldl (fun h x=>(g x).foldl f h) h
 | [],_=>rfl
 | x::r,h=>by rw[flatMap_cons,foldl_append,foldl_cons,Y5]
theorem zk{α β γ:Type}{g:α->List β}{f:β->List γ}:∀{l:List α},(l.flatMap g).flatMap f=l.flatMap fun x=>(g x).flatMap f
 | []=>rfl
 | x::r=>by rw[flatMap_cons,flatMap_append,flatMap_cons,zk]
theorem QL{α γ:Type}{f g:γ->α->γ}:∀{l:List α} {h:γ},(∀x∈l,∀h,f h x=g h x)->l.foldl f h=l.foldl g h
 | [],_,_=>rfl
 | x::r,h,e=>by rw[foldl_cons,foldl_cons,e x mem_cons_self,QL fun y hy=>e y (mem_cons_of_mem _ hy)]
theorem KL{ls':List (Str×Int)}{E':List (List (Int×Int))}{j:Nat}{t:Int}(D:DOk L fs M gs)(hnm:fs.length<=names.length)(nd:names.Nodup)(lnd:L.Nodup)(l8:L.length<=8)(f61:fs.length<=61)(hL:nmsOf ls'=L)(hj:j<n)(hn:n<=fs.length)(e:EN L fs n E)(lE:E'.length=(drawnPs names (fs.take (j+1))).length)(h:EndOk ls' (drawnPs names (fs.take (j+1))) E') :
  standH ls' (drawnPs names (fs.take (j+1))) (gs.take (j+1)) E' t=plN L names fs gs E j t (ls'.map (·.2)):=by
 subst hL;have l8':ls'.length<=8:=by have:(nmsOf ls').length=ls'.length:=length_map _;omega
 have W:=D.wf hnm nd lnd l8' f61;have lt:(fs.take (j+1)).length=j+1:=by rw[length_take];omega
 have W':=(D.take (n:=j+1) (by omega)).wf (names:=names) (by rw[lt];omega) nd lnd l8' (by rw[lt];omega);have eE:=EN.one D e (EN.of D hnm nd (by omega) rfl lE h) (by omega) hn;unfold standH plN;rw[Jq,lt];show(reach _ _ j t).foldl _ _=_;rw[ZA D hnm nd W W' (by omega) (show j<j+1 by omega)];refine QL fun x hx h=>?_
 have hx':x.1<j+1:=by
  rw[<-ZA D hnm nd W W' (by omega) (show j<j+1 by omega)]at hx;have:=yw W' (by rw[Jq,lt];omega) hx;rw[Jq,lt]at this;exact this
 obtain⟨f,hf⟩:∃f,fs[x.1]?=some f:=⟨_,List.getElem?_eq_getElem (by omega)⟩
 have hf':(fs.take (j+1))[x.1]?=some f:=by rw[List.getElem?_take,if_pos hx'];exact hf
 unfold appH apN;rw[Js hx',eE _ hx',qO hf',hf];split
 ·rfl
 ·cases f<;>rfl
theorem j0M{j:Nat}{t:Int}(D:DOk L fs M gs)(hnm:fs.length<=names.length)(nd:names.Nodup)(lnd:L.Nodup)(l8:L.length<=8)(f61:fs.length<=61)(hj:j<fs.length):ringsW (drawnPs names (fs.take (j+1))) (gs.take (j+1)) t=rgN names fs gs j t:=by
 have hL:nmsOf (L.map fun x=>(x,(0:Int)))=L:=by
  unfold nmsOf;rw[List.map_map];exact map_id _
 generalize hls:(L.map fun x=>(x,(0:Int)))=ls' at hL;subst hL;have l8':ls'.length<=8:=by have:(nmsOf ls').length=ls'.length:=length_map _;omega
 have W:=D.wf hnm nd lnd l8' f61;have lt:(fs.take (j+1)).length=j+1:=by rw[length_take];omega
 have W':=(D.take (n:=j+1) (by omega)).wf (names:=names) (by rw[lt];omega) nd lnd l8' (by rw[lt];omega);unfold ringsW rgN;rw[Jq,lt];show(reach _ _ j t).flatMap _=_;rw[ZA D hnm nd W W' (by omega) (show j<j+1 by omega)];refine jV fun x hx=>?_
 have hx':x.1<j+1:=by
  rw[<-ZA D hnm nd W W' (by omega) (show j<j+1 by omega)]at hx;have:=yw W' (by rw[Jq,lt];omega) hx;rw[Jq,lt]at this;exact this
 obtain⟨f,hf⟩:∃f,fs[x.1]?=some f:=⟨_,List.getElem?_eq_getElem (by omega)⟩
 have hf':(fs.take (j+1))[x.1]?=some f:=by rw[List.getElem?_take,if_pos hx'];exact hf
 unfold ringX;rw[qO hf',qO hf]
end
structure Sa where
 d:Addr
 f:Addr
 o:Addr
 s:Addr
 l:Addr
 p:Addr
 fb:List Addr
 la:List Addr
 pa:List Addr
noncomputable def fldS(z:Sa):List (Str×V):=putF "pieces" (.ref z.p) (putF "left" (.ref z.l) (putF "sizes" (.ref z.s) (putF "forms" (.ref z.o) (putF "first" (.ref z.f) (putF "limbs" (.ref z.d) [])))))
section
variable{z:Sa}
theorem Jo{a b:Str}{v:V}{r:List (Str×V)}(h:¬a=b):(putF b v r).lookup a=r.lookup a:=by rw[Q4,if_neg h]
theorem ZN{a:Str}{v:V}{r:List (Str×V)}:(putF a v r).lookup a=some v:=by rw[Q4,if_pos rfl]
theorem xM:(fldS z).lookup ("pieces" : Str)=some (.ref z.p):=ZN
theorem j1d:(fldS z).lookup ("left" : Str)=some (.ref z.l):=(Jo (by decide +kernel)).trans ZN
theorem Zu:(fldS z).lookup ("sizes" : Str)=some (.ref z.s):=(Jo (by decide +kernel)).trans ((Jo (by decide +kernel)).trans ZN)
theorem Kp:(fldS z).lookup ("forms" : Str)=some (.ref z.o):=(Jo (by decide +kernel)).trans ((Jo (by decide +kernel)).trans ((Jo (by decide +kernel)).trans ZN))
theorem j0i:(fldS z).lookup ("first" : Str)=some (.ref z.f):=(Jo (by decide +kernel)).trans ((Jo (by decide +kernel)).trans ((Jo (by decide +kernel)).trans ((Jo (by decide +kernel)).trans ZN)))
theorem j0j:(fldS z).lookup ("limbs" : Str)=some (.ref z.d):=(Jo (by decide +kernel)).trans ((Jo (by decide +kernel)).trans ((Jo (by decide +kernel)).trans ((Jo (by decide +kernel)).trans ((Jo (by decide +kernel)).trans ZN))))
theorem wm{m:Str}(h1:¬m = "pieces")(h2:¬m = "left")(h3:¬m = "sizes")(h4:¬m = "forms")(h5:¬m = "first")(h6:¬m = "limbs"):(fldS z).lookup m=none:=(Jo h1).trans ((Jo h2).trans ((Jo h3).trans ((Jo h4).trans ((Jo h5).trans (Jo h6)))))
theorem Jd(f:Str)(v:V):∀r:List (Str×V),(putF f v r).length<=r.length+1
 | []=>Nat.le_refl _
 | (g,u)::r=>by
  unfold putF;split
  ·exact Nat.le_succ _
  ·rw[length_cons,length_cons];have:=Jd f v r;omega
end
theorem BookAt.less{H:Hp}{a C dx:Addr}{fs:List (Str×V)}{b pl pp:Addr}{las pas:List Addr}{ls:List (Str×Int)}{ps:List (Str×Fm)}(ha:H a=some (.ins C dx fs))(B:BookAt H b pl pp las pas ls ps) :
  ∃H0:Hp,(∀H',(∀c u,c≠a->H c=some u->H' c=some u)->Same H0 H')/\(∀{c u},H0 c=some u->c≠a)/\BookAt H0 b pl pp las pas ls ps:=by
 have kt:∀{c:Addr} {xs:List V},H c=some (.tup xs)->(fun c=>if c=a then none else H c) c=some (.tup xs):=fun {c xs} h=>by
  show(if c=a then none else H c)=_;rw[if_neg (fun z=>by rw[z,ha]at h;cases h)];exact h
 have kl:∀{c:Addr} {xs:List V},H c=some (.lst xs)->(fun c=>if c=a then none else H c) c=some (.lst xs):=fun {c xs} h=>by
  show(if c=a then none else H c)=_;rw[if_neg (fun z=>by rw[z,ha]at h;cases h)];exact h
 refine⟨fun c=>if c=a then none else H c,fun H' k c u h=>?_,fun {c u} h=>?_,kt B.t,kl B.l,B.la.mono fun a x hx=>kt hx,kl B.p,B.pa.mono fun a x hx=>?_⟩
 ·have h:(if c=a then none else H c)=some u:=h;by_cases e:c=a
  ·rw[if_pos e]at h;cases h
  ·rw[if_neg e]at h;exact k c u e h
 ·have h:(if c=a then none else H c)=some u:=h;intro e;rw[if_pos e]at h;cases h
 ·obtain⟨fb,h1,h2⟩:=hx;refine⟨fb,kt h1,?_⟩;cases hx2:x.2 with
  | row r=>rw[hx2]at h2;obtain⟨c,h3,h4⟩:=h2;exact⟨c,kt h3,kt h4⟩
  | side r=>rw[hx2]at h2;obtain⟨c,h3,h4⟩:=h2;exact⟨c,kt h3,kt h4⟩
  | hold n=>rw[hx2]at h2;exact kt h2
  | ring y n=>rw[hx2]at h2;exact kt h2
  | rise y v n=>rw[hx2]at h2;exact kt h2
  | again k y=>rw[hx2]at h2;exact kt h2
theorem few{f:Str}{v:V}{r:List (Str×V)}{n:Nat}(h:(putF f v r).length<=n)(k:n<1000):(putF f v r).length<1000:=Nat.lt_of_le_of_lt h k
section
variable{a b c d e:Str}{u v w x y:V}
theorem few3:(putF c w (putF b v (putF a u []))).length<1000:=by
 have:=Jd c w (putF b v (putF a u []));have:=Jd b v (putF a u []);have:=Jd a u [];simp at *;omega
theorem few4:(putF d x (putF c w (putF b v (putF a u [])))).length<1000:=by
 have:=Jd d x (putF c w (putF b v (putF a u [])));have:=Jd c w (putF b v (putF a u []));have:=Jd b v (putF a u []);have:=Jd a u [];simp at *;omega
theorem few5:(putF e y (putF d x (putF c w (putF b v (putF a u []))))).length<1000:=by
 have:=Jd e y (putF d x (putF c w (putF b v (putF a u []))));have:=Jd d x (putF c w (putF b v (putF a u [])));have:=Jd c w (putF b v (putF a u []));have:=Jd b v (putF a u []);have:=Jd a u [];simp at *;omega
end
section
variable{α β:Type}
theorem WH{f:β->α->β}{x:α}:∀{ys:List α} {h:β},(∀y∈ys,∀h,f (f h x) y=f (f h y) x)->f (ys.foldl f h) x=ys.foldl f (f h x)
 | [],_,_=>rfl
 | y::r,h,k=>by
  rw[foldl_cons,foldl_cons,k y mem_cons_self h];exact WH fun z hz=>k z (mem_cons_of_mem _ hz)
theorem yU{f:β->α->β}{p:α->Bool}:∀{R:List α} {h:β},R.Pairwise (fun x y=>p x=false->p y=true->∀h,f (f h x) y=f (f h y) x)->
  (R.filter fun x=>!p x).foldl f ((R.filter p).foldl f h)=R.foldl f h
 | [],_,_=>rfl
 | x::r,h,k=>by
  rw[pairwise_cons]at k;cases e:p x with
  | true=>
   have a:(x::r).filter (fun x=>!p x)=r.filter fun x=>!p x:=by rw[filter_cons];simp[e]
   rw[a,filter_cons_of_pos e,foldl_cons,foldl_cons];exact yU k.2
  | false=>
   have a:(x::r).filter (fun x=>!p x)=x::r.filter fun x=>!p x:=by rw[filter_cons];simp[e]
   have b:(x::r).filter p=r.filter p:=by rw[filter_cons];simp[e]
   have c:f ((r.filter p).foldl f h) x=(r.filter p).foldl f (f h x):=WH fun y hy h=>k.1 y (mem_filter.mp hy).1 e (mem_filter.mp hy).2 h
   rw[a,b,foldl_cons,foldl_cons,c];exact yU k.2
theorem yV{f:β->α->β}{p:α->Bool}:∀{R:List α} {h:β},(∀x∈R,p x=false->∀h,f h x=h)->(R.filter p).foldl f h=R.foldl f h
 | [],_,_=>rfl
 | x::r,h,k=>by
  cases e:p x with
  | true=>
   rw[filter_cons_of_pos e,foldl_cons,foldl_cons];exact yV fun y hy=>k y (mem_cons_of_mem _ hy)
  | false=>
   rw[filter_cons_of_neg (by simp[e]),foldl_cons,k x mem_cons_self e];exact yV fun y hy=>k y (mem_cons_of_mem _ hy)
theorem Zt{f:α->List β}{p:α->Bool}:∀{R:List α},(∀x∈R,p x=false->f x=[])->(R.filter p).flatMap f=R.flatMap f
 | [],_=>rfl
 | x::r,k=>by
  cases e:p x with
  | true=>
   rw[filter_cons_of_pos e,flatMap_cons,flatMap_cons,Zt fun y hy=>k y (mem_cons_of_mem _ hy)]
  | false=>
   rw[filter_cons_of_neg (by simp[e]),flatMap_cons,k x mem_cons_self e,Zt fun y hy=>k y (mem_cons_of_mem _ hy)];rfl
end
section
variable{ls:List (Str×Int)}{ps:List (Str×Fm)}{gs:List Int}{hs:List (List Int)}{E:List (List (Int×Int))}{t:Int}
noncomputable def ovB(gs:List Int)(x:Nat×Int):Bool:=decide (gs.getD x.1 0<=x.2)
noncomputable def leafB(ps:List (Str×Fm))(gs:List Int)(x:Nat×Int):Bool:=(pcB ps gs x.1).isEmpty
def Dj(gs:List Int)(hs:List (List Int))(a b:Nat×Int):Prop:=ovB gs a=false->∀k∈hs.getD a.1 [],k∉hs.getD b.1 []
theorem Dj.ov{a b:Nat×Int}(h:gs.getD a.1 0<=a.2):Dj gs hs a b:=fun z=>by
 unfold ovB at z;rw[decide_eq_true h]at z;cases z
theorem j37{l r:List (Nat×Int)}(h:∀a∈l,gs.getD a.1 0<=a.2)(k:r.length<=1):(l++r).Pairwise (Dj gs hs):=by
 induction l with
 | nil=>
  match r,k with
  | [],_=>exact .nil
  | [a],_=>exact pairwise_singleton _ _
 | cons a l ih=>exact pairwise_cons.mpr ⟨fun b _=>.ov (h a mem_cons_self),ih fun b hb=>h b (mem_cons_of_mem _ hb)⟩
theorem j21:∀{is:List Nat} {b:Int},(∀k∈is,1<=gs.getD k 0/\gs.getD k 0<=10^60)->(wth gs t (rowPc gs is b)).Pairwise (Dj gs hs)
 | [],b,_=>.nil
 | j::r,b,hg=>by
  by_cases h:b<=t
  ·rw[Zi hg h];split
   ·exact pairwise_cons.mpr ⟨fun b _=>.ov (Int.le_refl _),j21 fun k hk=>hg k (mem_cons_of_mem _ hk)⟩
   ·exact pairwise_singleton _ _
  ·rw[kr (fun k hk=>by have:=hg k hk;omega) (by omega)];exact .nil
theorem Wv:∀{is:List Nat},(∀k:Int,((is.map fun j=>hs.getD j []).filter fun ks=>decide (k∈ks)).length<=1)->is.Pairwise fun j j'=>∀k∈hs.getD j [],k∉hs.getD j' []
 | [],_=>.nil
 | j::r,h=>by
  refine pairwise_cons.mpr ⟨fun j' hj' a ha hk'=>?_,Wv fun k=>?_⟩
  ·have:=h a;rw[map_cons,filter_cons,if_pos (decide_eq_true ha),length_cons]at this;have pos:0<((r.map fun j=>hs.getD j []).filter fun ks=>decide (a∈ks)).length:=List.length_pos_of_mem (mem_filter.mpr ⟨mem_map.mpr ⟨j',hj',rfl⟩,decide_eq_true hk'⟩);omega
  ·have:=h k;rw[map_cons,filter_cons]at this;split at this
   ·rw[length_cons]at this;omega
   ·exact this
theorem j4g(N:Sn ls ps gs hs){i:Nat}(hi:i<ps.length)(t0:0<=t):(wth gs t (pcB ps gs i)).Pairwise (Dj gs hs):=by
 obtain⟨p,hp⟩:∃p,ps[i]?=some p:=⟨_,List.getElem?_eq_getElem hi⟩
 have epc:pcB ps gs i=pcsI gs p.2 (inP ps p.2):=by unfold pcB;rw[hp]
 have hg:∀k∈inP ps p.2,1<=gs.getD k 0/\gs.getD k 0<=10^60:=fun k hk=>by
  have:=N.s.w.inP_lt hp hk;exact N.g (by omega)
 rw[epc];cases e:p.2 with
 | again k x=>
  rw[e]at hg;rw[show inP ps (.again k x)=[ixOf (nmsOf ps) x]from rfl]at hg|-;have g:=(hg _ mem_cons_self).1;generalize ixOf (nmsOf ps) x=j at g|-;show(wth gs t ((j,1,0)::(if 1<k then[(j,k-1,gs.getD j 0)]else[]))).Pairwise _;rw[JO,kJ g t0,Int.sub_zero];by_cases c:gs.getD j 0<=t
  ·rw[if_pos c];split
   ·rw[JO,QH,append_nil,Wl (show gs.getD j 0<=t from c),<-List.append_assoc];refine j37 (fun a ha=>?_) (by split<;>simp);have:a=(j,gs.getD j 0):=by
     rcases mem_append.mp ha with z | z
     ·exact mem_singleton.mp z
     ·split at z
      ·exact mem_singleton.mp z
      ·exact nomatch z
    rw[this];exact Int.le_refl _
   ·exact pairwise_singleton _ _
  ·rw[if_neg c];have z:wth gs t (if 1<k then[(j,k-1,gs.getD j 0)]else[])=[]:=by
    split
    ·exact yD fun q hq=>by rw[mem_singleton.mp hq];show t<gs.getD j 0;omega
    ·rfl
   rw[z];exact pairwise_singleton _ _
 | row xs=>rw[e]at hg;exact j21 hg
 | side xs=>
  obtain⟨_,one⟩:=N.s.sd i p xs hp e;rw[e]at hg one;show(wth gs t ((inP ps (.side xs)).map fun j=>(j,1,0))).Pairwise _;rw[Zr (fun k hk=>(hg k hk).1) t0];refine pairwise_map.mpr ((Wv one).imp fun {a b} h=>?_);have f1:∀j:Nat,(if gs.getD j 0<=t then(j,gs.getD j 0)else(j,t)).1=j:=fun j=>by split<;>rfl
  intro _;rw[f1,f1];exact h
 | hold n=>exact .nil
 | ring x n=>exact .nil
 | rise x v n=>exact .nil
theorem j4f{i:Nat}{p:Str×Fm}(hp:ps[i]?=some p){x:Nat×Int}(h:x∈wth gs t (pcB ps gs i)):x.1∈inP ps p.2:=by
 obtain⟨q,hq,e⟩:=wF h;unfold pcB at hq;rw[hp]at hq;rw[e];exact kb hq
theorem W7(N:Sn ls ps gs hs):∀{i:Nat} {t:Int} {x:Nat×Int},i<ps.length->x∈reach ps gs i t->∀k∈hs.getD x.1 [],k∈hs.getD i []:=by
 intro i
 induction i using Nat.strongRecOn with
 | ind i ih=>
  intro t x hi hx k hk;by_cases h:gs.getD i 0<=t\/pcB ps gs i=[]
  ·rw[jU h]at hx;rw[mem_singleton.mp hx]at hk;exact hk
  ·rw[JA N.s.w h]at hx;obtain⟨y,hy,hx⟩:=mem_flatMap.mp hx;have lt:=Qb N.s.w hy;have hp:=List.getElem?_eq_getElem hi;exact((N.m i _ _ hp (Y8 N.s N.hl hi)).2 k).mpr (.inl ⟨y.1,j4f hp hy,ih y.1 lt (by omega) hx k hk⟩)
theorem j1Z(N:Sn ls ps gs hs):∀{i:Nat} {t:Int},i<ps.length->0<=t->(reach ps gs i t).Pairwise (Dj gs hs):=by
 intro i
 induction i using Nat.strongRecOn with
 | ind i ih=>
  intro t hi t0;by_cases h:gs.getD i 0<=t\/pcB ps gs i=[]
  ·rw[jU h];exact pairwise_singleton _ _
  ·rw[JA N.s.w h];refine List.pairwise_flatMap.mpr ⟨fun a ha=>?_,(j4g N hi t0).imp_of_mem fun {a b} ha hb d x hx y hy z k hk hk'=>?_⟩
   ·have:=Qb N.s.w ha;exact ih a.1 this (by omega) (ZT (fun q hq=>N.pcOk hq) ha)
   ·have la:=Qb N.s.w ha;have lb:=Qb N.s.w hb;have na:ovB gs a=false:=by
     cases e:ovB gs a with
     | false=>rfl
     | true=>
      rw[jU (.inl (of_decide_eq_true e))]at hx;rw[mem_singleton.mp hx]at z;exact(e.symm.trans z:true=false)
    exact d na k (W7 N (by omega) hx k hk) (W7 N (by omega) hy k hk')
noncomputable def rzH(ls:List (Str×Int))(ps:List (Str×Fm))(h:List Int)(x:Nat×Int):List Int:=match ps[x.1]? with
 | some (_,.rise y v n)=>h.set (ixOf (nmsOf ls) y) (Rp.ramp (h.getD (ixOf (nmsOf ls) y) 0) v n x.2)
 | _=>h
theorem xE{h:List Int}{x:Nat×Int}(c:ovB gs x=true):appH ls ps gs E h x=setE (E.getD x.1 []) h:=by
 unfold appH;rw[if_pos (of_decide_eq_true c)];rfl
theorem xF{h:List Int}{x:Nat×Int}(c:ovB gs x=false):appH ls ps gs E h x=rzH ls ps h x:=by
 unfold appH;rw[if_neg (of_decide_eq_false c)];rfl
theorem xg{k:Nat}{v:Int}:∀{es:List (Int×Int)} {h:List Int},(∀q∈es,q.1.toNat≠k)->setE es (h.set k v)=(setE es h).set k v
 | [],_,_=>rfl
 | q::r,h,n=>by
  rw[qY,qY,List.set_comm _ _ (n q mem_cons_self).symm];exact xg fun y hy=>n y (mem_cons_of_mem _ hy)
theorem KJ{k:Nat}:∀{es:List (Int×Int)} {h:List Int},(∀q∈es,q.1.toNat≠k)->(setE es h).getD k 0=h.getD k 0
 | [],_,_=>rfl
 | q::r,h,n=>by
  rw[qY,KJ fun y hy=>n y (mem_cons_of_mem _ hy),getD_eq_getElem?_getD,getD_eq_getElem?_getD,List.getElem?_set_ne (n q mem_cons_self)]
theorem j2E(N:Sn ls ps gs hs)(lE:E.length=ps.length)(oE:EndOk ls ps E){i:Nat}(hi:i<ps.length){q:Int×Int}(hq:q∈E.getD i []):q.1∈hs.getD i []:=by
 have:=N.s.mv _ (by rw[length_map];exact lE) (j1y lE oE) i hi;rw[<-this,getD_eq_getElem?_getD,List.getElem?_map,List.getElem?_eq_getElem (by omega)];rw[getD_eq_getElem?_getD,List.getElem?_eq_getElem (by omega)]at hq;exact mem_map.mpr ⟨q,hq,rfl⟩
theorem j2w(N:Sn ls ps gs hs)(lE:E.length=ps.length)(oE:EndOk ls ps E){x y:Nat×Int}(hx:x.1<ps.length)(hy:y.1<ps.length)(cx:ovB gs x=false)(cy:ovB gs y=true)(d:Dj gs hs x y)(h:List Int) :
  appH ls ps gs E (appH ls ps gs E h x) y=appH ls ps gs E (appH ls ps gs E h y) x:=by
 rw[xE cy,xE cy,xF cx,xF cx];unfold rzH;split
 ·rename_i nm z v n hp;have hk:((ixOf (nmsOf ls) z:Nat):Int)∈hs.getD x.1 []:=((N.m x.1 _ _ hp (Y8 N.s N.hl hx)).2 _).mpr (.inr ⟨z,v,n,rfl,rfl⟩);have ne:∀q∈E.getD y.1 [],q.1.toNat≠ixOf (nmsOf ls) z:=fun q hq e=>by
   have b:=(yg N.s.w (by omega) oE y.1 q hq).1;have m:=j2E N lE oE hy hq;rw[show q.1=((ixOf (nmsOf ls) z:Nat):Int) by omega]at m;exact d cx _ hk m
  rw[xg ne,KJ ne]
 ·rfl
noncomputable def strH(ls:List (Str×Int))(ps:List (Str×Fm))(gs:List Int)(E:List (List (Int×Int)))(t:Int):List Int:=((reach ps gs (ps.length-1) t).filter (ovB gs)).foldl (fun h x=>setE (E.getD x.1 []) h) (ls.map (·.2))
theorem j0t{x:Nat×Int}{y:Str}{v n:Int}{nm:Str}(hp:ps[x.1]?=some (nm,.rise y v n)):leafB ps gs x=true:=by
 unfold leafB pcB;rw[hp];rfl
theorem j0s{x:Nat×Int}{y:Str}{n:Int}{nm:Str}(hp:ps[x.1]?=some (nm,.ring y n)):leafB ps gs x=true:=by
 unfold leafB pcB;rw[hp];rfl
theorem xn(N:Sn ls ps gs hs)(lE:E.length=ps.length)(oE:EndOk ls ps E)(t0:0<=t){P:List (Nat×Int)}(hP:P.filter (leafB ps gs)=(reach ps gs (ps.length-1) t).filter fun x=>!ovB gs x) :
  P.foldl (rzH ls ps) (strH ls ps gs E t)=standH ls ps gs E t:=by
 have ne:=N.ne;have lt:∀x∈reach ps gs (ps.length-1) t,x.1<ps.length:=fun x hx=>yw N.s.w (by omega) hx
 rw[<-yV (p:=leafB ps gs) (fun x _ c h=>?_),hP]
 ·unfold standH strH;rw[<-yU (p:=ovB gs) (f:=appH ls ps gs E) ((j1Z N (show ps.length-1<ps.length by omega) t0).imp_of_mem fun {a b} ha hb d ca cb h=>j2w N lE oE (lt a ha) (lt b hb) ca cb d h)];rw[QL (f:=appH ls ps gs E) (g:=rzH ls ps) fun x hx h=>xF (by simpa using(mem_filter.mp hx).2)];rw[QL (f:=appH ls ps gs E) (g:=fun h x=>setE (E.getD x.1 []) h) fun x hx h=>xE (mem_filter.mp hx).2]
 ·unfold rzH;split
  ·rename_i hp;rw[j0t hp]at c;cases c
  ·rfl
theorem xj(N:Sn ls ps gs hs){P:List (Nat×Int)}(hP:P.filter (leafB ps gs)=(reach ps gs (ps.length-1) t).filter fun x=>!ovB gs x):P.flatMap (ringX ps)=ringsW ps gs t:=by
 have ne:=N.ne;unfold ringsW;rw[<-Zt (p:=leafB ps gs) (fun x _ c=>?_),hP,Zt fun x hx c=>?_]
 ·have c:ovB gs x=true:=by simpa using c
  have c:=of_decide_eq_true c;have:=(N.g (yw N.s.w (show ps.length-1<ps.length by omega) hx)).1;unfold ringX;split
  ·rw[if_neg (by omega)]
  ·rfl
 ·unfold ringX;split
  ·rename_i hp;rw[j0s hp]at c;cases c
  ·rfl
end
structure StageAt(C:Addr)(H:Hp)(a:Addr)(z:Sa)(ls:List (Str×Int))(ps:List (Str×Fm))(gs:List Int)(E:List (List (Int×Int))):Prop where
 ob:∃dx,H a=some (.ins C dx (fldS z))
 hd:H z.d=some (.dK (numK (nmsOf ls)))
 hf:H z.f=some (.lst ((ls.map (·.2)).map V.int))
 ho:H z.o=some (.lst (z.fb.map V.ref))
 fo:All2 (fun a p=>FormAt H a p.2) z.fb ps
 hs:H z.s=some (.lst (gs.map V.int))
 hl:H z.l=some (.lst (z.la.map V.ref))
 el:E.length=ps.length
 ea:EndsAt H z.la E
 eo:EndOk ls ps E
 hp:H z.p=some (.lst (z.pa.map V.ref))
 pa:PssAt H z.pa (ps.map fun p=>pcsI gs p.2 (inP ps p.2))
theorem StageAt.same{C:Addr}{H H':Hp}{a:Addr}{z:Sa}{ls:List (Str×Int)}{ps:List (Str×Fm)}{gs:List Int}{E:List (List (Int×Int))}(A:StageAt C H a z ls ps gs E)(s:Same H H'):StageAt C H' a z ls ps gs E:=
 ⟨A.ob.imp fun dx h=>s _ _ h,s _ _ A.hd,s _ _ A.hf,s _ _ A.ho,All2.mono A.fo fun a p h=>FormAt.same s h,s _ _ A.hs,s _ _ A.hl,A.el,All2.mono A.ea fun a e ⟨bs,h1,h2⟩=>⟨bs,s _ _ h1,All2.mono h2 fun b q h=>s _ _ h⟩,A.eo,
  s _ _ A.hp,All2.mono A.pa fun a e ⟨bs,h1,h2⟩=>⟨bs,s _ _ h1,All2.mono h2 fun b q h=>s _ _ h⟩⟩
inductive sp_initS(C:Addr)(vs:List V)(H:Hp)(Q:VK)(xk:XK):Prop
 | mk (a dx b pl pp:Addr) (las pas:List Addr) (ls:List (Str×Int)) (ps:List (Str×Fm)) (gs:List Int) (hs:List (List Int)) (_:vs=[.ref a,.ref b]) (_:H a=some (.ins C dx [])) (_:BookAt H b pl pp las pas ls ps) (_:Sn ls ps gs hs) (_:∀(z:Sa) (E:List (List (Int×Int))) (H':Hp),(∀c u,c≠a->H c=some u->H' c=some u)->StageAt C H' a z ls ps gs E->Q .non H'):sp_initS C vs H Q xk
inductive sp_sceneS(C:Addr)(vs:List V)(H:Hp)(Q:VK)(xk:XK):Prop
 | mk (a:Addr) (z:Sa) (ls:List (Str×Int)) (ps:List (Str×Fm)) (gs:List Int) (hs:List (List Int)) (E:List (List (Int×Int))) (t:Int) (_:vs=[.ref a,.int t]) (_:StageAt C H a z ls ps gs E) (_:Sn ls ps gs hs) (_:0<=t) (_:t<=gs.getD (ps.length-1) 0) (_:∀(r l1 l2:Addr) (as:List Addr) (P:List (Nat×Int)) (H':Hp),Same H H'->H l1=none->H l2=none->H' r=some (.tup [.ref l1,.ref l2])->H' l1=some (.lst ((strH ls ps gs E t).map V.int))->(strH ls ps gs E t).length=ls.length->(∀h∈strH ls ps gs E t,0<=h/\h<=10^18)->H' l2=some (.lst (as.map V.ref))->l1≠l2->GonAt H' as P->P.length<=5000->(∀x∈P,x.1<ps.length/\0<=x.2/\x.2<gs.getD x.1 0)->P.filter (leafB ps gs)=((reach ps gs (ps.length-1) t).filter fun x=>!ovB gs x)->Q (.ref r) H'):sp_sceneS C vs H Q xk
inductive sp_heightsS(C:Addr)(vs:List V)(H:Hp)(Q:VK)(xk:XK):Prop
 | mk (a:Addr) (z:Sa) (ls:List (Str×Int)) (ps:List (Str×Fm)) (gs:List Int) (hs:List (List Int)) (E:List (List (Int×Int))) (t:Int) (_:vs=[.ref a,.int t]) (_:StageAt C H a z ls ps gs E) (_:Sn ls ps gs hs) (_:0<=t) (_:t<=gs.getD (ps.length-1) 0) (_:∀(l:Addr) (H':Hp),Same H H'->H l=none->H' l=some (.lst ((standH ls ps gs E t).map V.int))->(standH ls ps gs E t).length=ls.length->Q (.ref l) H'):sp_heightsS C vs H Q xk
inductive sp_wordsS(C:Addr)(vs:List V)(H:Hp)(Q:VK)(xk:XK):Prop
 | mk (a:Addr) (z:Sa) (ls:List (Str×Int)) (ps:List (Str×Fm)) (gs:List Int) (hs:List (List Int)) (E:List (List (Int×Int))) (t:Int) (_:vs=[.ref a,.int t]) (_:StageAt C H a z ls ps gs E) (_:Sn ls ps gs hs) (_:0<=t) (_:t<=gs.getD (ps.length-1) 0) (_:∀(l:Addr) (H':Hp),Same H H'->H l=none->H' l=some (.lst ((ringsW ps gs t).map V.str))->(ringsW ps gs t).length<=5000->Q (.ref l) H'):sp_wordsS C vs H Q xk
theorem FormAt.put{H H':Hp}{a:Addr}{f:Fm}(k:∀b xs,H b=some (.tup xs)->H' b=some (.tup xs))(h:FormAt H a f):FormAt H' a f:=by
 cases f with
 | row ps=>obtain⟨c,q1,q2⟩:=h;exact⟨c,k _ _ q1,k _ _ q2⟩
 | side ps=>obtain⟨c,q1,q2⟩:=h;exact⟨c,k _ _ q1,k _ _ q2⟩
 | hold n=>exact k _ _ h
 | ring x n=>exact k _ _ h
 | rise x v n=>exact k _ _ h
 | again k' x=>exact k _ _ h
theorem kB{α:Type}{f:α->Nat}:∀{l:List α},(∀x∈l,1<=f x)->l.length<=(l.map f).sum
 | [],_=>Nat.le_refl _
 | x::r,h=>by
  have h1:=h x mem_cons_self;have h2:=kB (l:=r) fun y hy=>h y (mem_cons_of_mem _ hy)
  rw[map_cons,sum_cons,length_cons];omega
section
variable{ls:List (Str×Int)}{ps:List (Str×Fm)}{gs:List Int}{E:List (List (Int×Int))}{D:List (Nat×Int)}{x:Nat×Int}
noncomputable def hOf(ls:List (Str×Int))(gs:List Int)(E:List (List (Int×Int)))(D:List (Nat×Int)):List Int:=(D.filter (ovB gs)).foldl (fun h x=>setE (E.getD x.1 []) h) (ls.map (·.2))
theorem Y6(h:ovB gs x=false):hOf ls gs E (if leafB ps gs x=true then D++[x]else D)=hOf ls gs E D:=by
 split
 ·unfold hOf;rw[filter_append,filter_cons_of_neg (by rw[h];decide)];show(D.filter (ovB gs)++[]).foldl _ _=_;rw[append_nil]
 ·rfl
theorem Y7(h:ovB gs x=true):hOf ls gs E (D++[x])=setE (E.getD x.1 []) (hOf ls gs E D):=by
 unfold hOf;rw[filter_append,filter_cons_of_pos h,foldl_append];rfl
theorem KC(W:WfB ls ps){i:Nat}{t:Int}(c:t<gs.getD i 0):1+((wth gs t (pcB ps gs i)).map fun x=>nodes ps gs x.1 x.2).sum<=nodes ps gs i t:=by
 by_cases e:pcB ps gs i=[]
 ·rw[e,ZP (.inr e)];exact Nat.le_refl _
 ·rw[ke W (fun h=>h.elim (fun z=>by omega) e)];exact Nat.le_refl _
end
structure ScAt(ls:List (Str×Int))(ps:List (Str×Fm))(gs:List Int)(E:List (List (Int×Int)))(t0:Int)(H H':Hp)(p1 p2 p4:Addr)(pas tas:List Addr)(D P S:List (Nat×Int)):Prop where
 sm:Same H H'
 e1:H' p1=some (.lst ((hOf ls gs E D).map V.int))
 e2:H' p2=some (.lst (pas.map V.ref))
 eT:H' p4=some (.lst (tas.map V.ref))
 gP:GonAt H' pas P
 gT:GonAt H' tas S
 inv:D++S.reverse.flatMap (fun x=>reach ps gs x.1 x.2)=reach ps gs (ps.length-1) t0
 hS:∀x∈S,x.1<ps.length/\0<=x.2
 hP:P.filter (leafB ps gs)=D.filter fun x=>!ovB gs x
 bP:∀x∈P,x.1<ps.length/\0<=x.2/\x.2<gs.getD x.1 0
 bnd:P.length+(S.map fun x=>nodes ps gs x.1 x.2).sum<=5000
 ll:(hOf ls gs E D).length=ls.length
 hb:∀h∈hOf ls gs E D,0<=h/\h<=10^18
section
variable{L:List Str}{fs:List Fn}{M:List (List Int)}{gs:List Int}{names:List Str}{n:Nat}{E:List (List (Int×Int))}
theorem qR{j:Nat}{h:List Int}:plN L names fs gs E j (gs.getD j 0) h=setE (E.getD j []) h:=by
 unfold plN;rw[jU (.inl (Int.le_refl _))];show apN L fs gs E h (j,gs.getD j 0)=_;unfold apN;rw[if_pos (Int.le_refl _)]
theorem Q6{j:Nat}(hg:1<=gs.getD j 0):rgN names fs gs j (gs.getD j 0)=[]:=by
 unfold rgN;rw[jU (.inl (Int.le_refl _)),flatMap_cons,flatMap_nil,append_nil];unfold ringX;split
 ·rw[if_neg (show¬gs.getD j 0=0 by omega)]
 ·rfl
theorem Jr(D:DOk L fs M gs)(hnm:fs.length<=names.length)(nd:names.Nodup){k:Nat}{f:Fn}(hf:fs[k]?=some f):pcB (drawnPs names fs) gs k=pcsI gs (toldF names f) f.js:=by
 have js:=(D.f k f hf).1.js.2;have hk:=(List.getElem?_eq_some_iff.mp hf).1;unfold pcB;rw[qO hf];show pcsI _ _ _=_;rw[QS hnm nd fun j hj=>by have:=js j hj;omega]
theorem KI{t:Int}:∀{is:List Nat} {b:Int} {i:Nat},(∀k∈is,1<=gs.getD k 0/\gs.getD k 0<=10^60)->b+((is.take i).map fun j=>gs.getD j 0).sum<=t->wth gs t (rowPc gs is b)=((is.take i).map fun j=>(j,gs.getD j 0))++wth gs t (rowPc gs (is.drop i) (b+((is.take i).map fun j=>gs.getD j 0).sum))
 | [],b,i,_,h=>by simp[rowPc,QH]
 | j::r,b,0,_,h=>by
  show _=[]++wth gs t (rowPc gs (j::r) (b+0));rw[Int.add_zero,nil_append]
 | j::r,b,i+1,hg,h=>by
  have g:=hg j mem_cons_self;have nn:∀l:List Nat,(∀k∈l,1<=gs.getD k 0)->0<=(l.map fun j=>gs.getD j 0).sum:=fun l=>by
   induction l with
   | nil=>intro _;exact Int.le_refl _
   | cons x l ih=>
    intro hl;rw[map_cons,sum_cons];have:=ih fun k hk=>hl k (mem_cons_of_mem _ hk)
    have:=hl x mem_cons_self;omega
  have n0:=nn (r.take i) fun k hk=>(hg k (mem_cons_of_mem _ (mem_of_mem_take hk))).1
  rw[List.take_succ_cons,map_cons,sum_cons]at h;rw[Zi hg (by omega),if_pos (by omega),List.take_succ_cons,map_cons,map_cons,sum_cons,List.drop_succ_cons,KI (is:=r) (i:=i) (fun k hk=>hg k (mem_cons_of_mem _ hk)) (by omega),cons_append,Int.add_assoc]
theorem YX{j:Nat}{k t:Int}(g1:1<=gs.getD j 0)(k1:1<=k)(t0:0<=t)(tk:t<=k*gs.getD j 0) :
  (t/gs.getD j 0=0/\wth gs t ((j,1,0)::(if 1<k then[(j,k-1,gs.getD j 0)]else[]))=[(j,t%gs.getD j 0)])\/
  (1<=t/gs.getD j 0/\t/gs.getD j 0<k/\∃z,(z=[]\/z=[(j,gs.getD j 0)])/\wth gs t ((j,1,0)::(if 1<k then[(j,k-1,gs.getD j 0)]else[]))=(j,gs.getD j 0)::z++[(j,t%gs.getD j 0)])\/
  (t/gs.getD j 0=k/\∃z,(z=[]\/z=[(j,gs.getD j 0)])/\wth gs t ((j,1,0)::(if 1<k then[(j,k-1,gs.getD j 0)]else[]))=(j,gs.getD j 0)::z):=by
 rw[JO,kJ g1 t0,Int.sub_zero];generalize hg:gs.getD j 0=g at *;have dm:=Int.emod_add_mul_ediv t g;have m0:=Int.emod_nonneg t (show g≠0 by omega);have m1:=Int.emod_lt_of_pos t (show 0<g by omega);have dk:t/g<=k:=by
  have:=Int.ediv_le_ediv (show 0<g by omega) tk;rw[Int.mul_ediv_cancel _ (show g≠0 by omega)]at this;exact this
 have dd:(t-g)/g=t/g-1:=by
  have:=Int.add_mul_ediv_right t (-1) (show g≠0 by omega);have e:t + -1*g=t-g:=by omega
  rw[e]at this;omega
 by_cases c:g<=t
 case neg=>
  have d0:t/g=0:=Int.ediv_eq_zero_of_lt t0 (by omega);have r0:t%g=t:=Int.emod_eq_of_lt t0 (by omega);refine .inl ⟨d0,?_⟩;rw[if_neg c,r0];split
  ·rw[JO,QH,j08 (show t<g by omega)];rfl
  ·rw[QH];rfl
 have d1:1<=t/g:=by
  have:=Int.ediv_le_ediv (show 0<g by omega) c;rw[Int.ediv_self (show g≠0 by omega)]at this;exact this
 rw[if_pos c];have eo:ov gs t (j,k-1,g)=t/g-1:=by
  unfold ov;show(if k-1<(t-g)/gs.getD j 0 then k-1 else(t-g)/gs.getD j 0)=_;rw[hg,dd];split<;>omega
 have er:t-g-(t/g-1)*g=t%g:=by
  have:(t/g-1)*g=g*(t/g)-g:=by rw[Int.sub_mul,Int.one_mul,Int.mul_comm]
  omega
 by_cases k2:1<k
 ·rw[if_pos k2,JO,QH,append_nil,Wl (show g<=t from c),eo];show _\/(_/\_/\∃z,_/\[(j,g)]++((if 0<t/g-1 then[(j,gs.getD j 0)]else[])++(if t/g-1<k-1 then[(j,t-g-(t/g-1)*gs.getD j 0)]else[]))=_)\/(_/\∃z,_/\[(j,g)]++((if 0<t/g-1 then[(j,gs.getD j 0)]else[])++(if t/g-1<k-1 then[(j,t-g-(t/g-1)*gs.getD j 0)]else[]))=_);rw[hg,er];have hz:(if 0<t/g-1 then[(j,g)]else[])=[]\/(if 0<t/g-1 then[(j,g)]else[])=[(j,g)]:=by split<;>simp
  by_cases c2:t/g=k
  ·refine .inr (.inr ⟨c2,_,hz,?_⟩);rw[if_neg (show¬t/g-1<k-1 by omega),append_nil];rfl
  ·refine .inr (.inl ⟨d1,by omega,_,hz,?_⟩);rw[if_pos (show t/g-1<k-1 by omega)];rfl
 ·rw[if_neg k2,QH];exact .inr (.inr ⟨by omega,[],.inl rfl,rfl⟩)
noncomputable def Fn.comp:Fn->Prop
 | .row _=>True
 | .side _=>True
 | .again _ _=>True
 | _=>False
theorem Ks{js:List Nat}{h:List Int}:(js.map fun j=>(j,gs.getD j 0)).foldl (fun h x=>plN L names fs gs E x.1 x.2 h) h=js.foldl (fun h j=>setE (E.getD j []) h) h:=by
 rw[foldl_map];exact QL fun j _ h=>qR
theorem wo:∀{js:List Nat},(∀j∈js,1<=gs.getD j 0)->((js.map fun j=>(j,gs.getD j 0)).flatMap fun x=>rgN names fs gs x.1 x.2)=[]
 | [],_=>rfl
 | j::r,h=>by
  rw[map_cons,flatMap_cons,wo fun k hk=>h k (mem_cons_of_mem _ hk)];show rgN names fs gs j (gs.getD j 0)++[]=[]
  rw[Q6 (h j mem_cons_self)];rfl
theorem j2D(D:DOk L fs M gs)(hnm:fs.length<=names.length)(nd:names.Nodup)(lnd:L.Nodup)(l8:L.length<=8)(f61:fs.length<=61)(e:EN L fs n E)(hn:n<=fs.length){k:Nat}(hk:k<n){f:Fn}(hf:fs[k]?=some f)(hc:f.comp){t:Int}(t0:0<=t)(t1:t<=gs.getD k 0)(h:List Int) :
  plN L names fs gs E k t h=(wsN names fs gs k t).foldl (fun h x=>plN L names fs gs E x.1 x.2 h) h/\rgN names fs gs k t=(wsN names fs gs k t).flatMap fun x=>rgN names fs gs x.1 x.2:=by
 have hL:nmsOf (L.map fun x=>(x,(0:Int)))=L:=by
  unfold nmsOf;rw[List.map_map];exact map_id _
 have W:WfB (L.map fun x=>(x,(0:Int))) (drawnPs names fs):=DOk.wf (by rw[hL];exact D) hnm nd (by rw[hL];exact lnd) (by rw[length_map];exact l8) f61;obtain⟨d1,d2,d3⟩:=D.f k f hf;have js:=d1.js.2;have gj:∀j∈f.js,1<=gs.getD j 0/\gs.getD j 0<=10^60:=fun j hj=>D.g j (by have:=js j hj;omega)
 have epc:=Jr D hnm nd hf;have nr:∀x v m,f≠.rise x v m:=fun x v m h=>by rw[h]at hc;exact hc
 by_cases c:gs.getD k 0<=t
 case neg=>
  have ne:pcB (drawnPs names fs) gs k≠[]:=by
   rw[epc];cases f with
   | row is=>
    obtain⟨a,_⟩:=d1;cases is with
    | nil=>exact absurd rfl a
    | cons j r=>exact cons_ne_nil _ _
   | side is=>
    obtain⟨a,_⟩:=d1;cases is with
    | nil=>exact absurd a (by decide)
    | cons j r=>exact cons_ne_nil _ _
   | again m j=>exact cons_ne_nil _ _
   | hold m=>exact hc.elim
   | ring x m=>exact hc.elim
   | rise x v m=>exact hc.elim
  have er:=JA W (t:=t) (show¬(gs.getD k 0<=t\/pcB (drawnPs names fs) gs k=[])from fun z=>z.elim c ne);unfold plN rgN wsN;rw[er,Y5,zk];exact⟨rfl,rfl⟩
 have et:t=gs.getD k 0:=by omega
 subst et;have lhs:=qR (L:=L) (names:=names) (fs:=fs) (gs:=gs) (E:=E) (j:=k) (h:=h);have rhs:rgN names fs gs k (gs.getD k 0)=[]:=Q6 (D.g k (by omega)).1;rw[lhs,rhs,e.all D lnd hn hk hf nr h];unfold wsN;rw[epc];cases f with
 | row is=>
  have gj:∀j∈is,1<=gs.getD j 0/\gs.getD j 0<=10^60:=gj;have d3:gs.getD k 0=(is.map fun j=>gs.getD j 0).sum:=d3;have ew:wth gs (gs.getD k 0) (pcsI gs (toldF names (.row is)) is)=is.map fun j=>(j,gs.getD j 0):=by
   show wth gs _ (rowPc gs is 0)=_;rw[KI (is:=is) (i:=is.length) gj (by rw[take_length];omega),take_length,List.drop_length];show _++wth gs _ []=_;rw[QH,append_nil]
  show _=(wth gs (gs.getD k 0) (pcsI gs (toldF names (.row is)) is)).foldl _ h/\_=(wth gs (gs.getD k 0) (pcsI gs (toldF names (.row is)) is)).flatMap _;rw[ew,Ks,wo (js:=is) fun j hj=>(gj j hj).1];exact⟨rfl,rfl⟩
 | side is=>
  have gj:∀j∈is,1<=gs.getD j 0/\gs.getD j 0<=10^60:=gj;obtain⟨_,d3⟩:=d3;have ew:wth gs (gs.getD k 0) (pcsI gs (toldF names (.side is)) is)=is.map fun j=>(j,gs.getD j 0):=by
   show wth gs _ (is.map fun j=>(j,1,0))=_;rw[Zr (is:=is) (fun j hj=>(gj j hj).1) t0];exact map_congr_left fun j hj=>by rw[if_pos (d3 j hj)]
  show _=(wth gs (gs.getD k 0) (pcsI gs (toldF names (.side is)) is)).foldl _ h/\_=(wth gs (gs.getD k 0) (pcsI gs (toldF names (.side is)) is)).flatMap _;rw[ew,Ks,wo (js:=is) fun j hj=>(gj j hj).1];exact⟨rfl,rfl⟩
 | again m j=>
  have d3:gs.getD k 0=m*gs.getD j 0:=d3;obtain⟨m1,_,hj⟩:=d1;have g1:=(gj j mem_cons_self).1;have em:gs.getD k 0/gs.getD j 0=m:=by rw[d3,Int.mul_ediv_cancel _ (show gs.getD j 0≠0 by omega)]
  obtain⟨fj,hfj⟩:∃g,fs[j]?=some g:=⟨_,List.getElem?_eq_getElem (by omega)⟩
  have two:=kz (e j fj (by omega) hfj).1 (e.pos D lnd hn (show j<n by omega)) h;show[j].foldl _ h=(wth gs (gs.getD k 0) ((j,1,0)::(if 1<m then[(j,m-1,gs.getD j 0)]else[]))).foldl _ h/\[]=(wth gs (gs.getD k 0) ((j,1,0)::(if 1<m then[(j,m-1,gs.getD j 0)]else[]))).flatMap _;rcases YX g1 m1 t0 (show gs.getD k 0<=m*gs.getD j 0 by omega)with⟨z,_⟩ | ⟨_,z,_⟩ | ⟨_,z,hz,ez⟩
  ·omega
  ·omega
  ·rw[ez];have r0:rgN names fs gs j (gs.getD j 0)=[]:=Q6 g1;rcases hz with rfl | rfl
   ·refine⟨qR.symm,?_⟩;show[]=rgN names fs gs j (gs.getD j 0)++[];rw[r0];rfl
   ·constructor
    ·show setE (E.getD j []) h=plN L names fs gs E j (gs.getD j 0) (plN L names fs gs E j (gs.getD j 0) h);rw[qR,qR,two]
    ·show[]=rgN names fs gs j (gs.getD j 0)++(rgN names fs gs j (gs.getD j 0)++[]);rw[r0];rfl
 | hold m=>exact hc.elim
 | ring x m=>exact hc.elim
 | rise x v m=>exact hc.elim
end
def hB(h:List Int):Prop:=∀x∈h,0<=x/\x<=10^18
theorem hB.getD{h:List Int}(b:hB h)(i:Nat):0<=h.getD i 0/\h.getD i 0<=10^18:=by
 rw[getD_eq_getElem?_getD];cases e:h[i]? with
 | none=>exact⟨Int.le_refl _,(by decide)⟩
 | some x=>exact b x (List.mem_of_getElem? e)
theorem hB.set{h:List Int}(b:hB h){i:Nat}{v:Int}(hv:0<=v/\v<=10^18):hB (h.set i v):=fun x hx=>by
 rcases mem_or_eq_of_mem_set hx with z | z
 ·exact b x z
 ·rw[z];exact hv
theorem hB.setE:∀{es:List (Int×Int)} {h:List Int},hB h->(∀q∈es,0<=q.2/\q.2<=10^18)->hB (setE es h)
 | [],_,b,_=>b
 | q::r,h,b,e=>by
  rw[qY];exact hB.setE (b.set (e q mem_cons_self)) fun x hx=>e x (mem_cons_of_mem _ hx)
section
variable{L:List Str}{fs:List Fn}{M:List (List Int)}{gs:List Int}{names:List Str}{n:Nat}{E:List (List (Int×Int))}
theorem yx(D:DOk L fs M gs)(nd:L.Nodup){i:Nat}{y:Str}{v m:Int}(hf:fs[i]?=some (.rise y v m)):((ixOf L y:Nat):Int)∈M.getD i []/\0<=v/\v<=10^18/\1<=m/\gs.getD i 0=m:=by
 obtain⟨⟨⟨k,hk⟩,d0,d1,d2,_⟩,d3,d4⟩:=D.f i _ hf;exact⟨(d3.2 _).mpr (.inr ⟨y,v,m,k,rfl,hk,by rw[Jm nd hk]⟩),d0,d1,d2,d4⟩
theorem EN.val(D:DOk L fs M gs)(e:EN L fs n E)(hn:n<=fs.length):∀{i:Nat},i<n->∀q∈E.getD i [],0<=q.2/\q.2<=10^18:=by
 intro i
 induction i using Nat.strongRecOn with
 | ind i ih=>
  intro hi q hq;obtain⟨f,hf⟩:∃f,fs[i]?=some f:=⟨_,List.getElem?_eq_getElem (by omega)⟩
  obtain⟨d1,_,_⟩:=D.f i f hf;rcases((e i f hi hf).2 q.1 q.2).mp hq with⟨pre,j,post,ej,h1,_⟩ | ⟨x,m,ef,ek⟩
  ·have hj:j∈f.js:=by rw[ej];simp
   have:=d1.js.2 j hj;exact ih j this (by omega) _ h1
  ·subst ef;exact⟨d1.2.1,d1.2.2.1⟩
theorem j0Z{h:List Int}{x:Nat×Int}:(apN L fs gs E h x).length=h.length:=by
 unfold apN;split
 ·exact qT _ _
 ·split
  ·exact length_set ..
  ·rfl
theorem j3A(D:DOk L fs M gs)(nd:L.Nodup)(e:EN L fs n E)(hn:n<=fs.length){h:List Int}{x:Nat×Int}(hx:x.1<n){i:Nat}(hi:¬(i:Int)∈M.getD x.1 []):(apN L fs gs E h x)[i]?=h[i]?:=by
 unfold apN;split
 ·exact zu (e.pos D nd hn hx) fun v hv=>hi (e.mov D nd hn hx _ hv)
 ·split
  ·rename_i y v m hf;refine List.getElem?_set_ne fun z=>hi ?_
   rw[<-z];exact(yx D nd hf).1
  ·rfl
theorem j3z(D:DOk L fs M gs)(nd:L.Nodup)(e:EN L fs n E)(hn:n<=fs.length){h:List Int}{x:Nat×Int}(hx:x.1<n)(x0:0<=x.2)(b:hB h):hB (apN L fs gs E h x):=by
 unfold apN;split
 ·exact b.setE (e.val D hn hx)
 ·rename_i c;split
  ·rename_i y v m hf;obtain⟨_,v0,v1,m1,eg⟩:=yx D nd hf;exact b.set (wX (b.getD _) ⟨v0,v1⟩ m1 x0 (by omega))
  ·exact b
theorem KF(D:DOk L fs M gs)(hnm:fs.length<=names.length)(nd:names.Nodup)(lnd:L.Nodup)(l8:L.length<=8)(f61:fs.length<=61):∀{j:Nat} {t:Int} {x:Nat×Int},j<fs.length->x∈reach (drawnPs names fs) gs j t->x.1<=j/\∀k∈M.getD x.1 [],k∈M.getD j []:=by
 have hL:nmsOf (L.map fun x=>(x,(0:Int)))=L:=by
  unfold nmsOf;rw[List.map_map];exact map_id _
 have W:WfB (L.map fun x=>(x,(0:Int))) (drawnPs names fs):=DOk.wf (by rw[hL];exact D) hnm nd (by rw[hL];exact lnd) (by rw[length_map];exact l8) f61;intro j
 induction j using Nat.strongRecOn with
 | ind j ih=>
  intro t x hj hx;by_cases c:gs.getD j 0<=t\/pcB (drawnPs names fs) gs j=[]
  ·rw[jU c]at hx;rw[mem_singleton.mp hx];exact⟨Nat.le_refl _,fun k hk=>hk⟩
  ·rw[JA W c]at hx;obtain⟨y,hy,hx⟩:=mem_flatMap.mp hx;obtain⟨f,hf⟩:∃f,fs[j]?=some f:=⟨_,List.getElem?_eq_getElem (by omega)⟩
   have lt:=Qb W hy;obtain⟨q,hq,eq⟩:=wF hy;rw[Jr D hnm nd hf]at hq;have hyj:y.1∈f.js:=by rw[eq];exact kb hq
   obtain⟨a,b⟩:=ih y.1 lt (by omega) hx;exact⟨by omega,fun k hk=>((D.f j f hf).2.1.2 k).mpr (.inl ⟨y.1,hyj,b k hk⟩)⟩
theorem reach_pos'(D:DOk L fs M gs)(hnm:fs.length<=names.length)(nd:names.Nodup)(lnd:L.Nodup)(l8:L.length<=8)(f61:fs.length<=61){j:Nat}{t:Int}{x:Nat×Int}(hj:j<fs.length)(t0:0<=t)(hx:x∈reach (drawnPs names fs) gs j t):0<=x.2:=by
 have hL:nmsOf (L.map fun x=>(x,(0:Int)))=L:=by
  unfold nmsOf;rw[List.map_map];exact map_id _
 have N:Sn (L.map fun x=>(x,(0:Int))) (drawnPs names fs) gs M:=DOk.sn (by rw[hL];exact D) hnm nd (by rw[hL];exact lnd) (by rw[length_map];exact l8) f61 (by omega) fun q hq=>by
  obtain⟨x,_,rfl⟩:=mem_map.mp hq;exact⟨(by show(0:Int)<=0;decide),(by show(0:Int)<=10^18;decide)⟩
 exact j0L N (by rw[Jq];exact hj) t0 hx
theorem j1S{j:Nat}{t:Int}{h:List Int}:(plN L names fs gs E j t h).length=h.length:=by
 unfold plN;generalize reach (drawnPs names fs) gs j t=xs
 induction xs generalizing h with
 | nil=>rfl
 | cons x r ih=>rw[foldl_cons,ih,j0Z]
theorem WJ(D:DOk L fs M gs)(lnd:L.Nodup)(e:EN L fs n E)(hn:n<=fs.length){i:Nat}:∀{xs:List (Nat×Int)} {h:List Int},(∀x∈xs,x.1<n/\¬(i:Int)∈M.getD x.1 [])->(xs.foldl (apN L fs gs E) h)[i]?=h[i]?
 | [],_,_=>rfl
 | x::r,h,hx=>by
  rw[foldl_cons,WJ D lnd e hn fun y hy=>hx y (mem_cons_of_mem _ hy)];obtain⟨a,b⟩:=hx x mem_cons_self;exact j3A D lnd e hn a b
theorem WG(D:DOk L fs M gs)(lnd:L.Nodup)(e:EN L fs n E)(hn:n<=fs.length):∀{xs:List (Nat×Int)} {h:List Int},(∀x∈xs,x.1<n/\0<=x.2)->hB h->hB (xs.foldl (apN L fs gs E) h)
 | [],_,_,b=>b
 | x::r,h,hx,b=>by
  rw[foldl_cons];obtain⟨p,q⟩:=hx x mem_cons_self;exact WG D lnd e hn (fun y hy=>hx y (mem_cons_of_mem _ hy)) (j3z D lnd e hn p q b)
theorem j45(D:DOk L fs M gs)(hnm:fs.length<=names.length)(nd:names.Nodup)(lnd:L.Nodup)(l8:L.length<=8)(f61:fs.length<=61)(e:EN L fs n E)(hn:n<=fs.length){j:Nat}{t:Int}{h:List Int}(hj:j<n){i:Nat}(hi:¬(i:Int)∈M.getD j []):(plN L names fs gs E j t h)[i]?=h[i]?:=
 WJ D lnd e hn fun x hx=>by
  obtain⟨a,b⟩:=KF D hnm nd lnd l8 f61 (by omega) hx;exact⟨by omega,fun z=>hi (b _ z)⟩
theorem j44(D:DOk L fs M gs)(hnm:fs.length<=names.length)(nd:names.Nodup)(lnd:L.Nodup)(l8:L.length<=8)(f61:fs.length<=61)(e:EN L fs n E)(hn:n<=fs.length){j:Nat}{t:Int}{h:List Int}(hj:j<n)(t0:0<=t)(b:hB h):hB (plN L names fs gs E j t h):=
 WG D lnd e hn (fun x hx=>by
  obtain⟨a,_⟩:=KF D hnm nd lnd l8 f61 (by omega) hx;exact⟨by omega,reach_pos' D hnm nd lnd l8 f61 (by omega) t0 hx⟩) b
end
structure BkD(L:List Str)(names:List Str)(fs:List Fn)(M:List (List Int))(gs:List Int):Prop where
 D:DOk L fs M gs
 hnm:fs.length<=names.length
 nd:names.Nodup
 lnd:L.Nodup
 l8:L.length<=8
 f16:fs.length<=16
inductive sp_cellC(K:Frg)(vs:List V)(H:Hp)(Q:VK)(xk:XK):Prop
 | mk (a:Addr) (ns:List Int) (k:Int) (_:vs=[.ref a,.int k]) (_:SqL K H a (ns.map V.int)) (_:ns.length<=63) (_:0<=k) (_:k<=100) (_:∀r:Int,((∀x∈ns,Builtin.Int.intBits x<=1048576)->Builtin.Int.intBits r<=1048576)->Q (.int r) H):sp_cellC K vs H Q xk
section
variable{L:List Str}{fs:List Fn}{M:List (List Int)}{gs:List Int}{names:List Str}
theorem BkD.f61(B:BkD L names fs M gs):fs.length<=61:=by have:=B.f16;omega
def StD(L names:List Str)(fs:List Fn)(gs:List Int)(j:Nat)(t:Int)(h R:List Int):Prop:=R.length=h.length/\(hB h->hB R)/\∀(n:Nat) (E:List (List (Int×Int))),j<n->n<=fs.length->EN L fs n E->R=plN L names fs gs E j t h
theorem j09{h:List Int}(hl:h.length=L.length):nmsOf (L.zip h)=L/\(L.zip h).map (·.2)=h:=by
 unfold nmsOf;rw[List.map_fst_zip (by omega),List.map_snd_zip (by omega)];exact⟨rfl,rfl⟩
theorem BkD.take(B:BkD L names fs M gs){j:Nat}{h:List Int}(hj:j<fs.length)(hl:h.length=L.length)(b:hB h):Sn (L.zip h) ((drawnPs names fs).take (j+1)) (gs.take (j+1)) (M.take (j+1)):=by
 obtain⟨z1,z2⟩:=j09 hl;have l8:=B.l8;have f16:=B.f16;have hnm:=B.hnm;rw[QT];have lt:(fs.take (j+1)).length=j+1:=by rw[length_take];omega
 refine DOk.sn (by rw[z1];exact B.D.take (by omega)) (by rw[lt];omega) B.nd (by rw[z1];exact B.lnd) (by rw[List.length_zip];omega) (by rw[lt];omega) (by rw[lt];omega) fun q hq=>b _ (of_mem_zip hq).2
theorem BkD.st(B:BkD L names fs M gs){j:Nat}{h:List Int}{t:Int}(hj:j<fs.length)(hl:h.length=L.length)(t0:0<=t){E:List (List (Int×Int))}(lE:E.length=((drawnPs names fs).take (j+1)).length)(oE:EndOk (L.zip h) ((drawnPs names fs).take (j+1)) E) :
  StD L names fs gs j t h (standH (L.zip h) ((drawnPs names fs).take (j+1)) (gs.take (j+1)) E t):=by
 obtain⟨z1,z2⟩:=j09 hl;rw[QT]at *;have e0:EN L fs (j+1) E:=EN.of B.D B.hnm B.nd (by omega) z1 lE oE;have e1:=KL (t:=t) B.D B.hnm B.nd B.lnd B.l8 B.f61 z1 (show j<j+1 by omega) (by omega) e0 lE oE;rw[z2]at e1;refine⟨by rw[e1,j1S],fun b=>by rw[e1];exact j44 B.D B.hnm B.nd B.lnd B.l8 B.f61 e0 (by omega) (by omega) t0 b,fun n E' hn hn' e'=>?_⟩;have:=KL (t:=t) B.D B.hnm B.nd B.lnd B.l8 B.f61 z1 hn hn' e' lE oE;rw[z2]at this;exact this
theorem BkD.rg(B:BkD L names fs M gs){j:Nat}{t:Int}(hj:j<fs.length):ringsW ((drawnPs names fs).take (j+1)) (gs.take (j+1)) t=rgN names fs gs j t:=by
 rw[QT];exact j0M B.D B.hnm B.nd B.lnd B.l8 B.f61 hj
end
section
variable{L names:List Str}{fs:List Fn}{M:List (List Int)}{gs:List Int}
noncomputable def wdN(names:List Str)(fs:List Fn)(gs:List Int)(k:Nat)(t:Int):List Str:=if 0<=t/\t<gs.getD k 0 then rgN names fs gs k t else[]
noncomputable def rowW(names:List Str)(fs:List Fn)(gs:List Int):List Nat->Int->List Str
 | [],_=>[]
 | j::r,s=>wdN names fs gs j s++rowW names fs gs r (s-gs.getD j 0)
theorem xa:∀{is:List Nat} {s:Int},(∀k∈is,1<=gs.getD k 0)->s<0->rowW names fs gs is s=[]
 | [],_,_,_=>rfl
 | j::r,s,hg,h=>by
  have g:=hg j mem_cons_self;show wdN names fs gs j s++rowW names fs gs r (s-gs.getD j 0)=[]
  rw[xa (fun k hk=>hg k (mem_cons_of_mem _ hk)) (by omega)];unfold wdN;rw[if_neg (by omega)];rfl
theorem j22{t:Int}:∀{is:List Nat} {b:Int},(∀k∈is,1<=gs.getD k 0/\gs.getD k 0<=10^60)->b<=t->((wth gs t (rowPc gs is b)).flatMap fun x=>rgN names fs gs x.1 x.2)=rowW names fs gs is (t-b)
 | [],b,_,_=>by
  show((wth gs t []).flatMap _)=_;rw[QH];rfl
 | j::r,b,hg,hb=>by
  have g:=hg j mem_cons_self;have hr:∀k∈r,1<=gs.getD k 0/\gs.getD k 0<=10^60:=fun k hk=>hg k (mem_cons_of_mem _ hk)
  rw[Zi hg hb];show _=wdN names fs gs j (t-b)++rowW names fs gs r (t-b-gs.getD j 0);unfold wdN;by_cases c:gs.getD j 0<=t-b
  ·rw[if_pos c,if_neg (by omega),flatMap_cons];show rgN names fs gs j (gs.getD j 0)++_=_;rw[Q6 g.1,j22 hr (by omega),show t-(b+gs.getD j 0)=t-b-gs.getD j 0 by omega]
  ·rw[if_neg c,if_pos ⟨by omega,by omega⟩,xa (fun k hk=>(hr k hk).1) (by omega),flatMap_cons,flatMap_nil]
theorem wY(D:DOk L fs M gs)(hnm:fs.length<=names.length)(nd:names.Nodup)(lnd:L.Nodup)(l8:L.length<=8)(f61:fs.length<=61){k:Nat}{f:Fn}(hf:fs[k]?=some f)(hc:f.comp){t:Int}(t1:t<gs.getD k 0) :
  rgN names fs gs k t=(wth gs t (pcsI gs (toldF names f) f.js)).flatMap fun x=>rgN names fs gs x.1 x.2:=by
 have hL:nmsOf (L.map fun x=>(x,(0:Int)))=L:=by
  unfold nmsOf;rw[List.map_map];exact map_id _
 have W:WfB (L.map fun x=>(x,(0:Int))) (drawnPs names fs):=DOk.wf (by rw[hL];exact D) hnm nd (by rw[hL];exact lnd) (by rw[length_map];exact l8) f61;obtain⟨d1,_,_⟩:=D.f k f hf;have epc:=Jr D hnm nd hf;have ne:pcB (drawnPs names fs) gs k≠[]:=by
  rw[epc];cases f with
  | row is=>
   obtain⟨a,_⟩:=d1;cases is with
   | nil=>exact absurd rfl a
   | cons j r=>exact cons_ne_nil _ _
  | side is=>
   obtain⟨a,_⟩:=d1;cases is with
   | nil=>exact absurd a (by decide)
   | cons j r=>exact cons_ne_nil _ _
  | again m j=>exact cons_ne_nil _ _
  | hold m=>exact hc.elim
  | ring x m=>exact hc.elim
  | rise x v m=>exact hc.elim
 unfold rgN;rw[JA W (t:=t) (show¬(gs.getD k 0<=t\/pcB (drawnPs names fs) gs k=[])from fun z=>z.elim (fun q=>by omega) ne),zk,epc]
theorem j49(D:DOk L fs M gs)(hnm:fs.length<=names.length)(nd:names.Nodup)(lnd:L.Nodup)(l8:L.length<=8)(f61:fs.length<=61){k:Nat}{is:List Nat}(hf:fs[k]?=some (.row is)){t:Int}(t0:0<=t)(t1:t<gs.getD k 0) :
  rgN names fs gs k t=rowW names fs gs is t:=by
 obtain⟨d1,_,_⟩:=D.f k _ hf;have hk:=(List.getElem?_eq_some_iff.mp hf).1;rw[wY D hnm nd lnd l8 f61 hf trivial t1];show((wth gs t (rowPc gs is 0)).flatMap _)=_;rw[j22 (fun j hj=>D.g j (by have:=d1.2.2 j hj;omega)) t0,Int.sub_zero]
theorem j39(D:DOk L fs M gs)(hnm:fs.length<=names.length)(nd:names.Nodup)(lnd:L.Nodup)(l8:L.length<=8)(f61:fs.length<=61){k:Nat}{is:List Nat}(hf:fs[k]?=some (.side is)){t:Int}(t0:0<=t)(t1:t<gs.getD k 0) :
  rgN names fs gs k t=is.flatMap fun j=>wdN names fs gs j t:=by
 obtain⟨d1,_,_⟩:=D.f k _ hf;have hk:=(List.getElem?_eq_some_iff.mp hf).1;have hg:∀j∈is,1<=gs.getD j 0:=fun j hj=>(D.g j (by have:=d1.2.2.1 j hj;omega)).1
 rw[wY D hnm nd lnd l8 f61 hf trivial t1];show((wth gs t (is.map fun j=>(j,1,0))).flatMap _)=_;rw[Zr hg t0,List.flatMap_map];refine jV fun j hj=>?_
 have g:=hg j hj;unfold wdN;by_cases c:gs.getD j 0<=t
 ·rw[if_pos c,if_neg (by omega)];exact Q6 g
 ·rw[if_neg c,if_pos ⟨t0,by omega⟩]
theorem j20(D:DOk L fs M gs)(hnm:fs.length<=names.length)(nd:names.Nodup)(lnd:L.Nodup)(l8:L.length<=8)(f61:fs.length<=61){k j:Nat}{m:Int}(hf:fs[k]?=some (.again m j)){t:Int}(t0:0<=t)(t1:t<gs.getD k 0) :
  rgN names fs gs k t=wdN names fs gs j (t%gs.getD j 0):=by
 obtain⟨d1,_,d3⟩:=D.f k _ hf;have d3:gs.getD k 0=m*gs.getD j 0:=d3;have hk:=(List.getElem?_eq_some_iff.mp hf).1;have g:=(D.g j (by have:=d1.2.2;omega)).1;have m0:=Int.emod_nonneg t (show gs.getD j 0≠0 by omega);have m1:=Int.emod_lt_of_pos t (show 0<gs.getD j 0 by omega);rw[wY D hnm nd lnd l8 f61 hf trivial t1];unfold wdN;rw[if_pos ⟨m0,m1⟩];have fz:∀z:List (Nat×Int),(z=[]\/z=[(j,gs.getD j 0)])->(z.flatMap fun x=>rgN names fs gs x.1 x.2)=[]:=fun z hz=>by
  rcases hz with rfl | rfl
  ·rfl
  ·rw[flatMap_cons,flatMap_nil,append_nil];exact Q6 g
 have f1:∀s,([(j,s)].flatMap fun x:Nat×Int=>rgN names fs gs x.1 x.2)=rgN names fs gs j s:=fun s=>by rw[flatMap_cons,flatMap_nil,append_nil]
 show((wth gs t ((j,1,0)::(if 1<m then[(j,m-1,gs.getD j 0)]else[]))).flatMap _)=_;rcases YX g d1.1 t0 (show t<=m*gs.getD j 0 by omega)with⟨_,e⟩ | ⟨_,_,z,hz,e⟩ | ⟨e0,_⟩
 ·rw[e,f1]
 ·rw[e,cons_append,flatMap_cons,flatMap_append,fz z hz,f1];show rgN names fs gs j (gs.getD j 0)++_=_;rw[Q6 g];rfl
 ·have:=Int.emod_add_mul_ediv t (gs.getD j 0);rw[e0]at this;have:gs.getD j 0*m=m*gs.getD j 0:=Int.mul_comm _ _;omega
end
section
variable{L names:List Str}{fs:List Fn}{M:List (List Int)}{gs:List Int}
theorem j03(B:BkD L names fs M gs){k:Nat}{f:Fn}(hf:fs[k]?=some f)(h1:∀x n,f≠.ring x n)(h2:¬f.comp){t:Int}(t1:t<gs.getD k 0):rgN names fs gs k t=[]:=by
 have hk:=(List.getElem?_eq_some_iff.mp hf).1;have epc:=Jr B.D B.hnm B.nd hf;have e0:pcB (drawnPs names fs) gs k=[]:=by
  rw[epc];cases f with
  | hold n=>rfl
  | rise y v n=>rfl
  | ring x n=>exact absurd rfl (h1 x n)
  | row is=>exact absurd trivial h2
  | side is=>exact absurd trivial h2
  | again m j=>exact absurd trivial h2
 unfold rgN;rw[jU (.inr e0),flatMap_cons,flatMap_nil,append_nil];have ep:(drawnPs names fs)[k]?=some (names.getD k ⟨#[]⟩,toldF names f):=by
  unfold drawnPs;rw[List.getElem?_map,List.getElem?_range hk];show some (_,toldF names (fs.getD k (.hold 0)))=_;rw[show fs.getD k (.hold 0)=f from by rw[getD_eq_getElem?_getD,hf];rfl]
 unfold ringX;rw[ep];cases f with
 | hold n=>rfl
 | rise y v n=>rfl
 | ring x n=>exact absurd rfl (h1 x n)
 | row is=>exact absurd trivial h2
 | side is=>exact absurd trivial h2
 | again m j=>exact absurd trivial h2
theorem j38(B:BkD L names fs M gs){k:Nat}{x:Str}{n:Int}(hf:fs[k]?=some (.ring x n)){t:Int}:rgN names fs gs k t=if t=0 then[x]else[]:=by
 have hk:=(List.getElem?_eq_some_iff.mp hf).1;have epc:=Jr B.D B.hnm B.nd hf;unfold rgN;rw[jU (.inr (by rw[epc];rfl)),flatMap_cons,flatMap_nil,append_nil];have ep:(drawnPs names fs)[k]?=some (names.getD k ⟨#[]⟩,.ring x n):=by
  unfold drawnPs;rw[List.getElem?_map,List.getElem?_range hk];show some (_,toldF names (fs.getD k (.hold 0)))=_;rw[show fs.getD k (.hold 0) = .ring x n from by rw[getD_eq_getElem?_getD,hf];rfl];rfl
 unfold ringX;rw[ep]
end
noncomputable def stR(x:Int)(r:Int×Int×Int):Int:=Rp.ramp x r.1 r.2.1 (if r.2.1<r.2.2 then r.2.1 else r.2.2)
def gdR(r:Int×Int×Int):Prop:=0<=r.1/\r.1<=10^18/\1<=r.2.1/\r.2.1<=10^18/\0<=r.2.2/\r.2.2<=10^62
noncomputable def rowB(gs:List Int):List Nat->Int->List (Nat×Int)
 | [],_=>[]
 | j::r,s=>(j,s)::rowB gs r (s-gs.getD j 0)
noncomputable def turnN(gs:List Int)(t m:Int)(j:Nat):Int:=if m-1<t/gs.getD j 0 then m-1 else t/gs.getD j 0
noncomputable def agB(gs:List Int)(t m:Int)(j:Nat):List (Nat×Int):=(if 0<turnN gs t m j then[(j,gs.getD j 0)]else[])++[(j,t-turnN gs t m j*gs.getD j 0)]
noncomputable def begN(gs:List Int)(t:Int):Fn->List (Nat×Int)
 | .row is=>rowB gs is t
 | .side is=>is.map fun j=>(j,t)
 | .again m j=>agB gs t m j
 | _=>[]
section
variable{L names:List Str}{fs:List Fn}{M:List (List Int)}{gs:List Int}{E:List (List (Int×Int))}{n:Nat}
noncomputable def plC(L names:List Str)(fs:List Fn)(gs:List Int)(E:List (List (Int×Int)))(h:List Int)(x:Nat×Int):List Int:=
 if x.2<0 then h else plN L names fs gs E x.1 (if x.2<gs.getD x.1 0 then x.2 else gs.getD x.1 0) h
theorem wW{h:List Int}{j:Nat}{s:Int}(c:s<0):plC L names fs gs E h (j,s)=h:=if_pos c
theorem qh{h:List Int}{j:Nat}{s:Int}(g:1<=gs.getD j 0)(c:gs.getD j 0<=s):plC L names fs gs E h (j,s)=setE (E.getD j []) h:=by
 unfold plC;dsimp only;rw[if_neg (by omega),if_neg (by omega),qR]
theorem wV{h:List Int}{j:Nat}{s:Int}(c:0<=s)(c2:s<gs.getD j 0):plC L names fs gs E h (j,s)=plN L names fs gs E j s h:=by
 unfold plC;dsimp only;rw[if_neg (by omega),if_pos c2]
theorem W9:∀{is:List Nat} {s:Int} {h:List Int},(∀k∈is,1<=gs.getD k 0/\gs.getD k 0<=10^60)->s<0->(rowB gs is s).foldl (plC L names fs gs E) h=h
 | [],_,_,_,_=>rfl
 | j::r,s,h,hg,c=>by
  have g:=hg j mem_cons_self;show(rowB gs r _).foldl _ (plC L names fs gs E h (j,s))=h;rw[wW c,W9 (fun k hk=>hg k (mem_cons_of_mem _ hk)) (by omega)]
theorem KG{t:Int}:∀{is:List Nat} {b:Int} {h:List Int},(∀k∈is,1<=gs.getD k 0/\gs.getD k 0<=10^60)->b<=t->(wth gs t (rowPc gs is b)).foldl (fun h x=>plN L names fs gs E x.1 x.2 h) h=(rowB gs is (t-b)).foldl (plC L names fs gs E) h
 | [],b,h,_,_=>rfl
 | j::r,b,h,hg,hb=>by
  have g:=hg j mem_cons_self;have hr:∀k∈r,1<=gs.getD k 0/\gs.getD k 0<=10^60:=fun k hk=>hg k (mem_cons_of_mem _ hk)
  rw[Zi hg hb];show _=(rowB gs r (t-b-gs.getD j 0)).foldl _ (plC L names fs gs E h (j,t-b));by_cases c:gs.getD j 0<=t-b
  ·rw[if_pos c,foldl_cons,KG hr (by omega),qh g.1 c,qR,show t-(b+gs.getD j 0)=t-b-gs.getD j 0 by omega]
  ·rw[if_neg c,W9 hr (by omega),wV (by omega) (by omega)];rfl
theorem Wi:∀{l:List Nat},(∀k∈l,1<=gs.getD k 0/\gs.getD k 0<=10^60)->0<=(l.map fun j=>gs.getD j 0).sum
 | [],_=>Int.le_refl _
 | x::l,hl=>by
  rw[map_cons,sum_cons];have:=Wi (l:=l) fun k hk=>hl k (mem_cons_of_mem _ hk)
  have:=hl x mem_cons_self;omega
theorem KH:∀{is:List Nat} {s s':Int} {h:List Int},(∀k∈is,1<=gs.getD k 0/\gs.getD k 0<=10^60)->(is.map fun j=>gs.getD j 0).sum<=s->(is.map fun j=>gs.getD j 0).sum<=s'->(rowB gs is s).foldl (plC L names fs gs E) h=(rowB gs is s').foldl (plC L names fs gs E) h
 | [],_,_,_,_,_,_=>rfl
 | j::r,s,s',h,hg,c,c'=>by
  have g:=hg j mem_cons_self;have hr:∀k∈r,1<=gs.getD k 0/\gs.getD k 0<=10^60:=fun k hk=>hg k (mem_cons_of_mem _ hk)
  have n0:=Wi hr;rw[map_cons,sum_cons]at c c';show(rowB gs r _).foldl _ (plC L names fs gs E h (j,s))=(rowB gs r _).foldl _ (plC L names fs gs E h (j,s'));rw[qh g.1 (by omega),qh g.1 (by omega),KH (s':=s'-gs.getD j 0) hr (by omega) (by omega)]
theorem W8:∀{is:List Nat} {s:Int} {x:Nat×Int},(∀k∈is,1<=gs.getD k 0/\gs.getD k 0<=10^60)->x∈rowB gs is s->x.1∈is/\x.2<=s/\s-10^60*is.length<=x.2/\((is.map fun j=>gs.getD j 0).sum<=s->gs.getD x.1 0<=x.2)
 | [],_,_,_,h=>nomatch h
 | j::r,s,x,hg,h=>by
  have g:=hg j mem_cons_self;have hr:∀k∈r,1<=gs.getD k 0/\gs.getD k 0<=10^60:=fun k hk=>hg k (mem_cons_of_mem _ hk)
  have n0:=Wi hr;rw[map_cons,sum_cons,length_cons];rcases mem_cons.mp h with z | z
  ·subst z;exact⟨mem_cons_self,Int.le_refl _,by omega,fun c=>by show gs.getD j 0<=s;omega⟩
  ·obtain⟨a,b,c,d⟩:=W8 hr z;exact⟨mem_cons_of_mem _ a,by omega,by omega,fun q=>d (by omega)⟩
theorem j3D(B:BkD L names fs M gs)(e:EN L fs n E)(hn:n<=fs.length){k:Nat}(hk:k<n){f:Fn}(hf:fs[k]?=some f)(hc:f.comp){t:Int}(t0:0<=t)(h:List Int) :
  plC L names fs gs E h (k,t)=(begN gs t f).foldl (plC L names fs gs E) h:=by
 have hnm:=B.hnm;obtain⟨d1,_,d3⟩:=B.D.f k f hf;have gk:=B.D.g k (by omega);have js:=d1.js.2;have gj:∀j∈f.js,1<=gs.getD j 0/\gs.getD j 0<=10^60:=fun j hj=>B.D.g j (by have:=js j hj;omega)
 have epc:=Jr (gs:=gs) B.D B.hnm B.nd hf;obtain⟨t',ht',q1,q2,q3⟩:∃t',(if t<gs.getD k 0 then t else gs.getD k 0)=t'/\0<=t'/\t'<=gs.getD k 0/\(t'=t\/t'=gs.getD k 0/\gs.getD k 0<=t):=⟨_,rfl,by split<;>omega,by split<;>omega,by split<;>omega⟩
 have e0:plC L names fs gs E h (k,t)=(wth gs t' (pcsI gs (toldF names f) f.js)).foldl (fun h x=>plN L names fs gs E x.1 x.2 h) h:=by
  unfold plC;dsimp only;rw[if_neg (by omega),ht',(j2D B.D B.hnm B.nd B.lnd B.l8 B.f61 e hn hk hf hc q1 q2 h).1];unfold wsN;rw[epc]
 rw[e0];cases f with
 | hold m=>exact hc.elim
 | ring x m=>exact hc.elim
 | rise x v m=>exact hc.elim
 | row is=>
  have d3:gs.getD k 0=(is.map fun j=>gs.getD j 0).sum:=d3;show(wth gs t' (rowPc gs is 0)).foldl _ h=(rowB gs is t).foldl _ h;rw[KG (is:=is) gj q1,Int.sub_zero];rcases q3 with z | ⟨z,c⟩
  ·rw[z]
  ·exact KH gj (by omega) (by omega)
 | side is=>
  obtain⟨_,d3⟩:=d3;show(wth gs t' (is.map fun j=>(j,1,0))).foldl _ h=(is.map fun j=>(j,t)).foldl _ h;rw[Zr (is:=is) (fun j hj=>(gj j hj).1) q1,foldl_map,foldl_map];refine QL fun j hj h=>?_
  have g:=gj j hj;have:=d3 j hj;by_cases c:gs.getD j 0<=t'
  ·rw[if_pos c,qh g.1 (by omega)];exact qR
  ·rw[if_neg c,wV t0 (by omega),show t=t' by omega]
 | again m j=>
  have d3:gs.getD k 0=m*gs.getD j 0:=d3;obtain⟨m1,_,hj⟩:=d1;have g1:=(gj j mem_cons_self).1;obtain⟨fj,hfj⟩:∃g,fs[j]?=some g:=⟨_,List.getElem?_eq_getElem (by omega)⟩
  have two:=kz (e j fj (by omega) hfj).1 (e.pos B.D B.lnd hn (show j<n by omega));show(wth gs t' ((j,1,0)::(if 1<m then[(j,m-1,gs.getD j 0)]else[]))).foldl _ h=(agB gs t m j).foldl _ h;have dm:=Int.emod_add_mul_ediv t' (gs.getD j 0);have r0:=Int.emod_nonneg t' (show gs.getD j 0≠0 by omega);have r1:=Int.emod_lt_of_pos t' (show 0<gs.getD j 0 by omega);have fz:∀(z:List (Nat×Int)) h,(z=[]\/z=[(j,gs.getD j 0)])->z.foldl (fun h x=>plN L names fs gs E x.1 x.2 h) (setE (E.getD j []) h)=setE (E.getD j []) h:=fun z h hz=>by
   rcases hz with rfl | rfl
   ·rfl
   ·show plN L names fs gs E j (gs.getD j 0) _=_;rw[qR,two]
  unfold agB;rcases YX g1 m1 q1 (show t'<=m*gs.getD j 0 by omega)with⟨z,ez⟩ | ⟨z1,z2,z,hz,ez⟩ | ⟨z1,z,hz,ez⟩
  ·rw[z,Int.mul_zero]at dm;have mg:gs.getD j 0<=m*gs.getD j 0:=by
    have:=Int.mul_le_mul_of_nonneg_right m1 (show 0<=gs.getD j 0 by omega);omega
   have et:t'=t:=by omega
   subst et;have eu:turnN gs t' m j=0:=by
    unfold turnN;split<;>omega
   rw[ez,eu,if_neg (Int.lt_irrefl 0),Int.zero_mul,Int.sub_zero,nil_append];show plN L names fs gs E j (t'%gs.getD j 0) h=plC L names fs gs E h (j,t');rw[wV t0 (by omega),show t'%gs.getD j 0=t' by omega]
  ·have et:t'=t:=by
    rcases q3 with z | ⟨z,c⟩
    ·exact z
    ·rw[z,d3,Int.mul_ediv_cancel _ (show gs.getD j 0≠0 by omega)]at z2;omega
   subst et;have eu:turnN gs t' m j=t'/gs.getD j 0:=by
    unfold turnN;split<;>omega
   rw[ez,eu,if_pos (show 0<t'/gs.getD j 0 by omega),cons_append,foldl_cons,foldl_append];have ec:t'-t'/gs.getD j 0*gs.getD j 0=t'%gs.getD j 0:=by
    have:=Int.mul_comm (gs.getD j 0) (t'/gs.getD j 0);omega
   rw[ec];show plN L names fs gs E j (t'%gs.getD j 0) (z.foldl _ (plN L names fs gs E j (gs.getD j 0) h))=plC L names fs gs E (plC L names fs gs E h (j,gs.getD j 0)) (j,t'%gs.getD j 0);rw[qR,fz z h hz,qh g1 (Int.le_refl _),wV r0 r1]
  ·have tm:m*gs.getD j 0<=t:=by
    rcases q3 with q | ⟨q,c⟩
    ·have:=Int.mul_comm (gs.getD j 0) (t'/gs.getD j 0);rw[z1]at this dm;omega
    ·omega
   have tq:m<=t/gs.getD j 0:=by
    have:=Int.ediv_le_ediv (show 0<gs.getD j 0 by omega) tm;rw[Int.mul_ediv_cancel _ (show gs.getD j 0≠0 by omega)]at this;exact this
   have eu:turnN gs t m j=m-1:=by
    unfold turnN;split<;>omega
   rw[ez,eu,foldl_cons];have e1:gs.getD j 0<=t-(m-1)*gs.getD j 0:=by
    rw[Int.sub_mul,Int.one_mul];omega
   show z.foldl _ (plN L names fs gs E j (gs.getD j 0) h)=_;rw[qR,fz z h hz];by_cases c:0<m-1
   ·rw[if_pos c];show _=plC L names fs gs E (plC L names fs gs E h (j,gs.getD j 0)) (j,t-(m-1)*gs.getD j 0);rw[qh g1 (Int.le_refl _),qh g1 e1,two]
   ·rw[if_neg c];show _=plC L names fs gs E h (j,t-(m-1)*gs.getD j 0);rw[qh g1 e1]
def AhN(M:List (List Int))(gs:List Int)(i:Nat)(p q:Nat×Int):Prop:=(i:Int)∈M.getD p.1 []->(i:Int)∈M.getD q.1 []->0<=q.2->gs.getD p.1 0<=p.2
structure PF(L names:List Str)(fs:List Fn)(M:List (List Int))(gs:List Int)(i:Nat)(xs:List (Nat×Int))(F:List (Int×Int×Int)):Prop where
 g:∀r∈F,gdR r
 h:∀(n:Nat) (E:List (List (Int×Int))),(∀x∈xs,x.1<n)->n<=fs.length->EN L fs n E->∀h:List Int,(xs.foldl (plC L names fs gs E) h)[i]?=h[i]?.map fun x=>F.foldl stR x
 o:∀G r,F=G++[r]->∀s∈G,s.2.1<=s.2.2
 m:F≠[]->∃x∈xs,(i:Int)∈M.getD x.1 []/\0<=x.2
 u:(∀x∈xs,gs.getD x.1 0<=x.2\/¬(i:Int)∈M.getD x.1 [])->∀r∈F,r.2.1<=r.2.2
theorem PF.nil{i:Nat}:PF L names fs M gs i [] []:=⟨fun _ h=>(nomatch h),fun _ _ _ _ _ h=>by cases e:h[i]?<;>simp[e],fun G r h=>by simp at h,fun h=>absurd rfl h,fun _ _ h=>(nomatch h)⟩
theorem PF.out(B:BkD L names fs M gs){i k:Nat}{t:Int}(c:¬(i:Int)∈M.getD k []\/t<0):PF L names fs M gs i [(k,t)] []:=by
 refine⟨fun _ h=>(nomatch h),fun n E hx hn e h=>?_,fun G r h=>by simp at h,fun h=>absurd rfl h,fun _ _ h=>(nomatch h)⟩;have hk:k<n:=hx (k,t) mem_cons_self;show(plC L names fs gs E h (k,t))[i]?=_;have e0:(plC L names fs gs E h (k,t))[i]?=h[i]?:=by
  by_cases z:t<0
  ·rw[wW z]
  ·unfold plC;dsimp only;rw[if_neg z,j45 B.D B.hnm B.nd B.lnd B.l8 B.f61 e hn hk (c.resolve_right z)]
 rw[e0];cases h[i]?<;>rfl
theorem PF.rise(B:BkD L names fs M gs){i k:Nat}{y:Str}{v m t:Int}(hf:fs[k]?=some (.rise y v m))(hi:(i:Int)∈M.getD k [])(t0:0<=t)(t1:t<=10^62):PF L names fs M gs i [(k,t)] [(v,m,t)]:=by
 obtain⟨d1,d2,d3⟩:=B.D.f k _ hf;have d3:gs.getD k 0=m:=d3;obtain⟨_,v0,v1,m1,m2⟩:=d1;have ei:ixOf L y=i:=by
  rcases(d2.2 i).mp hi with⟨j,hj,_⟩ | ⟨x,h,n,i',ef,hL,ek⟩
  ·exact nomatch hj
  ·cases ef;rw[Jm B.lnd hL];omega
 refine⟨fun r hr=>?_,fun n E hx hn e h=>?_,fun G r h=>?_,fun _=>⟨_,mem_cons_self,hi,t0⟩,fun h r hr=>?_⟩
 ·rw[mem_singleton.mp hr];exact⟨v0,v1,m1,m2,t0,t1⟩
 ·have hk:k<n:=hx (k,t) mem_cons_self;have epc:pcB (drawnPs names fs) gs k=[]:=by rw[Jr B.D B.hnm B.nd hf];rfl
  show(plC L names fs gs E h (k,t))[i]?=_;unfold plC;dsimp only;rw[if_neg (by omega)];unfold plN;rw[jU (.inr epc)];show(apN L fs gs E h (k,_))[i]?=_;by_cases c:i<h.length
  case neg=>
   rw[List.getElem?_eq_none (l:=h) (by omega)];exact List.getElem?_eq_none (by have:=j0Z (L:=L) (fs:=fs) (gs:=gs) (E:=E) (h:=h) (x:=(k,if t<gs.getD k 0 then t else gs.getD k 0));omega)
  unfold apN;dsimp only;rw[hf,d3];show _=h[i]?.map fun x=>Rp.ramp x v m (if m<t then m else t)
  have eh:h[i]?=some (h.getD i 0):=by rw[getD_eq_getElem?_getD,List.getElem?_eq_getElem c];rfl
  rw[eh];show _=some (Rp.ramp (h.getD i 0) v m _);by_cases c2:t<m
  ·rw[if_pos c2,if_neg (show¬m<=t by omega),if_neg (show¬m<t by omega)];show(h.set (ixOf L y) _)[i]?=_;rw[ei,List.getElem?_set_self c]
  ·rw[if_neg c2,if_pos (Int.le_refl _),show(if m<t then m else t)=m by split<;>omega,Rp.ends (by omega)];exact ZB (e k _ hk hf).1 (e.pos B.D B.lnd hn hk) (((e k _ hk hf).2 i v).mpr (.inr ⟨y,m,rfl,by rw[ei]⟩)) c
 ·have:G=[]:=by
   have:=congrArg List.length h;rw[List.length_append]at this;exact List.eq_nil_of_length_eq_zero (by have e:[(v,m,t)].length=G.length+[r].length:=this;simp only[length_cons,length_nil]at e;omega)
  subst this;exact fun s hs=>nomatch hs
 ·rw[mem_singleton.mp hr];rcases h _ mem_cons_self with z | z
  ·rw[<-d3];exact z
  ·exact absurd hi z
theorem PF.cons{i:Nat}{x:Nat×Int}{xs:List (Nat×Int)}{F G:List (Int×Int×Int)}(a:PF L names fs M gs i [x] F)(b:PF L names fs M gs i xs G)(h:∀q∈xs,AhN M gs i x q):PF L names fs M gs i (x::xs) (F++G):=by
 have fo:G≠[]->∀r∈F,r.2.1<=r.2.2:=fun ne=>a.u fun y hy=>by
  rw[mem_singleton.mp hy];obtain⟨q,hq,q1,q2⟩:=b.m ne;by_cases c:(i:Int)∈M.getD x.1 []
  ·exact .inl (h q hq c q1 q2)
  ·exact .inr c
 refine⟨fun r hr=>(mem_append.mp hr).elim (a.g r) (b.g r),fun n E hx hn e h=>?_,fun A r e=>?_,fun ne=>?_,fun hu r hr=>?_⟩
 ·rw[foldl_cons,b.h n E (fun y hy=>hx y (mem_cons_of_mem _ hy)) hn e];have:=a.h n E (fun y hy=>hx y (by rw[mem_singleton.mp hy];exact mem_cons_self)) hn e h;rw[show plC L names fs gs E h x=[x].foldl (plC L names fs gs E) h from rfl,this,Option.map_map];congr 1;funext z;exact(foldl_append ..).symm
 ·rcases eq_nil_or_concat G with rfl | ⟨G',r',rfl⟩
  ·rw[append_nil]at e;exact a.o A r e
  ·rw[concat_eq_append,<-List.append_assoc]at e;obtain⟨e1,_⟩:=List.append_inj' e rfl;subst e1;intro s hs;rcases mem_append.mp hs with z | z
   ·exact fo (by simp) s z
   ·exact b.o G' r' (concat_eq_append ..) s z
 ·by_cases c:G=[]
  ·subst c;rw[append_nil]at ne;obtain⟨y,hy,z⟩:=a.m ne;rw[mem_singleton.mp hy]at z;exact⟨x,mem_cons_self,z⟩
  ·obtain⟨y,hy,z⟩:=b.m c;exact⟨y,mem_cons_of_mem _ hy,z⟩
 ·rcases mem_append.mp hr with z | z
  ·exact a.u (fun y hy=>hu y (by rw[mem_singleton.mp hy];exact mem_cons_self)) r z
  ·exact b.u (fun y hy=>hu y (mem_cons_of_mem _ hy)) r z
end
end Rm
namespace L2
open PySem PySem.Spec PyProof.Rows
theorem xW:typeLookup (.type "list_reverseiterator") "__len__"= pure none:=by rw[typeLookup_type,builtinLookup_eq_fast];kernel_rfl
theorem j1p:typeLookup (.type "list_reverseiterator") "__length_hint__"= pure (some (.builtin "list_reverseiterator.__length_hint__")):=by rw[typeLookup_type,builtinLookup_eq_fast];kernel_rfl
section
variable{prog:Program}{w:World}{A:Around}{E:Value->Shared->Prop}{s:Shared}
theorem j1i{r l:Addr}{i:Int}{Q:Bool->Shared->Prop}(hr:s.heap.IsRevIter r l i)(h:Q false s):wpAny (model prog w) A (Builtin.List.listLengthHint (.ref r)) Q E s:=by
 have hT:=hr.typeIs;unfold Builtin.List.listLengthHint;refine wpAny_bind (wpAny_specialOf hT xW ?_);show wpAny _ A (specialOf (Value.ref r) (Str.ofString "__length_hint__") >>= _) _ _ _;refine wpAny_bind (wpAny_specialOf hT j1p ?_);generalize hid:("list_reverseiterator.__length_hint__" : String)=id0
 wp_delta
 rw[show splitId id0=some ("list_reverseiterator","__length_hint__")from by subst hid;decide +kernel];subst hid;refine wpAny_bind (wpAny_isInstance (T:="list_reverseiterator") (b:=true) hT (by rw[isSubtype_type];kernel_rfl) ?_);refine wpAny_ite_split (fun hab=>absurd hab (by decide)) (fun _=>?_);refine wpAny_ite_split (fun _=>?_) (fun hab=>absurd (by decide +kernel) hab);refine wpAny_ite_split (fun hab=>absurd hab (by decide +kernel)) (fun _=>?_);exact wpAny_pure h
theorem xL{R:Result->Shared->Prop}{r l S:Addr}{items:Array Value}{c₀:Nat}(hh:A.in1.handled=none)(hr:s.heap.IsRevIter r l ((items.size:Int)-1))(hl:s.heap.IsList l items)(hn:items.size<=sizeLine)(hlr:l≠r)(hSr:S≠r)(hSl:S≠l)(res:Value)
  (hS:s.heap.get? S=some {cls:=.type "list",data:=.seq #[] c₀})
  (hR:∀h' tk acc' c',(∀b o,b≠S->b≠r->s.heap.get? b=some o->h'.get? b=some o)->h'.get? S=some {cls:=.type "list",dict:=none,data:=.seq acc' c',slots:=#[]}->
   ItemsOf (fun i v=>items[items.size-1-i]?=some v) acc' items.size->R (.ok (.ret res)) {s with heap:=h',toks:=tk}) :
  wpAny (model prog w) A.in1 (Builtin.List.listExtendWith (.ref S) (.ref r) res)
   (fun fin s'=>match fin with | .done f=>R (.ok f) s' | .again c'=>c'.quiet=true/\codeAny (model prog w) A c' R s') (fun e s'=>R (.error e) s') s:=by
 have hSf:S∉[r,l]:=fun hm=>by
  rcases mem_cons.mp hm with e | hm
  ·exact hSr e
  ·exact hSl (mem_singleton.mp hm)
 have W:=(Walks.listRev (prog:=prog) (w:=w) (A:=A.in1) hh r l hlr items).toS;unfold Builtin.List.listExtendWith;refine wpAny_bind (wpAny_typeOf hr.typeIs ?_);have h1:Builtin.List.listSameRef (.ref S) (.ref r)=false:=by simp[Builtin.List.listSameRef,hSr]
 have h2:(Value.type "list_reverseiterator"== Value.type "list")=false:=by decide
 have h3:(Value.type "list_reverseiterator"== Value.type "tuple")=false:=by decide
 simp only[h1,h2,h3,Bool.or_false,Bool.false_eq_true,if_false];refine wpAny_bind (wpAny_pyIter_revIter hr ?_);refine wpAny_bind (wpAny_holding (j1i hr ?_));refine wpAny_ite_split (fun hab=>absurd hab (by decide +kernel)) (fun _=>wpAny_pure ⟨plainId_quiet F.plain_extend_loop _,?_⟩);refine codeAny_extend_loopS W hn S hSf res items.size 0 _ #[] c₀ rfl (Nat.zero_le _) ⟨Nat.zero_le _,by simpa using hr,hl⟩ hS (ItemsOf.nil _) fun s' acc' c' hm hS' hacc=>?_
 rw[Moved.eq_with hm];refine hR s'.heap s'.toks acc' c' (fun b o hb hb2 e=>hm.heap b o (fun hmem=>?_) e) hS' hacc;rcases mem_cons.mp hmem with e' | hmem
 ·exact hb e'
 ·exact hb2 (mem_singleton.mp hmem)
theorem Z8{Q:Value->Shared->Prop}{r l:Addr}{items:Array Value}(hh:A.handled=none)(hr:s.heap.IsRevIter r l ((items.size:Int)-1))(hl:s.heap.IsList l items)(hn:items.size<=sizeLine)(hlr:l≠r)
  (hQ:∀h' tk acc' c',(∀b o,b≠r->s.heap.get? b=some o->h'.get? b=some o)->
   h'.get? s.heap.objs.size=some {cls:=.type "list",dict:=none,data:=.seq acc' c',slots:=#[]}->ItemsOf (fun i v=>items[items.size-1-i]?=some v) acc' items.size->Q (.ref s.heap.objs.size) {s with heap:=h',toks:=tk}) :
  wpAny (model prog w) A (call (.type "list") [.ref r]) Q E s:=by
 have lr:r<s.heap.objs.size:=by obtain⟨o,e,_⟩:=id hr;exact Heap.lt_size e
 have ll:l<s.heap.objs.size:=by obtain⟨o,e,_⟩:=id hl;exact Heap.lt_size e
 refine callType_codes (Q₁:=fun obj s₁=>obj = .ref s.heap.objs.size/\s₁={s with heap:=s.heap.push {cls:=.type "list",data:=.seq #[]}}) F.called_list (F.typeCall_list_1 _) F.entry_list_init
  (code_list_new _ ⟨rfl,rfl⟩) fun obj s₁ h₁=>?_
 obtain⟨rfl,rfl⟩:=h₁;have hS:(s.heap.push {cls:=.type "list",data:=.seq #[]}).get? s.heap.objs.size=some {cls:=.type "list",data:=.seq #[]}:=Heap.get?_push_size _ rfl;refine⟨⟨_,hS,rfl⟩,F.args_list_init_2 _ _,?_⟩;show wpAny _ _ (do let old <-Builtin.List.listItems (.ref s.heap.objs.size);Builtin.List.listUpdate (.ref s.heap.objs.size) (fun _=>#[]);letGo old.toList.reverse;Builtin.List.listExtendWith (.ref s.heap.objs.size) (.ref r) .none) _ _ _;refine wpAny_bind ?_;unfold Builtin.List.listItems;refine wpAny_bind (wpAny_seqItems hS rfl (wpAny_pure ?_));show wpAny _ _ (updateSeq s.heap.objs.size (fun _=>#[]) >>= fun _=>letGo (#[]:Array Value).toList.reverse >>= fun _=>Builtin.List.listExtendWith (.ref s.heap.objs.size) (.ref r) .none) _ _ _;refine wpAny_bind (wpAny_updateSeq hS rfl ?_);have hS₂:=Heap.get?_update_self (Obj.mapSeq (fun _=>(#[]:Array Value))) hS rfl;have oth:∀b o,b≠s.heap.objs.size->(s.heap.push {cls:=.type "list",data:=.seq #[]}).get? b=some o->((s.heap.push {cls:=.type "list",data:=.seq #[]}).update s.heap.objs.size (Obj.mapSeq (fun _=>(#[]:Array Value)))).get? b=some o:=
  fun b o hb e=>(Heap.get?_update_other _ _ (Ne.symm hb)).trans e
 refine wpAny_bind (wpAny_letGo ?_);have hr2:((s.heap.push {cls:=.type "list",data:=.seq #[]}).update s.heap.objs.size (Obj.mapSeq (fun _=>(#[]:Array Value)))).IsRevIter r l ((items.size:Int)-1):=hr.at fun o e=>oth _ _ (Nat.ne_of_lt lr) (Heap.get?_push_of_some _ e)
 have hl2:((s.heap.push {cls:=.type "list",data:=.seq #[]}).update s.heap.objs.size (Obj.mapSeq (fun _=>(#[]:Array Value)))).IsList l items:=hl.at fun o e=>oth _ _ (Nat.ne_of_lt ll) (Heap.get?_push_of_some _ e)
 refine xL (A:=A.in1) (by simpa using hh) hr2 hl2 hn hlr (Nat.ne_of_gt lr) (Nat.ne_of_gt ll) .none hS₂ fun h' tk acc' c' hk hS' hacc=>?_
 exact⟨rfl,hQ h' tk acc' c' (fun b o hb e=>hk b o (Nat.ne_of_lt (Heap.lt_size e)) hb (oth _ _ (Nat.ne_of_lt (Heap.lt_size e)) (Heap.get?_push_of_some _ e))) hS' hacc⟩
end
theorem kH{P:Nat->Value->Prop}:∀{xs:List V} {us:List Value},us.length=xs.length->(∀(i:Nat) v,us[i]?=some v->P i v)->(∀(i:Nat) (v:Value) (x:V),P i v->xs[i]?=some x->RelV x v)->Vals xs us:=by
 intro xs
 induction xs generalizing P with
 | nil=>
  intro us h _ _;rw[length_eq_zero_iff.mp h];exact .nil
 | cons x r ih=>
  intro us h h1 h2;cases us with
  | nil=>exact absurd h (by simp)
  | cons u us=>
   refine .cons (h2 0 u x (h1 0 u rfl) rfl) (ih (P:=fun i v=>P (i+1) v) (by simpa using h) (fun i v e=>h1 (i+1) v (by simpa using e)) fun i v y p e=>h2 (i+1) v y p (by simpa using e))
def tLR(ta:TA):TE:=fun σ H Q=>ta σ H fun vs H1=>∃n:Nat,vs=[.int (n:Nat)]/\n<=10^6/\∀p,H1 p=none->Q (.ref p) (upd H1 p (.lst ((List.range n).map fun u:Nat=>V.int (u:Nat))))
theorem j4r{ta:TA}{σ:St}{H:Hp}{Q:VK}(h:ta σ H fun vs H1=>∃n:Nat,vs=[.int (n:Nat)]/\n<=10^6/\∀p,H1 p=none->Q (.ref p) (upd H1 p (.lst ((List.range n).map fun u:Nat=>V.int (u:Nat))))):tLR ta σ H Q:=h
theorem Xl{X:Cx}{a:Expr}{ta:TA}{p p' pos pos':Pos}(hc:X.calm=true)(hgl:Gl X "list")(hml:X.mg "list"= none)(hgz:Gl X "range")(hmz:X.mg "range"= none)(ha:PA X [a] ta)
  (hs0:starEach [.Call (.Name "range" p') [a] [] pos'] X.env=[(false,eval (.Call (.Name "range" p') [a] [] pos') X.env)]:=by rfl)
  (hs:starEach [a] X.env=[(false,eval a X.env)]:=by rfl) :
  PE X (.Call (.Name "list" p) [.Call (.Name "range" p') [a] [] pos'] [] pos) (tLR ta):=by
 intro pins s σ H Q I h;refine wpAny_Call_Name_kw (qQ I hgl hml Q2 ?_);refine PyProof.Rows.callWith_type1 ?_ hs0 rfl;rw[hs0];refine Calls.spliced_cons ?_;refine Call_ (qQ I hgz hmz boot_range (PyProof.Rows.callWith_type1 (thn (ha pos' pins s σ H _ I h) fun us s1 ⟨vs,H1,I1,r1,q1⟩=>?_) hs rfl));obtain⟨n,rfl,hn,q⟩:=q1;obtain⟨u,rfl,t,rfl⟩:=vals1 r1;refine call_range_1 ?_;refine Calls.spliced_nil ?_;have ne:Builtin.Range.rangeSize 0 (n:Int) 1=((n:Nat):Int):=by rw[rangeSize_one];split<;>omega
 have sl:(10^6:Nat)<=2^24:=by decide
 refine call_list_range (n:=n) (I1.ok.hd hc) (IsRange.new ..) (small_one (by omega) (by omega) (by omega) (by omega)) ne (by omega) fun h' tk acc' c' kp e items=>?_
 have kp2:∀b o,s1.heap.get? b=some o->h'.get? b=some o:=fun b o e=>kp b o (Heap.get?_push_of_some _ e)
 have le:s1.heap.objs.size<=(s1.heap.push {cls:=.type "range",data:=.fields #[.int 0 s1.toks,.int n t,.int 1 (s1.toks+1)]}).objs.size:=by rw[Heap.size_push];exact Nat.le_succ _
 have vl:Vals ((List.range n).map fun u:Nat=>V.int (u:Nat)) acc'.toList:=by
  refine kH (P:=fun i v=>∃t,v=Value.int (0+(i:Int)*1) t) (by rw[Array.length_toList,items.1,length_map,length_range]) (fun i v e=>items.2 i v (by simpa using e)) fun i v x hp hx=>?_
  rw[List.getElem?_map]at hx;obtain⟨k,hk,rfl⟩:=Option.map_eq_some_iff.mp hx;obtain⟨t,rfl⟩:=hp;have kl:=(List.getElem?_eq_some_iff.mp hk).1;rw[length_range]at kl;rw[List.getElem?_range kl]at hk;cases hk;exact⟨t,by simp⟩
 have sz:(10^6:Nat)<=sizeLine:=by decide
 refine⟨.ref _,_,I1.laid (t':=tk) kp2 le (show ObjOk X.prog X.w _ h' _ (.lst ((List.range n).map fun u:Nat=>V.int (u:Nat)))from⟨by rw[length_map,length_range];omega,acc'.toList,c',vl,by simpa using e⟩),rfl,q _ (I1.hok.fresh le)⟩
def tLV(K:Frg)(ta:TA):TE:=fun σ H Q=>ta σ H fun vs H1=>∃a xs,vs=[.ref a]/\SqL K H1 a xs/\∀p,H1 p=none->Q (.ref p) (upd H1 p (.lst xs.reverse))
theorem j4s{K:Frg}{ta:TA}{σ:St}{H:Hp}{Q:VK}(h:ta σ H fun vs H1=>∃a xs,vs=[.ref a]/\SqL K H1 a xs/\∀p,H1 p=none->Q (.ref p) (upd H1 p (.lst xs.reverse))):tLV K ta σ H Q:=h
theorem Xk{X:Cx}{a:Expr}{ta:TA}{p p' pos pos':Pos}(hc:X.calm=true)(hgl:Gl X "list")(hml:X.mg "list"= none)(hgz:Gl X "reversed")(hmz:X.mg "reversed"= none)(ha:PA X [a] ta)
  (hs0:starEach [.Call (.Name "reversed" p') [a] [] pos'] X.env=[(false,eval (.Call (.Name "reversed" p') [a] [] pos') X.env)]:=by rfl)
  (hs:starEach [a] X.env=[(false,eval a X.env)]:=by rfl) :
  PE X (.Call (.Name "list" p) [.Call (.Name "reversed" p') [a] [] pos'] [] pos) (tLV X.K ta):=by
 intro pins s σ H Q I h;refine wpAny_Call_Name_kw (qQ I hgl hml Q2 ?_);refine PyProof.Rows.callWith_type1 ?_ hs0 rfl;rw[hs0];refine Calls.spliced_cons ?_;refine Call_ (qQ I hgz hmz Wy (PyProof.Rows.callWith_type1 (thn (ha pos' pins s σ H _ I h) fun us s1 ⟨vs,H1,I1,r1,q1⟩=>?_) hs rfl));obtain⟨b,xs,rfl,hq,q⟩:=q1;obtain⟨u,rfl,ru⟩:=vals1 r1;cases ru;obtain⟨its,rv,pl,hz⟩:=I1.list hq;have hl:=rv.length;refine call_reversed_list pl.isList ?_;refine Calls.spliced_nil ?_;have bl:b<s1.heap.objs.size:=by obtain⟨o,e,_⟩:=id pl.isList;exact Heap.lt_size e
 refine Z8 (s:={s1 with heap:=s1.heap.push (revObj b ((its.toArray.size:Int)-1))}) (I1.ok.hd hc) ⟨_,Heap.get?_push_size _ rfl,rfl,rfl⟩ (pl.isList.push _) (by rw[size_toArray];omega) (Nat.ne_of_lt bl) fun h' tk acc' c' kp e items=>?_
 have kp2:∀b o,s1.heap.get? b=some o->h'.get? b=some o:=fun b o e=>kp b o (Nat.ne_of_lt (Heap.lt_size e)) (Heap.get?_push_of_some _ e)
 have le:s1.heap.objs.size<=(s1.heap.push (revObj b ((its.toArray.size:Int)-1))).objs.size:=by rw[Heap.size_push];exact Nat.le_succ _
 have i1:acc'.size=its.length:=by have:=items.1;simpa using this
 have vl:Vals xs.reverse acc'.toList:=by
  refine kH (P:=fun i v=>its.toArray[its.toArray.size-1-i]?=some v) (by rw[Array.length_toList,i1,length_reverse];omega) (fun i v e=>items.2 i v (by simpa using e)) fun i v x hp hx=>?_
  have il:=(List.getElem?_eq_some_iff.mp hx).1;rw[length_reverse]at il;rw[List.getElem?_reverse il]at hx;obtain⟨u,hu,ru⟩:=rv.get hx;have:its[xs.length-1-i]?=some v:=by rw[size_toArray,<-hl]at hp;simpa using hp
  rw[this]at hu;cases hu;exact ru
 refine⟨.ref _,_,I1.laid (t':=tk) kp2 le (show ObjOk X.prog X.w _ h' _ (.lst xs.reverse)from⟨by rw[length_reverse];omega,acc'.toList,c',vl,by simpa using e⟩),rfl,q _ (I1.hok.fresh le)⟩
end L2
namespace Rm
open PySem PySem.Spec PyProof.Rows L2
noncomputable def bgs(gs:List Int)(b:Int)(qs:List Pc):List (Nat×Int):=qs.flatMap fun q=>(List.range q.2.1.toNat).map fun u:Nat=>(q.1,b+q.2.2+(u:Int)*gs.getD q.1 0)
noncomputable def lvL(pc:Nat->List Pc)(gs:List Int):Nat->Nat->Int->List (Nat×Int)
 | 0,i,b=>[(i,b)]
 | n+1,i,b=>if pc i=[]then[(i,b)]else(bgs gs b (pc i)).flatMap fun x=>lvL pc gs n x.1 x.2
noncomputable def nvL(pc:Nat->List Pc)(gs:List Int):Nat->Nat->Nat
 | 0,_=>1
 | n+1,i=>if pc i=[]then 1 else 1+((bgs gs 0 (pc i)).map fun x=>nvL pc gs n x.1).sum
noncomputable def LV(ps:List (Str×Fm))(gs:List Int)(i:Nat)(b:Int):List (Nat×Int):=lvL (pcB ps gs) gs (i+1) i b
noncomputable def NV(ps:List (Str×Fm))(gs:List Int)(i:Nat):Nat:=nvL (pcB ps gs) gs (i+1) i
section
variable{ls:List (Str×Int)}{ps:List (Str×Fm)}{gs:List Int}
theorem j2Q{qs:List Pc}{b:Int}{x:Nat×Int}(h:x∈bgs gs b qs):∃q∈qs,x.1=q.1/\∃u:Nat,(u:Int)<q.2.1/\x.2=b+q.2.2+(u:Int)*gs.getD q.1 0:=by
 obtain⟨q,hq,h⟩:=mem_flatMap.mp h;obtain⟨u,hu,rfl⟩:=mem_map.mp h;have:=mem_range.mp hu;exact⟨q,hq,rfl,u,by omega,rfl⟩
theorem yP(W:WfB ls ps){i:Nat}{b:Int}{x:Nat×Int}(h:x∈bgs gs b (pcB ps gs i)):x.1<i:=by
 obtain⟨q,hq,e,_⟩:=j2Q h;rw[e];exact wT W hq
theorem X1(W:WfB ls ps):∀{n m i:Nat} {b:Int},i<n->i<m->lvL (pcB ps gs) gs n i b=lvL (pcB ps gs) gs m i b
 | 0,_,_,_,h,_=>absurd h (Nat.not_lt_zero _)
 | _,0,_,_,_,h=>absurd h (Nat.not_lt_zero _)
 | n+1,m+1,i,b,h1,h2=>by
  unfold lvL;split
  ·rfl
  ·exact jV fun x hx=>by
    have:=yP W hx;exact X1 W (by omega) (by omega)
theorem X5(W:WfB ls ps):∀{n m i:Nat},i<n->i<m->nvL (pcB ps gs) gs n i=nvL (pcB ps gs) gs m i
 | 0,_,_,h,_=>absurd h (Nat.not_lt_zero _)
 | _,0,_,_,h=>absurd h (Nat.not_lt_zero _)
 | n+1,m+1,i,h1,h2=>by
  unfold nvL;split
  ·rfl
  ·congr 2;exact map_congr_left fun x hx=>by
    have:=yP W hx;exact X5 W (by omega) (by omega)
theorem Zs{i:Nat}{b:Int}(h:pcB ps gs i=[]):LV ps gs i b=[(i,b)]:=by
 unfold LV lvL;rw[if_pos h]
theorem Q0(W:WfB ls ps){i:Nat}{b:Int}(h:¬pcB ps gs i=[]):LV ps gs i b=(bgs gs b (pcB ps gs i)).flatMap fun x=>LV ps gs x.1 x.2:=by
 unfold LV;rw[lvL,if_neg h];exact jV fun x hx=>by
  have:=yP W hx;exact X1 W (by omega) (by omega)
theorem j2z{b:Int}(qs:List Pc):(bgs gs b qs).map (·.1)=(bgs gs 0 qs).map (·.1):=by
 unfold bgs;rw[List.map_flatMap,List.map_flatMap];refine jV fun q _=>?_
 rw[List.map_map,List.map_map];rfl
theorem j2u(W:WfB ls ps){i:Nat}{b:Int}(h:¬pcB ps gs i=[]):NV ps gs i=1+((bgs gs b (pcB ps gs i)).map fun x=>NV ps gs x.1).sum:=by
 have e:((bgs gs b (pcB ps gs i)).map fun x=>NV ps gs x.1)=(bgs gs 0 (pcB ps gs i)).map fun x=>NV ps gs x.1:=by
  have:∀b,((bgs gs b (pcB ps gs i)).map fun x=>NV ps gs x.1)=((bgs gs b (pcB ps gs i)).map (·.1)).map (NV ps gs):=fun b=>by rw[List.map_map];rfl
  rw[this,this,j2z]
 rw[e];unfold NV;rw[nvL,if_neg h];congr 2;exact map_congr_left fun x hx=>by
  have:=yP W hx;exact X5 W (by omega) (by omega)
theorem j3x(i:Nat):1<=NV ps gs i:=by
 unfold NV nvL;split<;>omega
theorem j4h{i:Nat}(W:WfB ls ps)(hq:∀i q,q∈pcB ps gs i->1<=q.2.1):∀{i:Nat} {b:Int},LV ps gs i b≠[]:=by
 intro i
 induction i using Nat.strongRecOn with
 | ind i ih=>
  intro b;by_cases h:pcB ps gs i=[]
  ·rw[Zs h];exact cons_ne_nil _ _
  ·rw[Q0 W h];cases e:pcB ps gs i with
   | nil=>exact absurd e h
   | cons q r=>
    have q1:=hq i q (by rw[e];exact mem_cons_self);have hx:(q.1,b+q.2.2+((0:Nat):Int)*gs.getD q.1 0)∈bgs gs b (pcB ps gs i):=by
     rw[e];exact mem_flatMap.mpr ⟨q,mem_cons_self,mem_map.mpr ⟨0,mem_range.mpr (by omega),rfl⟩⟩
    intro z;rw[<-e]at z;have:=List.flatMap_eq_nil_iff.mp z _ hx;exact ih _ (yP W hx) this
end
noncomputable def lastC(c:List Int):Int:=c.getD (c.length-1) 0
noncomputable def stayC(c:List Int)(b:Int):List Int:=c++List.replicate (b+1-c.length).toNat (lastC c)
noncomputable def climbC(c:List Int)(v n:Int):List Int:=c++(List.range n.toNat).map fun j:Nat=>Rp.ramp (lastC c) v n ((j:Int)+1)
noncomputable def colS(L:List Str)(C:List (List Int))(x:Fm×Int):List (List Int):=
 match x.1 with
 | .rise y v n=>C.set (ixOf L y) (climbC (stayC (C.getD (ixOf L y) []) x.2) v n)
 | _=>C
noncomputable def wrdS(W:List (List Str))(x:Fm×Int):List (List Str):=
 match x.1 with
 | .ring y _=>W.set x.2.toNat (W.getD x.2.toNat []++[y])
 | _=>W
noncomputable def lvF(ps:List (Str×Fm))(xs:List (Nat×Int)):List (Fm×Int):=xs.map fun x=>((ps.getD x.1 (⟨#[]⟩,.hold 0)).2,x.2)
def LfAt(H:Hp)(a:Addr)(x:Fm×Int):Prop:=∃fa,H a=some (.tup [.ref fa,.int x.2])/\FormAt H fa x.1
theorem LfAt.same{H H':Hp}{a:Addr}{x:Fm×Int}(s:Same H H')(h:LfAt H a x):LfAt H' a x:=by
 obtain⟨fa,h1,h2⟩:=h;exact⟨fa,s _ _ h1,FormAt.same s h2⟩
structure LfOk(ls:List (Str×Int))(xs:List (Fm×Int)):Prop where
 b:∀x∈xs,0<=x.2/\x.2<=300
 r:∀x∈xs,∀y v n,x.1 = .rise y v n->(∃i:Nat,(nmsOf ls)[i]?=some y)/\0<=v/\v<=10^18/\1<=n/\n<=300
 l:xs.length<=3000
 ln:(nmsOf ls).Nodup
 l8:ls.length<=8
 lh:∀q∈ls,0<=q.2/\q.2<=10^18
def ColsAt(H:Hp)(as:List Addr)(C:List (List Int)):Prop:=All2 (fun a c=>H a=some (.lst (c.map V.int))) as C
def WrdsAt(H:Hp)(as:List Addr)(C:List (List Str)):Prop:=All2 (fun a c=>H a=some (.lst (c.map V.str))) as C
inductive sp_begins(vs:List V)(H:Hp)(Q:VK)(xk:XK):Prop
 | mk (l s:Addr) (t:Int) (bs:List Addr) (qs:List Pc) (gs:List Int) (_:vs=[.ref l,.ref s,.int t]) (_:H l=some (.lst (bs.map V.ref))) (_:PcsAt H bs qs) (_:H s=some (.lst (gs.map V.int))) (_:(∀q∈qs,PcOk gs q)) (_:(bgs gs t qs).length<=10000) (_:∀(p:Addr) (as:List Addr) (H':Hp),Same H H'->H p=none->H' p=some (.lst (as.map V.ref))->GonAt H' as (bgs gs t qs)->Q (.ref p) H'):sp_begins vs H Q xk
inductive sp_begun(vs:List V)(H:Hp)(Q:VK)(xk:XK):Prop
 | mk (b pl pp s:Addr) (las pas:List Addr) (ls:List (Str×Int)) (ps:List (Str×Fm)) (gs:List Int) (hs:List (List Int)) (_:vs=[.ref b,.ref s]) (_:BookAt H b pl pp las pas ls ps) (_:Sn ls ps gs hs) (_:H s=some (.lst (gs.map V.int))) (_:(LV ps gs (ps.length-1) 0).length<=3000) (_:∀(l:Addr) (as:List Addr) (H':Hp),Same H H'->H l=none->H' l=some (.lst (as.map V.ref))->All2 (LfAt H') as (lvF ps (LV ps gs (ps.length-1) 0))->Q (.ref l) H'):sp_begun vs H Q xk
inductive sp_stay(vs:List V)(H:Hp)(Q:VK)(xk:XK):Prop
 | mk (p:Addr) (c:List Int) (t:Int) (_:vs=[.ref p,.int t]) (_:H p=some (.lst (c.map V.int))) (_:c≠[]) (_:c.length<=10^6) (_:0<=t) (_:t<=300) (_:∀(v:V) (H':Hp),Ex p H H'->H' p=some (.lst ((stayC c t).map V.int))->Q v H'):sp_stay vs H Q xk
inductive sp_climb(vs:List V)(H:Hp)(Q:VK)(xk:XK):Prop
 | mk (p:Addr) (c:List Int) (v n:Int) (_:vs=[.ref p,.int v,.int n]) (_:H p=some (.lst (c.map V.int))) (_:c≠[]) (_:c.length<=10^6) (_:(∀x∈c,0<=x/\x<=10^18)) (_:0<=v) (_:v<=10^18) (_:1<=n) (_:n<=300) (_:∀(r:V) (H':Hp),Ex p H H'->H' p=some (.lst ((climbC c v n).map V.int))->Q r H'):sp_climb vs H Q xk
noncomputable def colsN(ls:List (Str×Int))(xs:List (Fm×Int)):List (List Int):=xs.foldl (colS (nmsOf ls)) (ls.map fun q=>[q.2])
inductive sp_columns(vs:List V)(H:Hp)(Q:VK)(xk:XK):Prop
 | mk (b pl pp lv:Addr) (las pas as:List Addr) (ls:List (Str×Int)) (ps:List (Str×Fm)) (xs:List (Fm×Int)) (t:Int) (_:vs=[.ref b,.ref lv,.int t]) (_:BookAt H b pl pp las pas ls ps) (_:H lv=some (.lst (as.map V.ref))) (_:All2 (LfAt H) as xs) (_:LfOk ls xs) (_:0<=t) (_:t<=300) (_:∀(p:Addr) (cas:List Addr) (H':Hp),Same H H'->H p=none->H' p=some (.lst (cas.map V.ref))->ColsAt H' cas ((colsN ls xs).map fun c=>stayC c t)->Q (.ref p) H'):sp_columns vs H Q xk
noncomputable def wrdsN(t:Int)(xs:List (Fm×Int)):List (List Str):=xs.foldl wrdS (List.replicate (t+1).toNat [])
inductive sp_words_by(vs:List V)(H:Hp)(Q:VK)(xk:XK):Prop
 | mk (lv:Addr) (as:List Addr) (xs:List (Fm×Int)) (t:Int) (_:vs=[.ref lv,.int t]) (_:H lv=some (.lst (as.map V.ref))) (_:All2 (LfAt H) as xs) (_:xs.length<=3000) (_:(∀x∈xs,0<=x.2/\x.2<=t)) (_:0<=t) (_:t<=300) (_:∀(p:Addr) (was:List Addr) (H':Hp),Same H H'->H p=none->H' p=some (.lst (was.map V.ref))->WrdsAt H' was (wrdsN t xs)->(∀a∈was,H a=none)->was.Nodup->Q (.ref p) H'):sp_words_by vs H Q xk
def RowAt(H:Hp)(a:Addr)(r:List Int×List Str):Prop:=∃p1 p2,H a=some (.tup [.ref p1,.ref p2])/\H p1=some (.lst (r.1.map V.int))/\H p2=some (.lst (r.2.map V.str))
noncomputable def rowsT(ls:List (Str×Int))(xs:List (Fm×Int))(t:Int):List (List Int×List Str):=(List.range (t+1).toNat).map fun u=>((colsN ls xs).map fun c=>(stayC c t).getD u 0,(wrdsN t xs).getD u [])
structure OwnP(H:Hp)(l:Addr)(as P1 P2:List Addr)(H':Hp):Prop where
 l1:P1.length=as.length
 l2:P2.length=as.length
 nd:(P1++P2).Nodup
 nw:∀a∈P1++P2,H a=none/\a≠l
 at_:∀(u:Nat) (a p1 p2:Addr),as[u]?=some a->P1[u]?=some p1->P2[u]?=some p2->H' a=some (.tup [.ref p1,.ref p2])
inductive sp_told(vs:List V)(H:Hp)(Q:VK)(xk:XK):Prop
 | mk (b pl pp:Addr) (las pas:List Addr) (ls:List (Str×Int)) (ps:List (Str×Fm)) (gs:List Int) (hs:List (List Int)) (_:vs=[.ref b]) (_:BookAt H b pl pp las pas ls ps) (_:Sn ls ps gs hs) (_:gs.getD (ps.length-1) 0<=300) (_:(∀x∈LV ps gs (ps.length-1) 0,0<=x.2/\x.2<=gs.getD (ps.length-1) 0)) (_:LfOk ls (lvF ps (LV ps gs (ps.length-1) 0))) (_:∀(l:Addr) (as P1 P2:List Addr) (H':Hp),Same H H'->H l=none->H' l=some (.lst (as.map V.ref))->All2 (RowAt H') as (rowsT ls (lvF ps (LV ps gs (ps.length-1) 0)) (gs.getD (ps.length-1) 0))->OwnP H l as P1 P2 H'->Q (.ref l) H'):sp_told vs H Q xk
theorem ZC{c:List Int}{b:Int}:(stayC c b).length=c.length+(b+1-c.length).toNat:=by unfold stayC;rw[List.length_append,length_replicate]
theorem YZ{c:List Int}{v n:Int}:(climbC c v n).length=c.length+n.toNat:=by unfold climbC;rw[List.length_append,length_map,length_range]
theorem yX{c:List Int}(h:c≠[]):lastC c∈c:=by
 have:=length_pos_iff.mpr h;unfold lastC;rw[getD_eq_getElem?_getD,List.getElem?_eq_getElem (show c.length-1<c.length by omega)];exact getElem_mem _
theorem Ww{c:List Int}(h:c≠[]):atI (c.map V.int) (-1)=some (.int (lastC c)):=YD (by have:=length_pos_iff.mpr h;omega) rfl
def bC(c:List Int):Prop:=c≠[]/\∀x∈c,0<=x/\x<=10^18
theorem bC.stay{c:List Int}{b:Int}(h:bC c):bC (stayC c b):=by
 refine⟨fun z=>h.1 (List.append_eq_nil_iff.mp z).1,fun x hx=>?_⟩;rcases mem_append.mp hx with z | z
 ·exact h.2 x z
 ·rw[List.eq_of_mem_replicate z];exact h.2 _ (yX h.1)
theorem bC.climb{c:List Int}{v n:Int}(h:bC c)(v0:0<=v)(v1:v<=10^18)(n1:1<=n):bC (climbC c v n):=by
 refine⟨fun z=>h.1 (List.append_eq_nil_iff.mp z).1,fun x hx=>?_⟩;rcases mem_append.mp hx with z | z
 ·exact h.2 x z
 ·obtain⟨j,hj,rfl⟩:=mem_map.mp z;have:=mem_range.mp hj;exact wX (h.2 _ (yX h.1)) ⟨v0,v1⟩ n1 (by omega) (by omega)
theorem FormAt.ringK{H:Hp}{a:Addr}{f:Fm}(h:FormAt H a f):∃(kw:Str) (zs:List V),H a=some (.tup (.str kw::zs))/\((∃y m,f = .ring y m/\kw = "ring"/\zs=[.str y,.int m])\/(decide (kw = "ring")=false/\∀y m,f≠.ring y m)):=by
 cases f with
 | row ps=>obtain⟨c,q1,q2⟩:=h;exact⟨_,_,q1,.inr ⟨by decide +kernel,(fun _ _ z=>nomatch z)⟩⟩
 | side ps=>obtain⟨c,q1,q2⟩:=h;exact⟨_,_,q1,.inr ⟨by decide +kernel,(fun _ _ z=>nomatch z)⟩⟩
 | hold n=>exact⟨_,_,h,.inr ⟨by decide +kernel,(fun _ _ z=>nomatch z)⟩⟩
 | ring x n=>exact⟨_,_,h,.inl ⟨_,_,rfl,rfl,rfl⟩⟩
 | rise x v n=>exact⟨_,_,h,.inr ⟨by decide +kernel,(fun _ _ z=>nomatch z)⟩⟩
 | again k' x=>exact⟨_,_,h,.inr ⟨by decide +kernel,(fun _ _ z=>nomatch z)⟩⟩
theorem FormAt.riseK{H:Hp}{a:Addr}{f:Fm}(h:FormAt H a f):∃(kw:Str) (zs:List V),H a=some (.tup (.str kw::zs))/\((∃y v m,f = .rise y v m/\kw = "raise"/\zs=[.str y,.int v,.int m])\/(decide (kw = "raise")=false/\∀y v m,f≠.rise y v m)):=by
 cases f with
 | row ps=>obtain⟨c,q1,q2⟩:=h;exact⟨_,_,q1,.inr ⟨by decide +kernel,(fun _ _ _ z=>nomatch z)⟩⟩
 | side ps=>obtain⟨c,q1,q2⟩:=h;exact⟨_,_,q1,.inr ⟨by decide +kernel,(fun _ _ _ z=>nomatch z)⟩⟩
 | hold n=>exact⟨_,_,h,.inr ⟨by decide +kernel,(fun _ _ _ z=>nomatch z)⟩⟩
 | ring x n=>exact⟨_,_,h,.inr ⟨by decide +kernel,(fun _ _ _ z=>nomatch z)⟩⟩
 | rise x v n=>exact⟨_,_,h,.inl ⟨_,_,_,rfl,rfl,rfl⟩⟩
 | again k' x=>exact⟨_,_,h,.inr ⟨by decide +kernel,(fun _ _ _ z=>nomatch z)⟩⟩
theorem K5{α:Type}{g:α->HO}{H H':Hp}{as:List Addr}{C:List α}(h:All2 (fun a c=>H a=some (g c)) as C)(nd:as.Nodup){k:Nat}{p:Addr}{c':α}(hk:as[k]?=some p)(x:Ex p H H')(e:H' p=some (g c')):All2 (fun a c=>H' a=some (g c)) as (C.set k c'):=by
 refine⟨by rw[length_set];exact h.1,fun i a c ha hc=>?_⟩;have kl:=(List.getElem?_eq_some_iff.mp hk).1;by_cases z:i=k
 ·subst z;rw[List.getElem?_set_self (by rw[<-h.1];exact kl)]at hc;rw[hk]at ha;cases ha;cases hc;exact e
 ·rw[List.getElem?_set_ne (fun w=>z w.symm)]at hc;refine x _ _ (fun w=>z ?_) (h.2 i a c ha hc);subst w;have il:=(List.getElem?_eq_some_iff.mp ha).1;have e1:=(List.getElem?_eq_some_iff.mp ha).2;have e2:=(List.getElem?_eq_some_iff.mp hk).2;exact(List.getElem_inj nd).mp (e1.trans e2.symm)
theorem xu{W:List (List Str)}{x:Fm×Int}:(wrdS W x).length=W.length:=by
 unfold wrdS;split
 ·exact length_set ..
 ·rfl
theorem WA{L:List Str}{C:List (List Int)}{x:Fm×Int}:(colS L C x).length=C.length:=by
 unfold colS;split
 ·exact length_set ..
 ·rfl
def RowN(p:Addr)(H:Hp)(a:Addr)(r:List Int×List Str):Prop:=∃p1 p2,H a=some (.tup [.ref p1,.ref p2])/\H p1=some (.lst (r.1.map V.int))/\H p2=some (.lst (r.2.map V.str))/\a≠p/\p1≠p/\p2≠p
theorem RowN.at{p:Addr}{H:Hp}{a:Addr}{r:List Int×List Str}(h:RowN p H a r):RowAt H a r:=by
 obtain⟨p1,p2,a1,a2,a3,_⟩:=h;exact⟨p1,p2,a1,a2,a3⟩
theorem RowN.ex{p:Addr}{H H':Hp}{a:Addr}{r:List Int×List Str}(x:Ex p H H')(h:RowN p H a r):RowN p H' a r:=by
 obtain⟨p1,p2,a1,a2,a3,n1,n2,n3⟩:=h;exact⟨p1,p2,x _ _ n1 a1,x _ _ n2 a2,x _ _ n3 a3,n1,n2,n3⟩
noncomputable def allB(gs:List Int)(t:Int):Fn->List (Nat×Int)
 | .row is=>rowB gs is t
 | .side is=>is.map fun j=>(j,t)
 | .again m j=>(List.range m.toNat).map fun u:Nat=>(j,t-(u:Int)*gs.getD j 0)
 | _=>[]
section
variable{L names:List Str}{fs:List Fn}{M:List (List Int)}{gs:List Int}{E:List (List (Int×Int))}{n:Nat}
theorem K8{b t:Int}:∀{is:List Nat} {c:Int},(bgs gs b (rowPc gs is c)).map (fun x=>(x.1,t-x.2))=rowB gs is (t-b-c)
 | [],c=>rfl
 | j::r,c=>by
  show((bgs gs b ((j,1,c)::rowPc gs r (c+gs.getD j 0))).map _)=(j,t-b-c)::rowB gs r (t-b-c-gs.getD j 0);have ih:=K8 (b:=b) (t:=t) (is:=r) (c:=c+gs.getD j 0);unfold bgs at ih|-;rw[flatMap_cons,map_append,ih,show t-b-(c+gs.getD j 0)=t-b-c-gs.getD j 0 by omega];show[(j,t-(b+c+((0:Nat):Int)*gs.getD j 0))]++_=_;rw[show t-(b+c+((0:Nat):Int)*gs.getD j 0)=t-b-c by rw[Int.natCast_zero,Int.zero_mul];omega];rfl
theorem Z7{b:Int}:∀{is:List Nat},bgs gs b (is.map fun j=>(j,1,0))=is.map fun j=>(j,b)
 | []=>rfl
 | j::r=>by
  have ih:=Z7 (b:=b) (is:=r);unfold bgs at ih|-;rw[map_cons,flatMap_cons,ih,map_cons];show[(j,b+0+((0:Nat):Int)*gs.getD j 0)]++_=_;rw[Int.natCast_zero,Int.zero_mul,Int.add_zero,Int.add_zero];rfl
theorem yO{b m:Int}{j:Nat}(h:1<=m):bgs gs b ((j,1,0)::(if 1<m then[(j,m-1,gs.getD j 0)]else[]))=(List.range m.toNat).map fun u:Nat=>(j,b+(u:Int)*gs.getD j 0):=by
 have e0:((List.range (1:Int).toNat).map fun u:Nat=>(j,b+0+(u:Int)*gs.getD j 0))=[(j,b+((0:Nat):Int)*gs.getD j 0)]:=by
  show[(j,b+0+((0:Nat):Int)*gs.getD j 0)]=_;rw[Int.add_zero]
 unfold bgs;rw[flatMap_cons];show((List.range (1:Int).toNat).map fun u:Nat=>(j,b+0+(u:Int)*gs.getD j 0))++_=_;rw[e0];obtain⟨k,hk⟩:∃k:Nat,m.toNat=k+1:=⟨m.toNat-1,by omega⟩
 rw[hk,List.range_succ_eq_map,map_cons,List.map_map];show _::_=_::_;congr 1;split
 ·rw[flatMap_cons,flatMap_nil,append_nil];show((List.range (m-1).toNat).map fun u:Nat=>(j,b+gs.getD j 0+(u:Int)*gs.getD j 0))=_;rw[show(m-1).toNat=k by omega];refine map_congr_left fun u _=>?_
  show(j,b+gs.getD j 0+(u:Int)*gs.getD j 0)=(j,b+((u+1:Nat):Int)*gs.getD j 0)
  rw[show((u+1:Nat):Int)=(u:Int)+1 from rfl,Int.add_mul,Int.one_mul];congr 1;omega
 ·rw[show k=0 by omega];rfl
theorem Z6{f:Fn}(hc:f.comp)(hm:∀m j,f = .again m j->1<=m){b t:Int}:(bgs gs b (pcsI gs (toldF names f) f.js)).map (fun x=>(x.1,t-x.2))=allB gs (t-b) f:=by
 cases f with
 | hold m=>exact hc.elim
 | ring x m=>exact hc.elim
 | rise x v m=>exact hc.elim
 | row is=>
  show(bgs gs b (rowPc gs is 0)).map _=rowB gs is (t-b);rw[K8,Int.sub_zero]
 | side is=>
  show(bgs gs b (is.map fun j=>(j,1,0))).map _=is.map fun j=>(j,t-b)
  rw[Z7,List.map_map];rfl
 | again m j=>
  show(bgs gs b ((j,1,0)::(if 1<m then[(j,m-1,gs.getD j 0)]else[]))).map _=(List.range m.toNat).map _;rw[yO (hm m j rfl),List.map_map];refine map_congr_left fun u _=>?_
  show(j,t-(b+(u:Int)*gs.getD j 0))=(j,t-b-(u:Int)*gs.getD j 0)
  rw[Int.sub_sub]
theorem kC{j:Nat}{t:Int}{h:List Int}(g1:1<=gs.getD j 0)(two:∀h,setE (E.getD j []) (setE (E.getD j []) h)=setE (E.getD j []) h):∀n:Nat,(n:Int)*gs.getD j 0<=t->((List.range n).map fun u:Nat=>(j,t-(u:Int)*gs.getD j 0)).foldl (plC L names fs gs E) h=if n=0 then h else setE (E.getD j []) h
 | 0,_=>rfl
 | n+1,c=>by
  rw[show((n+1:Nat):Int)=(n:Int)+1 from rfl,Int.add_mul,Int.one_mul]at c;rw[range_succ,map_append,foldl_append,kC g1 two n (by omega),if_neg (show¬n+1=0 by omega)];show plC L names fs gs E _ (j,t-(n:Int)*gs.getD j 0)=_;rw[qh g1 (by omega)];split
  ·rfl
  ·exact two h
theorem kD{j:Nat}{t:Int}{h:List Int}(g1:1<=gs.getD j 0)(n:Nat)(c:t<(n:Int)*gs.getD j 0):∀d:Nat,((List.range (n+d)).map fun u:Nat=>(j,t-(u:Int)*gs.getD j 0)).foldl (plC L names fs gs E) h=((List.range n).map fun u:Nat=>(j,t-(u:Int)*gs.getD j 0)).foldl (plC L names fs gs E) h
 | 0=>rfl
 | d+1=>by
  rw[show n+(d+1)=(n+d)+1 from rfl,range_succ,map_append,foldl_append,kD g1 n c d];show plC L names fs gs E _ (j,t-((n+d:Nat):Int)*gs.getD j 0)=_;refine wW ?_;have:=Int.mul_le_mul_of_nonneg_right (show(n:Int)<=((n+d:Nat):Int) by omega) (show 0<=gs.getD j 0 by omega);omega
theorem j3y(B:BkD L names fs M gs)(e:EN L fs n E)(hn:n<=fs.length){k:Nat}(hk:k<n){f:Fn}(hf:fs[k]?=some f)(hc:f.comp){t:Int}(t0:0<=t)(h:List Int) :
  plC L names fs gs E h (k,t)=(allB gs t f).foldl (plC L names fs gs E) h:=by
 rw[j3D B e hn hk hf hc t0 h];obtain⟨d1,_,d3⟩:=B.D.f k f hf;cases f with
 | hold m=>exact hc.elim
 | ring x m=>exact hc.elim
 | rise x v m=>exact hc.elim
 | row is=>rfl
 | side is=>rfl
 | again m j=>
  obtain⟨m1,_,hj⟩:=d1;have g1:=(B.D.g j (by omega)).1;obtain⟨fj,hfj⟩:∃g,fs[j]?=some g:=⟨_,List.getElem?_eq_getElem (by omega)⟩
  have two:=kz (e j fj (by omega) hfj).1 (e.pos B.D B.lnd hn (show j<n by omega));have q0:=Int.ediv_nonneg t0 (show 0<=gs.getD j 0 by omega);have dm:=Int.emod_add_mul_ediv t (gs.getD j 0);have r0:=Int.emod_nonneg t (show gs.getD j 0≠0 by omega);have r1:=Int.emod_lt_of_pos t (show 0<gs.getD j 0 by omega);show(agB gs t m j).foldl _ h=((List.range m.toNat).map _).foldl _ h;obtain⟨c,hcu,c1,c2,c3⟩:∃c:Nat,turnN gs t m j=(c:Int)/\(c:Int)<=t/gs.getD j 0/\(c:Int)<=m-1/\((c:Int)=m-1\/(c:Int)=t/gs.getD j 0):=by
   unfold turnN;split
   ·exact⟨(m-1).toNat,by omega,by omega,by omega,by omega⟩
   ·exact⟨(t/gs.getD j 0).toNat,by omega,by omega,by omega,by omega⟩
  have cg:(c:Int)*gs.getD j 0<=t:=by
   have:=Int.mul_le_mul_of_nonneg_right c1 (show 0<=gs.getD j 0 by omega);have:=Int.mul_comm (gs.getD j 0) (t/gs.getD j 0);omega
  have mid:((List.range (c+1)).map fun u:Nat=>(j,t-(u:Int)*gs.getD j 0)).foldl (plC L names fs gs E) h=(agB gs t m j).foldl (plC L names fs gs E) h:=by
   rw[range_succ,map_append,foldl_append,kC g1 two c cg];unfold agB;rw[hcu,foldl_append];by_cases z:c=0
   ·rw[if_pos z,if_neg (by omega)];rfl
   ·rw[if_neg z,if_pos (by omega)];show _=plC L names fs gs E (plC L names fs gs E h (j,gs.getD j 0)) _;rw[qh g1 (Int.le_refl _)];rfl
  rw[<-mid];by_cases z:(c:Int)=m-1
  ·rw[show m.toNat=c+1 by omega]
  ·have ce:(c:Int)=t/gs.getD j 0:=by omega
   have lt:t<((c+1:Nat):Int)*gs.getD j 0:=by
    rw[show((c+1:Nat):Int)=(c:Int)+1 from rfl,Int.add_mul,Int.one_mul,ce];have:=Int.mul_comm (gs.getD j 0) (t/gs.getD j 0);omega
   obtain⟨d,hd⟩:∃d:Nat,m.toNat=(c+1)+d:=⟨m.toNat-(c+1),by omega⟩
   rw[hd,kD g1 (c+1) lt d]
def AfN(M:List (List Int))(gs:List Int)(i:Nat)(x y:Nat×Int):Prop:=(i:Int)∈M.getD x.1 []->(i:Int)∈M.getD y.1 []->x.2+gs.getD x.1 0<=y.2
theorem ZM(B:BkD L names fs M gs){k:Nat}{f:Fn}(hf:fs[k]?=some f)(hc:f.comp){b:Int}{x:Nat×Int}(hx:x∈bgs gs b (pcsI gs (toldF names f) f.js)):x.1∈f.js/\b<=x.2/\x.2+gs.getD x.1 0<=b+gs.getD k 0:=by
 obtain⟨d1,_,d3⟩:=B.D.f k f hf;have hk:=(List.getElem?_eq_some_iff.mp hf).1;have js:=d1.js;have gj:∀j∈f.js,1<=gs.getD j 0/\gs.getD j 0<=10^60:=fun j hj=>B.D.g j (by have:=js.2 j hj;omega)
 have e:=Z6 (names:=names) (gs:=gs) hc (fun m j z=>by subst z;exact d1.1) (b:=b) (t:=b+gs.getD k 0);have hy:(x.1,b+gs.getD k 0-x.2)∈allB gs (b+gs.getD k 0-b) f:=by rw[<-e];exact mem_map.mpr ⟨x,hx,rfl⟩
 rw[show b+gs.getD k 0-b=gs.getD k 0 by omega]at hy;cases f with
 | hold m=>exact hc.elim
 | ring x m=>exact hc.elim
 | rise x v m=>exact hc.elim
 | row is=>
  have d3:gs.getD k 0=(is.map fun j=>gs.getD j 0).sum:=d3;have gj:∀j∈is,1<=gs.getD j 0/\gs.getD j 0<=10^60:=gj;obtain⟨a,b',c,d⟩:=W8 gj hy;have d:gs.getD x.1 0<=b+gs.getD k 0-x.2:=d (by omega);have b':b+gs.getD k 0-x.2<=gs.getD k 0:=b';exact⟨a,by omega,by omega⟩
 | side is=>
  obtain⟨j,hj,ej⟩:=mem_map.mp hy;have e1:j=x.1:=congrArg (·.1) ej;have e2:gs.getD k 0=b+gs.getD k 0-x.2:=congrArg (·.2) ej;subst e1;have:=d3.2 _ hj;exact⟨hj,by omega,by omega⟩
 | again m j=>
  have d3:gs.getD k 0=m*gs.getD j 0:=d3;have g:=gj j mem_cons_self;obtain⟨u,hu,ej⟩:=mem_map.mp hy;have hu:=mem_range.mp hu;have e1:j=x.1:=congrArg (·.1) ej;have e2:gs.getD k 0-(u:Int)*gs.getD j 0=b+gs.getD k 0-x.2:=congrArg (·.2) ej;subst e1;have a1:=Int.mul_nonneg (show 0<=(u:Int) by omega) (show 0<=gs.getD x.1 0 by omega);have a2:=Int.mul_le_mul_of_nonneg_right (show(u:Int)+1<=m by omega) (show 0<=gs.getD x.1 0 by omega);rw[Int.add_mul,Int.one_mul]at a2;exact⟨mem_cons_self,by omega,by omega⟩
theorem j3E(B:BkD L names fs M gs){k:Nat}{f:Fn}(hf:fs[k]?=some f)(hc:f.comp){b:Int}(i:Nat):(bgs gs b (pcsI gs (toldF names f) f.js)).Pairwise (AfN M gs i):=by
 obtain⟨d1,_,d3⟩:=B.D.f k f hf;have hk:=(List.getElem?_eq_some_iff.mp hf).1;have js:=d1.js;have gj:∀j∈f.js,1<=gs.getD j 0/\gs.getD j 0<=10^60:=fun j hj=>B.D.g j (by have:=js.2 j hj;omega)
 cases f with
 | hold m=>exact hc.elim
 | ring x m=>exact hc.elim
 | rise x v m=>exact hc.elim
 | row is=>
  have gj:∀j∈is,1<=gs.getD j 0/\gs.getD j 0<=10^60:=gj;show(bgs gs b (rowPc gs is 0)).Pairwise _;have go:∀(is:List Nat) (c:Int),(∀j∈is,1<=gs.getD j 0/\gs.getD j 0<=10^60)->(bgs gs b (rowPc gs is c)).Pairwise (AfN M gs i)/\∀x∈bgs gs b (rowPc gs is c),b+c<=x.2:=fun is=>by
   induction is with
   | nil=>exact fun c _=>⟨.nil,fun x hx=>nomatch hx⟩
   | cons j r ih=>
    intro c h;obtain⟨a1,a2⟩:=ih (c+gs.getD j 0) fun k hk=>h k (mem_cons_of_mem _ hk)
    have g:=h j mem_cons_self;have e:bgs gs b (rowPc gs (j::r) c)=(j,b+c)::bgs gs b (rowPc gs r (c+gs.getD j 0)):=by
     show bgs gs b ((j,1,c)::rowPc gs r (c+gs.getD j 0))=_;unfold bgs;rw[flatMap_cons];show[(j,b+c+((0:Nat):Int)*gs.getD j 0)]++_=_;rw[Int.natCast_zero,Int.zero_mul,Int.add_zero];rfl
    rw[e];refine⟨pairwise_cons.mpr ⟨fun x hx _ _=>?_,a1⟩,fun x hx=>?_⟩
    ·have:=a2 x hx;show b+c+gs.getD j 0<=x.2;omega
    ·rcases mem_cons.mp hx with z | z
     ·subst z;exact Int.le_refl _
     ·have:=a2 x z;omega
  exact(go is 0 gj).1
 | side is=>
  show(bgs gs b (is.map fun j=>(j,1,0))).Pairwise _;rw[Z7];exact pairwise_map.mpr (d1.2.2.2.2.imp fun h a c=>absurd c (h _ a))
 | again m j=>
  have g:=gj j mem_cons_self;show(bgs gs b ((j,1,0)::(if 1<m then[(j,m-1,gs.getD j 0)]else[]))).Pairwise _;rw[yO d1.1];refine pairwise_map.mpr (List.pairwise_lt_range.imp fun {u v} huv _ _=>?_);have:=Int.mul_le_mul_of_nonneg_right (show(u:Int)+1<=(v:Int) by omega) (show 0<=gs.getD j 0 by omega);rw[Int.add_mul,Int.one_mul]at this;show b+(u:Int)*gs.getD j 0+gs.getD j 0<=b+(v:Int)*gs.getD j 0;omega
theorem PF.flat{i:Nat}{t:Int}{F:Nat×Int->List (Int×Int×Int)}:∀{xs:List (Nat×Int)},(∀x∈xs,PF L names fs M gs i [(x.1,t-x.2)] (F x))->xs.Pairwise (AfN M gs i)->PF L names fs M gs i (xs.map fun x=>(x.1,t-x.2)) (xs.flatMap F)
 | [],_,_=>.nil
 | x::r,h,pw=>by
  obtain⟨p1,p2⟩:=pairwise_cons.mp pw;rw[map_cons,flatMap_cons];refine(h x mem_cons_self).cons (PF.flat (fun y hy=>h y (mem_cons_of_mem _ hy)) p2) fun q hq=>?_
  obtain⟨y,hy,rfl⟩:=mem_map.mp hq;intro a b c;have:=p1 y hy a b;show gs.getD x.1 0<=t-x.2;have c:0<=t-y.2:=c;omega
noncomputable def rsO(L:List Str)(fs:List Fn)(i:Nat)(t:Int)(x:Nat×Int):List (Int×Int×Int):=
 match fs[x.1]? with
 | some (.rise y v m)=>if ixOf L y=i/\x.2<=t then[(v,m,t-x.2)]else[]
 | _=>[]
theorem j1z(B:BkD L names fs M gs){i k:Nat}{f:Fn}(hf:fs[k]?=some f)(hc:¬f.comp)(hi:(i:Int)∈M.getD k []):∃y v m,f = .rise y v m/\ixOf L y=i:=by
 obtain⟨_,d2,_⟩:=B.D.f k f hf;rcases(d2.2 i).mp hi with⟨j,hj,_⟩ | ⟨x,h,n,i',ef,hL,ek⟩
 ·cases f with
  | row is=>exact absurd trivial hc
  | side is=>exact absurd trivial hc
  | again m j=>exact absurd trivial hc
  | hold m=>exact nomatch hj
  | ring x m=>exact nomatch hj
  | rise x v m=>exact nomatch hj
 ·refine⟨_,_,_,ef,?_⟩;rw[Jm B.lnd hL];omega
theorem Q3(B:BkD L names fs M gs){k:Nat}{f:Fn}(hf:fs[k]?=some f):f.comp↔¬pcB (drawnPs names fs) gs k=[]:=by
 rw[Jr B.D B.hnm B.nd hf];obtain⟨d1,_⟩:=B.D.f k f hf;cases f with
 | hold m=>exact⟨fun z=>z.elim,fun z=>z rfl⟩
 | ring x m=>exact⟨fun z=>z.elim,fun z=>z rfl⟩
 | rise x v m=>exact⟨fun z=>z.elim,fun z=>z rfl⟩
 | row is=>
  obtain⟨a,_⟩:=d1;cases is with
  | nil=>exact absurd rfl a
  | cons j r=>exact⟨fun _=>cons_ne_nil _ _,fun _=>trivial⟩
 | side is=>
  obtain⟨a,_⟩:=d1;cases is with
  | nil=>exact absurd a (by decide)
  | cons j r=>exact⟨fun _=>cons_ne_nil _ _,fun _=>trivial⟩
 | again m j=>exact⟨fun _=>cons_ne_nil _ _,fun _=>trivial⟩
theorem BkD.wf(B:BkD L names fs M gs):WfB (L.map fun x=>(x,(0:Int))) (drawnPs names fs):=by
 have hL:nmsOf (L.map fun x=>(x,(0:Int)))=L:=by
  unfold nmsOf;rw[List.map_map];exact map_id _
 exact DOk.wf (by rw[hL];exact B.D) B.hnm B.nd (by rw[hL];exact B.lnd) (by rw[length_map];exact B.l8) B.f61
theorem j3l(B:BkD L names fs M gs)(i:Nat){t:Int}:∀{k:Nat} {b:Int},k<fs.length->t-b<=10^62->PF L names fs M gs i [(k,t-b)] ((LV (drawnPs names fs) gs k b).flatMap (rsO L fs i t)):=by
 intro k
 induction k using Nat.strongRecOn with
 | ind k ih=>
  intro b hk tb;obtain⟨f,hf⟩:∃f,fs[k]?=some f:=⟨_,List.getElem?_eq_getElem hk⟩
  obtain⟨d1,d2,_⟩:=B.D.f k f hf;by_cases hc:f.comp
  case neg=>
   have h0:pcB (drawnPs names fs) gs k=[]:=Classical.byContradiction fun z=>hc ((Q3 B hf).mpr z)
   rw[Zs h0,flatMap_cons,flatMap_nil,append_nil];by_cases hi:(i:Int)∈M.getD k []
   ·obtain⟨y,v,m,rfl,ei⟩:=j1z B hf hc hi;unfold rsO;rw[hf];show PF L names fs M gs i _ (if ixOf L y=i/\b<=t then[(v,m,t-b)]else[]);by_cases c:b<=t
    ·rw[if_pos ⟨ei,c⟩];exact .rise B hf hi (by omega) tb
    ·rw[if_neg fun z=>c z.2];exact .out B (.inr (by omega))
   ·have e0:rsO L fs i t (k,b)=[]:=by
     unfold rsO;rw[hf];cases f with
     | rise y v m=>
      show(if ixOf L y=i/\b<=t then[(v,m,t-b)]else[])=[]
      refine if_neg fun z=>hi ?_
      rw[<-z.1];exact(yx B.D B.lnd hf).1
     | hold m=>rfl
     | ring x m=>rfl
     | row is=>exact absurd trivial hc
     | side is=>exact absurd trivial hc
     | again m j=>exact absurd trivial hc
    rw[e0];exact .out B (.inl hi)
  rw[Q0 B.wf ((Q3 B hf).mp hc),zk,Jr B.D B.hnm B.nd hf];have pf:∀x∈bgs gs b (pcsI gs (toldF names f) f.js),PF L names fs M gs i [(x.1,t-x.2)] ((LV (drawnPs names fs) gs x.1 x.2).flatMap (rsO L fs i t)):=fun x hx=>by
   obtain⟨a,a1,_⟩:=ZM B hf hc hx;have:=d1.js.2 _ a;exact ih x.1 this (by omega) (by omega)
  by_cases c:t-b<0
  ·have e0:((bgs gs b (pcsI gs (toldF names f) f.js)).flatMap fun x=>(LV (drawnPs names fs) gs x.1 x.2).flatMap (rsO L fs i t))=[]:=by
    refine List.flatMap_eq_nil_iff.mpr fun x hx=>Classical.byContradiction fun ne=>?_
    obtain⟨y,hy,_,h0⟩:=(pf x hx).m ne;rw[mem_singleton.mp hy]at h0;have h0:0<=t-x.2:=h0;obtain⟨_,a1,_⟩:=ZM B hf hc hx;omega
   rw[e0];exact .out B (.inr c)
  ·have a:=PF.flat pf (j3E B hf hc i);rw[Z6 hc (fun m j z=>by subst z;exact d1.1)]at a;have am:∀x∈allB gs (t-b) f,x.1∈f.js/\(gs.getD k 0<=t-b->gs.getD x.1 0<=x.2):=fun x hx=>by
    rw[<-Z6 (names:=names) hc (fun m j z=>by subst z;exact d1.1)]at hx;obtain⟨y,hy,rfl⟩:=mem_map.mp hx;obtain⟨p1,p2,p3⟩:=ZM B hf hc hy;exact⟨p1,fun z=>by show gs.getD y.1 0<=t-y.2;omega⟩
   refine⟨a.g,fun n E hx hn e h=>?_,a.o,fun ne=>?_,fun hu r hr=>?_⟩
   ·have hkn:k<n:=hx (k,t-b) mem_cons_self;show(plC L names fs gs E h (k,t-b))[i]?=_;rw[j3y B e hn hkn hf hc (by omega)];exact a.h n E (fun x hx=>by have:=d1.js.2 _ (am x hx).1;omega) hn e h
   ·obtain⟨x,hx,p,_⟩:=a.m ne;exact⟨_,mem_cons_self,(d2.2 i).mpr (.inl ⟨x.1,(am x hx).1,p⟩),by show 0<=t-b;omega⟩
   ·refine a.u (fun x hx=>?_) r hr;rcases hu _ mem_cons_self with z | z
    ·exact .inl ((am x hx).2 z)
    ·exact .inr fun q=>z ((d2.2 i).mpr (.inl ⟨x.1,(am x hx).1,q⟩))
theorem Wu(B:BkD L names fs M gs):∀{k:Nat} {b:Int},k<fs.length->∀x∈LV (drawnPs names fs) gs k b,x.1<fs.length/\b<=x.2/\x.2+gs.getD x.1 0<=b+gs.getD k 0:=by
 intro k
 induction k using Nat.strongRecOn with
 | ind k ih=>
  intro b hk x hx;obtain⟨f,hf⟩:∃f,fs[k]?=some f:=⟨_,List.getElem?_eq_getElem hk⟩
  obtain⟨d1,d2,_⟩:=B.D.f k f hf;by_cases hc:f.comp
  case neg=>
   rw[Zs (Classical.byContradiction fun z=>hc ((Q3 B hf).mpr z))]at hx;rw[mem_singleton.mp hx];exact⟨hk,Int.le_refl _,Int.le_refl _⟩
  rw[Q0 B.wf ((Q3 B hf).mp hc),Jr B.D B.hnm B.nd hf]at hx;obtain⟨y,hy,hx⟩:=mem_flatMap.mp hx;obtain⟨a,a1,a2⟩:=ZM B hf hc hy;have:=d1.js.2 _ a;obtain⟨b1,b2,b3⟩:=ih y.1 this (by omega) x hx;exact⟨b1,by omega,by omega⟩
end
noncomputable def rlO(L:List Str)(fs:List Fn)(i:Nat)(x:Nat×Int):List (Int×Int×Int):=
 match fs[x.1]? with
 | some (.rise y v m)=>if ixOf L y=i then[(v,m,x.2)]else[]
 | _=>[]
noncomputable def bgR(t:Int)(P:List (Int×Int×Int)):List (Int×Int×Int):=(P.filter fun r=>decide (r.2.2<=t)).map fun r=>(r.1,r.2.1,t-r.2.2)
noncomputable def valR(P:List (Int×Int×Int))(x:Int)(t:Int):Int:=(bgR t P).foldl stR x
theorem XN{t:Int}{P Q:List (Int×Int×Int)}:bgR t (P++Q)=bgR t P++bgR t Q:=by unfold bgR;rw[filter_append,map_append]
theorem KN{P:List (Int×Int×Int)}{v n s x t:Int}:valR (P++[(v,n,s)]) x t=if s<=t then stR (valR P x t) (v,n,t-s)else valR P x t:=by
 unfold valR;rw[XN,foldl_append];by_cases c:s<=t
 ·rw[if_pos c];have:bgR t [(v,n,s)]=[(v,n,t-s)]:=by unfold bgR;rw[filter_cons_of_pos (by simpa using c)];rfl
  rw[this];rfl
 ·rw[if_neg c];have:bgR t [(v,n,s)]=[]:=by unfold bgR;rw[filter_cons_of_neg (by simpa using c)];rfl
  rw[this];rfl
theorem j23{L:List Str}{fs:List Fn}{i:Nat}{t:Int}:∀(xs:List (Nat×Int)),xs.flatMap (rsO L fs i t)=bgR t (xs.flatMap (rlO L fs i))
 | []=>rfl
 | x::r=>by
  rw[flatMap_cons,flatMap_cons,XN,j23 r];congr 1;unfold rsO rlO;cases hf:fs[x.1]? with
  | none=>rfl
  | some f=>cases f with
   | hold n=>rfl
   | ring y n=>rfl
   | row is=>rfl
   | side is=>rfl
   | again m j=>rfl
   | rise y v m=>
   show(if ixOf L y=i/\x.2<=t then[(v,m,t-x.2)]else[])=bgR t (if ixOf L y=i then[(v,m,x.2)]else[]);by_cases c:ixOf L y=i
   ·rw[if_pos c];by_cases c2:x.2<=t
    ·rw[if_pos ⟨c,c2⟩];unfold bgR;rw[filter_cons_of_pos (by simpa using c2)];rfl
    ·rw[if_neg fun z=>c2 z.2];unfold bgR;rw[filter_cons_of_neg (by simpa using c2)];rfl
   ·rw[if_neg c,if_neg fun z=>c z.1];rfl
def SeqR(p q:Int×Int×Int):Prop:=p.2.2+p.2.1<=q.2.2
structure CV(x:Int)(P:List (Int×Int×Int))(c:List Int)(e:Int):Prop where
 l:(c.length:Int)=e+1
 e0:0<=e
 v:∀u:Nat,(u:Int)<=e->c[u]?=some (valR P x u)
 k:∀u:Int,e<=u->valR P x u=valR P x e
theorem CV.last{x:Int}{P:List (Int×Int×Int)}{c:List Int}{e:Int}(h:CV x P c e):lastC c=valR P x e:=by
 have hl:=h.l;have he:=h.e0;have:=h.v (c.length-1) (by omega);unfold lastC;rw[getD_eq_getElem?_getD,this,show((c.length-1:Nat):Int)=e by omega];rfl
theorem CV.stay{x:Int}{P:List (Int×Int×Int)}{c:List Int}{e s:Int}(h:CV x P c e){u:Nat}(hu:(u:Int)<=e\/(u:Int)<=s):(stayC c s)[u]?=some (valR P x u):=by
 have hl:=h.l;unfold stayC;by_cases cu:(u:Int)<=e
 ·rw[List.getElem?_append_left (by omega)];exact h.v u cu
 ·rw[List.getElem?_append_right (by omega),List.getElem?_replicate,if_pos (by omega),h.last,h.k u (by omega)]
theorem j4t{x v n:Int}(n1:1<=n):stR x (v,n,0)=x:=by
 unfold stR;dsimp only;rw[show(if n<0 then n else 0)=0 by split<;>omega];exact Rp.begins
theorem CV.step{x:Int}{P:List (Int×Int×Int)}{c:List Int}{e v n s:Int}(h:CV x P c e)(hs:e<=s)(n1:1<=n):CV x (P++[(v,n,s)]) (climbC (stayC c s) v n) (s+n):=by
 have hl:=h.l;have he:=h.e0;have sl:=ZC (c:=c) (b:=s);have lst:lastC (stayC c s)=valR P x s:=by
  unfold lastC;rw[getD_eq_getElem?_getD,h.stay (u:=(stayC c s).length-1) (.inr (by omega)),show(((stayC c s).length-1:Nat):Int)=s by omega];rfl
 have vs:∀u:Int,s<=u->valR (P++[(v,n,s)]) x u=stR (valR P x s) (v,n,u-s):=fun u hu=>by
  rw[KN,if_pos hu,h.k u (by omega),h.k s hs]
 refine⟨by rw[YZ];omega,by omega,fun u hu=>?_,fun u hu=>?_⟩
 ·unfold climbC;by_cases cu:u<(stayC c s).length
  ·rw[List.getElem?_append_left cu,h.stay (.inr (by omega))];by_cases c2:(u:Int)=s
   ·rw[vs u (by omega),c2,Int.sub_self,j4t n1]
   ·rw[KN,if_neg (by omega)]
  ·rw[List.getElem?_append_right (by omega),List.getElem?_map,List.getElem?_range (by omega),lst,vs u (by omega)];show some (Rp.ramp (valR P x s) v n ((u-(stayC c s).length:Nat)+1))=_;unfold stR;dsimp only;rw[show(if n<(u:Int)-s then n else(u:Int)-s)=((u-(stayC c s).length:Nat):Int)+1 by split<;>omega]
 ·rw[vs u (by omega),vs (s+n) (by omega)];unfold stR;dsimp only;rw[show(if n<u-s then n else u-s)=n by split<;>omega,show(if n<s+n-s then n else s+n-s)=n by split<;>omega]
section
variable{L names:List Str}{fs:List Fn}{M:List (List Int)}{gs:List Int}{ls:List (Str×Int)}
theorem WN{ps:List (Str×Fm)}{ys:List (Nat×Int)}{x:Nat×Int}:lvF ps (ys++[x])=lvF ps ys++[((ps.getD x.1 (⟨#[]⟩,.hold 0)).2,x.2)]:=by unfold lvF;rw[map_append];rfl
theorem Y4{f:Fn}{k:Nat}(hf:fs[k]?=some f):((drawnPs names fs).getD k (⟨#[]⟩,.hold 0)).2=toldF names f:=by
 rw[getD_eq_getElem?_getD,qO hf];rfl
theorem j2C(hL:nmsOf ls=L){i:Nat}{x0:Str×Int}(hi:ls[i]?=some x0)(lnd:L.Nodup):∀(n:Nat) (xs:List (Nat×Int)),xs.length=n->(∀x∈xs,x.1<fs.length)->(xs.flatMap (rlO L fs i)).Pairwise SeqR->(∀r∈xs.flatMap (rlO L fs i),0<=r.2.2/\1<=r.2.1)->
  ∃c e,(colsN ls (lvF (drawnPs names fs) xs))[i]?=some c/\CV x0.2 (xs.flatMap (rlO L fs i)) c e/\(e=0\/∃r∈xs.flatMap (rlO L fs i),e=r.2.2+r.2.1):=by
 intro n
 induction n with
 | zero=>
  intro xs hn _ _ _;have:xs=[]:=length_eq_zero_iff.mp hn;subst this;refine⟨[x0.2],0,?_,⟨rfl,Int.le_refl _,fun u hu=>?_,fun u _=>rfl⟩,.inl rfl⟩
  ·show(ls.map fun q=>[q.2])[i]?=_;rw[List.getElem?_map,hi];rfl
  ·have:u=0:=by omega
   subst this;rfl
 | succ n ih=>
  intro xs hn hx pw gd;rcases eq_nil_or_concat xs with rfl | ⟨ys,x,rfl⟩
  ·exact absurd hn (by simp)
  rw[concat_eq_append]at *;rw[List.length_append]at hn;have hn:ys.length=n:=by have:[x].length=1:=rfl;omega
  rw[flatMap_append]at pw gd|-;obtain⟨p1,p2,p3⟩:=List.pairwise_append.mp pw;obtain⟨c,e,h1,h2,h3⟩:=ih ys hn (fun y hy=>hx y (mem_append_left _ hy)) p1 fun r hr=>gd r (mem_append_left _ hr)
  obtain⟨f,hf⟩:∃f,fs[x.1]?=some f:=⟨_,List.getElem?_eq_getElem (hx x (mem_append_right _ mem_cons_self))⟩
  have es:colsN ls (lvF (drawnPs names fs) (ys++[x]))=colS L (colsN ls (lvF (drawnPs names fs) ys)) (toldF names f,x.2):=by
   rw[WN,Y4 hf];unfold colsN;rw[foldl_append,hL];rfl
  have e1:[x].flatMap (rlO L fs i)=rlO L fs i x:=by rw[flatMap_cons,flatMap_nil,append_nil]
  rw[es];rw[e1]at p3 gd|-;have il:=(List.getElem?_eq_some_iff.mp h1).1;have same:(∀y v m,f = .rise y v m->ixOf L y≠i)->∃c e,(colS L (colsN ls (lvF (drawnPs names fs) ys)) (toldF names f,x.2))[i]?=some c/\CV x0.2 (ys.flatMap (rlO L fs i)++rlO L fs i x) c e/\(e=0\/∃r∈ys.flatMap (rlO L fs i)++rlO L fs i x,e=r.2.2+r.2.1):=fun hne=>by
   have e0:rlO L fs i x=[]:=by
    unfold rlO;rw[hf];cases f with
    | rise y v m=>exact if_neg (hne y v m rfl)
    | hold m=>rfl
    | ring y m=>rfl
    | row is=>rfl
    | side is=>rfl
    | again m j=>rfl
   rw[e0,append_nil];refine⟨c,e,?_,h2,h3⟩;rw[<-h1];unfold colS;cases f with
   | rise y v m=>exact List.getElem?_set_ne (hne y v m rfl)
   | hold m=>rfl
   | ring y m=>rfl
   | row is=>rfl
   | side is=>rfl
   | again m j=>rfl
  cases f with
  | rise y v m=>
   by_cases ci:ixOf L y=i
   ·have e0:rlO L fs i x=[(v,m,x.2)]:=by
     unfold rlO;rw[hf];exact if_pos ci
    rw[e0]at p3 gd|-;obtain⟨g1,g2⟩:=gd (v,m,x.2) (mem_append_right _ mem_cons_self);have hs:e<=x.2:=by
     rcases h3 with z | ⟨r,hr,z⟩
     ·rw[z];exact g1
     ·have:r.2.2+r.2.1<=x.2:=p3 r hr _ mem_cons_self;omega
    refine⟨climbC (stayC c x.2) v m,x.2+m,?_,h2.step hs g2,.inr ⟨_,mem_append_right _ mem_cons_self,rfl⟩⟩;show((colsN ls (lvF (drawnPs names fs) ys)).set (ixOf L y) (climbC (stayC ((colsN ls (lvF (drawnPs names fs) ys)).getD (ixOf L y) []) x.2) v m))[i]?=_;rw[ci,List.getElem?_set_self il,getD_eq_getElem?_getD,h1];rfl
   ·exact same fun y' v' m' z=>by cases z;exact ci
  | hold m=>exact same fun _ _ _ z=>nomatch z
  | ring y m=>exact same fun _ _ _ z=>nomatch z
  | row is=>exact same fun _ _ _ z=>nomatch z
  | side is=>exact same fun _ _ _ z=>nomatch z
  | again m j=>exact same fun _ _ _ z=>nomatch z
theorem Xh{α:Type}{a b r:α}{G:List α}(h:[a,b].Sublist (G++[r])):a∈G:=by
 obtain⟨l1,l2,e,h1,h2⟩:=List.sublist_append_iff.mp h;have hl:=h2.length_le;cases l1 with
 | nil=>
  rw[nil_append]at e;rw[<-e]at hl;exact absurd hl (by simp)
 | cons y l1=>
  have:a=y:=(List.cons.inj e).1;rw[this];exact h1.subset mem_cons_self
theorem j3w(B:BkD L names fs M gs)(i:Nat){k:Nat}(hk:k<fs.length)(g60:gs.getD k 0<=10^60):((LV (drawnPs names fs) gs k 0).flatMap (rlO L fs i)).Pairwise SeqR/\∀r∈(LV (drawnPs names fs) gs k 0).flatMap (rlO L fs i),0<=r.2.2/\1<=r.2.1:=by
 have gd:∀r∈(LV (drawnPs names fs) gs k 0).flatMap (rlO L fs i),0<=r.2.2/\r.2.2<=10^61/\1<=r.2.1:=fun r hr=>by
  obtain⟨x,hx,hr⟩:=mem_flatMap.mp hr;obtain⟨a,b,c⟩:=Wu B hk x hx;have g:=B.D.g x.1 a;unfold rlO at hr;split at hr
  ·rename_i y v m hf;split at hr
   ·rw[mem_singleton.mp hr];have:=(yx B.D B.lnd hf).2.2.2.1;exact⟨b,by show x.2<=_;omega,this⟩
   ·exact nomatch hr
  ·exact nomatch hr
 refine⟨List.pairwise_iff_forall_sublist.mpr fun {p q} h=>?_,fun r hr=>⟨(gd r hr).1,(gd r hr).2.2⟩⟩;have gp:=gd p (h.subset mem_cons_self);have gq:=gd q (h.subset (mem_cons_of_mem _ mem_cons_self));obtain⟨t,t1,t2,t3,t4⟩:∃t:Int,p.2.2<=t/\q.2.2<=t/\(t=p.2.2\/t=q.2.2)/\t<=10^61:=by
  by_cases c:p.2.2<=q.2.2
  ·exact⟨q.2.2,c,Int.le_refl _,.inr rfl,by omega⟩
  ·exact⟨p.2.2,Int.le_refl _,by omega,.inl rfl,by omega⟩
 have a:=j3l B i (t:=t) (b:=0) hk (by omega);rw[j23]at a;have s1:[(p.1,p.2.1,t-p.2.2),(q.1,q.2.1,t-q.2.2)].Sublist (bgR t ((LV (drawnPs names fs) gs k 0).flatMap (rlO L fs i))):=by
  have h1:=(h.filter fun r=>decide (r.2.2<=t)).map fun r:Int×Int×Int=>(r.1,r.2.1,t-r.2.2)
  rw[filter_cons_of_pos (by simpa using t1),filter_cons_of_pos (by simpa using t2)]at h1;exact h1
 rcases eq_nil_or_concat (bgR t ((LV (drawnPs names fs) gs k 0).flatMap (rlO L fs i)))with z | ⟨G,r,z⟩
 ·rw[z]at s1;exact absurd s1.length_le (by simp)
 ·rw[concat_eq_append]at z;have hp:=Xh (by rw[z]at s1;exact s1);have:=a.o G r z _ hp;have:p.2.1<=t-p.2.2:=this;show p.2.2+p.2.1<=q.2.2;rcases t3 with e | e<;>omega
theorem j0f(B:BkD L names fs M gs)(hL:nmsOf ls=L){k:Nat}(hk:k<fs.length){n:Nat}{E:List (List (Int×Int))}(hn:k<n)(hn':n<=fs.length)(e:EN L fs n E){i:Nat}{x0:Str×Int}(hi:ls[i]?=some x0){u:Nat}(hu:(u:Int)<=gs.getD k 0) :
  ∃c,(colsN ls (lvF (drawnPs names fs) (LV (drawnPs names fs) gs k 0)))[i]?=some c/\(stayC c (gs.getD k 0))[u]?=(plN L names fs gs E k u (ls.map (·.2)))[i]?:=by
 have g:=B.D.g k hk;obtain⟨sq,gd⟩:=j3w B i hk g.2;obtain⟨c,e',h1,h2,h3⟩:=j2C (names:=names) hL hi B.lnd _ _ rfl (fun x hx=>(Wu B hk x hx).1) sq gd;refine⟨c,h1,?_⟩;rw[h2.stay (.inr hu)];have a:=(j3l B i (t:=u) (b:=0) hk (by omega)).h n E (fun x hx=>by rw[mem_singleton.mp hx];exact hn) hn' e (ls.map (·.2));rw[j23,List.getElem?_map,hi]at a;have e5:[(k,(u:Int)-0)].foldl (plC L names fs gs E) (ls.map (·.2))=plN L names fs gs E k u (ls.map (·.2)):=by
  show plC L names fs gs E (ls.map (·.2)) (k,(u:Int)-0)=_;rw[Int.sub_zero];unfold plC;dsimp only;rw[if_neg (by omega),show(if(u:Int)<gs.getD k 0 then(u:Int)else gs.getD k 0)=u by split<;>omega]
 rw[e5]at a;exact a.symm
end
noncomputable def wO(fs:List Fn)(t:Int)(x:Nat×Int):List Str:=
 match fs[x.1]? with
 | some (.ring y _)=>if x.2=t then[y]else[]
 | _=>[]
section
variable{L names:List Str}{fs:List Fn}{M:List (List Int)}{gs:List Int}{ls:List (Str×Int)}
theorem kI{k:Nat}{t:Int}(h:t<0\/gs.getD k 0<=t):wdN names fs gs k t=[]:=by
 unfold wdN;exact if_neg (by omega)
theorem j04:∀{is:List Nat} {t:Int},(rowB gs is t).flatMap (fun x=>wdN names fs gs x.1 x.2)=rowW names fs gs is t
 | [],_=>rfl
 | j::r,t=>by
  show((j,t)::rowB gs r (t-gs.getD j 0)).flatMap _=wdN names fs gs j t++rowW names fs gs r (t-gs.getD j 0);rw[flatMap_cons,j04]
theorem xr{j:Nat}{t:Int}(g1:1<=gs.getD j 0)(t0:0<=t):∀n:Nat,((List.range n).map fun u:Nat=>(j,t-(u:Int)*gs.getD j 0)).flatMap (fun x=>wdN names fs gs x.1 x.2)=if t<(n:Int)*gs.getD j 0 then wdN names fs gs j (t%gs.getD j 0)else[]
 | 0=>by rw[if_neg (by rw[Int.natCast_zero,Int.zero_mul];omega)];rfl
 | n+1=>by
  have e:((n+1:Nat):Int)*gs.getD j 0=(n:Int)*gs.getD j 0+gs.getD j 0:=by rw[show((n+1:Nat):Int)=(n:Int)+1 from rfl,Int.add_mul,Int.one_mul]
  rw[range_succ,map_append,flatMap_append,xr g1 t0 n,e];show(if t<(n:Int)*gs.getD j 0 then wdN names fs gs j (t%gs.getD j 0)else[])++(wdN names fs gs j (t-(n:Int)*gs.getD j 0)++[])=_;rw[append_nil];by_cases c:t<(n:Int)*gs.getD j 0
  ·rw[if_pos c,if_pos (show t<(n:Int)*gs.getD j 0+gs.getD j 0 by omega),kI (k:=j) (t:=t-(n:Int)*gs.getD j 0) (.inl (by omega)),append_nil]
  ·rw[if_neg c,nil_append];by_cases c2:t<(n:Int)*gs.getD j 0+gs.getD j 0
   ·rw[if_pos c2];congr 1;have dm:=Int.emod_add_mul_ediv t (gs.getD j 0);have:t/gs.getD j 0=(n:Int):=by
     refine Int.le_antisymm (Int.lt_add_one_iff.mp ?_) ?_
     ·rw[Int.ediv_lt_iff_lt_mul (by omega),Int.add_mul,Int.one_mul];exact c2
     ·rw[Int.le_ediv_iff_mul_le (by omega)];omega
    rw[this,Int.mul_comm]at dm;omega
   ·rw[if_neg c2,kI (.inr (by omega))]
theorem j4i(B:BkD L names fs M gs){t:Int}:∀{k:Nat} {b:Int},k<fs.length->(LV (drawnPs names fs) gs k b).flatMap (wO fs t)=wdN names fs gs k (t-b):=by
 intro k
 induction k using Nat.strongRecOn with
 | ind k ih=>
  intro b hk;obtain⟨f,hf⟩:∃f,fs[k]?=some f:=⟨_,List.getElem?_eq_getElem hk⟩
  obtain⟨d1,_,d3⟩:=B.D.f k f hf;have gk:=B.D.g k hk;by_cases hc:f.comp
  case neg=>
   have h0:pcB (drawnPs names fs) gs k=[]:=Classical.byContradiction fun z=>hc ((Q3 B hf).mpr z)
   rw[Zs h0,flatMap_cons,flatMap_nil,append_nil];unfold wO wdN;rw[hf];by_cases c:0<=t-b/\t-b<gs.getD k 0
   ·rw[if_pos c];cases f with
    | ring y m=>
     rw[j38 B hf];show(if b=t then[y]else[])=_;by_cases c2:b=t
     ·rw[if_pos c2,if_pos (by omega)]
     ·rw[if_neg c2,if_neg (by omega)]
    | hold m=>rw[j03 B hf (fun _ _ z=>nomatch z) hc c.2]
    | rise y v m=>rw[j03 B hf (fun _ _ z=>nomatch z) hc c.2]
    | row is=>exact absurd trivial hc
    | side is=>exact absurd trivial hc
    | again m j=>exact absurd trivial hc
   ·rw[if_neg c];cases f with
    | ring y m=>
     show(if b=t then[y]else[])=_;exact if_neg (by omega)
    | hold m=>rfl
    | rise y v m=>rfl
    | row is=>exact absurd trivial hc
    | side is=>exact absurd trivial hc
    | again m j=>exact absurd trivial hc
  rw[Q0 B.wf ((Q3 B hf).mp hc),zk,Jr B.D B.hnm B.nd hf];have e1:((bgs gs b (pcsI gs (toldF names f) f.js)).flatMap fun x=>(LV (drawnPs names fs) gs x.1 x.2).flatMap (wO fs t))=(allB gs (t-b) f).flatMap fun x=>wdN names fs gs x.1 x.2:=by
   rw[<-Z6 (names:=names) hc (fun m j z=>by subst z;exact d1.1),List.flatMap_map];refine jV fun x hx=>?_
   have:=d1.js.2 _ (ZM B hf hc hx).1;exact ih x.1 this (by omega)
  rw[e1];generalize t-b=s;have gj:∀j∈f.js,1<=gs.getD j 0/\gs.getD j 0<=10^60:=fun j hj=>B.D.g j (by have:=d1.js.2 j hj;omega)
  have none_:(s<0\/gs.getD k 0<=s)->(∀x∈allB gs s f,x.2<=s/\(gs.getD k 0<=s->gs.getD x.1 0<=x.2))->((allB gs s f).flatMap fun x=>wdN names fs gs x.1 x.2)=wdN names fs gs k s:=fun h1 h2=>by
   rw[kI h1];refine List.flatMap_eq_nil_iff.mpr fun x hx=>kI ?_
   have:=h2 x hx;rcases h1 with z | z
   ·exact .inl (by omega)
   ·exact .inr (this.2 z)
  by_cases c:s<0\/gs.getD k 0<=s
  ·refine none_ c fun x hx=>?_
   rw[show s=s-0 by omega,<-Z6 (names:=names) hc (fun m j z=>by subst z;exact d1.1)]at hx;obtain⟨y,hy,rfl⟩:=mem_map.mp hx;obtain⟨_,p2,p3⟩:=ZM B hf hc hy;exact⟨by show s-y.2<=s;omega,fun z=>by show gs.getD y.1 0<=s-y.2;omega⟩
  have s0:0<=s:=by omega
  have s1:s<gs.getD k 0:=by omega
  have ek:wdN names fs gs k s=rgN names fs gs k s:=if_pos ⟨s0,s1⟩;rw[ek];cases f with
  | hold m=>exact hc.elim
  | ring x m=>exact hc.elim
  | rise x v m=>exact hc.elim
  | row is=>rw[j49 B.D B.hnm B.nd B.lnd B.l8 B.f61 hf s0 s1];exact j04
  | side is=>
   rw[j39 B.D B.hnm B.nd B.lnd B.l8 B.f61 hf s0 s1];show(is.map fun j=>(j,s)).flatMap _=_;rw[List.flatMap_map]
  | again m j=>
   have d3:gs.getD k 0=m*gs.getD j 0:=d3;rw[j20 B.D B.hnm B.nd B.lnd B.l8 B.f61 hf s0 s1];show((List.range m.toNat).map fun u:Nat=>(j,s-(u:Int)*gs.getD j 0)).flatMap _=_;rw[xr (gj j mem_cons_self).1 s0,if_pos (by rw[Int.toNat_of_nonneg (by have:=d1.1;omega)];omega)]
theorem j3i{T:Int}{u:Nat}(hu:(u:Int)<=T):∀(n:Nat) (xs:List (Nat×Int)),xs.length=n->(∀x∈xs,x.1<fs.length/\0<=x.2/\x.2<=T)->(wrdsN T (lvF (drawnPs names fs) xs))[u]?=some (xs.flatMap (wO fs u)):=by
 intro n
 induction n with
 | zero=>
  intro xs hn _;have:xs=[]:=length_eq_zero_iff.mp hn;subst this;show(List.replicate (T+1).toNat [])[u]?=_;rw[List.getElem?_replicate,if_pos (by omega)];rfl
 | succ n ih=>
  intro xs hn hx;rcases eq_nil_or_concat xs with rfl | ⟨ys,x,rfl⟩
  ·exact absurd hn (by simp)
  rw[concat_eq_append]at *;rw[List.length_append]at hn;have hn:ys.length=n:=by have:[x].length=1:=rfl;omega
  have h1:=ih ys hn fun y hy=>hx y (mem_append_left _ hy)
  obtain⟨x1,x2,x3⟩:=hx x (mem_append_right _ mem_cons_self);obtain⟨f,hf⟩:∃f,fs[x.1]?=some f:=⟨_,List.getElem?_eq_getElem x1⟩
  have es:wrdsN T (lvF (drawnPs names fs) (ys++[x]))=wrdS (wrdsN T (lvF (drawnPs names fs) ys)) (toldF names f,x.2):=by
   rw[WN,Y4 hf];unfold wrdsN;rw[foldl_append];rfl
  have il:=(List.getElem?_eq_some_iff.mp h1).1;rw[es,flatMap_append,flatMap_cons,flatMap_nil,append_nil];have no:(∀y m,f≠.ring y m)->(wrdS (wrdsN T (lvF (drawnPs names fs) ys)) (toldF names f,x.2))[u]?=some (ys.flatMap (wO fs u)++wO fs u x):=fun h=>by
   have e0:wO fs u x=[]:=by
    unfold wO;rw[hf];cases f<;>first | rfl | exact absurd rfl (h _ _)
   rw[e0,append_nil,<-h1];unfold wrdS;cases f<;>first | rfl | exact absurd rfl (h _ _)
  cases f with
  | ring y m=>
   have e0:wO fs u x=if x.2=(u:Int)then[y]else[]:=by
    unfold wO;rw[hf]
   rw[e0];show((wrdsN T (lvF (drawnPs names fs) ys)).set x.2.toNat ((wrdsN T (lvF (drawnPs names fs) ys)).getD x.2.toNat []++[y]))[u]?=_;by_cases c:x.2=(u:Int)
   ·rw[if_pos c,c,Int.toNat_natCast,List.getElem?_set_self il,getD_eq_getElem?_getD,h1];rfl
   ·rw[if_neg c,append_nil,List.getElem?_set_ne (by omega),h1]
  | hold m=>exact no fun _ _ z=>nomatch z
  | rise y v m=>exact no fun _ _ z=>nomatch z
  | row is=>exact no fun _ _ z=>nomatch z
  | side is=>exact no fun _ _ z=>nomatch z
  | again m j=>exact no fun _ _ z=>nomatch z
theorem YQ{α:Type}{F:α->List (Nat×Int)}{c:Int}{w:α->Int}:∀{xs:List α},(∀x∈xs,((F x).length:Int)<=c*w x)->((xs.flatMap F).length:Int)<=c*(xs.map w).sum
 | [],_=>by simp
 | x::r,h=>by
  have h1:=h x mem_cons_self;have h2:=YQ (xs:=r) fun y hy=>h y (mem_cons_of_mem _ hy)
  rw[flatMap_cons,List.length_append,map_cons,sum_cons,Int.mul_add];omega
theorem j2c(B:BkD L names fs M gs){k:Nat}{is:List Nat}(hf:fs[k]?=some (.side is)):(is.map fun j=>(M.getD j []).length).sum<=(M.getD k []).length:=by
 obtain⟨d1,d2,_⟩:=B.D.f k _ hf;have hk:=(List.getElem?_eq_some_iff.mp hf).1;have nd:∀is:List Nat,(∀j∈is,j<fs.length)->is.Pairwise (fun a b=>∀k∈M.getD a [],¬k∈M.getD b [])->(is.flatMap fun j=>M.getD j []).Nodup:=fun is=>by
  induction is with
  | nil=>exact fun _ _=>.nil
  | cons j r ih=>
   intro h1 h2;obtain⟨p1,p2⟩:=pairwise_cons.mp h2;rw[flatMap_cons];obtain⟨f,hf⟩:∃f,fs[j]?=some f:=⟨_,List.getElem?_eq_getElem (h1 j mem_cons_self)⟩
   refine nodup_append.mpr ⟨(B.D.f j f hf).2.1.1.imp fun h=>by omega,ih (fun k hk=>h1 k (mem_cons_of_mem _ hk)) p2,fun a ha b hb eab=>?_⟩;subst eab;obtain⟨j',hj',hk'⟩:=mem_flatMap.mp hb;exact p1 j' hj' a ha hk'
 have le:=len_sub (b:=M.getD k []) (nd is (fun j hj=>by have:=d1.2.2.1 j hj;omega) d1.2.2.2.2) fun x hx=>by
  obtain⟨j,hj,hx⟩:=mem_flatMap.mp hx;exact(d2.2 x).mpr (.inl ⟨j,hj,hx⟩)
 rw[length_flatMap]at le;exact le
theorem WX{gk:Int}(g0:0<=gk):∀{is:List Nat} {m g:Nat->Int},(∀j∈is,0<=m j/\g j<=gk)->(is.map fun j=>m j*g j).sum<=(is.map m).sum*gk
 | [],_,_,_=>by simp
 | j::r,m,g,h=>by
  have ih:=WX g0 (is:=r) (m:=m) (g:=g) fun k hk=>h k (mem_cons_of_mem _ hk)
  obtain⟨a,b⟩:=h j mem_cons_self;have:=Int.mul_le_mul_of_nonneg_left b a;rw[map_cons,map_cons,sum_cons,sum_cons,Int.add_mul];omega
theorem j3v(B:BkD L names fs M gs):∀{k:Nat} {b:Int},k<fs.length->((LV (drawnPs names fs) gs k b).length:Int)<=((max 1 (M.getD k []).length:Nat):Int)*gs.getD k 0:=by
 intro k
 induction k using Nat.strongRecOn with
 | ind k ih=>
  intro b hk;obtain⟨f,hf⟩:∃f,fs[k]?=some f:=⟨_,List.getElem?_eq_getElem hk⟩
  obtain⟨d1,d2,d3⟩:=B.D.f k f hf;have gk:=B.D.g k hk;have m1:1<=((max 1 (M.getD k []).length:Nat):Int):=by omega
  by_cases hc:f.comp
  case neg=>
   rw[Zs (Classical.byContradiction fun z=>hc ((Q3 B hf).mpr z))];have:=Int.mul_le_mul m1 gk.1 (by omega) (by omega);show((1:Nat):Int)<=_;omega
  rw[Q0 B.wf ((Q3 B hf).mp hc),Jr B.D B.hnm B.nd hf];have lt:=d1.js.2;have sub:∀j∈f.js,(M.getD j []).length<=(M.getD k []).length:=fun j hj=>by
   obtain⟨g,hg⟩:∃g,fs[j]?=some g:=⟨_,List.getElem?_eq_getElem (by have:=lt j hj;omega)⟩
   exact len_sub ((B.D.f j g hg).2.1.1.imp fun h=>by omega) fun x hx=>(d2.2 x).mpr (.inl ⟨j,hj,hx⟩)
  have each:∀x∈bgs gs b (pcsI gs (toldF names f) f.js),((LV (drawnPs names fs) gs x.1 x.2).length:Int)<=((max 1 (M.getD x.1 []).length:Nat):Int)*gs.getD x.1 0/\x.1∈f.js:=fun x hx=>by
   have h1:=(ZM B hf hc hx).1;have:=lt _ h1;exact⟨ih x.1 this (by omega),h1⟩
  have wide:∀x∈bgs gs b (pcsI gs (toldF names f) f.js),((LV (drawnPs names fs) gs x.1 x.2).length:Int)<=((max 1 (M.getD k []).length:Nat):Int)*gs.getD x.1 0:=fun x hx=>by
   obtain⟨a,h1⟩:=each x hx;have s:=sub _ h1;have g:=(B.D.g x.1 (by have:=lt _ h1;omega)).1;have:=Int.mul_le_mul_of_nonneg_right (show((max 1 (M.getD x.1 []).length:Nat):Int)<=((max 1 (M.getD k []).length:Nat):Int) by omega) (show 0<=gs.getD x.1 0 by omega);omega
  cases f with
  | hold m=>exact hc.elim
  | ring x m=>exact hc.elim
  | rise x v m=>exact hc.elim
  | row is=>
   have d3:gs.getD k 0=(is.map fun j=>gs.getD j 0).sum:=d3;refine Int.le_trans (YQ wide) (Int.le_of_eq ?_);rw[d3];congr 2;have:=K8 (gs:=gs) (b:=b) (t:=0) (is:=is) (c:=0);have e1:(bgs gs b (pcsI gs (toldF names (.row is)) (Fn.row is).js)).map (·.1)=is:=by
    have h:=congrArg (List.map (·.1)) this;rw[List.map_map]at h;refine Eq.trans h ?_;have go:∀(is:List Nat) s,(rowB gs is s).map (·.1)=is:=fun is=>by
     induction is with
     | nil=>exact fun _=>rfl
     | cons j r ih=>exact fun s=>by show j::_=_;rw[ih]
    exact go is _
   have em:∀l:List (Nat×Int),(l.map fun x=>gs.getD x.1 0)=(l.map (·.1)).map fun j=>gs.getD j 0:=fun l=>by rw[List.map_map];rfl
   rw[em,e1]
  | again m j=>
   have d3:gs.getD k 0=m*gs.getD j 0:=d3;refine Int.le_trans (YQ wide) (Int.le_of_eq ?_);rw[d3];congr 1;show((bgs gs b ((j,1,0)::(if 1<m then[(j,m-1,gs.getD j 0)]else[]))).map _).sum=_;rw[yO d1.1,List.map_map];have go:∀n:Nat,((List.range n).map ((fun x:Nat×Int=>gs.getD x.1 0)∘fun u:Nat=>(j,b+(u:Int)*gs.getD j 0))).sum=(n:Int)*gs.getD j 0:=fun n=>by
    induction n with
    | zero=>simp
    | succ n ih=>
     rw[range_succ,map_append,sum_append,ih,show((n+1:Nat):Int)=(n:Int)+1 from rfl,Int.add_mul,Int.one_mul];show _+(gs.getD j 0+0)=_;omega
   rw[go,Int.toNat_of_nonneg (by have:=d1.1;omega)]
  | side is=>
   obtain⟨_,d3⟩:=d3;have ne:=d1.2.2.2.1;have e0:bgs gs b (pcsI gs (toldF names (.side is)) (Fn.side is).js)=is.map fun j=>(j,b):=Z7
   rw[e0]at each|-;have h1:=YQ (F:=fun x:Nat×Int=>LV (drawnPs names fs) gs x.1 x.2) (c:=1) (w:=fun x=>((M.getD x.1 []).length:Int)*gs.getD x.1 0) (xs:=is.map fun j=>(j,b)) fun x hx=>by
    obtain⟨a,hj⟩:=each x hx;have:=length_pos_iff.mpr (ne x.1 hj);rw[show max 1 (M.getD x.1 []).length=(M.getD x.1 []).length by omega]at a;omega
   rw[Int.one_mul,List.map_map]at h1;have h2:=WX (gk:=gs.getD k 0) (by omega) (is:=is) (m:=fun j=>((M.getD j []).length:Int)) (g:=fun j=>gs.getD j 0) fun j hj=>⟨by omega,d3 j hj⟩
   have h3:=j2c B hf;have h4:(is.map fun j=>((M.getD j []).length:Int)).sum=(((is.map fun j=>(M.getD j []).length).sum:Nat):Int):=by
    have go:∀is:List Nat,(is.map fun j=>((M.getD j []).length:Int)).sum=(((is.map fun j=>(M.getD j []).length).sum:Nat):Int):=fun is=>by
     induction is with
     | nil=>rfl
     | cons j r ih=>rw[map_cons,sum_cons,map_cons,sum_cons,ih];omega
    exact go is
   rw[h4]at h2;have h5:=Int.mul_le_mul_of_nonneg_right (show(((is.map fun j=>(M.getD j []).length).sum:Nat):Int)<=((max 1 (M.getD k []).length:Nat):Int) by omega) (show 0<=gs.getD k 0 by omega);exact Int.le_trans h1 (Int.le_trans h2 h5)
end
end Rm
namespace L2
open PySem PySem.Spec PyProof.Rows
theorem j1M{X:Cx}(hu:X.A.units+64<cLine):OpR X (compareOp .Eq) (fun x y H Q=>∃(a b:Addr) (xs:List V),x = .ref a/\y = .ref b/\SqL X.K H a xs/\SqL X.K H b xs/\(∀v∈xs,(∃i,v = .int i)\/∃z,v = .str z)/\Q (.bl true) H):=by
 intro pins s σ H x y v u Q I rx ry h;obtain⟨a,b,xs,rfl,rfl,ea,eb,fl,q⟩:=h;cases rx;cases ry;obtain⟨its,r,pl,hz⟩:=I.list ea;obtain⟨its',r',pl',hz'⟩:=I.list eb;have l:=r.length;have l':=r'.length;have al:((List.range its.toArray.size).all fun _=>true)=true:=by simp
 refine SeqAt.eq_listAt (e:=fun _=>true) pl.isList pl'.isList (by simp;omega) (by omega) (fun j h1 h2=>?_) ⟨.bl true,H,I,by rw[al];rfl,q⟩;have h1:j<its.length:=by simpa using h1
 have h2:j<its'.length:=by simpa using h2
 obtain⟨x,hx⟩:∃x,xs[j]?=some x:=⟨_,List.getElem?_eq_getElem (by omega)⟩
 obtain⟨w,hw,rw⟩:=r.get hx;obtain⟨w',hw',rw'⟩:=r'.get hx;have e1:its.toArray[j]=w:=by have:=(List.getElem?_eq_some_iff.mp hw).2;simpa using this
 have e2:its'.toArray[j]=w':=by have:=(List.getElem?_eq_some_iff.mp hw').2;simpa using this
 rw[e1,e2];rcases fl x (List.mem_of_getElem? hx)with⟨i,rfl⟩ | ⟨z,rfl⟩
 ·obtain⟨t,rfl⟩:=rw;obtain⟨t',rfl⟩:=rw';have:=SeqAt.EqAt.int_int (A:=X.A.in1) (s:=s) i t i t'
  rwa [show(i==i)=true from beq_self_eq_true i]at this
 ·obtain⟨t,rfl⟩:=rw;obtain⟨t',rfl⟩:=rw';have:=SeqAt.EqAt.str_str (A:=X.A.in1) (s:=s) z t z t'
  rwa [show(z==z)=true from beq_self_eq_true z]at this
theorem j3W{X:Cx}(hu:X.A.units+64<cLine):OpR X (compareOp .Eq) (fun x y H Q=>∃(p q l1 l2 m1 m2:Addr) (as bs:List Addr),x = .ref p/\y = .ref q/\SqT X.K H p [.ref l1,.ref l2]/\SqT X.K H q [.ref m1,.ref m2]/\SqL X.K H l1 (as.map V.ref)/\SqL X.K H m1 (as.map V.ref)/\SqL X.K H l2 (bs.map V.ref)/\SqL X.K H m2 (bs.map V.ref)/\l1≠m1/\l2≠m2/\Q (.bl true) H):=by
 intro pins s σ H x y v u Q I rx ry h;obtain⟨p,q',l1,l2,m1,m2,as,bs,rfl,rfl,ep,eq,e1,f1,e2,f2,n1,n2,q⟩:=h;cases rx;cases ry;obtain⟨ip,rp,plp,_⟩:=I.tuple ep;obtain⟨iq,rq,plq,_⟩:=I.tuple eq;have zp:=Qa (as:=[l1,l2]) rp;have zq:=Qa (as:=[m1,m2]) rq;subst zp;subst zq;have lists:∀{a b:Addr} {cs:List Addr},SqL X.K H a (cs.map V.ref)->SqL X.K H b (cs.map V.ref)->a≠b->SeqAt.EqAt X.A.in1 s (.ref a) (.ref b) true:=fun {a b cs} h1 h2 ne=>by
  obtain⟨ia,ra,pa,_⟩:=I.list h1;obtain⟨ib,rb,pb,_⟩:=I.list h2;have za:=Qa ra;have zb:=Qa rb;subst za;subst zb;refine .of_refs ne ?_;have:=SeqAt.RcAt.lists (A:=X.A.in1) (s:=s) (e:=fun _=>true) pa.isList pb.isList rfl (by show X.A.units+1<cLine;omega) fun j h1 h2=>SeqAt.EqAt.same _
  rw[show∀n:Nat,((List.range n).all fun _=>true)=true from fun n=>all_eq_true.mpr fun _ _=>rfl]at this;exact this
 refine SeqAt.eq_tupleAt (e:=fun _=>true) plp plq (by omega) (fun j h1 h2=>?_) ⟨.bl true,H,I,rfl,q⟩;have h1:j<2:=h1
 match j,h1 with
 | 0,_=>exact lists e1 f1 n1
 | 1,_=>exact lists e2 f2 n2
end L2
namespace Rm
open PySem PySem.Spec PyProof.Rows L2
section
variable{L names:List Str}{fs:List Fn}{M:List (List Int)}{gs:List Int}{ls:List (Str×Int)}
theorem BkD.m8(B:BkD L names fs M gs){k:Nat}(hk:k<fs.length):(M.getD k []).length<=8:=by
 obtain⟨f,hf⟩:∃f,fs[k]?=some f:=⟨_,List.getElem?_eq_getElem hk⟩
 have:=len_sub (a:=M.getD k []) (b:=(List.range L.length).map fun i:Nat=>(i:Int)) ((B.D.f k f hf).2.1.1.imp fun h=>by omega) fun x hx=>by
  have:=B.D.bnd k hk x hx;exact mem_map.mpr ⟨x.toNat,mem_range.mpr (by omega),by omega⟩
 rw[length_map,length_range]at this;have:=B.l8;omega
theorem j3h(B:BkD L names fs M gs)(hL:nmsOf ls=L)(lh:∀q∈ls,0<=q.2/\q.2<=10^18){k:Nat}(hk:k<fs.length)(g300:gs.getD k 0<=300):(∀x∈LV (drawnPs names fs) gs k 0,0<=x.2/\x.2<=gs.getD k 0)/\LfOk ls (lvF (drawnPs names fs) (LV (drawnPs names fs) gs k 0)):=by
 have lb:∀x∈LV (drawnPs names fs) gs k 0,0<=x.2/\x.2<=gs.getD k 0:=fun x hx=>by
  obtain⟨a,b,c⟩:=Wu B hk x hx;have:=(B.D.g x.1 a).1;exact⟨b,by omega⟩
 refine⟨lb,⟨fun x hx=>?_,fun x hx y v n e=>?_,?_,by rw[hL];exact B.lnd,by have:=B.l8;rw[<-hL,nmsOf,length_map]at this;exact this,lh⟩⟩
 ·obtain⟨y,hy,rfl⟩:=mem_map.mp hx;have:=lb y hy;exact⟨this.1,by show y.2<=300;omega⟩
 ·obtain⟨z,hz,rfl⟩:=mem_map.mp hx;obtain⟨a,b,c⟩:=Wu B hk z hz;obtain⟨f,hf⟩:∃f,fs[z.1]?=some f:=⟨_,List.getElem?_eq_getElem a⟩
  have e:((drawnPs names fs).getD z.1 (⟨#[]⟩,.hold 0)).2 = .rise y v n:=e;rw[Y4 hf]at e;have ef:f = .rise y v n:=by
   cases f with
   | rise y' v' n'=>cases e;rfl
   | hold m=>exact nomatch e
   | ring y' m=>exact nomatch e
   | row is=>exact nomatch e
   | side is=>exact nomatch e
   | again m j=>exact nomatch e
  subst ef;obtain⟨⟨i,hi⟩,v0,v1,n1,_⟩:=(B.D.f z.1 _ hf).1;have gz:gs.getD z.1 0=n:=(B.D.f z.1 _ hf).2.2;exact⟨⟨i,by rw[hL];exact hi⟩,v0,v1,n1,by omega⟩
 ·unfold lvF;rw[length_map];have h1:=j3v B (b:=0) hk;have m8:=B.m8 hk;have g:=(B.D.g k hk).1;have:=Int.mul_le_mul (show((max 1 (M.getD k []).length:Nat):Int)<=8 by omega) g300 (by omega) (by omega);omega
theorem xp(B:BkD L names fs M gs)(hL:nmsOf ls=L){k:Nat}(hk:k<fs.length){n:Nat}{E:List (List (Int×Int))}(hn:k<n)(hn':n<=fs.length)(e:EN L fs n E){u:Nat}(hu:(u:Int)<=gs.getD k 0) :
  (rowsT ls (lvF (drawnPs names fs) (LV (drawnPs names fs) gs k 0)) (gs.getD k 0))[u]?=some (plN L names fs gs E k u (ls.map (·.2)),rgN names fs gs k u):=by
 have g:=(B.D.g k hk).1;have cl:(colsN ls (lvF (drawnPs names fs) (LV (drawnPs names fs) gs k 0))).length=ls.length:=by
  have:∀(ys:List (Fm×Int)) C,(ys.foldl (colS (nmsOf ls)) C).length=C.length:=fun ys=>by
   induction ys with
   | nil=>intro C;rfl
   | cons y r ih=>intro C;rw[foldl_cons,ih,WA]
  unfold colsN;rw[this,length_map]
 unfold rowsT;rw[List.getElem?_map,List.getElem?_range (by omega)];show some (_,_)=some (_,_);congr 2
 ·refine List.ext_getElem? fun i=>?_
  by_cases hi:i<ls.length
  ·obtain⟨x0,hx0⟩:∃x,ls[i]?=some x:=⟨_,List.getElem?_eq_getElem hi⟩
   obtain⟨c,h1,h2⟩:=j0f B hL hk hn hn' e hx0 hu;rw[List.getElem?_map,h1,<-h2];show some ((stayC c (gs.getD k 0)).getD u 0)=_;have sl:=ZC (c:=c) (b:=gs.getD k 0);rw[getD_eq_getElem?_getD,List.getElem?_eq_getElem (by omega)];rfl
  ·rw[List.getElem?_eq_none (by rw[length_map];omega),List.getElem?_eq_none (by rw[j1S,length_map];omega)]
 ·have lb:=Wu B (b:=0) hk;rw[getD_eq_getElem?_getD,j3i (names:=names) hu _ _ rfl fun x hx=>⟨(lb x hx).1,(lb x hx).2.1,by have:=(lb x hx).2.2;have:=(B.D.g x.1 (lb x hx).1).1;omega⟩,j4i B hk,Int.sub_zero];show wdN names fs gs k u=_;by_cases c:(u:Int)<gs.getD k 0
  ·unfold wdN;rw[if_pos ⟨by omega,c⟩]
  ·rw[kI (.inr (by omega)),show(u:Int)=gs.getD k 0 by omega,Q6 g]
end
end Rm
theorem L2.fsc{N P:List PySem.Str}{sc:PySem.Scope}(a:sc.kind = .function:=by rfl)(b:sc.isCoroutine=false:=by rfl)(c:sc.isGenerator=false:=by rfl)(d:N.Nodup:=by decide +kernel)(e:N.take P.length=P:=by rfl)(f:∀x∈P,sc.names.lookup x=some .local\/sc.names.lookup x=some .cell:=by decide +kernel)(g:∀y∈sc.names,y.2≠.free:=by decide +kernel):L2.FnScope N P sc:=⟨a,b,c,d,e,f,g⟩
structure PySem.W.Fast:Prop where
  (tw4900795336003297916 tw14969675547774674162 tw11403131884358197505 tw1564620400851302828 tw17792599729004110384 tw7636541065021267728 tw4597875397911735673 tw4177476142817420012 tw8265747960514251946 tw7264913875423454560 tw15751087104796825984 tw6249167165220690627 tw10175529683831962352 tw1681406877014881745 tw1533733772152077916 tw10258724716291406928 tw8018113605388187503 tw7168545222269060917 tw16366371005154337015 tw16266490805780848137 tw3822674334435260460 tw2935582877825018294 tw3840750464546554769 tw2002084965896549319 tw13454386374691532545 tw7220969264555987936 tw7328163030887234282 tw3799656888855779731 tw14713382492788789814 tw17523595583558149093 tw17118337097339839747 tw13387497269795597575 tw379156697585955657 tw18082328957152294979 tw323694145266581089 tw284413015529317779 tw12737760181441960806 tw14188171204433264781 tw1941536586083724300 tw9851880887274102077 tw7893630461492823390 tw2369192699591591482 tw16394773912313724253 tw6052246541816054225 tw7889290277960420965 tw13619349904134429920 tw7873315235610987921 tw1292910663401730473 tw4977894949682474255 tw13682603280311096861 tw4109560457012515257 tw6354528078275476477 tw12910156486552486226 tw12454397317133076460 tw6543205565556576924 tw7948058891395445924 tw1969089467767733479 tw955642672952988047 tw13823575149204343688 tw13777889238846759728 tw12282243651959872272 tw8120876096293582040 tw1670209627100995129 tw1127745726767468381 tw10986671607587239476 tw18047610407566934021 tw16918800953434590205 tw14083012824982120217 tw8817586021021306368 tw8911619563779826158 tw16824275269370992951 tw1692829985506317075 tw8971752421175752172 tw16257459672800878366 tw13056141627074233853 tw13369695352938756187 tw14658718398012359195 tw451200384273936946 tw8127004967099689899 tw14333547306274141553 tw7005817216289593248 tw15138984496093196310 tw6478836765928433420 tw7716893599701721714 tw5703609723871008216 tw7098931083205650488 tw12672294985939877425 tw6405965994642108287 tw2220107134682860573 tw16270413754889731304 tw3352145814486440285 tw14011923128119828530 tw8693752233390338039 tw15098626665596985152 tw365183882004014461 tw6922454744548181152 tw8812387479034042809 tw1396282250703436280 tw13218702308427468844 tw13205071762610759295 tw15634118368774271484 tw11415981434461435113 tw15302609960513655165 tw1984717635345689 tw2659900453981067978 tw4157656828024248695 tw6381389046204366725 tw5243487001452120935 tw18203100394108584346 tw3196367321618840139 tw5619776905824491414 tw14663259909251918955 tw15095808843086957041 tw12555781275805478216 tw13923007511126194683 tw3748372361322940842 tw14329510645168983553 tw4012602982931009087 tw5980899188156729240 tw13692730908611185423 tw13520004190672626216 tw2138466982244457536 tw5390496311749382202 tw14334238202685891466 tw11188487161583536937 tw4297153309857068250 tw6239413481082671784 tw12301445063126476174 tw6959201497616005255 tw1170839172227177966 tw11632974836753343351 tw16307846819397136881 tw9069403660801145072 tw5020457728640067948 tw15666859401158348432 tw13389490368939205065 tw16249726478255919961 tw3030427168397119883 tw14622507290407244100 tw5986964612168132812 tw3736519097840609040 tw15197430207916602961 tw678323653327456439 tw8704692364670260577 tw8755887139900032807 tw7487781425356381205 tw3556541477718940585 tw4706995964064852692 tw54418122525555458 tw12282984769085972171 tw15788829914870065523 tw4553439161735931212 tw15323288471693874557 tw3689746061696891671 tw2112879700357483709 tw9122433724240888298 tw1118397454923382246 tw2468760658468999623 tw4633983448629561719 tw12351279957722495377 tw1941558556595428881 tw8699203869045462440 tw7646644115024694571 tw1220830177527818945 tw13197822292916708970 tw13071573710009795059 tw4378094484032238185 tw5553626055905258115 tw3845119147128419183 tw5501880091495862381 tw3494013666395438147 tw8755784299275452815 tw8963966627013215011 tw14659779341112007110 tw7336873964560796941 tw13253125202808080964 tw12408234628533624825 tw10263820049656083953 tw10509048652985211734 tw4090633006594970202 tw2593171554163514348 tw14430078580134309496 tw2530577798626565812 tw9490969977758559600 tw13467895233235396117 tw14836800230756882716 tw11570117383984936320 tw15281787349013947389 tw4965274073167872431 tw8358822720485862472 tw2557907093600342556 tw15334824195957936880 tw4615363837081168321 tw4539397432123932770 tw16255335993754868713 tw15969909649220012729 tw7413713493636838319 tw6151879243458529704 tw5774111731244409968 tw18084092158748807171 tw9867841974356923395 tw16733165870340549187 tw18172831887908304078 tw180273975729917844 tw5876737176228376152 tw11511206238111783721 tw7723306380673070958 tw14188201865182782592 tw15205638864395761682 tw6170302232960019955 tw15168771314940671799:True)
theorem Rm.iteE0{b:Bool}{A B:Prop}(h:B)(e:b=false:=by decide +kernel):if b=true then A else B:=Rm.iteB0 e h
theorem Rm.iteE1{b:Bool}{A B:Prop}(h:A)(e:b=true:=by decide +kernel):if b=true then A else B:=Rm.iteB1 e h
namespace K18
open PySem L2 Rm
noncomputable def top(i:Nat):Stmt:=PySem.Challenge.pw_camplay_k18_stand_as_told.main.body.getD i (.Pass ⟨0,0,0,0⟩)
noncomputable abbrev zI:Stmt:=top 9
theorem Qc:FnScope ["named","numbers","number","one"] ["named"] (defScope zI):=fsc
noncomputable abbrev ZR:Stmt:=top 10
theorem xf:FnScope ["form"] ["form"] (defScope ZR):=fsc
noncomputable abbrev YM:Stmt:=top 12
theorem Zq:FnScope ["book","numbers","found","name","form"] ["book"] (defScope YM):=fsc
noncomputable abbrev Xs:Stmt:=top 13
theorem Q9:FnScope ["book","limbs","found","part","inside","form","left","other"] ["book"] (defScope Xs):=fsc
noncomputable abbrev YO:Stmt:=top 14
theorem kx:FnScope ["book","found","left"] ["book"] (defScope YO):=fsc
noncomputable abbrev QF:Stmt:=top 15
theorem zh:FnScope ["row","moves","limbs","number","limb"] ["row","moves","limbs"] (defScope QF):=fsc
noncomputable abbrev Zn:Stmt:=top 16
theorem We:FnScope ["form","inside"] ["form","inside"] (defScope Zn):=fsc
noncomputable abbrev zr:Stmt:=top 17
theorem qo:FnScope ["book","moves","found","row","inside","form","length"] ["book"] (defScope zr):=fsc
noncomputable abbrev Xt:Stmt:=top 19
theorem j3b:FnScope ["start","goal","beats","j"] ["start","goal","beats","j"] (defScope Xt):=fsc
noncomputable abbrev Zo:Stmt:=top 21
theorem JL:FnScope ["form","inside","sizes","part","later","found","begin"] ["form","inside","sizes"] (defScope Zo):=fsc
noncomputable abbrev Q8:Stmt:=top 22
theorem Wf:FnScope ["book","sizes"] ["book","sizes"] (defScope Q8):=fsc
noncomputable abbrev ZS:Stmt:=top 23
theorem J0:FnScope ["pieces","sizes","gone","found","part","turns","begin","over","rest"] ["pieces","sizes","gone"] (defScope ZS):=fsc
noncomputable abbrev ku:Stmt:=top 25
theorem QN:FnScope ["pieces","sizes","gone","found","part","begin","over","rest"] ["pieces","sizes","gone"] (defScope ku):=fsc
noncomputable abbrev JJ:Stmt:=(inClass (top 26) 0)
theorem yz:FnScope ["self","book"] ["self","book"] (defScope JJ):=fsc
noncomputable abbrev zf:Stmt:=(inClass (top 26) 1)
theorem Jl:FnScope ["self","beat","starts","playing","todo","now","limb","height"] ["self","beat"] (defScope zf):=fsc
noncomputable abbrev qm:Stmt:=(inClass (top 26) 2)
theorem jN:FnScope ["self","beat","scene","heights","part","gone","form","limb"] ["self","beat"] (defScope qm):=fsc
noncomputable abbrev qX:Stmt:=(inClass (top 26) 3)
theorem Jx:FnScope ["self","beat","words","part","gone","form"] ["self","beat"] (defScope qX):=fsc
noncomputable abbrev Wa:Stmt:=top 27
theorem j2a:FnScope ["book","beat"] ["book","beat"] (defScope Wa):=fsc
noncomputable abbrev w6:Stmt:=top 28
theorem j29:FnScope ["book","beat"] ["book","beat"] (defScope w6):=fsc
noncomputable abbrev yy:Stmt:=top 30
theorem zt:FnScope ["pieces","sizes","beat","found","part","turns","begin"] ["pieces","sizes","beat"] (defScope yy):=fsc
noncomputable abbrev wZ:Stmt:=top 31
theorem Zp:FnScope ["book","sizes","pieces","found","todo","now"] ["book","sizes"] (defScope wZ):=fsc
noncomputable abbrev Xu:Stmt:=top 32
theorem j3c:FnScope ["column","beat"] ["column","beat"] (defScope Xu):=fsc
noncomputable abbrev YL:Stmt:=top 33
theorem xc:FnScope ["column","goal","beats","start"] ["column","goal","beats"] (defScope YL):=fsc
noncomputable abbrev QG:Stmt:=top 34
theorem JB:FnScope ["book","leaves","last","limbs","columns","form","begin","column"] ["book","leaves","last"] (defScope QG):=fsc
noncomputable abbrev qk:Stmt:=top 35
theorem qc:FnScope ["leaves","last","words","form","begin"] ["leaves","last"] (defScope qk):=fsc
noncomputable abbrev Wb:Stmt:=top 36
theorem zc:FnScope ["book","sizes","last","leaves","columns","found","beat","words"] ["book"] (defScope Wb):=fsc
noncomputable abbrev Zj:Stmt:=top 38
theorem zJ:FnScope ["_law_script","_law_k","_law_number"] ["_law_script","_law_k"] (defScope Zj):=fsc
noncomputable abbrev zH:Stmt:=top 39
theorem jC:FnScope ["_law_cell_here","_law_many","_law_letters","_law_long_here","_law_at","_law_seed","_law_base","_law_k","_law_spot","_law_names_here","_law_sign","_law_more"] ["_law_cell_here","_law_many"] (defScope zH):=fsc
noncomputable abbrev QE:Stmt:=top 40
theorem qj:FnScope ["_law_form_here","_law_limbs","_law_movers","_law_found","_law_k"] ["_law_form_here","_law_limbs","_law_movers"] (defScope QE):=fsc
noncomputable abbrev Qu:Stmt:=top 41
theorem Wc:FnScope ["_law_form_here","_law_longs"] ["_law_form_here","_law_longs"] (defScope Qu):=fsc
noncomputable abbrev QD:Stmt:=top 42
theorem qi:FnScope ["_law_movers","_law_some","_law_found","_law_taken","_law_k"] ["_law_movers","_law_some"] (defScope QD):=fsc
noncomputable abbrev Zl:Stmt:=top 43
theorem qb:FnScope ["_law_cell_here","_law_seed","_law_number","_law_turn"] ["_law_cell_here"] (defScope Zl):=fsc
noncomputable abbrev Zm:Stmt:=top 44
theorem yA:FnScope ["_law_pool_here","_law_many","_law_found"] ["_law_pool_here","_law_many"] (defScope Zm):=fsc
noncomputable abbrev Q7:Stmt:=top 45
theorem jX:FnScope ["_law_pool_here","_law_limbs","_law_words","_law_movers","_law_pace","_law_kind","_law_word","_law_many","_law_some","_law_apart_here","_law_times","_law_limb","_law_most","_law_height"] ["_law_pool_here","_law_limbs","_law_words","_law_movers","_law_pace"] (defScope Q7):=fsc
noncomputable abbrev Zk:Stmt:=top 46
theorem qS:FnScope ["_law_longs","_law_most","_law_some","_law_total","_law_k"] ["_law_longs","_law_most"] (defScope Zk):=fsc
noncomputable abbrev qa:Stmt:=top 47
theorem yB:FnScope ["_law_form_here","_law_names_here"] ["_law_form_here","_law_names_here"] (defScope qa):=fsc
noncomputable abbrev qz:Stmt:=top 48
theorem jH:FnScope ["_law_script","_law_many","_law_pace","_law_most","_law_names_here","_law_first","_law_limbs","_law_forms","_law_movers","_law_longs","_law_k","_law_pool_here","_law_form_here","_law_heights","_law_parts"] ["_law_script","_law_many","_law_pace","_law_most"] (defScope qz):=fsc
noncomputable abbrev zG:Stmt:=top 49
theorem zg:FnScope ["_law_found","_law_due","_law_one","_law_other"] ["_law_found","_law_due"] (defScope zG):=fsc
noncomputable abbrev j26:Stmt:=top 50
theorem qf:FnScope ["_law_script","_law_many","_law_book_here","_law_forms","_law_movers","_law_longs","_law_handed","_law_rows","_law_beats","_law_beat","_law_heights","_law_words","_law_found","_law_last"] ["_law_script"] (defScope j26):=fsc
set_option genInjectivity false in
set_option genSizeOf false in
structure Ad where
 Ju:Addr
 Jv:FuncData
 QO:Addr
 QQ:FuncData
 zC:Addr
 zD:FuncData
 yM:Addr
 yR:FuncData
 Z2:Addr
 yd:FuncData
 qF:Addr
 qM:FuncData
 Qk:Addr
 Qr:FuncData
 QJ:Addr
 QK:FuncData
 yN:Addr
 yS:FuncData
 Ql:Addr
 Qs:FuncData
 qv:Addr
 qy:FuncData
 QP:Addr
 QR:FuncData
 zX:Addr
 Zb:FuncData
 j4:Addr
 Jh:FuncData
 JQ:Addr
 JR:FuncData
 Ji:Addr
 Jk:FuncData
 JD:Addr
 JF:FuncData
 Z4:Addr
 yf:FuncData
 Z3:Addr
 ye:FuncData
 zW:Addr
 Za:FuncData
 Z0:Addr
 ya:FuncData
 YV:Addr
 Y1:FuncData
 Z1:Addr
 yc:FuncData
 qG:Addr
 qN:FuncData
 JM:Addr
 JN:FuncData
 YW:Addr
 Y2:FuncData
 qt:Addr
 qw:FuncData
 qE:Addr
 qL:FuncData
 qD:Addr
 qK:FuncData
 Qh:Addr
 Qo:FuncData
 qC:Addr
 qJ:FuncData
 Qj:Addr
 Qq:FuncData
 qu:Addr
 qx:FuncData
 Qg:Addr
 Qn:FuncData
 Qi:Addr
 Qp:FuncData
 JE:Addr
 JG:FuncData
 Qf:Addr
 Qm:FuncData
 qB:Addr
 qI:FuncData
 XJ:Addr
 WB:FuncData
 jM:Addr
 qd:Addr
structure Txt(K:Frg)(mg:Str->Option Value)(t:Ad):Prop where
 qA:Fun K "numbers_of" "numbers_of" zI t.Ju t.Jv
 QC:mg "numbers_of"= some (.ref t.Ju)
 Qx:Binds K t.Jv ["named"] []
 YR:Fun K "names_in" "names_in" ZR t.QO t.QQ
 xY:mg "names_in"= some (.ref t.QO)
 xw:Binds K t.QQ ["form"] []
 Yz:Fun K "inner" "inner" YM t.zC t.zD
 wB:mg "inner"= some (.ref t.zC)
 KW:Binds K t.zD ["book"] []
 xz:Fun K "ends" "ends" Xs t.yM t.yR
 j1r:mg "ends"= some (.ref t.yM)
 j0U:Binds K t.yR ["book"] []
 XH:Fun K "moved" "moved" YO t.Z2 t.yd
 j2P:mg "moved"= some (.ref t.Z2)
 j2t:Binds K t.yd ["book"] []
 ZY:Fun K "check_side" "check_side" QF t.qF t.qM
 wz:mg "check_side"= some (.ref t.qF)
 KS:Binds K t.qM ["row","moves","limbs"] []
 Yk:Fun K "length_of" "length_of" Zn t.Qk t.Qr
 WR:mg "length_of"= some (.ref t.Qk)
 Wp:Binds K t.Qr ["form","inside"] []
 yJ:Fun K "lengths" "lengths" zr t.QJ t.QK
 Kz:mg "lengths"= some (.ref t.QJ)
 Kb:Binds K t.QK ["book"] []
 xA:Fun K "ramp" "ramp" Xt t.yN t.yS
 j1s:mg "ramp"= some (.ref t.yN)
 j0V:Binds K t.yS ["start","goal","beats","j"] []
 Yl:Fun K "pieces_in" "pieces_in" Zo t.Ql t.Qs
 WS:mg "pieces_in"= some (.ref t.Ql)
 Wq:Binds K t.Qs ["form","inside","sizes"] []
 zP:Fun K "pieces_of" "pieces_of" Q8 t.qv t.qy
 Yq:mg "pieces_of"= some (.ref t.qv)
 Yg:Binds K t.qy ["book","sizes"] []
 YS:Fun K "progress" "progress" ZS t.QP t.QR
 xZ:mg "progress"= some (.ref t.QP)
 xy:Binds K t.QR ["pieces","sizes","gone"] []
 Wt:Fun K "within" "within" ku t.zX t.Zb
 j1u:mg "within"= some (.ref t.zX)
 j0X:Binds K t.Zb ["pieces","sizes","gone"] []
 yH:Fun K "__init__" "Stage.__init__" JJ t.j4 t.Jh
 X4:Meth K t.jM "__init__" t.j4
 zi:Binds K t.Jh ["self","book"] []
 kL:Fun K "scene" "Stage.scene" zf t.JQ t.JR
 Ze:Meth K t.jM "scene" t.JQ
 ZF:Binds K t.JR ["self","beat"] []
 ZI:Fun K "heights_at" "Stage.heights_at" qm t.Ji t.Jk
 ZD:Meth K t.jM "heights_at" t.Ji
 ZH:Binds K t.Jk ["self","beat"] []
 yI:Fun K "words_at" "Stage.words_at" qX t.JD t.JF
 yo:Meth K t.jM "words_at" t.JD
 yF:Binds K t.JF ["self","beat"] []
 KZ:Fun K "stand" "stand" Wa t.Z4 t.yf
 X3:mg "stand"= some (.ref t.Z4)
 XE:Binds K t.yf ["book","beat"] []
 KY:Fun K "rings" "rings" w6 t.Z3 t.ye
 X2:mg "rings"= some (.ref t.Z3)
 XD:Binds K t.ye ["book","beat"] []
 Wr:Fun K "begins" "begins" yy t.zW t.Za
 j1q:mg "begins"= some (.ref t.zW)
 j0T:Binds K t.Za ["pieces","sizes","beat"] []
 XF:Fun K "begun" "begun" wZ t.Z0 t.ya
 j2N:mg "begun"= some (.ref t.Z0)
 j2r:Binds K t.ya ["book","sizes"] []
 xB:Fun K "stay" "stay" Xu t.YV t.Y1
 j1t:mg "stay"= some (.ref t.YV)
 j0W:Binds K t.Y1 ["column","beat"] []
 XG:Fun K "climb" "climb" YL t.Z1 t.yc
 j2O:mg "climb"= some (.ref t.Z1)
 j2s:Binds K t.yc ["column","goal","beats"] []
 ZZ:Fun K "columns_of" "columns_of" QG t.qG t.qN
 wA:mg "columns_of"= some (.ref t.qG)
 KU:Binds K t.qN ["book","leaves","last"] []
 zL:Fun K "words_by_beat" "words_by_beat" qk t.JM t.JN
 Yy:mg "words_by_beat"= some (.ref t.JM)
 Yv:Binds K t.JN ["leaves","last"] []
 j0Y:Fun K "told" "told" Wb t.YW t.Y2
 j3S:mg "told"= some (.ref t.YW)
 j3u:Binds K t.Y2 ["book"] []
 qp:Fun K "_law_cell" "_law_cell" Zj t.qt t.qw
 Qt:mg "_law_cell"= some (.ref t.qt)
 Qd:Binds K t.qw ["_law_script","_law_k"] []
 ZX:Fun K "_law_names" "_law_names" zH t.qE t.qL
 wy:mg "_law_names"= some (.ref t.qE)
 KR:Binds K t.qL ["_law_cell_here","_law_many"] []
 zx:Fun K "_law_moves" "_law_moves" QE t.qD t.qK
 yn:mg "_law_moves"= some (.ref t.qD)
 ZV:Binds K t.qK ["_law_form_here","_law_limbs","_law_movers"] []
 QY:Fun K "_law_long" "_law_long" Qu t.Qh t.Qo
 Zd:mg "_law_long"= some (.ref t.Qh)
 zN:Binds K t.Qo ["_law_form_here","_law_longs"] []
 ZW:Fun K "_law_apart" "_law_apart" QD t.qC t.qJ
 wx:mg "_law_apart"= some (.ref t.qC)
 KQ:Binds K t.qJ ["_law_movers","_law_some"] []
 zO:Fun K "_law_pool" "_law_pool" Zl t.Qj t.Qq
 Yp:mg "_law_pool"= some (.ref t.Qj)
 Yf:Binds K t.Qq ["_law_cell_here"] []
 jE:Fun K "_law_take" "_law_take" Zm t.qu t.qx
 jK:mg "_law_take"= some (.ref t.qu)
 jI:Binds K t.qx ["_law_pool_here","_law_many"] []
 Yi:Fun K "_law_form" "_law_form" Q7 t.Qg t.Qn
 WP:mg "_law_form"= some (.ref t.Qg)
 Wn:Binds K t.Qn ["_law_pool_here","_law_limbs","_law_words","_law_movers","_law_pace"] []
 Yj:Fun K "_law_play" "_law_play" Zk t.Qi t.Qp
 WQ:mg "_law_play"= some (.ref t.Qi)
 Wo:Binds K t.Qp ["_law_longs","_law_most"] []
 zj:Fun K "_law_told_form" "_law_told_form" qa t.JE t.JG
 yY:mg "_law_told_form"= some (.ref t.JE)
 yG:Binds K t.JG ["_law_form_here","_law_names_here"] []
 Yh:Fun K "_law_book" "_law_book" qz t.Qf t.Qm
 WO:mg "_law_book"= some (.ref t.Qf)
 Wm:Binds K t.Qm ["_law_script","_law_many","_law_pace","_law_most"] []
 zw:Fun K "_law_alike" "_law_alike" zG t.qB t.qI
 ym:mg "_law_alike"= some (.ref t.qB)
 ZU:Binds K t.qI ["_law_found","_law_due"] []
 j3k:Fun K "law" "law" j26 t.XJ t.WB
 j4n:mg "law"= some (.ref t.XJ)
 j4v:Binds K t.WB ["_law_script"] []
 jP:Cls K t.jM
 XI:Mk K t.jM t.j4
 WT:mg "Stage"= some (.ref t.jM)
 JT:NoAttr K t.jM "limbs"
 JS:NoAttr K t.jM "first"
 Jy:NoAttr K t.jM "forms"
 jW:NoAttr K t.jM "sizes"
 J3:NoAttr K t.jM "left"
 JH:NoAttr K t.jM "pieces"
 j3B:mg "bool"= none
 j3C:mg "dict"= none
 Q1:mg "enumerate"= none
 j4j:mg "int"= none
 qH:mg "isinstance"= none
 JW:mg "len"= none
 zY:mg "list"= none
 j11:mg "max"= none
 j3m:mg "min"= none
 J1:mg "range"= none
 xG:mg "reversed"= none
 Wx:mg "sorted"= none
 j3n:mg "str"= none
 j3o:mg "sum"= none
 j2y:mg "tuple"= none
 XM:mg "zip"= none
 wc:mg "MOST_NAMES"= some (.ref t.qd)
 J2:TabK K t.qd [("row",.flat (.int 8)),("side",.flat (.int 4))]
section
variable{P:Program}{w:World}{K:Frg}{mg:Str->Option Value}{base:Heap}{t:Ad}
theorem kU(T:Txt K mg t):FnOk P w K mg base CX0 1 t.Ju t.Jv ["named"] (sp_numbers_of):=by
 refine T.qA.ok Qc (fun vs H Q E h=>?_) (fun cdv A outer s H vs Q E hr h=>?_)
 ·cases h;subst_vars;rfl
 obtain⟨l,as,xs,rfl,el,hl,ha,nd,h100,q⟩:=h;refine⟨_,(jb (jm (i:=1) Qc.nd rfl (.inl rfl) W3)
  (jb (j7 PassesOwn.never rfl (YI (by rfl) T.Q1 (ja (pv 0) jc)) (Jz rfl (jq (jk (i:=2) Qc.nd rfl (.inl rfl)) (jq (jk (i:=3) Qc.nd rfl (.inl rfl)) jZ)))
   (jf (j02 (Kt hr) (pv 1) (ji jo (pv 3) jd) (pv 2) rfl)))
  (jf (jw (pv 1))))),?_⟩
 refine jx (σ':=[some _,none,none,none]) rfl ?_;have sz:(200:Nat)<sizeLine:=by decide
 walk_at"g";walk_at"f d hd H1 s1 t1";exists⟨l,_,rfl,SqL.of (s1 _ _ el),?_⟩;refine yi (xs:=as.map V.ref) (fun i σ H'=>∃o2 o3:Option V,σ=[some (.ref l),some (.ref d),o2,o3]/\Same H H'/\H' d=some (.dK (numK (xs.take i)))) ⟨_,_,rfl,s1,t1⟩ ?_ ?_ ?_
 ·rintro i σ H' _ ⟨o2,o3,rfl,sm,ed⟩;exact SqL.of (sm _ _ el)
 ·rintro i v σ H' P H'' hx ⟨o2,o3,rfl,sm,ed⟩ sP tP;rw[List.getElem?_map]at hx;obtain⟨a,ea,rfl⟩:=Option.map_eq_some_iff.mp hx;have hi:=(List.getElem?_eq_some_iff.mp ea).1;have ex:xs[i]?=some xs[i]:=List.getElem?_eq_getElem (by omega);obtain⟨r,er⟩:=ha i a _ ea ex;have s2:=sm.trans sP;have tl:(xs.take i).length=i:=by rw[length_take];omega
  refine JV (SqT.of tP) ?_;exists ixTm (SqT.of (s2 _ _ er)) rfl ?_;refine⟨d,_,rfl,DPut.k (k:=Sum.inr xs[i]) (sP _ _ ed) (by rw[j1E,tl];omega),?_⟩;have hk:(Sum.inr xs[i]:Key)∉(numK (xs.take i)).map (·.1):=fun z=>by
   rw[KE]at z;obtain⟨y,hy,e⟩:=mem_map.mp z;have e':y=xs[i]:=Sum.inr.inj e;subst e';obtain⟨j,hj,e⟩:=mem_iff_getElem.mp hy;rw[List.getElem_take]at e;rw[tl]at hj;exact absurd e (pairwise_iff_getElem.mp nd j i (by omega) (by omega) hj)
  refine⟨_,_,rfl,fun b u h=>(jh (je h hd)).trans (s2 _ _ h),?_⟩;rw[jr,j1W hk,take_snoc ex,j0A,tl]
 rintro σ' H' ⟨o2,o3,rfl,sm,ed⟩;rw[length_map,hl,take_length]at ed;walk_at"g";exact q d H' sm hd ed
theorem W0(T:Txt K mg t):FnOk P w K mg base CX0 1 t.QO t.QQ ["form"] (sp_names_in):=by
 refine T.YR.ok xf (fun vs H Q E h=>?_) (fun cdv A outer s H vs Q E hr h=>?_)
 ·cases h;subst_vars;rfl
 obtain⟨a,f,rfl,hF,q⟩:=h;refine⟨_,(jb (jS (jt j3Y (ji jo (pv 0) jd) (j35 (v:=.ref t.qd) (by rfl) T.wc rfl) (by with_unfolding_all rfl))
   (jf (jw (ji jo (pv 0) jd)))
   ju)
  (jf (jw (kj (jt Jn (ji jo (pv 0) jd) jL (nomark _)) (Zg j4b (pv 0) (Q5 jd) YJ) (Ja jc))))),?_⟩
 refine jx (σ':=[some _]) rfl ?_;have sz:(200:Nat)<sizeLine:=by decide
 cases f with
 | hold n=>
  have ha:H a=some (.tup _):=hF;exists ixTm (SqT.of ha) rfl ?_;exists⟨_,_,_,rfl,rfl,T.J2,?_⟩;exists iteE0 ?_;exists ixTm (SqT.of ha) rfl ?_;exists iteE0 ?_;exists⟨Nat.zero_le _,?_⟩;walk_at"f b hb H1 s1 t1";exact q b H1 s1 t1
 | ring x n=>
  have ha:H a=some (.tup _):=hF;exists ixTm (SqT.of ha) rfl ?_;exists⟨_,_,_,rfl,rfl,T.J2,?_⟩;exists iteE0 ?_;exists ixTm (SqT.of ha) rfl ?_;exists iteE0 ?_;exists⟨Nat.zero_le _,?_⟩;walk_at"f b hb H1 s1 t1";exact q b H1 s1 t1
 | rise x v n=>
  have ha:H a=some (.tup _):=hF;exists ixTm (SqT.of ha) rfl ?_;exists⟨_,_,_,rfl,rfl,T.J2,?_⟩;exists iteE0 ?_;exists ixTm (SqT.of ha) rfl ?_;exists iteE0 ?_;exists⟨Nat.zero_le _,?_⟩;walk_at"f b hb H1 s1 t1";exact q b H1 s1 t1
 | row ps=>
  obtain⟨b,ha,hb⟩:=hF;exists ixTm (SqT.of ha) rfl ?_;exists⟨_,_,_,rfl,rfl,T.J2,?_⟩;exists iteE1 ?_;exists ixTm (SqT.of ha) rfl ?_;exact q b H (Same.refl _) hb
 | side ps=>
  obtain⟨b,ha,hb⟩:=hF;exists ixTm (SqT.of ha) rfl ?_;exists⟨_,_,_,rfl,rfl,T.J2,?_⟩;exists iteE1 ?_;exists ixTm (SqT.of ha) rfl ?_;exact q b H (Same.refl _) hb
 | again k x=>
  have ha:H a=some (.tup _):=hF;exists ixTm (SqT.of ha) rfl ?_;exists⟨_,_,_,rfl,rfl,T.J2,?_⟩;exists iteE0 ?_;exists ixTm (SqT.of ha) rfl ?_;exists iteE1 ?_;exists⟨a,_,rfl,SqT.of ha,(by show¬(HT.sIx 3 0 (some 2)=0/\HT.sIx 3 3 none=3);decide),?_⟩;walk_at"f b hb H1 s1 t1";exact q b H1 s1 t1
theorem j1H(T:Txt K mg t)(jR:FnOk P w K mg base CX0 1 t.Ju t.Jv ["named"] (sp_numbers_of))(ZJ:FnOk P w K mg base CX0 1 t.QO t.QQ ["form"] (sp_names_in)):FnOk P w K mg base CX0 2 t.zC t.zD ["book"] (sp_inner):=by
 refine T.Yz.ok Zq (fun vs H Q E h=>?_) (fun cdv A outer s H vs Q E hr h=>?_)
 ·cases h;subst_vars;rfl
 obtain⟨b,pl,pp,las,pas,ls,ps,rfl,B,W,q⟩:=h;refine⟨_,(jb (jm (i:=1) Zq.nd rfl (.inr rfl) (jn (jR.mono (by decide)) hr (by rfl) T.QC T.qA.kp T.Qx .nil pass0 (ja (ji jo (pv 0) jd) jc)))
  (jb (jm (i:=2) Zq.nd rfl (.inl rfl) (jF jc))
  (jb (j7 PassesOwn.never rfl (jG (ji jo (pv 0) jd)) (Jz rfl (jq (jk (i:=3) Zq.nd rfl (.inl rfl)) (jq (jk (i:=4) Zq.nd rfl (.inl rfl)) jZ)))
   (jf (jB (Jf PySem.F.plainAttrs_list PySem.F.slot_list_append PySem.F.type_list_append jA (pv 2) (ja (JC (ow:=["other"]) (ci:=[1]) rfl (CompScope.of (defScope YM) ["book","numbers","found","name","form"] rfl rfl (by decide +kernel)) (Jw (by decide)) (j43 (jn (ZJ.mono (by decide)) hr (by rfl) T.xY T.YR.kp T.xw .nil pass0 (ja (pv 4) jc))) (fun _ _ _ _ _=>⟨(jk (i:=0) (j5 ["book","numbers","found","name","form"] rfl (by decide +kernel)) rfl (.inl rfl)),JK,(YF (Kt hr) (pv 1) (pv 0))⟩)) jc)))))
  (jf (jw (pv 2)))))),?_⟩
 refine jx (σ':=[some _,none,none,none,none]) rfl ?_;have sz:(200:Nat)<sizeLine:=by decide
 have p61:=W.p61;have pa:=B.pa.1;exists ixTm (SqT.of B.t) rfl ?_;exists⟨pp,pas,nmsOf ps,rfl,B.p,by rw[nmsOf,length_map];exact pa,fun i a x ea ex=>?_,W.pn,by rw[nmsOf,length_map];omega,fun d H1 s1 hd ed=>?_⟩
 ·unfold nmsOf at ex;rw[List.getElem?_map]at ex;obtain⟨p,ep,rfl⟩:=Option.map_eq_some_iff.mp ex;obtain⟨fb,hb,_⟩:=B.pa.2 i a p ea ep;exact⟨_,hb⟩
 exists⟨Nat.zero_le _,?_⟩;walk_at"f l hl H2 s2 t2";have nl:=none_of s1 hl;have s12:=s1.trans s2;exists ixTm (SqT.of (s12 _ _ B.t)) rfl ?_;refine⟨pp,rfl,⟨_,SqL.of (s12 _ _ B.p)⟩,?_⟩;refine j9 (xs:=pas.map V.ref) (fun i σ H'=>∃(as:List Addr) (o3 o4:Option V),σ=[some (.ref b),some (.ref d),some (.ref l),o3,o4]/\Same H1 H'/\H' l=some (.lst (as.map V.ref))/\(∀a∈as,H a=none/\a≠l)/\ListsAt H' as ((ps.take i).map fun p=>(inP ps p.2).map fun j:Nat=>(j:Int)))
  ⟨[],_,_,rfl,s2,t2,(fun a h=>nomatch h),.nil⟩ ?_ ?_ ?_
 ·rintro i σ H' _ ⟨as,o3,o4,rfl,sm,e1,na,la⟩;exact SqL.of ((s1.trans sm) _ _ B.p)
 ·rintro i x σ H' hx ⟨as,o3,o4,rfl,sm,e1,na,la⟩;obtain⟨a,p,rfl,hp,fb,hat,hf⟩:=B.pa.at_ref hx;have hi:=(List.getElem?_eq_some_iff.mp hp).1;have s0:=s1.trans sm;obtain⟨wn,w8⟩:=W.f i p hp;have lal:=la.1;rw[length_map,length_take]at lal;refine JV (SqT.of (s0 _ _ hat)) ?_;exists⟨.inl ⟨rfl,_,SqL.of e1⟩,?_⟩;exists⟨fb,p.2,rfl,FormAt.same s0 hf,fun c H3 s3 hc=>?_⟩;refine⟨c,rfl,⟨_,SqT.of hc⟩,?_⟩;refine j17 (xs:=p.2.ns.map V.str) (fun j ys H'=>ys=((p.2.ns.take j).map fun x=>(ixOf (nmsOf ps) x:Int)).map V.int/\H3=H') ⟨rfl,rfl⟩ ?_ ?_ ?_
  ·rintro j ys H' _ ⟨rfl,rfl⟩;exact SqT.of hc
  ·rintro j x ys H' hx ⟨rfl,rfl⟩;rw[List.getElem?_map]at hx;obtain⟨y,ey,rfl⟩:=Option.map_eq_some_iff.mp hx;have hj:=(List.getElem?_eq_some_iff.mp ey).1;obtain⟨k,hk,ek⟩:=wn y (List.mem_of_getElem? ey);refine Jc (σ':=[none,some _]) rfl ?_;exists iteT ?_;walk_at"g";have g:DGet H3 d (.str y) (some (.int (k:Nat))):=by
    have g:=DGet.k (k:=Sum.inr y) ((sm.trans s3) _ _ ed);rw[yp W.pn ek]at g;exact g
   refine⟨d,_,rfl,g,?_⟩;refine⟨by rw[length_map,length_map,length_take];omega,?_,rfl⟩;rw[take_snoc ey,map_append,map_append,<-Jm W.pn ek];rfl
  rintro ys H' ⟨rfl,rfl⟩;rw[show(p.2.ns.map V.str).length=p.2.ns.length from length_map _,take_length];refine⟨by rw[length_map,length_map];omega,?_⟩;walk_at"f 4 t";have s34:=s3.trans s4;exists⟨l,_,_,rfl,rfl,s34 _ _ e1,by rw[length_map];omega,?_⟩;have hne:p4≠l:=(je (s3 _ _ e1) hp4).symm;have n4:H p4=none:=none_of (s0.trans s3) hp4;refine⟨as++[p4],_,_,rfl,fun c u h=>(jh (je h hl)).trans ((sm.trans s34) _ _ h),?_,fun c hc'=>?_,?_⟩
  ·rw[jr,map_append];rfl
  ·rcases mem_append.mp hc' with e | e
   ·exact na c e
   ·rw[mem_singleton.mp e];exact⟨n4,hne⟩
  ·rw[take_snoc hp,map_append];refine All2.snoc (All2.monoM la fun c hc' ks h=>(jh (na c hc').2).trans (s34 _ _ h)) ?_;have eq:List.map (fun j:Nat=>(j:Int)) (inP ps p.2)=p.2.ns.map fun x=>(ixOf (nmsOf ps) x:Int):=by
    unfold inP;rw[List.map_map];rfl
   show upd H4 l _ p4=some (.lst (List.map V.int (List.map (fun j:Nat=>(j:Int)) (inP ps p.2))));rw[jh hne,t4,eq]
 rintro σ' H3 ⟨as,o3,o4,rfl,sm,e1,na,la⟩;rw[length_map,pa,take_length]at la;walk_at"g";exact q l as H3 (s1.trans sm) nl e1 (fun a ha=>(na a ha).1) la
theorem j2X(T:Txt K mg t)(jR:FnOk P w K mg base CX0 1 t.Ju t.Jv ["named"] (sp_numbers_of))(QA:FnOk P w K mg base CX0 2 t.zC t.zD ["book"] (sp_inner)):FnOk P w K mg base CX0 3 t.yM t.yR ["book"] (sp_ends):=by
 refine T.xz.ok Q9 (fun vs H Q E h=>?_) (fun cdv A outer s H vs Q E hr h=>?_)
 ·cases h;subst_vars;rfl
 obtain⟨b,pl,pp,las,pas,ls,ps,rfl,B,W,q⟩:=h;refine⟨_,(jb (jm (i:=1) Q9.nd rfl (.inl rfl) (jn (jR.mono (by decide)) hr (by rfl) T.QC T.qA.kp T.Qx .nil pass0 (ja (ji jo (pv 0) jd) jc)))
  (jb (jm (i:=2) Q9.nd rfl (.inl rfl) (jF jc))
  (jb (j7 PassesOwn.never rfl (Xp (by rfl) T.XM (ja (ji jo (pv 0) jd) (ja (jn (QA.mono (by decide)) hr (by rfl) T.wB T.Yz.kp T.KW .nil pass0 (ja (pv 0) jc)) jc))) (Jz rfl (jq (jk (i:=3) Q9.nd rfl (.inl rfl)) (jq (jk (i:=4) Q9.nd rfl (.inl rfl)) jZ)))
   (jb (jm (i:=5) Q9.nd rfl (.inl rfl) (ji jo (pv 3) jd))
   (jb (jm (i:=6) Q9.nd rfl (.inl rfl) W3)
   (jb (ze (jt Jn (ji jo (pv 5) jd) jL (nomark _))
    (jf (j02 (Kt hr) (pv 6) (YF (Kt hr) (pv 1) (ji jo (pv 5) jd)) (ji jo (pv 5) jd) rfl))
    ju)
   (jb (j7 PassesOwn.never rfl (jG (pv 4)) (jk (i:=7) Q9.nd rfl (.inl rfl))
    (jf (jB (Jf PySem.F.plainAttrs_dict PySem.F.slot_dict_update PySem.F.type_dict_update j0z (pv 6) (ja (QM (xI rfl) (by rfl) T.j3C j2B (ja (ji jv (pv 2) (pv 7)) jc)) jc)))))
   (jf (jB (Jf PySem.F.plainAttrs_list PySem.F.slot_list_append PySem.F.type_list_append jA (pv 2) (ja (jy (we rfl) (by rfl) T.Wx Kh (ja (Xj PySem.F.plainAttrs_dict PySem.F.slot_dict_items PySem.F.type_dict_items j1A (pv 6)) jc)) jc)))))))))
  (jf (jw (pv 2)))))),?_⟩
 refine jx (σ':=[some _,none,none,none,none,none,none,none]) rfl ?_;have sz:(200:Nat)<sizeLine:=by decide
 have p61:=W.p61;have l8:=W.l8;have pa:=B.pa.1;have la:=B.la.1;exists ixTm (SqT.of B.t) rfl ?_;exists⟨pl,las,nmsOf ls,rfl,B.l,by rw[nmsOf,length_map];exact la,fun i a x ea ex=>?_,W.ln,by rw[nmsOf,length_map];omega,fun d H1 s1 hd ed=>?_⟩
 ·unfold nmsOf at ex;rw[List.getElem?_map]at ex;obtain⟨p,ep,rfl⟩:=Option.map_eq_some_iff.mp ex;exact⟨_,B.la.2 i a p ea ep⟩
 exists⟨Nat.zero_le _,?_⟩;walk_at"f l hl H2 s2 t2";have nl:=none_of s1 hl;have s12:=s1.trans s2;have ndl:d≠l:=je ed hl;exists ixTm (SqT.of (s12 _ _ B.t)) rfl ?_;exists⟨b,pl,pp,las,pas,ls,ps,rfl,B.same s12,W,fun li ias H3 s3 hli eli nia lia=>?_⟩;walk_at"g";have s13:=s12.trans s3;have lial:=lia.1;rw[length_map]at lial;have nli:li≠l:=fun z=>by rw[z,t2]at hli;cases hli
 refine⟨pp,li,_,_,rfl,SqL.of (s13 _ _ B.p),SqL.of eli,?_⟩;have npl:∀{c u},H c=some u->c≠l:=fun h=>je h nl
 have t3:H3 l=some (.lst []):=s3 _ _ t2;refine XV (xs:=pas.map V.ref) (ys:=ias.map V.ref) (fun i σ H'=>∃(as:List Addr) (E:List (List (Int×Int))) (o3 o4 o5 o6 o7:Option V),σ=[some (.ref b),some (.ref d),some (.ref l),o3,o4,o5,o6,o7]/\(∀c u,c≠l->H3 c=some u->H' c=some u)/\H' l=some (.lst (as.map V.ref))/\(∀a∈as,H a=none/\a≠l)/\E.length=i/\EndsAt H' as E/\EndOk ls ps E)
  (by rw[length_map,length_map];omega) ⟨[],[],_,_,_,_,_,rfl,fun c u _ h=>h,t3,(fun a h=>nomatch h),rfl,.nil,fun i p e _ h=>by simp at h⟩ ?_ ?_ ?_
 ·rintro i σ H' _ ⟨as,E,o3,o4,o5,o6,o7,rfl,sm,e1,na,lE,aE,oE⟩;exact⟨SqL.of (sm _ _ (npl B.p) (s13 _ _ B.p)),SqL.of (sm _ _ nli eli)⟩
 ·rintro i u v σ H' P H4 hu hv ⟨as,E,o3,o4,o5,o6,o7,rfl,sm,e1,na,lE,aE,oE⟩ sP tP;obtain⟨a,p,rfl,hp,fb,hat,hf⟩:=B.pa.at_ref hu;obtain⟨ia,is,rfl,his,hia⟩:=lia.at_ref hv;rw[List.getElem?_map,hp]at his;cases his;have hi:=(List.getElem?_eq_some_iff.mp hp).1;have iam:ia∈ias:=by
   rw[List.getElem?_map]at hv;obtain⟨a',ea,e'⟩:=Option.map_eq_some_iff.mp hv;injection e' with e';subst e';exact List.mem_of_getElem? ea
  have nial:ia≠l:=fun z=>by have:=nia ia iam;rw[z,t2]at this;cases this
  have k4:∀c u,c≠l->H3 c=some u->H4 c=some u:=fun c u hc h=>sP _ _ (sm _ _ hc h)
  have hat4:H4 a=_:=k4 _ _ (npl hat) (s13 _ _ hat);have hia4:H4 ia=_:=k4 _ _ nial hia;have ed4:H4 d=_:=k4 _ _ ndl (s3 _ _ (s2 _ _ ed));have e14:=sP _ _ e1;have hf4:FormAt H4 fb p.2:=by
   have h0:=FormAt.same s13 hf;generalize p.2=f at h0;have np:∀{c:Addr} {xs:List V},H3 c=some (.tup xs)->c≠l:=fun h=>j1C h t3 (fun z=>by cases z)
   cases f with
   | row ps=>obtain⟨c,h1,h2⟩:=h0;exact⟨c,k4 _ _ (np h1) h1,k4 _ _ (np h2) h2⟩
   | side ps=>obtain⟨c,h1,h2⟩:=h0;exact⟨c,k4 _ _ (np h1) h1,k4 _ _ (np h2) h2⟩
   | hold n=>exact k4 _ _ (np h0) h0
   | ring x n=>exact k4 _ _ (np h0) h0
   | rise x g n=>exact k4 _ _ (np h0) h0
   | again x n=>exact k4 _ _ (np h0) h0
  have w8:=(W.f i p hp).2;have wr:=fun x h n (e:p.2 = .rise x h n)=>W.r i p.1 x h n (by rw[hp,<-e])
  have inl:=fun j=>W.inP_lt (j:=j) hp
  have bnd:=yg W (by omega) oE;have elen:∀(j:Nat) (e:List (Int×Int)),E[j]?=some e->e.length<=8:=fun j e h=>WF W (by omega) oE h
  refine JV (SqT.of tP) ?_;exists ixTm (SqT.of hat4) rfl ?_;walk_at"g";walk_at"f dl hdl H5 s5 t5";exists⟨fun σ' H6=>σ'=[some (.ref b),some (.ref d),some (.ref l),some (.ref a),some (.ref ia),some (.ref fb),some (.ref dl),o7]/\Same H4 H6/\H6 dl=some (.dK ((kv0 ls p.2).map iiK)),?_,?_⟩
  rotate_left
  ·by_cases hr':∃x h n,p.2 = .rise x h n
   ·obtain⟨x,h,n,e⟩:=hr';rw[e]at hf4;have hf5:H5 fb=some (.tup [.str "raise",.str x,.int h,.int n]):=s5 _ _ hf4;obtain⟨j,hj⟩:=wr x h n e;exists ixTm (SqT.of hf5) rfl ?_;exists iteE1 ?_;exists ixTm (SqT.of hf5) rfl ?_;exists ixTm (SqT.of hf5) rfl ?_;have g:DGet H5 d (.str x) (some (.int (j:Nat))):=by
     have g:=DGet.k (k:=Sum.inr x) (s5 _ _ ed4);rw[yp W.ln hj]at g;exact g
    refine⟨d,_,rfl,g,?_⟩;refine⟨dl,_,rfl,DPut.k (k:=Sum.inl (j:Int)) t5 (by show 0<sizeLine;omega),?_⟩;refine⟨rfl,fun c u h=>(jh (je h hdl)).trans (s5 _ _ h),?_⟩;rw[jr,e];show _=some (HO.dK [iiK ((ixOf (nmsOf ls) x:Nat),h)]);rw[Jm W.ln hj];rfl
   ·obtain⟨k,xs,hk,dk⟩:=WL hf4 fun x v n e=>hr' ⟨x,v,n,e⟩
    exists ixTm (SqT.of (s5 _ _ hk)) (at0) ?_;exists iteB0 dk ?_;exists⟨rfl,s5,?_⟩;rw[j2J fun x v n e=>hr' ⟨x,v,n,e⟩];exact t5
  rintro σ' H6 ⟨rfl,s6,t6⟩;walk_at"g";have hia6:=s6 _ _ hia4;have nlist:∀{c u},H4 c=some u->c≠dl:=fun h=>je h hdl
  refine⟨ia,rfl,⟨_,SqL.of hia6⟩,?_⟩;refine j9 (xs:=((inP ps p.2).map fun j:Nat=>(j:Int)).map V.int) (fun t σ H7=>∃(kvs:List (Int×Int)) (o7:Option V),σ=[some (.ref b),some (.ref d),some (.ref l),some (.ref a),some (.ref ia),some (.ref fb),some (.ref dl),o7]/\Same H4 H7/\H7 dl=some (.dK (kvs.map iiK))/\(kvs.map (·.1)).Nodup/\∀k v,(k,v)∈kvs↔LastIn E ((inP ps p.2).take t) k v\/(k,v)∈kv0 ls p.2)
   ⟨_,_,rfl,s6,t6,j3Q _,fun k v=>⟨.inr,fun h=>h.elim (fun⟨pre,j,post,e,_⟩=>by cases pre<;>simp at e) id⟩⟩ ?_ ?_ ?_
  ·rintro t σ H7 _ ⟨kvs,o7,rfl,s7,t7,nd7,m7⟩;exact SqL.of (s7 _ _ hia4)
  ·rintro t x σ H7 hx ⟨kvs,o7,rfl,s7,t7,nd7,m7⟩;rw[List.getElem?_map,List.getElem?_map]at hx;obtain⟨jj,hjj,rfl⟩:=Option.map_eq_some_iff.mp hx;obtain⟨j,hj,rfl⟩:=Option.map_eq_some_iff.mp hjj;have jlt:=inl j (List.mem_of_getElem? hj);have e0:kv0 ls p.2=[]:=by
    rcases j3P (ps:=ps) (ls:=ls) p.2 with z | z
    ·rw[z]at hj;simp at hj
    ·exact z
   rw[e0]at m7;have hE:E[j]?=some (E.getD j []):=by rw[getD_eq_getElem?_getD,List.getElem?_eq_getElem (by omega)];rfl
   obtain⟨aj,haj,bs,hbs,prs⟩:=aE.get hE;have ndE:((E.getD j []).map (·.1)).Nodup:=((oE j _ _ (List.getElem?_eq_getElem (by omega)) hE).1).imp fun h=>Int.ne_of_lt h
   have e8:=elen j _ hE;have k8:kvs.length<=8:=by
    have z:=Zx (n:=ls.length) nd7 fun k hk=>by
     obtain⟨q',hq',rfl⟩:=mem_map.mp hk;rcases(m7 q'.1 q'.2).mp hq' with⟨pre,i',post,_,hin,_⟩ | hin
     ·exact bnd i' _ hin
     ·exact nomatch hin
    rw[length_map]at z;omega
   exists⟨.inr (.inr (.inl ⟨rfl,.inl ⟨_,t7⟩⟩)),?_⟩;exists ixLm (SqL.of (s7 _ _ e14)) (jY (i:=(j:Int)) (by omega) haj) ?_;exists⟨aj,bs,E.getD j [],rfl,s7 _ _ (sP _ _ hbs),prs.1,fun i' c q' h1 h2=>s7 _ _ (sP _ _ (prs.2 i' c q' h1 h2)),?_⟩;walk_at"f d2 hd2 H8 s8 t8";walk_at"g";rw[show([]:List (Key×V))=([]:List (Int×Int)).map iiK from rfl,ZO,Xd ndE]at t8;have n2:dl≠d2:=je t7 hd2;refine⟨dl,d2,_,_,rfl,rfl,s8 _ _ t7,t8,n2,by rw[length_map,length_map];omega,?_⟩;rw[ZO];obtain⟨mn,mm⟩:=KB nd7 ndE;refine⟨mergeI kvs (E.getD j []),_,rfl,fun c u h=>(jh (nlist h)).trans (s8 _ _ (s7 _ _ h)),jr,mn,fun k v=>?_⟩;rw[mm,m7,e0,take_snoc hj,j0r];constructor
   ·rintro(h | ⟨h1,h | h⟩)
    ·exact .inl (.inl h)
    ·exact .inl (.inr ⟨h1,h⟩)
    ·exact nomatch h
   ·rintro((h | ⟨h1,h⟩) | h)
    ·exact .inl h
    ·exact .inr ⟨h1,.inl h⟩
    ·exact nomatch h
  rintro σ' H7 ⟨kvs,o7',rfl,s7,t7,nd7,m7⟩;rw[length_map,length_map,take_length]at m7;have k8:kvs.length<=8:=by
   have z:=Zx (n:=ls.length) nd7 fun k hk=>by
    obtain⟨q',hq',rfl⟩:=mem_map.mp hk;rcases(m7 q'.1 q'.2).mp hq' with⟨pre,i',post,_,hin,_⟩ | hin
    ·exact bnd i' _ hin
    ·obtain⟨x,n,e,ek⟩:=wD.mp hin;obtain⟨j,hj⟩:=wr x _ n e;have h3:=XY (List.mem_of_getElem? hj);have h4:(nmsOf ls).length=ls.length:=length_map _;rw[ek];omega
   rw[length_map]at z;omega
  exists⟨.inl ⟨rfl,_,SqL.of (s7 _ _ e14)⟩,?_⟩;exists⟨.inr (.inr (.inl ⟨rfl,.inl ⟨_,t7⟩⟩)),dl,_,rfl,rfl,t7,?_⟩;walk_at"f vw hvw H8 s8 t8";exists⟨vw,dl,kvs,rfl,t8,s8 _ _ t7,by omega,fun r cs ms H9 s9 hr9 e9 n9 perm pw len tup=>?_⟩;walk_at"g";have asl:=aE.1;refine⟨l,_,_,rfl,rfl,s9 _ _ (s8 _ _ (s7 _ _ e14)),by rw[length_map];omega,?_⟩;have s49:=s7.trans (s8.trans s9);have nrl:r≠l:=(je (s8 _ _ (s7 _ _ e14)) hr9).symm;have nr:H r=none:=by
   cases z:H r with
   | none=>rfl
   | some u=>rw[s8 _ _ (s7 _ _ (k4 _ _ nrl (s13 _ _ z)))]at hr9;cases hr9
  have ntl:∀{c:Addr} {xs:List V},H9 c=some (.tup xs)->c≠l:=fun h=>j1C h (s49 _ _ e14) (fun z=>by cases z)
  refine⟨as++[r],E++[ms],_,_,_,_,_,rfl,fun c u hc h=>(jh hc).trans (s49 _ _ (k4 _ _ hc h)),?_,fun c hc=>?_,by rw[List.length_append,lE];rfl,?_,?_⟩
  ·rw[jr,map_append];rfl
  ·rcases mem_append.mp hc with z | z
   ·exact na c z
   ·rw[mem_singleton.mp z];exact⟨nr,nrl⟩
  ·refine All2.snoc (All2.monoM aE fun c hc e h=>?_) ?_
   ·obtain⟨bs,hbs,prs⟩:=h;refine⟨bs,(jh (na c hc).2).trans (s49 _ _ (sP _ _ hbs)),All2.mono prs fun c' q' h'=>?_⟩;have h9:=s49 _ _ (sP _ _ h');exact(jh (ntl h9)).trans h9
   ·exact⟨cs,(jh nrl).trans e9,len,fun i' c q' h1 h2=>(jh (ntl (tup i' c q' h1 h2))).trans (tup i' c q' h1 h2)⟩
  ·refine EndOk.snoc W oE (p:=p) (by rw[lE];exact hp) ?_ fun k v=>?_
   ·exact KK (perm.map _) nd7 pw
   ·rw[perm.mem_iff,m7];exact⟨fun h=>h.imp id wD.mp,fun h=>h.imp id wD.mpr⟩
 rintro σ' H' ⟨as,E,o3,o4,o5,o6,o7,rfl,sm,e1,na,lE,aE,oE⟩;rw[length_map]at lE;walk_at"g";exact q l as E H' (fun c u h=>sm _ _ (npl h) (s13 _ _ h)) nl e1 (fun a ha=>(na a ha).1) (by omega) aE oE
theorem j1I(T:Txt K mg t)(yK:FnOk P w K mg base CX0 3 t.yM t.yR ["book"] (sp_ends)):FnOk P w K mg base CX0 4 t.Z2 t.yd ["book"] (sp_moved):=by
 refine T.XH.ok kx (fun vs H Q E h=>?_) (fun cdv A outer s H vs Q E hr h=>?_)
 ·cases h;subst_vars;rfl
 obtain⟨b,pl,pp,las,pas,ls,ps,rfl,B,W,q⟩:=h;refine⟨_,(jb (jm (i:=1) kx.nd rfl (.inl rfl) (jF jc))
  (jb (j7 PassesOwn.never rfl (jG (jn (yK.mono (by decide)) hr (by rfl) T.j1r T.xz.kp T.j0U .nil pass0 (ja (pv 0) jc))) (jk (i:=2) kx.nd rfl (.inl rfl))
   (jf (jB (Jf PySem.F.plainAttrs_list PySem.F.slot_list_append PySem.F.type_list_append jA (pv 1) (ja (JC (ow:=["limb","height"]) (ci:=[]) rfl (CompScope.of (defScope YO) ["book","found","left"] rfl rfl (by decide +kernel)) (yk (by decide) (by decide)) (jG (pv 2)) (fun _ _ _ _ _=>⟨(Jz rfl (jq (jk (i:=0) (j5 ["book","found","left"] rfl (by decide +kernel)) rfl (.inl rfl)) (jq (jk (i:=1) (j5 ["book","found","left"] rfl (by decide +kernel)) rfl (.inl rfl)) jZ))),JK,(pv 0)⟩)) jc)))))
  (jf (jw (pv 1))))),?_⟩
 refine jx (σ':=[some _,none,none]) rfl ?_;have sz:(200:Nat)<sizeLine:=by decide
 have p61:=W.p61;exists⟨Nat.zero_le _,?_⟩;walk_at"f l hl H1 s1 t1";exists⟨b,pl,pp,las,pas,ls,ps,rfl,B.same s1,W,fun e as E H2 s2 he ee ne lE aE oE=>?_⟩;have aE1:=aE.1;have s12:=s1.trans s2;have l2:H2 l=some (.lst []):=s2 _ _ t1;have nle:l≠e:=fun z=>by rw[z,he]at t1;cases t1
 refine⟨e,rfl,⟨_,SqL.of ee⟩,?_⟩;refine j9 (xs:=as.map V.ref) (fun i σ H'=>∃(cs:List Addr) (o2:Option V),σ=[some (.ref b),some (.ref l),o2]/\(∀c u,c≠l->H2 c=some u->H' c=some u)/\H' l=some (.lst (cs.map V.ref))/\(∀c∈cs,H1 c=none/\c≠l)/\ListsAt H' cs ((E.take i).map fun e=>e.map (·.1)))
  ⟨[],_,rfl,fun c u _ h=>h,l2,(fun c h=>nomatch h),.nil⟩ ?_ ?_ ?_
 ·rintro i σ H' _ ⟨cs,o2,rfl,sm,e1,na,la⟩;exact SqL.of (sm _ _ nle.symm ee)
 ·rintro i x σ H' hx ⟨cs,o2,rfl,sm,e1,na,la⟩;obtain⟨a,ev,rfl,hev,bs,hbs,prs⟩:=aE.at_ref hx;have hi:=(List.getElem?_eq_some_iff.mp hev).1;have lal:=la.1;rw[length_map,length_take]at lal;have am:a∈as:=by
   rw[List.getElem?_map]at hx;obtain⟨a',ea,e'⟩:=Option.map_eq_some_iff.mp hx;injection e' with e';subst e';exact List.mem_of_getElem? ea
  have nal:a≠l:=fun z=>by have:=ne a am;rw[z,t1]at this;cases this
  have hb':H' a=some (.lst (bs.map V.ref)):=sm _ _ nal hbs;have evl:=(oE i _ ev (List.getElem?_eq_getElem (by omega)) hev).1;have ev100:=WF W (by omega) oE hev;exists⟨.inl ⟨rfl,_,SqL.of e1⟩,?_⟩;exists⟨a,rfl,⟨_,SqL.of hb'⟩,?_⟩;refine j6 (xs:=bs.map V.ref) (fun j ys H''=>ys=((ev.take j).map (·.1)).map V.int/\H'=H'') ⟨rfl,rfl⟩ ?_ ?_ ?_
  ·rintro j ys H'' _ ⟨rfl,rfl⟩;exact SqL.of hb'
  ·rintro j x ys H'' hx2 ⟨rfl,rfl⟩;obtain⟨c,kv,rfl,hkv,ht⟩:=prs.at_ref hx2;have hj:=(List.getElem?_eq_some_iff.mp hkv).1;have ncl:c≠l:=fun z=>by rw[z,l2]at ht;cases ht
   refine Jc (σ':=[none,none]) rfl ?_;refine JV (SqT.of (sm _ _ ncl ht)) ?_;exists iteT ?_;exists⟨by rw[length_map,length_map,length_take];omega,?_,rfl⟩;rw[take_snoc hkv,map_append,map_append];rfl
  rintro ys H'' ⟨rfl,rfl⟩;rw[show(bs.map V.ref).length=ev.length by rw[length_map];exact prs.1,take_length];refine⟨by rw[length_map,length_map];omega,?_⟩;walk_at"f 4 t";exists⟨l,_,_,rfl,rfl,s4 _ _ e1,by rw[length_map];omega,?_⟩;have hne:p4≠l:=(je e1 hp4).symm;have n4:H1 p4=none:=by
   cases z:H1 p4 with
   | none=>rfl
   | some u=>rw[sm _ _ hne (s2 _ _ z)]at hp4;cases hp4
  refine⟨cs++[p4],_,rfl,fun c u hc h=>(jh hc).trans (s4 _ _ (sm _ _ hc h)),?_,fun c hc=>?_,?_⟩
  ·rw[jr,map_append];rfl
  ·rcases mem_append.mp hc with z | z
   ·exact na c z
   ·rw[mem_singleton.mp z];exact⟨n4,hne⟩
  ·rw[take_snoc hev,map_append];exact All2.snoc (All2.monoM la fun c hc ks h=>(jh (na c hc).2).trans (s4 _ _ h)) ((jh hne).trans t4)
 rintro σ' H3 ⟨cs,o2,rfl,sm,e1,na,la⟩;rw[length_map,aE1,take_length]at la;exists q l cs (E.map fun e=>e.map (·.1)) H3 (fun c u h=>sm _ _ (je h hl) (s12 _ _ h)) hl e1 (fun c hc=>none_of s1 (na c hc).1) (by rw[length_map];exact lE) la (j1y lE oE)
theorem kS(T:Txt K mg t):FnOk P w K mg base CX0 1 t.qF t.qM ["row","moves","limbs"] (sp_check_side):=by
 refine T.ZY.ok zh (fun vs H Q E h=>?_) (fun cdv A outer s H vs Q E hr h=>?_)
 ·cases h;subst_vars;rfl
 obtain⟨r,l,ll,as,las,M,rfl,el,la,ne,M8,ell,one,q⟩:=h;refine⟨_,(jb (jS (jt (j3X hr.units) (jF jc) (pv 1) (by with_unfolding_all rfl))
   (jf Zh)
   ju)
  (jf (j7 PassesOwn.never rfl (YI (by rfl) T.Q1 (ja (pv 2) jc)) (Jz rfl (jq (jk (i:=3) zh.nd rfl (.inr rfl)) (jq (jk (i:=4) zh.nd rfl (.inl rfl)) jZ)))
   (jf (jS (jt Zf (jy jJ (by rfl) T.JW Jj (ja (JC (ow:=["move"]) (ci:=[3]) rfl (CompScope.of (defScope QF) ["row","moves","limbs","number","limb"] rfl rfl (by decide +kernel)) (Jw (by decide)) (jG (pv 1)) (fun _ _ _ _ _=>⟨(jk (i:=0) (j5 ["row","moves","limbs","number","limb"] rfl (by decide +kernel)) rfl (.inl rfl)),(Xn (jt (kg (K:=K) rfl) (pv 1) (pv 0) (by with_unfolding_all rfl))),Yr⟩)) jc)) jd (nomark _))
    (jf Zh)
    ju))))),?_⟩
 refine jx (σ':=[some _,some _,some _,none,none]) rfl ?_;have sz:(200:Nat)<sizeLine:=by decide
 have lal:=la.1;exists⟨Nat.zero_le _,?_⟩;walk_at"f 0 t";exists⟨p0,l,as,M,rfl,rfl,t0,s0 _ _ el,lal,fun i b ks e1 e2=>s0 _ _ (la.2 i b ks e1 e2),?_⟩;exists iteB0 (any_empty ne) ?_;exists⟨ll,_,rfl,SqL.of (s0 _ _ ell),?_⟩;refine yi (xs:=las.map V.ref) (fun i σ H'=>∃o3 o4:Option V,σ=[some (.int r),some (.ref l),some (.ref ll),o3,o4]/\Same H H') ⟨_,_,rfl,s0⟩ ?_ ?_ ?_
 ·rintro i σ H' _ ⟨o3,o4,rfl,sm⟩;exact SqL.of (sm _ _ ell)
 ·rintro i v σ H' P H1 hx ⟨o3,o4,rfl,sm⟩ sP tP;have s1:=sm.trans sP;refine JV (SqT.of tP) ?_;exists⟨l,rfl,⟨_,SqL.of (s1 _ _ el)⟩,?_⟩;refine j6 (xs:=as.map V.ref) (fun j ys H''=>ys.length=((M.take j).filter fun ks=>decide ((i:Int)∈ks)).length/\H1=H'') ⟨rfl,rfl⟩ ?_ ?_ ?_
  ·rintro j ys H'' _ ⟨_,rfl⟩;exact SqL.of (s1 _ _ el)
  ·rintro j x ys H'' hx2 ⟨hy,rfl⟩;obtain⟨a,ks,rfl,hks,ha⟩:=la.at_ref hx2;refine Jc (σ':=[none,some _]) rfl ?_;exists⟨a,_,rfl,.inl (SqL.of (s1 _ _ ha)),rfl,flats ks,?_⟩;rw[inI];walk_at"g";have hle:((M.take j).filter fun ks=>decide ((i:Int)∈ks)).length<=8:=Nat.le_trans (length_filter_le _ _) (Nat.le_trans (List.length_take_le' _ _) M8);refine iteD (fun d=>?_) (fun d=>?_)
   ·exists⟨by omega,?_,rfl⟩;rw[take_snoc hks,filter_append,filter_cons,if_pos (decide_eq_true d),List.length_append,List.length_append,hy];rfl
   ·refine⟨?_,rfl⟩;rw[take_snoc hks,filter_append,filter_cons,if_neg (by simpa using d),List.length_append,hy];rfl
  rintro ys H'' ⟨hy,rfl⟩;rw[length_map,lal,take_length]at hy;have o1:=one (i:Int);refine⟨by omega,?_⟩;walk_at"f 2 t";exists⟨_,_,rfl,.inl ⟨_,SqL.of t2,rfl⟩,?_⟩;exists iteD (fun d=>?_) (fun d=>?_)
  ·exfalso;omega
  ·walk_at"g";exact⟨_,_,rfl,s1.trans s2⟩
 rintro σ' H' ⟨o3,o4,rfl,sm⟩;exact q H' sm
theorem wN(T:Txt K mg t):FnOk P w K mg base CX0 1 t.Qk t.Qr ["form","inside"] (sp_length_of):=by
 refine T.Yk.ok We (fun vs H Q E h=>?_) (fun cdv A outer s H vs Q E hr h=>?_)
 ·cases h;subst_vars;rfl
 obtain⟨a,l,f,gs,rfl,hF,el,pre,q⟩:=h;refine⟨_,(jb (jS (jt Jn (ji jo (pv 0) jd) jL (nomark _))
   (jf (jw (jy (Kk rfl) (by rfl) T.j3o j14 (ja (pv 1) jc))))
   ju)
  (jb (jS (jt Jn (ji jo (pv 0) jd) jL (nomark _))
   (jf (jw (jy (Ki rfl) (by rfl) T.j11 xH (ja (pv 1) jc))))
   ju)
  (jb (jS (jt Jn (ji jo (pv 0) jd) jL (nomark _))
   (jf (jw (jp Jb (ji jo (pv 0) jd) (ji jv (pv 1) jd))))
   ju)
  (jf (jw (ji jo (pv 0) (zo qZ jd))))))),?_⟩
 refine jx (σ':=[some _,some _]) rfl ?_;have sz:(200:Nat)<sizeLine:=by decide
 cases f with
 | hold n=>
  have ha:H a=some (.tup _):=hF;exists ixTm (SqT.of ha) rfl ?_;exists iteE0 ?_;exists ixTm (SqT.of ha) rfl ?_;exists iteE0 ?_;exists ixTm (SqT.of ha) rfl ?_;exists iteE0 ?_;exists ixTm (SqT.of ha) rfl ?_;exact q _ rfl
 | ring x n=>
  have ha:H a=some (.tup _):=hF;exists ixTm (SqT.of ha) rfl ?_;exists iteE0 ?_;exists ixTm (SqT.of ha) rfl ?_;exists iteE0 ?_;exists ixTm (SqT.of ha) rfl ?_;exists iteE0 ?_;exists ixTm (SqT.of ha) rfl ?_;exact q _ rfl
 | rise x v n=>
  have ha:H a=some (.tup _):=hF;exists ixTm (SqT.of ha) rfl ?_;exists iteE0 ?_;exists ixTm (SqT.of ha) rfl ?_;exists iteE0 ?_;exists ixTm (SqT.of ha) rfl ?_;exists iteE0 ?_;exists ixTm (SqT.of ha) rfl ?_;exact q _ rfl
 | row ps=>
  obtain⟨b,ha,hb⟩:=hF;exists ixTm (SqT.of ha) rfl ?_;exists iteE1 ?_;exists⟨l,gs,rfl,SqL.of el,?_⟩;exact q _ rfl
 | side ps=>
  obtain⟨b,ha,hb⟩:=hF;exists ixTm (SqT.of ha) rfl ?_;exists iteE0 ?_;exists ixTm (SqT.of ha) rfl ?_;exists iteE1 ?_;exists⟨l,gs,rfl,SqL.of el,length_pos_iff.mpr pre,fun g h1 h2=>?_⟩;exact q g ⟨h1,h2⟩
 | again k x=>
  have ha:H a=some (.tup _):=hF;obtain⟨y,r,rfl,k1,k2,y1,y2⟩:=pre;exists ixTm (SqT.of ha) rfl ?_;exists iteE0 ?_;exists ixTm (SqT.of ha) rfl ?_;exists iteE0 ?_;exists ixTm (SqT.of ha) rfl ?_;exists iteE1 ?_;exists ixTm (SqT.of ha) rfl ?_;exists ixLm (SqL.of el) (at0) ?_;walk_at"g";exact q _ ⟨y,rfl,rfl⟩
theorem Xf(T:Txt K mg t)(QA:FnOk P w K mg base CX0 2 t.zC t.zD ["book"] (sp_inner))(K2:FnOk P w K mg base CX0 4 t.Z2 t.yd ["book"] (sp_moved))(zA:FnOk P w K mg base CX0 1 t.qF t.qM ["row","moves","limbs"] (sp_check_side))(zU:FnOk P w K mg base CX0 1 t.Qk t.Qr ["form","inside"] (sp_length_of)):FnOk P w K mg base CX0 5 t.QJ t.QK ["book"] (sp_lengths):=by
 refine T.yJ.ok qo (fun vs H Q E h=>?_) (fun cdv A outer s H vs Q E hr h=>?_)
 ·cases h;subst_vars;rfl
 obtain⟨b,pl,pp,las,pas,ls,ps,gs,hs,rfl,B,S,q⟩:=h;refine⟨_,(jb (jm (i:=1) qo.nd rfl (.inr rfl) (jn (K2.mono (by decide)) hr (by rfl) T.j2P T.XH.kp T.j2t .nil pass0 (ja (pv 0) jc)))
  (jb (jm (i:=2) qo.nd rfl (.inr rfl) (jF jc))
  (jb (j7 PassesOwn.never rfl (YI (by rfl) T.Q1 (ja (jn (QA.mono (by decide)) hr (by rfl) T.wB T.Yz.kp T.KW .nil pass0 (ja (pv 0) jc)) jc)) (Jz rfl (jq (jk (i:=3) qo.nd rfl (.inl rfl)) (jq (jk (i:=4) qo.nd rfl (.inl rfl)) jZ)))
   (jb (jm (i:=5) qo.nd rfl (.inl rfl) (ji jo (ji jv (ji jo (pv 0) jd) (pv 3)) jd))
   (jb (ze (jt Jn (ji jo (pv 5) jd) jL (nomark _))
    (jf (jB (jn (zA.mono (by decide)) hr (by rfl) T.wz T.ZY.kp T.KS .nil pass0 (ja (pv 3) (ja (JC (ow:=["part"]) (ci:=[1]) rfl (CompScope.of (defScope zr) ["book","moves","found","row","inside","form","length"] rfl rfl (by decide +kernel)) (Jw (by decide)) (jG (pv 4)) (fun _ _ _ _ _=>⟨(jk (i:=0) (j5 ["book","moves","found","row","inside","form","length"] rfl (by decide +kernel)) rfl (.inl rfl)),JK,(ji (JY (K:=K) rfl) (pv 1) (pv 0))⟩)) (ja (ji jo (pv 0) jd) jc))))))
    ju)
   (jb (jm (i:=6) qo.nd rfl (.inl rfl) (jn (zU.mono (by decide)) hr (by rfl) T.WR T.Yk.kp T.Wp .nil pass0 (ja (pv 5) (ja (JC (ow:=["part"]) (ci:=[2]) rfl (CompScope.of (defScope zr) ["book","moves","found","row","inside","form","length"] rfl rfl (by decide +kernel)) (Jw (by decide)) (jG (pv 4)) (fun _ _ _ _ _=>⟨(jk (i:=0) (j5 ["book","moves","found","row","inside","form","length"] rfl (by decide +kernel)) rfl (.inl rfl)),JK,(ji (JY (K:=K) rfl) (pv 1) (pv 0))⟩)) jc))))
   (jb (jS (jt Zf (pv 6) (jp wS jd jd) (nomark _))
    (jf Zh)
    ju)
   (jf (jB (Jf PySem.F.plainAttrs_list PySem.F.slot_list_append PySem.F.type_list_append jA (pv 2) (ja (pv 6) jc)))))))))
  (jf (jw (pv 2)))))),?_⟩
 refine jx (σ':=[some _,none,none,none,none,none,none]) rfl ?_;have sz:(200:Nat)<sizeLine:=by decide
 have W:=S.w;have pa:=B.pa.1;have gl:=S.gl;have p61:=W.p61;exists⟨b,pl,pp,las,pas,_,_,rfl,B,W,fun lm cms M H1 s1 hlm elm nlm Ml aM oM=>?_⟩;have mg:=S.mv M Ml oM;have aMl:=aM.1;exists⟨Nat.zero_le _,?_⟩;walk_at"f l hl H2 s2 t2";have nl:=none_of s1 hl;have s12:=s1.trans s2;exists⟨b,pl,pp,las,pas,_,_,rfl,B.same s12,W,fun li ias H3 s3 hli eli nia lia=>?_⟩;walk_at"g";have s13:=s12.trans s3;have s23:=s2.trans s3;have lial:=lia.1;rw[length_map]at lial;have nli:li≠l:=fun z=>by rw[z,t2]at hli;cases hli
 have t3:H3 l=some (.lst []):=s3 _ _ t2;have npl:∀{c u},H c=some u->c≠l:=fun h=>je h nl
 have np1:∀{c u},H1 c=some u->c≠l:=fun h=>je h hl
 refine⟨li,_,rfl,SqL.of eli,?_⟩;refine yi (xs:=ias.map V.ref) (fun i σ H'=>∃(o3 o4 o5 o6:Option V),σ=[some (.ref b),some (.ref lm),some (.ref l),o3,o4,o5,o6]/\(∀c u,c≠l->H3 c=some u->H' c=some u)/\H' l=some (.lst ((gs.take i).map V.int)))
  ⟨_,_,_,_,rfl,fun c u _ h=>h,t3⟩ ?_ ?_ ?_
 ·rintro i σ H' _ ⟨o3,o4,o5,o6,rfl,sm,e1⟩;exact SqL.of (sm _ _ nli eli)
 ·rintro i v σ H' P H4 hv ⟨o3,o4,o5,o6,rfl,sm,e1⟩ sP tP;obtain⟨ia,is',rfl,his,hia⟩:=lia.at_ref hv;have hi:i<ps.length:=by
   have:=(List.getElem?_eq_some_iff.mp his).1;rw[length_map]at this;exact this
  obtain⟨p,hp⟩:∃p,ps[i]?=some p:=⟨_,List.getElem?_eq_getElem hi⟩
  rw[List.getElem?_map,hp]at his;cases his;obtain⟨a,ea,fb,hat,hf⟩:=B.pa.get hp;have iam:ia∈ias:=by
   rw[List.getElem?_map]at hv;obtain⟨a',ea',e'⟩:=Option.map_eq_some_iff.mp hv;injection e' with e';subst e';exact List.mem_of_getElem? ea'
  have nial:ia≠l:=fun z=>by have:=nia ia iam;rw[z,t2]at this;cases this
  have k4:∀c u,c≠l->H3 c=some u->H4 c=some u:=fun c u hc h=>sP _ _ (sm _ _ hc h)
  have k04:∀c u,H c=some u->H4 c=some u:=fun c u h=>k4 _ _ (npl h) (s13 _ _ h)
  have k14:∀c u,H1 c=some u->H4 c=some u:=fun c u h=>k4 _ _ (np1 h) (s23 _ _ h)
  have hia4:H4 ia=some (.lst (((inP ps p.2).map fun j:Nat=>(j:Int)).map V.int)):=k4 _ _ nial hia;have e14:=sP _ _ e1;have hf4:FormAt H4 fb p.2:=FormAt.same k04 hf;have inl:=fun j=>W.inP_lt (j:=j) hp
  have w8:(inP ps p.2).length<=8:=by unfold inP;rw[length_map];exact(W.f i p hp).2
  obtain⟨lp,lgd⟩:=S.ln i p hp;have lgi:=S.gb i hi;refine JV (SqT.of tP) ?_;exists ixTm (SqT.of (k04 _ _ B.t)) rfl ?_;exists ixLm (SqL.of (k04 _ _ B.p)) (jY (i:=(i:Int)) (by omega) ea) ?_;exists ixTm (SqT.of (k04 _ _ hat)) rfl ?_;exists⟨fun σ' H5=>σ'=[some (.ref b),some (.ref lm),some (.ref l),some (.int i),some (.ref ia),some (.ref fb),o6]/\Same H4 H5,?_,?_⟩
  rotate_left
  ·by_cases hs0:∃qs,p.2 = .side qs
   ·obtain⟨qs,e⟩:=hs0;have ap:=S.sd i p qs hp e;generalize inP ps p.2=is at hia4 inl ap w8;rw[e]at hf4;obtain⟨nb,hf5,_⟩:=hf4;exists ixTm (SqT.of hf5) rfl ?_;exists iteE1 ?_;exists⟨ia,rfl,⟨_,SqL.of hia4⟩,?_⟩;have cat:∀j∈is,∃c,cms[j]?=some c/\H4 c=some (.lst ((hs.getD j []).map V.int)):=fun j hj=>by
     have jl:=inl j hj;obtain⟨c,hc,h1⟩:=aM.get (i:=j) (x:=M.getD j []) (by rw[getD_eq_getElem?_getD,List.getElem?_eq_getElem (by omega)];rfl);rw[mg j (by omega)]at h1;exact⟨c,hc,k14 _ _ h1⟩
    refine j6 (xs:=(is.map fun j:Nat=>(j:Int)).map V.int) (fun t ys H'=>∃cs:List Addr,ys=cs.map V.ref/\ListsAt H4 cs ((is.take t).map fun j=>hs.getD j [])/\H4=H') ⟨[],rfl,.nil,rfl⟩ ?_ ?_ ?_
    ·rintro t ys H' _ ⟨cs,rfl,lc,rfl⟩;exact SqL.of hia4
    ·rintro t x ys H' hx ⟨cs,rfl,lc,rfl⟩;rw[List.getElem?_map,List.getElem?_map]at hx;obtain⟨jj,hjj,rfl⟩:=Option.map_eq_some_iff.mp hx;obtain⟨j,hj,rfl⟩:=Option.map_eq_some_iff.mp hjj;obtain⟨c,hc,h1⟩:=cat j (List.mem_of_getElem? hj);have lcl:=lc.1;rw[length_map,length_take]at lcl;refine Jc (σ':=[none,some _]) rfl ?_;exists iteT ?_;exists ixLm (SqL.of (k14 _ _ elm)) (jY (i:=(j:Int)) (by omega) hc) ?_;refine⟨by rw[length_map];omega,cs++[c],by rw[map_append];rfl,?_,rfl⟩;rw[take_snoc hj,map_append];exact All2.snoc lc h1
    rintro ys H' ⟨cs,rfl,lc,rfl⟩;rw[length_map,length_map,take_length]at lc;have lcl:=lc.1;rw[length_map]at lcl;refine⟨by rw[length_map];omega,?_⟩;walk_at"f 5 t";exists ixTm (SqT.of (s5 _ _ (k04 _ _ B.t))) rfl ?_;exists⟨_,p5,pl,cs,las,(is.map fun j=>hs.getD j []),rfl,t5,All2.mono lc fun c ks h=>s5 _ _ h,fun ks hks=>?_,by rw[length_map];omega,s5 _ _ (k04 _ _ B.l),ap.2,fun H6 s6=>?_⟩
    ·obtain⟨j,hj,rfl⟩:=mem_map.mp hks;exact ap.1 j hj
    walk_at"g";exact⟨rfl,s5.trans s6⟩
   ·have kd:∃k xs,H4 fb=some (.tup (.str k::xs))/\decide (k=("side" : Str))=false:=by
     generalize p.2=f at hf4 hs0;cases f with
     | side qs=>exact absurd ⟨qs,rfl⟩ hs0
     | hold n=>exact⟨_,_,hf4,by decide +kernel⟩
     | ring x n=>exact⟨_,_,hf4,by decide +kernel⟩
     | rise x v n=>exact⟨_,_,hf4,by decide +kernel⟩
     | row qs=>obtain⟨_,h1,_⟩:=hf4;exact⟨_,_,h1,by decide +kernel⟩
     | again k x=>exact⟨_,_,hf4,by decide +kernel⟩
    obtain⟨k,xs,hk,dk⟩:=kd;exists ixTm (SqT.of hk) (at0) ?_;exists iteB0 dk ?_;walk_at"g";exact⟨rfl,Same.refl _⟩
  rintro σ' H5 ⟨rfl,s5⟩;exists⟨ia,rfl,⟨_,SqL.of (s5 _ _ hia4)⟩,?_⟩;have e15:=s5 _ _ e14;refine j6 (xs:=((inP ps p.2).map fun j:Nat=>(j:Int)).map V.int) (fun t ys H'=>ys=(((inP ps p.2).take t).map fun j=>gs.getD j 0).map V.int/\H5=H') ⟨rfl,rfl⟩ ?_ ?_ ?_
  ·rintro t ys H' _ ⟨rfl,rfl⟩;exact SqL.of (s5 _ _ hia4)
  ·rintro t x ys H' hx ⟨rfl,rfl⟩;rw[List.getElem?_map,List.getElem?_map]at hx;obtain⟨jj,hjj,rfl⟩:=Option.map_eq_some_iff.mp hx;obtain⟨j,hj,rfl⟩:=Option.map_eq_some_iff.mp hjj;have jl:=inl j (List.mem_of_getElem? hj);refine Jc (σ':=[none,some _]) rfl ?_;exists iteT ?_;exists ixLm (SqL.of e15) (j1g (by omega) jl) ?_;refine⟨by rw[length_map,length_map,length_take];omega,?_,rfl⟩;rw[take_snoc hj,map_append,map_append];rfl
  rintro ys H' ⟨rfl,rfl⟩;rw[show(((inP ps p.2).map fun j:Nat=>(j:Int)).map V.int).length=(inP ps p.2).length by rw[length_map,length_map],take_length];refine⟨by rw[length_map,length_map];omega,?_⟩;walk_at"f 6 t";exists⟨fb,p6,p.2,_,rfl,FormAt.same (s5.trans s6) hf4,t6,lp,fun g hg=>?_⟩;have eg:=lgd g hg;subst eg;exists iteD (fun d=>?_) (fun d=>?_)
  ·exfalso;omega
  exists⟨.inl ⟨rfl,_,SqL.of (s6 _ _ e15)⟩,?_⟩;exists⟨l,_,_,rfl,rfl,s6 _ _ e15,by rw[length_map,length_take];omega,?_⟩;refine⟨_,_,_,_,rfl,fun c u hc h=>(jh hc).trans (s6 _ _ (s5 _ _ (k4 _ _ hc h))),?_⟩;rw[jr,j2H (by omega),map_append];rfl
 rintro σ' H' ⟨o3,o4,o5,o6,rfl,sm,e1⟩;rw[length_map,lial,<-gl,take_length]at e1;walk_at"g";exact q l H' (fun c u h=>sm _ _ (npl h) (s13 _ _ h)) nl e1
theorem wP(T:Txt K mg t):FnOk P w K mg base CX0 1 t.Ql t.Qs ["form","inside","sizes"] (sp_pieces_in):=by
 refine T.Yl.ok JL (fun vs H Q E h=>?_) (fun cdv A outer s H vs Q E hr h=>?_)
 ·cases h;subst_vars;rfl
 obtain⟨a,l,s0,f,is,gs,rfl,hf,el,es,i8,hj,hne,q⟩:=h;refine⟨_,(jb (jS (jt Jn (ji jo (pv 0) jd) jL (nomark _))
   (jb (jm (i:=3) JL.nd rfl (.inl rfl) (ji jv (pv 1) jd))
   (jb (jm (i:=4) JL.nd rfl (.inl rfl) (kj (jt Zf (ji jo (pv 0) jd) jd (nomark _)) (jF (ja (Ja (ja (pv 3) (ja (jp Qw (ji jo (pv 0) jd) jd) (ja (ji jv (pv 2) (pv 3)) jc)))) jc)) (jF jc)))
   (jf (jw (jp Xg (jF (ja (Ja (ja (pv 3) (ja jd (ja jd jc)))) jc)) (pv 4))))))
   ju)
  (jb (jm (i:=5) JL.nd rfl (.inl rfl) (jF jc))
  (jb (jm (i:=6) JL.nd rfl (.inl rfl) jd)
  (jb (j7 PassesOwn.never rfl (jG (pv 1)) (jk (i:=3) JL.nd rfl (.inl rfl))
   (jb (jB (Jf PySem.F.plainAttrs_list PySem.F.slot_list_append PySem.F.type_list_append jA (pv 5) (ja (Ja (ja (pv 3) (ja jd (ja (pv 6) jc)))) jc)))
   (jf (jS (jt Jn (ji jo (pv 0) jd) jL (nomark _))
    (jf (j46 (i:=6) JL.nd rfl (.inl rfl) (ji jv (pv 2) (pv 3)) j3J))
    ju))))
  (jf (jw (pv 5))))))),?_⟩
 refine jx (σ':=[some _,some _,some _,none,none,none,none]) rfl ?_;have sz:(10000:Nat)<sizeLine:=by decide
 have gat:∀j,j<gs.length->gs[j]?=some (gs.getD j 0):=fun j h=>by
  rw[getD_eq_getElem?_getD,List.getElem?_eq_getElem h];rfl
 by_cases ha:∃k x,f = .again k x
 ·obtain⟨k,x,rfl⟩:=ha;have hf:H a=some (.tup [.str "again",.int k,.str x]):=hf;obtain⟨j,r,rfl⟩:=List.exists_cons_of_ne_nil (hne k x rfl);have lj:=hj j mem_cons_self;exists ixTm (SqT.of hf) rfl ?_;exists iteE1 ?_;exists ixLm (SqL.of el) (at0) ?_;exists ixTm (SqT.of hf) rfl ?_;exists iteD (fun c=>?_) (fun c=>?_)
  ·exists ixTm (SqT.of hf) rfl ?_;exists ixLm (SqL.of es) (jO (j:=j) (by rw[List.getElem?_map,gat j lj];rfl)) ?_;exists⟨(by show 3<=sizeLine;omega),?_⟩;walk_at"f 1 t";exists⟨(by show 1<=sizeLine;omega),?_⟩;walk_at"f 2 t";exists⟨(by show 3<=sizeLine;omega),?_⟩;walk_at"f 3 t";exists⟨(by show 1<=sizeLine;omega),?_⟩;walk_at"f 4 t";exists⟨p4,p2,_,_,rfl,rfl,t4,s4 _ _ (s3 _ _ t2),(by show 2<=sizeLine;omega),?_⟩;walk_at"f 5 t";have s15:=s1.trans (s2.trans (s3.trans (s4.trans s5)));refine q p5 [p3,p1] _ s15 (none_of (s1.trans (s2.trans (s3.trans s4))) hp5) t5 ?_;show PcsAt H5 _ ((j,1,0)::(if 1<k then[(j,k-1,gs.getD j 0)]else[]));rw[if_pos c];exact .cons (s5 _ _ (s4 _ _ t3)) (.cons (s5 _ _ (s4 _ _ (s3 _ _ (s2 _ _ t1)))) .nil)
  ·exists⟨Nat.zero_le _,?_⟩;walk_at"f 2 t";exists⟨(by show 3<=sizeLine;omega),?_⟩;walk_at"f 3 t";exists⟨(by show 1<=sizeLine;omega),?_⟩;walk_at"f 4 t";exists⟨p4,p2,_,_,rfl,rfl,t4,s4 _ _ (s3 _ _ t2),(by show 1<=sizeLine;omega),?_⟩;walk_at"f 5 t";have s15:=s2.trans (s3.trans (s4.trans s5));refine q p5 [p3] _ s15 (none_of (s2.trans (s3.trans s4)) hp5) t5 ?_;show PcsAt H5 _ ((j,1,0)::(if 1<k then[(j,k-1,gs.getD j 0)]else[]));rw[if_neg c];exact .cons (s5 _ _ (s4 _ _ t3)) .nil
 have key:∃kw xs,H a=some (.tup (.str kw::xs))/\decide (kw=("again" : Str))=false/\((decide (kw=("row" : Str))=true/\∃xs,f = .row xs)\/(decide (kw=("row" : Str))=false/\∀is,pcsI gs f is=is.map fun j=>(j,1,0))):=by
  cases f with
  | hold n=>exact⟨_,_,hf,by decide +kernel,.inr ⟨by decide +kernel,fun _=>rfl⟩⟩
  | ring x n=>exact⟨_,_,hf,by decide +kernel,.inr ⟨by decide +kernel,fun _=>rfl⟩⟩
  | rise x v n=>exact⟨_,_,hf,by decide +kernel,.inr ⟨by decide +kernel,fun _=>rfl⟩⟩
  | row ps=>obtain⟨b,h1,_⟩:=hf;exact⟨_,_,h1,by decide +kernel,.inl ⟨by decide +kernel,_,rfl⟩⟩
  | side ps=>obtain⟨b,h1,_⟩:=hf;exact⟨_,_,h1,by decide +kernel,.inr ⟨by decide +kernel,fun _=>rfl⟩⟩
  | again k x=>exact absurd ⟨k,x,rfl⟩ ha
 obtain⟨kw,xs,hk,dk,hkind⟩:=key;exists ixTm (SqT.of hk) (at0) ?_;exists iteB0 dk ?_;exists⟨Nat.zero_le _,?_⟩;walk_at"f p hp H1 s1 t1";walk_at"g";have np:∀{c u},H c=some u->c≠p:=fun h=>je h hp
 refine⟨l,rfl,⟨_,SqL.of (s1 _ _ el)⟩,?_⟩;refine j9 (xs:=(is.map fun j:Nat=>(j:Int)).map V.int) (fun i σ H'=>∃(o3:Option V) (bg:Int) (as:List Addr) (qs:List Pc),σ=[some (.ref a),some (.ref l),some (.ref s0),o3,none,some (.ref p),some (.int bg)]/\Same H H'/\H' p=some (.lst (as.map V.ref))/\as.length=i/\PcsAt H' as qs/\((∃xs,f = .row xs)->rowPc gs is 0=qs++rowPc gs (is.drop i) bg)/\(¬(∃xs,f = .row xs)->bg=0/\qs=(is.take i).map fun j=>(j,1,0)))
  ⟨_,0,[],[],rfl,s1,t1,rfl,.nil,fun _=>rfl,fun _=>⟨rfl,rfl⟩⟩ ?_ ?_ ?_
 ·rintro i σ H' _ ⟨o3,bg,as,qs,rfl,sm,e1,la,hq,h1,h2⟩;exact SqL.of (sm _ _ el)
 ·rintro i v σ H' hv ⟨o3,bg,as,qs,rfl,sm,e1,la,hq,h1,h2⟩;rw[List.getElem?_map,List.getElem?_map]at hv;obtain⟨jj,hjj,rfl⟩:=Option.map_eq_some_iff.mp hv;obtain⟨j,hij,rfl⟩:=Option.map_eq_some_iff.mp hjj;have il:=(List.getElem?_eq_some_iff.mp hij).1;have ed:is.drop i=j::is.drop (i+1):=by
   obtain⟨h,rfl⟩:=List.getElem?_eq_some_iff.mp hij;exact List.drop_eq_getElem_cons h
  have lj:=hj j (List.mem_of_getElem? hij);exists⟨.inl ⟨rfl,_,SqL.of e1⟩,?_⟩;exists⟨(by show 3<=sizeLine;omega),?_⟩;walk_at"f 2 t";exists⟨p,_,_,rfl,rfl,s2 _ _ e1,by rw[length_map];omega,?_⟩;have n2:p2≠p:=fun z=>by rw[z,s2 _ _ e1]at t2;cases t2
  have s3:Same H (upd H2 p (.lst (as.map V.ref++[.ref p2]))):=fun c u h=>(jh (np h)).trans (s2 _ _ (sm _ _ h))
  have e3:upd H2 p (.lst (as.map V.ref++[.ref p2])) p=some (.lst ((as++[p2]).map V.ref)):=by rw[jr,map_append];rfl
  have hq3:PcsAt (upd H2 p (.lst (as.map V.ref++[.ref p2]))) (as++[p2]) (qs++[(j,1,bg)]):=by
   refine All2.snoc (All2.mono hq fun c x h=>?_) ((jh n2).trans t2);exact(jh (fun z=>by rw[z,e1]at h;cases h)).trans (s2 _ _ h)
  generalize upd H2 p (.lst (as.map V.ref++[.ref p2]))=H3 at s3 e3 hq3|-;exists ixTm (SqT.of (s3 _ _ hk)) (at0) ?_;walk_at"g";rcases hkind with⟨dr,xs',ef⟩ | ⟨dr,hp'⟩
  ·refine iteB1 dr ?_;exists ixLm (SqL.of (s3 _ _ es)) (jO (j:=j) (by rw[List.getElem?_map,gat j lj];rfl)) ?_;exists⟨_,_,as++[p2],qs++[(j,1,bg)],rfl,s3,e3,by rw[List.length_append,la];rfl,hq3,fun h=>?_,fun h=>absurd ⟨xs',ef⟩ h⟩;rw[h1 h,ed,List.append_assoc];rfl
  ·refine iteB0 dr ?_;exists⟨_,_,as++[p2],qs++[(j,1,bg)],rfl,s3,e3,by rw[List.length_append,la];rfl,hq3,fun h=>?_,fun h=>?_⟩
   ·obtain⟨xs',ef⟩:=h;subst ef;have:=hp' [0,0];obtain⟨bb,hb1,_⟩:=hf;rw[hb1]at hk;cases hk;exact absurd dr (by decide +kernel)
   ·obtain⟨b0,eq⟩:=h2 h;refine⟨b0,?_⟩;rw[take_snoc hij,map_append,eq,b0];rfl
 rintro σ' H' ⟨o3,bg,as,qs,rfl,sm,e1,la,hq,h1,h2⟩;rw[show((is.map fun j:Nat=>(j:Int)).map V.int).length=is.length by rw[length_map,length_map]]at h1 h2;exists q p as H' sm hp e1 ?_;have e:pcsI gs f is=qs:=by
  by_cases hr':∃xs,f = .row xs
  ·obtain⟨xs',rfl⟩:=hr';show rowPc gs is 0=qs;rw[h1 ⟨xs',rfl⟩,List.drop_length];exact append_nil _
  ·rcases hkind with⟨_,xs',ef⟩ | ⟨_,hp'⟩
   ·exact absurd ⟨xs',ef⟩ hr'
   ·rw[hp',(h2 hr').2,take_length]
 rw[e];exact hq
theorem wQ(T:Txt K mg t)(QA:FnOk P w K mg base CX0 2 t.zC t.zD ["book"] (sp_inner))(zV:FnOk P w K mg base CX0 1 t.Ql t.Qs ["form","inside","sizes"] (sp_pieces_in)):FnOk P w K mg base CX0 3 t.qv t.qy ["book","sizes"] (sp_pieces_of):=by
 refine T.zP.ok Wf (fun vs H Q E h=>?_) (fun cdv A outer s H vs Q E hr h=>?_)
 ·cases h;subst_vars;rfl
 obtain⟨b,pl,pp,s0,las,pas,ls,ps,gs,rfl,B,W,es,gl,q⟩:=h;refine⟨_,(jf (jw (JC (ow:=["part","inside"]) (ci:=[1]) rfl (CompScope.of (defScope Q8) ["book","sizes"] rfl rfl (by decide +kernel)) (yk (by decide) (by decide)) (Xp (by rfl) T.XM (ja (ji jo (pv 0) jd) (ja (jn (QA.mono (by decide)) hr (by rfl) T.wB T.Yz.kp T.KW .nil pass0 (ja (pv 0) jc)) jc))) (fun _ _ _ _ _=>⟨(Jz rfl (jq (jk (i:=0) (j5 ["book","sizes"] rfl (by decide +kernel)) rfl (.inl rfl)) (jq (jk (i:=1) (j5 ["book","sizes"] rfl (by decide +kernel)) rfl (.inl rfl)) jZ))),JK,(jn (zV.mono (by decide)) hr (by rfl) T.WS T.Yl.kp T.Wq .nil pass0 (ja (ji (j2I (K:=K) rfl) (pv 0) jd) (ja (pv 1) (ja (pv 2) jc))))⟩)))),?_⟩;refine jx (σ':=[some _,some _]) rfl ?_;have sz:(10000:Nat)<sizeLine:=by decide
 have p61:=W.p61;have pa:=B.pa.1;exists ixTm (SqT.of B.t) rfl ?_;exists⟨b,pl,pp,las,pas,ls,ps,rfl,B,W,fun li ias H3 s3 hli eli nia lia=>?_⟩;walk_at"g";have lial:=lia.1;rw[length_map]at lial;refine⟨pp,li,_,_,rfl,SqL.of (s3 _ _ B.p),SqL.of eli,?_⟩;refine j18 (xs:=pas.map V.ref) (zs:=ias.map V.ref) (fun i ys H'=>∃as:List Addr,ys=as.map V.ref/\as.length=i/\Same H3 H'/\PssAt H' as ((ps.take i).map fun p=>pcsI gs p.2 (inP ps p.2))) (by rw[length_map,length_map];omega) ⟨[],rfl,rfl,Same.refl _,.nil⟩ ?_ ?_ ?_
 ·rintro i ys H' _ ⟨as,rfl,hl,sm,ha⟩;exact⟨SqL.of (sm _ _ (s3 _ _ B.p)),SqL.of (sm _ _ eli)⟩
 ·rintro i u v ys H' T0 H4 hu hv ⟨as,rfl,hl,sm,ha⟩ sP tP;have hi:=(List.getElem?_eq_some_iff.mp hu).1;rw[length_map]at hi;obtain⟨a,p,rfl,hp,fb,hat,hf⟩:=B.pa.at_ref hu;obtain⟨ia,is,rfl,his,hia⟩:=lia.at_ref hv;rw[List.getElem?_map,hp]at his;cases his;have hpi:=(List.getElem?_eq_some_iff.mp hp).1;have s4:=sm.trans sP;have s04:=s3.trans s4;have i8:(inP ps p.2).length<=8:=by unfold inP;rw[length_map];exact(W.f i p hp).2
  refine Jc (σ':=[none,none,some _]) rfl ?_;refine JV (SqT.of tP) ?_;exists iteT ?_;exists ixTm (SqT.of (s04 _ _ hat)) rfl ?_;exists⟨fb,ia,s0,p.2,inP ps p.2,gs,rfl,FormAt.same s04 hf,s4 _ _ hia,s04 _ _ es,i8,fun j hj=>by have:=W.inP_lt hp hj;omega,fun k x e=>by rw[e];exact cons_ne_nil _ _,fun p5 as5 H5 s5 hp5 e5 hq5=>?_⟩;refine⟨by rw[length_map];omega,as++[p5],by rw[map_append];rfl,by rw[List.length_append,hl];rfl,s4.trans s5,?_⟩;rw[take_snoc hp,map_append];refine All2.snoc (All2.mono ha fun c x h=>?_) ⟨as5,e5,hq5⟩;obtain⟨bs,h1,h2⟩:=h;exact⟨bs,s5 _ _ (sP _ _ h1),All2.mono h2 fun c x h=>s5 _ _ (sP _ _ h)⟩
 rintro ys H' ⟨as,rfl,hl,sm,ha⟩;rw[length_map]at hl ha;refine⟨by rw[length_map];omega,?_⟩;walk_at"f 4 t";refine q _ as _ (s3.trans (sm.trans s4)) (none_of (s3.trans sm) hp4) t4 ?_;rw[pa,take_length]at ha;refine All2.mono ha fun c x h=>?_
 obtain⟨bs,h1,h2⟩:=h;exact⟨bs,s4 _ _ h1,All2.mono h2 fun c x h=>s4 _ _ h⟩
theorem yq(T:Txt K mg t)(jR:FnOk P w K mg base CX0 1 t.Ju t.Jv ["named"] (sp_numbers_of))(yK:FnOk P w K mg base CX0 3 t.yM t.yR ["book"] (sp_ends))(QI:FnOk P w K mg base CX0 5 t.QJ t.QK ["book"] (sp_lengths))(qr:FnOk P w K mg base CX0 3 t.qv t.qy ["book","sizes"] (sp_pieces_of)):FnOk P w K mg base CX0 6 t.j4 t.Jh ["self","book"] (sp_initS t.jM):=by
 refine T.yH.ok yz (fun vs H Q E h=>?_) (fun cdv A outer s H vs Q E hr h=>?_)
 ·cases h;subst_vars;rfl
 obtain⟨a,dx,b,pl,pp,las,pas,ls,ps,gs,hs,rfl,ha,B,N,q⟩:=h;refine⟨_,(jb (Ya (pv 0) (jn (jR.mono (by decide)) hr (by rfl) T.QC T.qA.kp T.Qx .nil pass0 (ja (ji jo (pv 1) jd) jc)) rfl)
  (jb (Ya (pv 0) (JC (ow:=["name","height"]) (ci:=[]) rfl (CompScope.of (defScope JJ) ["self","book"] rfl rfl (by decide +kernel)) (yk (by decide) (by decide)) (jG (ji jo (pv 1) jd)) (fun _ _ _ _ _=>⟨(Jz rfl (jq (jk (i:=0) (j5 ["self","book"] rfl (by decide +kernel)) rfl (.inl rfl)) (jq (jk (i:=1) (j5 ["self","book"] rfl (by decide +kernel)) rfl (.inl rfl)) jZ))),JK,(pv 1)⟩)) rfl)
  (jb (Ya (pv 0) (JC (ow:=["name","form"]) (ci:=[]) rfl (CompScope.of (defScope JJ) ["self","book"] rfl rfl (by decide +kernel)) (yk (by decide) (by decide)) (jG (ji jo (pv 1) jd)) (fun _ _ _ _ _=>⟨(Jz rfl (jq (jk (i:=0) (j5 ["self","book"] rfl (by decide +kernel)) rfl (.inl rfl)) (jq (jk (i:=1) (j5 ["self","book"] rfl (by decide +kernel)) rfl (.inl rfl)) jZ))),JK,(pv 1)⟩)) rfl)
  (jb (Ya (pv 0) (jn (QI.mono (by decide)) hr (by rfl) T.Kz T.yJ.kp T.Kb .nil pass0 (ja (pv 1) jc)) rfl)
  (jb (Ya (pv 0) (jn (yK.mono (by decide)) hr (by rfl) T.j1r T.xz.kp T.j0U .nil pass0 (ja (pv 1) jc)) rfl)
  (jf (Ya (pv 0) (jn (qr.mono (by decide)) hr (by rfl) T.Yq T.zP.kp T.Yg .nil pass0 (ja (pv 1) (ja (QX (pv 0) rfl) jc))) rfl))))))),?_⟩
 refine jx (σ':=[some _,some _]) rfl ?_;have sz:(200:Nat)<sizeLine:=by decide
 have W:=N.s.w;have gl:=N.s.gl;have l8:=W.l8;have p61:=W.p61;have la:=B.la.1;have pal:=B.pa.1;obtain⟨H0,less,n0,B0⟩:=B.less ha;have z0:Same H0 H:=less H fun c u _ h=>h
 exists ixTm (SqT.of B.t) rfl ?_;exists⟨pl,las,nmsOf ls,rfl,B.l,by rw[nmsOf,length_map];exact la,fun i a x ea ex=>?_,W.ln,by rw[nmsOf,length_map];omega,fun d H1 s1 hd ed=>?_⟩
 ·unfold nmsOf at ex;rw[List.getElem?_map]at ex;obtain⟨p,ep,rfl⟩:=Option.map_eq_some_iff.mp ex;exact⟨_,B.la.2 i a p ea ep⟩
 exists⟨a,_,dx,[],rfl,s1 _ _ ha,T.jP,T.JT,(by show 0<1000;decide),?_⟩;have nd:d≠a:=fun z=>by rw[z,ha]at hd;cases hd
 generalize e2:upd H1 a _=H2;have k2:∀c u,c≠a->H1 c=some u->H2 c=some u:=fun c u n h=>e2▸(jh n).trans h
 have a2:=Kc e2;clear e2;have z2:Same H0 H2:=less H2 fun c u n h=>k2 _ _ n (s1 _ _ h)
 have B2:=B0.same z2;exists ixTm (SqT.of B2.t) rfl ?_;exists⟨pl,rfl,⟨_,SqL.of B2.l⟩,?_⟩;refine j6 (xs:=las.map V.ref) (fun i ys H'=>ys=((ls.map (·.2)).take i).map V.int/\H2=H') ⟨rfl,rfl⟩ ?_ ?_ ?_
 ·rintro i ys H' _ ⟨rfl,rfl⟩;exact SqL.of B2.l
 ·rintro i v ys H' hv ⟨rfl,rfl⟩;obtain⟨a,p,rfl,hp,hat⟩:=B2.la.at_ref hv;have hi:=(List.getElem?_eq_some_iff.mp hp).1;refine Jc (σ':=[none,none]) rfl ?_;refine JV (SqT.of hat) ?_;exists iteT ?_;exists⟨by rw[length_map,length_take,length_map];omega,?_,rfl⟩;rw[take_snoc (show(ls.map (·.2))[i]?=some p.2 by rw[List.getElem?_map,hp];rfl),map_append];rfl
 rintro ys H' ⟨rfl,rfl⟩;rw[show(las.map V.ref).length=(ls.map (·.2)).length by rw[length_map,length_map];exact la,take_length];refine⟨by rw[length_map,length_map];omega,?_⟩;walk_at"f 3 t";exists⟨a,_,dx,_,rfl,s3 _ _ a2,T.jP,T.JS,few (Jd _ _ _) (by decide),?_⟩;have n3:p3≠a:=fun z=>by rw[z,a2]at hp3;cases hp3
 generalize e4:upd H3 a _=H4;have k4:∀c u,c≠a->H3 c=some u->H4 c=some u:=fun c u n h=>e4▸(jh n).trans h
 have a4:=Kc e4;clear e4;have z4:Same H0 H4:=fun c u h=>k4 _ _ (n0 h) (s3 _ _ (z2 _ _ h))
 have B4:=B0.same z4;exists ixTm (SqT.of B4.t) rfl ?_;exists⟨pp,rfl,⟨_,SqL.of B4.p⟩,?_⟩;refine j6 (xs:=pas.map V.ref) (fun i ys H'=>∃fbs:List Addr,ys=fbs.map V.ref/\All2 (fun a p=>FormAt H4 a p.2) fbs (ps.take i)/\H4=H') ⟨[],rfl,.nil,rfl⟩ ?_ ?_ ?_
 ·rintro i ys H' _ ⟨fbs,rfl,af,rfl⟩;exact SqL.of B4.p
 ·rintro i v ys H' hv ⟨fbs,rfl,af,rfl⟩;obtain⟨a',p,rfl,hp,fb,hat,hf⟩:=B4.pa.at_ref hv;have hi:=(List.getElem?_eq_some_iff.mp hp).1;have afl:=af.1;rw[length_take]at afl;refine Jc (σ':=[none,none]) rfl ?_;refine JV (SqT.of hat) ?_;exists iteT ?_;exists⟨by rw[length_map];omega,fbs++[fb],by rw[map_append];rfl,?_,rfl⟩;rw[take_snoc hp];exact All2.snoc af hf
 rintro ys H' ⟨fbs,rfl,af,rfl⟩;rw[length_map,pal,take_length]at af;have fl:=af.1;refine⟨by rw[length_map];omega,?_⟩;walk_at"f 5 t";exists⟨a,_,dx,_,rfl,s5 _ _ a4,T.jP,T.Jy,Nat.lt_of_le_of_lt (Jd _ _ _) (Nat.lt_of_le_of_lt (Nat.succ_le_succ (Jd _ _ _)) (by decide)),?_⟩;have n5:p5≠a:=fun z=>by rw[z,a4]at hp5;cases hp5
 generalize e6:upd H5 a _=H6;have k6:∀c u,c≠a->H5 c=some u->H6 c=some u:=fun c u n h=>e6▸(jh n).trans h
 have a6:=Kc e6;clear e6;have z6:Same H0 H6:=fun c u h=>k6 _ _ (n0 h) (s5 _ _ (z4 _ _ h))
 exists⟨b,pl,pp,las,pas,ls,ps,gs,hs,rfl,B0.same z6,N.s,fun l7 H7 s7 hl7 e7=>?_⟩;exists⟨a,_,dx,_,rfl,s7 _ _ a6,T.jP,T.jW,few3,?_⟩;have n7:l7≠a:=fun z=>by rw[z,a6]at hl7;cases hl7
 generalize e8:upd H7 a _=H8;have k8:∀c u,c≠a->H7 c=some u->H8 c=some u:=fun c u n h=>e8▸(jh n).trans h
 have a8:=Kc e8;clear e8;have z8:Same H0 H8:=fun c u h=>k8 _ _ (n0 h) (s7 _ _ (z6 _ _ h))
 exists⟨b,pl,pp,las,pas,ls,ps,rfl,B0.same z8,W,fun l9 as E H9 s9 hl9 e9 na lE aE oE=>?_⟩;exists⟨a,_,dx,_,rfl,s9 _ _ a8,T.jP,T.J3,few4,?_⟩;have n9:l9≠a:=fun z=>by rw[z,a8]at hl9;cases hl9
 generalize e10:upd H9 a _=H10;have k10:∀c u,c≠a->H9 c=some u->H10 c=some u:=fun c u n h=>e10▸(jh n).trans h
 have a10:=Kc e10;clear e10;have z10:Same H0 H10:=fun c u h=>k10 _ _ (n0 h) (s9 _ _ (z8 _ _ h))
 have w7:∀c u,c≠a->H7 c=some u->H10 c=some u:=fun c u n h=>k10 _ _ n (s9 _ _ (k8 _ _ n h))
 exists⟨a,_,dx,_,_,rfl,a10,T.jP,T.jW,(Jo (by decide +kernel)).trans ZN,?_⟩;exists⟨b,pl,pp,l7,las,pas,ls,ps,gs,rfl,B0.same z10,W,w7 _ _ n7 e7,gl,fun l11 as11 H11 s11 hl11 e11 ha11=>?_⟩;exists⟨a,_,dx,_,rfl,s11 _ _ a10,T.jP,T.JH,few5,?_⟩;have n11:l11≠a:=fun z=>by rw[z,a10]at hl11;cases hl11
 have k12:∀c u,c≠a->H11 c=some u->upd H11 a (.ins t.jM dx (fldS ⟨d,p3,p5,l7,l9,l11,fbs,as,as11⟩)) c=some u:=fun c u n h=>(jh n).trans h
 have u9:∀c u,c≠a->H9 c=some u->upd H11 a (.ins t.jM dx (fldS ⟨d,p3,p5,l7,l9,l11,fbs,as,as11⟩)) c=some u:=fun c u n h=>k12 _ _ n (s11 _ _ (k10 _ _ n h))
 have u7:∀c u,c≠a->H7 c=some u->_=some u:=fun c u n h=>u9 _ _ n (s9 _ _ (k8 _ _ n h))
 have u5:∀c u,c≠a->H5 c=some u->_=some u:=fun c u n h=>u7 _ _ n (s7 _ _ (k6 _ _ n h))
 have u3:∀c u,c≠a->H3 c=some u->_=some u:=fun c u n h=>u5 _ _ n (s5 _ _ (k4 _ _ n h))
 have u1:∀c u,c≠a->H1 c=some u->_=some u:=fun c u n h=>u3 _ _ n (s3 _ _ (k2 _ _ n h))
 have nq:∀{c:Addr} {xs:List V},H11 c=some (.lst xs)->c≠a:=fun h z=>by rw[z,s11 _ _ a10]at h;cases h
 have nqt:∀{c:Addr} {xs:List V},H11 c=some (.tup xs)->c≠a:=fun h z=>by rw[z,s11 _ _ a10]at h;cases h
 have nt:∀{c:Addr} {xs:List V},H9 c=some (.tup xs)->c≠a:=fun h z=>by rw[z,s9 _ _ a8]at h;cases h
 have nl:∀{c:Addr} {xs:List V},H9 c=some (.lst xs)->c≠a:=fun h z=>by rw[z,s9 _ _ a8]at h;cases h
 have n4t:∀{c:Addr} {xs:List V},H4 c=some (.tup xs)->c≠a:=fun h z=>by rw[z,a4]at h;cases h
 exact q ⟨d,p3,p5,l7,l9,l11,fbs,as,as11⟩ E _ (fun c u n h=>u1 _ _ n (s1 _ _ h)) ⟨⟨dx,jr⟩,u1 _ _ nd ed,u3 _ _ n3 t3,u5 _ _ n5 t5,All2.mono af fun c p h=>FormAt.put (fun b xs hb=>u5 _ _ (n4t hb) (s5 _ _ hb)) h,u7 _ _ n7 e7,u9 _ _ n9 e9,lE,
  All2.mono aE fun c e ⟨bs,h1,h2⟩=>⟨bs,u9 _ _ (nl h1) h1,All2.mono h2 fun b q h=>u9 _ _ (nt h) h⟩,oE,k12 _ _ n11 e11,All2.mono ha11 fun c e ⟨bs,h1,h2⟩=>⟨bs,k12 _ _ (nq h1) h1,All2.mono h2 fun b q h=>k12 _ _ (nqt h) h⟩⟩
theorem j2Y(T:Txt K mg t):FnOk P w K mg base CX0 1 t.yN t.yS ["start","goal","beats","j"] (Pr.Wh):=by
 refine T.xA.ok j3b (fun vs H Q E h=>?_) (fun cdv A outer s H vs Q E hr h=>?_)
 ·obtain⟨s0,g,b,j,rfl,hb,q⟩:=h;rfl
 obtain⟨s0,g,b,j,rfl,hb,q⟩:=h;refine⟨_,(jf (jw (jp jQ (pv 0) (jp JZ (jp Jb (jp Qw (pv 1) (pv 0)) (pv 3)) (pv 2))))),?_⟩;refine jx (σ':=[some _,some _,some _,some _]) rfl ?_;unfold Pr.B4 at hb;walk_at"g";exact q
theorem W1(T:Txt K mg t):FnOk P w K mg base CX0 1 t.QP t.QR ["pieces","sizes","gone"] (sp_progress):=by
 refine T.YS.ok J0 (fun vs H Q E h=>?_) (fun cdv A outer s H vs Q E hr h=>?_)
 ·cases h;subst_vars;rfl
 obtain⟨l,s0,t0,bs,qs,gs,rfl,el,hq,es,q8,ok,t1,t2,q⟩:=h;refine⟨_,(jb (jm (i:=3) J0.nd rfl (.inl rfl) (jF jc))
  (jb (j7 PassesOwn.never rfl (jG (pv 0)) (Jz rfl (jq (jk (i:=4) J0.nd rfl (.inl rfl)) (jq (jk (i:=5) J0.nd rfl (.inl rfl)) (jq (jk (i:=6) J0.nd rfl (.inl rfl)) jZ))))
   (jf (jS (jt X6 (pv 6) (pv 2) (nomark _))
    (jb (jm (i:=7) J0.nd rfl (.inl rfl) (jy (Kj rfl) (by rfl) T.j3m j12 (ja (jp JZ (jp Qw (pv 2) (pv 6)) (ji jv (pv 1) (pv 4))) (ja (pv 5) jc))))
    (jb (jm (i:=8) J0.nd rfl (.inl rfl) (kj (jt X7 (pv 7) (pv 5) (nomark _)) (jp Qw (jp Qw (pv 2) (pv 6)) (jp Jb (pv 7) (ji jv (pv 1) (pv 4)))) j1P))
    (jf (jB (Jf PySem.F.plainAttrs_list PySem.F.slot_list_append PySem.F.type_list_append jA (pv 3) (ja (Ja (ja (pv 4) (ja (pv 6) (ja (pv 7) (ja (pv 8) jc))))) jc))))))
    ju)))
  (jf (jw (pv 3))))),?_⟩
 refine jx (σ':=[some _,some _,some _,none,none,none,none,none,none]) rfl ?_;have sz:(10000:Nat)<sizeLine:=by decide
 have gat:∀j,j<gs.length->gs[j]?=some (gs.getD j 0):=fun j h=>by
  rw[getD_eq_getElem?_getD,List.getElem?_eq_getElem h];rfl
 have bl:=hq.1;exists⟨Nat.zero_le _,?_⟩;walk_at"f p hp H1 s1 e1";have np:∀{c u},H c=some u->c≠p:=fun h=>je h hp
 exists⟨l,rfl,⟨_,SqL.of (s1 _ _ el)⟩,?_⟩;refine j9 (xs:=bs.map V.ref) (fun i σ H'=>∃(o4 o5 o6 o7 o8:Option V) (as:List Addr),σ=[some (.ref l),some (.ref s0),some (.int t0),some (.ref p),o4,o5,o6,o7,o8]/\Same H H'/\H' p=some (.lst (as.map V.ref))/\as.length<=i/\PrgAt H' as (prg gs t0 (qs.take i)))
  ⟨_,_,_,_,_,[],rfl,s1,e1,Nat.le_refl _,.nil⟩ ?_ ?_ ?_
 ·rintro i σ H' _ ⟨o4,o5,o6,o7,o8,as,rfl,sm,ep,la,ha⟩;exact SqL.of (sm _ _ el)
 ·rintro i v σ H' hv ⟨o4,o5,o6,o7,o8,as,rfl,sm,ep,la,ha⟩;obtain⟨c,x,rfl,hx,hc⟩:=hq.at_ref hv;have hi:=(List.getElem?_eq_some_iff.mp hx).1;have okx:=ok x (List.mem_of_getElem? hx);have okx':=okx;obtain⟨x1,g1,g2,n1,n2,b1,b2⟩:=okx';have more:prg gs t0 (qs.take (i+1))=prg gs t0 (qs.take i)++(prg1 gs t0 x).toList:=by
   rw[take_snoc hx];unfold prg;rw[List.filterMap_append];congr 1
  refine j1Y (SqT.of (sm _ _ hc)) ?_;exists iteD (fun c1=>?_) (fun c1=>?_)
  ·have ovb:=j1N okx c1;exists ixLm (SqL.of (sm _ _ es)) (jO (j:=x.1) (by rw[List.getElem?_map,gat _ x1];rfl)) ?_;walk_at"g";have eo:(if x.2.1<(t0-x.2.2)/gs.getD x.1 0 then x.2.1 else(t0-x.2.2)/gs.getD x.1 0)=ov gs t0 x:=rfl;have eo2:(if(t0-x.2.2)/gs.getD x.1 0>x.2.1 then x.2.1 else(t0-x.2.2)/gs.getD x.1 0)=ov gs t0 x:=rfl;refine⟨_,_,rfl,?_⟩;rw[eo];exists iteD (fun c2=>?_) (fun c2=>?_)
   ·exists ixLm (SqL.of (sm _ _ es)) (jO (j:=x.1) (by rw[List.getElem?_map,gat _ x1];rfl)) ?_;exists⟨.inl ⟨rfl,_,SqL.of ep⟩,?_⟩;exists⟨(by show 4<=sizeLine;omega),?_⟩;walk_at"f 2 e";exists⟨p,_,_,rfl,rfl,s2 _ _ ep,by rw[length_map];omega,?_⟩;have n2':p2≠p:=fun z=>by rw[z,s2 _ _ ep]at e2;cases e2
    refine⟨_,_,_,_,_,as++[p2],rfl,fun c u h=>(jh (np h)).trans (s2 _ _ (sm _ _ h)),by rw[jr,map_append];rfl,by rw[List.length_append];show as.length+1<=_;omega,?_⟩;have e1':prg1 gs t0 x=some (x.1,x.2.2,ov gs t0 x,some (t0-x.2.2-ov gs t0 x*gs.getD x.1 0)):=by
     unfold prg1;rw[if_pos c1,if_pos c2]
    rw[more,e1'];refine All2.snoc (All2.mono ha fun c y h=>?_) ((jh n2').trans e2);exact(jh (fun z=>by rw[z,ep]at h;cases h)).trans (s2 _ _ h)
   ·exists⟨.inl ⟨rfl,_,SqL.of ep⟩,?_⟩;exists⟨(by show 4<=sizeLine;omega),?_⟩;walk_at"f 2 e";exists⟨p,_,_,rfl,rfl,s2 _ _ ep,by rw[length_map];omega,?_⟩;have n2':p2≠p:=fun z=>by rw[z,s2 _ _ ep]at e2;cases e2
    refine⟨_,_,_,_,_,as++[p2],rfl,fun c u h=>(jh (np h)).trans (s2 _ _ (sm _ _ h)),by rw[jr,map_append];rfl,by rw[List.length_append];show as.length+1<=_;omega,?_⟩;have e1':prg1 gs t0 x=some (x.1,x.2.2,ov gs t0 x,none):=by
     unfold prg1;rw[if_pos c1,if_neg c2]
    rw[more,e1'];refine All2.snoc (All2.mono ha fun c y h=>?_) ((jh n2').trans e2);exact(jh (fun z=>by rw[z,ep]at h;cases h)).trans (s2 _ _ h)
  ·exists⟨_,_,_,_,_,as,rfl,sm,ep,by omega,?_⟩;have e1':prg1 gs t0 x=none:=by
    unfold prg1;rw[if_neg c1]
   rw[more,e1'];show PrgAt H' as (_++[]);rw[append_nil];exact ha
 rintro σ' H' ⟨o4,o5,o6,o7,o8,as,rfl,sm,ep,la,ha⟩;rw[length_map,bl,take_length]at ha;walk_at"g";exact q p as H' sm hp ep ha
theorem j0D(T:Txt K mg t)(ZK:FnOk P w K mg base CX0 1 t.QP t.QR ["pieces","sizes","gone"] (sp_progress)):FnOk P w K mg base CX0 2 t.zX t.Zb ["pieces","sizes","gone"] (sp_within):=by
 refine T.Wt.ok QN (fun vs H Q E h=>?_) (fun cdv A outer s H vs Q E hr h=>?_)
 ·cases h;subst_vars;rfl
 obtain⟨l,s0,t0,bs,qs,gs,rfl,el,hq,es,q8,ok,t1,t2,q⟩:=h;refine⟨_,(jb (jm (i:=3) QN.nd rfl (.inl rfl) (jF jc))
  (jb (j7 PassesOwn.never rfl (jG (jn (ZK.mono (by decide)) hr (by rfl) T.xZ T.YS.kp T.xy .nil pass0 (ja (pv 0) (ja (pv 1) (ja (pv 2) jc))))) (Jz rfl (jq (jk (i:=4) QN.nd rfl (.inl rfl)) (jq (jk (i:=5) QN.nd rfl (.inl rfl)) (jq (jk (i:=6) QN.nd rfl (.inl rfl)) (jq (jk (i:=7) QN.nd rfl (.inl rfl)) jZ)))))
   (jb (ze (jt Zf (pv 6) jd (nomark _))
    (jf (jB (Jf PySem.F.plainAttrs_list PySem.F.slot_list_append PySem.F.type_list_append jA (pv 3) (ja (Ja (ja (pv 4) (ja (ji jv (pv 1) (pv 4)) jc))) jc))))
    ju)
   (jf (jS (jt j34 (pv 7) j1P (nomark _))
    (jf (jB (Jf PySem.F.plainAttrs_list PySem.F.slot_list_append PySem.F.type_list_append jA (pv 3) (ja (Ja (ja (pv 4) (ja (pv 7) jc))) jc))))
    ju))))
  (jf (jw (pv 3))))),?_⟩
 refine jx (σ':=[some _,some _,some _,none,none,none,none,none]) rfl ?_;have sz:(10000:Nat)<sizeLine:=by decide
 have gat:∀j,j<gs.length->gs[j]?=some (gs.getD j 0):=fun j h=>by
  rw[getD_eq_getElem?_getD,List.getElem?_eq_getElem h];rfl
 exists⟨Nat.zero_le _,?_⟩;walk_at"f p hp H1 s1 e1";have np:∀{c u},H c=some u->c≠p:=fun h=>je h hp
 exists⟨l,s0,t0,bs,qs,gs,rfl,s1 _ _ el,All2.mono hq fun c x h=>s1 _ _ h,s1 _ _ es,q8,ok,t1,t2,fun l2 as2 H2 s2 hl2 e2 ha2=>?_⟩;have lpr:=X0 (gs:=gs) (t:=t0) qs;have al2:=ha2.1;have n2p:l2≠p:=fun z=>by rw[z,e1]at hl2;cases hl2
 have e12:=s2 _ _ e1;exists⟨l2,rfl,⟨_,SqL.of e2⟩,?_⟩;refine j9 (xs:=as2.map V.ref) (fun i σ H'=>∃(o4 o5 o6 o7:Option V) (as:List Addr),σ=[some (.ref l),some (.ref s0),some (.int t0),some (.ref p),o4,o5,o6,o7]/\(∀c u,c≠p->H2 c=some u->H' c=some u)/\H' p=some (.lst (as.map V.ref))/\as.length<=2*i/\GonAt H' as (((prg gs t0 qs).take i).flatMap (wth1 gs)))
  ⟨_,_,_,_,[],rfl,fun c u _ h=>h,e12,Nat.le_refl _,.nil⟩ ?_ ?_ ?_
 ·rintro i σ H' _ ⟨o4,o5,o6,o7,as,rfl,sm,ep,la,ha⟩;exact SqL.of (sm _ _ n2p e2)
 ·rintro i v σ H' hv ⟨o4,o5,o6,o7,as,rfl,sm,ep,la,ha⟩;obtain⟨c,y,rfl,hy,hc⟩:=ha2.at_ref hv;have hi:=(List.getElem?_eq_some_iff.mp hy).1;have ncp:c≠p:=fun z=>by rw[z,e12]at hc;cases hc
  obtain⟨x,hx,ex⟩:=wE (List.mem_of_getElem? hy);have y1:y.1<gs.length:=by rw[W4 ex];exact(ok x hx).1
  have more:((prg gs t0 qs).take (i+1)).flatMap (wth1 gs)=((prg gs t0 qs).take i).flatMap (wth1 gs)++wth1 gs y:=by
   rw[take_snoc hy,flatMap_append,flatMap_cons,flatMap_nil,append_nil]
  have es':H' s0=some (.lst (gs.map V.int)):=sm _ _ (np es) (s2 _ _ (s1 _ _ es));refine j48 (SqT.of (sm _ _ ncp hc)) ?_;exists⟨fun σ' H3=>∃as3:List Addr,σ'=[some (.ref l),some (.ref s0),some (.int t0),some (.ref p),some (.int (y.1:Nat)),some (.int y.2.1),some (.int y.2.2.1),some (optV y.2.2.2)]/\(∀c u,c≠p->H' c=some u->H3 c=some u)/\H3 p=some (.lst (as3.map V.ref))/\as3.length<=2*i+1/\GonAt H3 as3 (((prg gs t0 qs).take i).flatMap (wth1 gs)++(if 0<y.2.2.1 then[(y.1,gs.getD y.1 0)]else[])),?_,?_⟩
  rotate_left
  ·exists iteD (fun c1=>?_) (fun c1=>?_)
   ·exists⟨.inl ⟨rfl,_,SqL.of ep⟩,?_⟩;exists ixLm (SqL.of es') (jO (j:=y.1) (by rw[List.getElem?_map,gat _ y1];rfl)) ?_;exists⟨(by show 2<=sizeLine;omega),?_⟩;walk_at"f p2 hp2 H3 s3 e3";exists⟨p,_,_,rfl,rfl,s3 _ _ ep,by rw[length_map];omega,?_⟩;have n2':p2≠p:=fun z=>by rw[z,s3 _ _ ep]at e3;cases e3
    refine⟨as++[p2],rfl,fun c u hc h=>(jh hc).trans (s3 _ _ h),by rw[jr,map_append];rfl,by rw[List.length_append];show as.length+1<=_;omega,?_⟩;rw[if_pos c1];refine All2.snoc (All2.mono ha fun c y h=>?_) ((jh n2').trans e3);exact(jh (fun z=>by rw[z,ep]at h;cases h)).trans (s3 _ _ h)
   ·exists⟨as,rfl,fun c u _ h=>h,ep,by omega,?_⟩;rw[if_neg c1,append_nil];exact ha
  rintro σ' H3 ⟨as3,rfl,sm3,ep3,la3,ha3⟩;have fin:wth1 gs y=(if 0<y.2.2.1 then[(y.1,gs.getD y.1 0)]else[])++(match y.2.2.2 with | some r=>[(y.1,r)] | none=>[]):=rfl;cases er:y.2.2.2 with
  | none=>
   exists⟨rfl,_,rfl,?_⟩;refine iteB0 (by simp[optV]) ?_;exists⟨_,_,_,_,as3,rfl,fun c u hc h=>sm3 _ _ hc (sm _ _ hc h),ep3,by omega,?_⟩;rw[more,fin,er,append_nil];exact ha3
  | some r=>
   exists⟨rfl,_,rfl,?_⟩;refine iteB1 (by simp[optV]) ?_;exists⟨.inl ⟨rfl,_,SqL.of ep3⟩,?_⟩;exists⟨(by show 2<=sizeLine;omega),?_⟩;walk_at"f p2 hp2 H4 s4 e4";exists⟨p,_,_,rfl,rfl,s4 _ _ ep3,by rw[length_map];omega,?_⟩;have n2':p2≠p:=fun z=>by rw[z,s4 _ _ ep3]at e4;cases e4
   refine⟨_,_,_,_,as3++[p2],rfl,fun c u hc h=>(jh hc).trans (s4 _ _ (sm3 _ _ hc (sm _ _ hc h))),by rw[jr,map_append];rfl,by rw[List.length_append];show as3.length+1<=_;omega,?_⟩;rw[more,fin,er,<-List.append_assoc];refine All2.snoc (All2.mono ha3 fun c y h=>?_) ((jh n2').trans e4);exact(jh (fun z=>by rw[z,ep3]at h;cases h)).trans (s4 _ _ h)
 rintro σ' H' ⟨o4,o5,o6,o7,as,rfl,sm,ep,la,ha⟩;rw[length_map,al2,take_length]at ha;walk_at"g";exact q p as H' (fun c u h=>sm _ _ (np h) (s2 _ _ (s1 _ _ h))) hp ep ha
theorem kf(T:Txt K mg t)(YU:FnOk P w K mg base CX0 2 t.zX t.Zb ["pieces","sizes","gone"] (sp_within)):FnOk P w K mg base CX0 3 t.JQ t.JR ["self","beat"] (sp_sceneS t.jM):=by
 refine T.kL.ok Jl (fun vs H Q E h=>?_) (fun cdv A outer s H vs Q E hr h=>?_)
 ·cases h;subst_vars;rfl
 obtain⟨a,z,ls,ps,gs,hs,E,t0,rfl,A,N,t1,t2,q⟩:=h;refine⟨_,(jb (jS (Yb (j1T X6 X6 jd (pv 1) (ji jv (QX (pv 0) rfl) (zo qZ jd))))
   (jf Zh)
   ju)
  (jb (jm (i:=2) Jl.nd rfl (.inl rfl) (QM QB (by rfl) T.zY Q2 (ja (QX (pv 0) rfl) jc)))
  (jb (jm (i:=3) Jl.nd rfl (.inl rfl) (jF jc))
  (jb (jm (i:=4) Jl.nd rfl (.inl rfl) (jF (ja (Ja (ja (jp Qw (jy jJ (by rfl) T.JW Jj (ja (QX (pv 0) rfl) jc)) jd) (ja (pv 1) jc))) jc)))
  (jb (W5 PassesOwn.never (Xr (pv 4) (fun _=>rfl))
   (jb (jm (i:=5) Jl.nd rfl (.inl rfl) (Xj PySem.F.plainAttrs_list PySem.F.slot_list_pop PySem.F.type_list_pop j1B (pv 4)))
   (jf (jS (jt X7 (ji jo (pv 5) jd) (ji jv (QX (pv 0) rfl) (ji jo (pv 5) jd)) (nomark _))
    (jb (jB (Jf PySem.F.plainAttrs_list PySem.F.slot_list_append PySem.F.type_list_append jA (pv 3) (ja (pv 5) jc)))
    (jf (jB (Jf PySem.F.plainAttrs_list PySem.F.slot_list_extend PySem.F.type_list_extend zn (pv 4) (ja (j1Q (jn (YU.mono (by decide)) hr (by rfl) T.j1u T.Wt.kp T.j0X .nil pass0 (ja (ji jv (QX (pv 0) rfl) (ji jo (pv 5) jd)) (ja (QX (pv 0) rfl) (ja (ji jo (pv 5) jd) jc)))) (Q5 (zo qZ jd))) jc)))))
    (jf (j7 PassesOwn.never rfl (jG (ji jv (QX (pv 0) rfl) (ji jo (pv 5) jd))) (Jz rfl (jq (jk (i:=6) Jl.nd rfl (.inl rfl)) (jq (jk (i:=7) Jl.nd rfl (.inl rfl)) jZ)))
     (jf (km (pv 7) (Xo (pv 2) (pv 6) set_list)))))))))
  (jf (jw (Ja (ja (pv 2) (ja (pv 3) jc)))))))))),?_⟩
 refine jx (σ':=[some _,some _,none,none,none,none,none,none]) rfl ?_;have sz:(10000:Nat)<sizeLine:=by decide
 have W:=N.s.w;have gl:=N.s.gl;have ne:=N.ne;have p61:=W.p61;have lE:=A.el;have M8:∀i,i<ps.length->(hs.getD i []).length<=8:=fun i hi=>j2T W N.hl N.m (Y8 N.s N.hl hi)
 have glast:atI (gs.map V.int) (-1)=some (.int (gs.getD (ps.length-1) 0)):=YD (by omega) (by rw[gl]);have gat:∀j,j<ps.length->gs[j]?=some (gs.getD j 0):=fun j h=>N.j1g h
 obtain⟨dx,ob⟩:=A.ob;exists iteD (fun _=>?_) (fun c=>absurd t1 c);exists⟨a,_,dx,_,_,rfl,ob,T.jP,T.jW,Zu,?_⟩;exists ixLm (SqL.of A.hs) (glast) ?_;exists iteN (fun z=>absurd t2 z) (fun _=>?_);exists⟨a,_,dx,_,_,rfl,ob,T.jP,T.JS,j0i,?_⟩;exists⟨z.f,_,rfl,.inl (SqL.of A.hf),?_⟩;walk_at"f 1 e";exists⟨Nat.zero_le _,?_⟩;walk_at"f 2 e";have s12:=s1.trans s2;exists⟨a,_,dx,_,_,rfl,s12 _ _ ob,T.jP,T.jW,Zu,?_⟩;exists⟨_,_,rfl,.inl ⟨_,SqL.of (s12 _ _ A.hs),rfl⟩,?_⟩;rw[length_map,gl];exists⟨(by show 2<=sizeLine;omega),?_⟩;walk_at"f 3 e";exists⟨(by show 1<=sizeLine;omega),?_⟩;walk_at"f 4 e";rw[show((ps.length:Nat):Int)-1=((ps.length-1:Nat):Int) by omega]at e3;have s13:=s12.trans s3;have s14:=s13.trans s4;have n12:p1≠p2:=je e1 hp2;have n14:p1≠p4:=je (s3 _ _ (s2 _ _ e1)) hp4;have n24:p2≠p4:=je (s3 _ _ e2) hp4;have m1:∀{c u},H c=some u->c≠p1:=fun h=>je h hp1
 have m2:∀{c u},H c=some u->c≠p2:=fun h=>je (s1 _ _ h) hp2
 have m4:∀{c u},H c=some u->c≠p4:=fun h=>je (s13 _ _ h) hp4
 have root:=N.nodes M8 (i:=ps.length-1) (t:=t0) (by omega) t1;have b18:∀h∈ls.map (·.2),0<=h/\h<=10^18:=fun h hh=>by
  obtain⟨q0,hq0,rfl⟩:=mem_map.mp hh;exact N.l18 q0 hq0
 exists⟨fun m σ H'=>∃(o5 o6 o7:Option V) (pas tas:List Addr) (D P S:List (Nat×Int)),σ=[some (.ref a),some (.int t0),some (.ref p1),some (.ref p2),some (.ref p4),o5,o6,o7]/\ScAt ls ps gs E t0 H H' p1 p2 p4 pas tas D P S/\m=(S.map fun x=>nodes ps gs x.1 x.2).sum,
  ⟨_,none,none,none,[],[p3],[],[],[(ps.length-1,t0)],rfl,⟨s14,s4 _ _ (s3 _ _ (s2 _ _ e1)),s4 _ _ (s3 _ _ e2),e4,.nil,All2.snoc (as:=[]) (xs:=[]) .nil (s4 _ _ e3),by simp,fun x hx=>by rw[mem_singleton.mp hx];exact⟨by show ps.length-1<_;omega,t1⟩,rfl,(fun x hx=>nomatch hx),by simpa using root,by show(ls.map (·.2)).length=_;rw[length_map],b18⟩,rfl⟩,?_⟩
 rintro m σ H' ⟨o5,o6,o7,pas,tas,D,P,S,rfl,Sc,rfl⟩;obtain⟨sm,e1',e2',eT,gP,gT,inv,hS,hP,bP,bnd,ll,hb⟩:=Sc;have slen:S.length<=(S.map fun x=>nodes ps gs x.1 x.2).sum:=kB fun x _=>KD (ps:=ps) (gs:=gs) x.1 x.2
 have pl:=gP.1;have tl:=gT.1;exists⟨_,.inl ⟨_,SqL.of eT,rfl⟩,?_⟩;rcases eq_nil_or_concat S with rfl | ⟨S0,x,rfl⟩
 ·have et:tas=[]:=length_eq_zero_iff.mp tl;subst et;refine iteF ?_;walk_at"g";rw[show([]:List (Nat×Int)).reverse.flatMap (fun x=>reach ps gs x.1 x.2)=[]from rfl,append_nil]at inv;subst inv;have b0:([].map fun x:Nat×Int=>nodes ps gs x.1 x.2).sum=0:=rfl;refine⟨(by show 2<=sizeLine;omega),?_⟩;walk_at"f 5 e";exact q p5 p1 p2 pas P H5 (sm.trans s5) hp1 (none_of s1 hp2) e5 (s5 _ _ e1') ll hb (s5 _ _ e2') n12 (All2.mono gP fun c y h=>s5 _ _ h) (by omega) bP hP
 rw[concat_eq_append]at *;obtain⟨tas0,ax,rfl,gT0,hax⟩:=All2.last gT;rw[map_append]at eT|-;refine iteB1 (by simp) ?_;obtain⟨x1,x2⟩:=hS x (mem_append_right _ mem_cons_self);have hS0:∀y∈S0,y.1<ps.length/\0<=y.2:=fun y hy=>hS y (mem_append_left _ hy)
 rw[reverse_append,flatMap_append,map_append,sum_append]at *;have nd1:=KD (ps:=ps) (gs:=gs) x.1 x.2;have esum:([x].map fun x:Nat×Int=>nodes ps gs x.1 x.2).sum=nodes ps gs x.1 x.2:=by simp
 have eflat:([x].reverse.flatMap fun x=>reach ps gs x.1 x.2)=reach ps gs x.1 x.2:=by simp
 rw[esum]at slen bnd|-;have s0l:S0.length<=5000:=by rw[List.length_append]at slen;omega
 have t0l:=gT0.1;rw[eflat]at inv;refine⟨fun σ H'=>∃(o5 o6 o7:Option V) (pas tas:List Addr) (D P S:List (Nat×Int)),σ=[some (.ref a),some (.int t0),some (.ref p1),some (.ref p2),some (.ref p4),o5,o6,o7]/\ScAt ls ps gs E t0 H H' p1 p2 p4 pas tas D P S/\(S.map fun x=>nodes ps gs x.1 x.2).sum<(S0.map fun x=>nodes ps gs x.1 x.2).sum+nodes ps gs x.1 x.2,
  fun σ' H' ⟨o5,o6,o7,pas,tas,D,P,S,h1,h2,h3⟩=>⟨_,h3,o5,o6,o7,pas,tas,D,P,S,h1,h2,rfl⟩,?_⟩
 exists⟨.inl ⟨rfl,_,SqL.of eT⟩,?_⟩;refine⟨p4,_,.ref ax,rfl,rfl,eT,by simp,?_⟩;rw[show((tas0.map V.ref)++[ax].map V.ref).dropLast=tas0.map V.ref by simp];have naT:∀{c:Addr} {xs:List V},H' c=some (.tup xs)->c≠p4:=fun h z=>by rw[z,eT]at h;cases h
 have s5:Same H (upd H' p4 (.lst (tas0.map V.ref))):=fun c u h=>(jh (m4 h)).trans (sm _ _ h)
 have eT5:upd H' p4 (.lst (tas0.map V.ref)) p4=some (.lst (tas0.map V.ref)):=jr;have e15:=(jh (o:=HO.lst (tas0.map V.ref)) n14).trans e1';have e25:=(jh (o:=HO.lst (tas0.map V.ref)) n24).trans e2';have gP5:GonAt (upd H' p4 (.lst (tas0.map V.ref))) pas P:=All2.mono gP fun c y h=>(jh (naT h)).trans h
 have gT5:GonAt (upd H' p4 (.lst (tas0.map V.ref))) tas0 S0:=All2.mono gT0 fun c y h=>(jh (naT h)).trans h
 have ax5:=(jh (o:=HO.lst (tas0.map V.ref)) (naT hax)).trans hax;generalize upd H' p4 (.lst (tas0.map V.ref))=H5 at s5 eT5 e15 e25 gP5 gT5 ax5|-;clear naT;have es5:H5 z.s=some (.lst (gs.map V.int)):=s5 _ _ A.hs;have ob5:=s5 _ _ ob;exists ixTm (SqT.of ax5) rfl ?_;exists⟨a,_,dx,_,_,rfl,ob5,T.jP,T.jW,Zu,?_⟩;exists ixTm (SqT.of ax5) rfl ?_;exists ixLm (SqL.of es5) (jO (j:=x.1) (by rw[List.getElem?_map,gat _ x1];rfl)) ?_;walk_at"g";obtain⟨p,hp⟩:∃p,ps[x.1]?=some p:=⟨_,List.getElem?_eq_getElem x1⟩
 have epc:pcB ps gs x.1=pcsI gs p.2 (inP ps p.2):=by unfold pcB;rw[hp]
 refine iteD (fun c1=>?_) (fun c1=>?_)
 ·have ovf:ovB gs x=false:=decide_eq_false (by omega);have hpq:(ps.map fun p=>pcsI gs p.2 (inP ps p.2))[x.1]?=some (pcB ps gs x.1):=by rw[List.getElem?_map,hp,epc];rfl
  obtain⟨al,eal,bs,hbs,hq⟩:=A.pa.get hpq;have g60:=(N.g x1).2;have pc8:(pcB ps gs x.1).length<=8:=by rw[epc];exact j1m (N.i8 hp)
  have wl:=j2L (gs:=gs) (t:=x.2) (pcB ps gs x.1);exists⟨.inl ⟨rfl,_,SqL.of e25⟩,?_⟩;exists⟨p2,_,_,rfl,rfl,e25,by rw[length_map];omega,?_⟩;have na2:∀{c:Addr} {xs:List V},H5 c=some (.tup xs)->c≠p2:=fun h z=>by rw[z,e25]at h;cases h
  have s6:Same H (upd H5 p2 (.lst (pas.map V.ref++[.ref ax]))):=fun c u h=>(jh (m2 h)).trans (s5 _ _ h)
  have e26:upd H5 p2 (.lst (pas.map V.ref++[.ref ax])) p2=some (.lst ((pas++[ax]).map V.ref)):=by rw[jr,map_append];rfl
  have e16:=(jh (o:=HO.lst (pas.map V.ref++[.ref ax])) n12).trans e15;have eT6:=(jh (o:=HO.lst (pas.map V.ref++[.ref ax])) n24.symm).trans eT5;have ax6:=(jh (o:=HO.lst (pas.map V.ref++[.ref ax])) (na2 ax5)).trans ax5;have gP6:GonAt (upd H5 p2 (.lst (pas.map V.ref++[.ref ax]))) (pas++[ax]) (P++[x]):=All2.snoc (All2.mono gP5 fun c y h=>(jh (na2 h)).trans h) ax6;have gT6:GonAt (upd H5 p2 (.lst (pas.map V.ref++[.ref ax]))) tas0 S0:=All2.mono gT5 fun c y h=>(jh (na2 h)).trans h
  generalize upd H5 p2 (.lst (pas.map V.ref++[.ref ax]))=H6 at s6 e26 e16 eT6 ax6 gP6 gT6|-;exists⟨.inl ⟨rfl,_,SqL.of eT6⟩,?_⟩;exists⟨a,_,dx,_,_,rfl,s6 _ _ ob,T.jP,T.JH,xM,?_⟩;exists ixTm (SqT.of ax6) rfl ?_;exists ixLm (SqL.of (s6 _ _ A.hp)) (jY (i:=(x.1:Int)) (by omega) eal) ?_;exists⟨a,_,dx,_,_,rfl,s6 _ _ ob,T.jP,T.jW,Zu,?_⟩;exists ixTm (SqT.of ax6) rfl ?_;exists⟨al,z.s,x.2,bs,pcB ps gs x.1,gs,rfl,s6 _ _ hbs,All2.mono hq fun c y h=>s6 _ _ h,s6 _ _ A.hs,pc8,fun q hq=>N.pcOk hq,x2,by omega,fun lw was H7 s7 hlw ew hw=>?_⟩;exists⟨rfl,lw,_,rfl,SqL.of ew,?_⟩;walk_at"f lr hlr H8 s8 e8";have s68:=s7.trans s8;have eT8:=s68 _ _ eT6;have wal:=hw.1;refine⟨p4,lr,_,_,rfl,rfl,eT8,e8,by rw[length_map,length_reverse,length_map];omega,?_⟩;have naT8:∀{c:Addr} {xs:List V},H8 c=some (.tup xs)->c≠p4:=fun h z=>by rw[z,eT8]at h;cases h
  have gP9:=fun(c:Addr) (y:Nat×Int) (h:H6 c=some (.tup [.int (y.1:Nat),.int y.2]))=>(jh (o:=HO.lst (tas0.map V.ref++(was.map V.ref).reverse)) (naT8 (s68 _ _ h))).trans (s68 _ _ h)
  have bP':∀y∈P++[x],y.1<ps.length/\0<=y.2/\y.2<gs.getD y.1 0:=fun y hy=>by
   rcases mem_append.mp hy with h | h
   ·exact bP y h
   ·rw[mem_singleton.mp h];exact⟨x1,x2,c1⟩
  refine⟨_,_,_,pas++[ax],tas0++was.reverse,if leafB ps gs x=true then D++[x]else D,P++[x],S0++(wth gs x.2 (pcB ps gs x.1)).reverse,rfl,⟨fun c u h=>(jh (m4 h)).trans (s68 _ _ (s6 _ _ h)),?_,(jh n24).trans (s68 _ _ e26),by rw[jr,map_append,map_reverse],All2.mono gP6 gP9,?_,?_,?_,?_,bP',?_,?_,?_⟩,?_⟩
  ·rw[Y6 ovf];exact(jh n14).trans (s68 _ _ e16)
  ·exact All2.app (All2.mono gT6 gP9) (All2.mono (All2.rev hw) fun c y h=>(jh (naT8 (s8 _ _ h))).trans (s8 _ _ h))
  ·rw[reverse_append,List.reverse_reverse,flatMap_append,<-inv];by_cases lf:leafB ps gs x=true
   ·have c2:pcB ps gs x.1=[]:=List.isEmpty_iff.mp lf;rw[if_pos lf,c2,jU (.inr c2),List.append_assoc];rfl
   ·have c2:¬(gs.getD x.1 0<=x.2\/pcB ps gs x.1=[]):=fun h=>h.elim (by omega) fun e=>lf (List.isEmpty_iff.mpr e)
    rw[if_neg lf,JA W c2]
  ·intro y hy;rcases mem_append.mp hy with h | h
   ·exact hS0 y h
   ·have h:=List.mem_reverse.mp h;have:=Qb W h;exact⟨by omega,ZT (fun q hq=>N.pcOk hq) h⟩
  ·rw[filter_append,hP];by_cases lf:leafB ps gs x=true
   ·rw[if_pos lf,filter_append,filter_cons_of_pos lf,filter_cons_of_pos (by rw[ovf];rfl)];rfl
   ·rw[if_neg lf,filter_cons_of_neg lf];exact append_nil _
  ·have:=KC W (i:=x.1) (t:=x.2) c1;rw[map_append,sum_append,map_reverse,List.sum_reverse,List.length_append];show P.length+1+_<=_;omega
  ·rw[Y6 ovf];exact ll
  ·rw[Y6 ovf];exact hb
  ·have:=KC W (i:=x.1) (t:=x.2) c1;rw[map_append,sum_append,map_reverse,List.sum_reverse];omega
 ·have ovt:ovB gs x=true:=decide_eq_true (by omega);have hE:E[x.1]?=some (E.getD x.1 []):=by rw[getD_eq_getElem?_getD,List.getElem?_eq_getElem (by omega)];rfl
  obtain⟨ae,eae,bs,hbs,prs⟩:=A.ea.get hE;have bnd':=yg W (by omega) A.eo x.1;have eb:=j3H N lE A.eo x1;have hbs5:=s5 _ _ hbs;exists⟨a,_,dx,_,_,rfl,ob5,T.jP,T.J3,j1d,?_⟩;exists ixTm (SqT.of ax5) rfl ?_;exists ixLm (SqL.of (s5 _ _ A.hl)) (jY (i:=(x.1:Int)) (by omega) eae) ?_;refine⟨ae,rfl,⟨_,SqL.of hbs5⟩,?_⟩;have pl':=prs.1;have nae:ae≠p1:=m1 hbs;refine j9 (xs:=bs.map V.ref) (fun k σ H7=>∃(o6 o7:Option V),σ=[some (.ref a),some (.int t0),some (.ref p1),some (.ref p2),some (.ref p4),some (.ref ax),o6,o7]/\(∀c u,c≠p1->H5 c=some u->H7 c=some u)/\H7 p1=some (.lst ((setE ((E.getD x.1 []).take k) (hOf ls gs E D)).map V.int))/\(setE ((E.getD x.1 []).take k) (hOf ls gs E D)).length=ls.length/\(∀h∈setE ((E.getD x.1 []).take k) (hOf ls gs E D),0<=h/\h<=10^18))
   ⟨_,_,rfl,fun c u _ h=>h,e15,ll,hb⟩ ?_ ?_ ?_
  ·rintro k σ H7 _ ⟨o6,o7,rfl,sm7,ep7,_⟩;exact SqL.of (sm7 _ _ nae hbs5)
  ·rintro k v σ H7 hv ⟨o6,o7,rfl,sm7,ep7,ll7,hb7⟩;obtain⟨c',y,rfl,hy,hc'⟩:=prs.at_ref hv;have hy0:=List.mem_of_getElem? hy;have yb:=bnd' y hy0;have yh:=eb y hy0;refine JV (SqT.of (sm7 _ _ (m1 hc') (s5 _ _ hc'))) ?_;walk_at"g";have step:setE ((E.getD x.1 []).take (k+1)) (hOf ls gs E D)=(setE ((E.getD x.1 []).take k) (hOf ls gs E D)).set y.1.toNat y.2:=by
    unfold setE;rw[take_snoc hy,foldl_append];rfl
   refine⟨p1,_,_,y.1.toNat,rfl,rfl,ep7,ixZ yb.1 (by rw[length_map,ll7];exact yb.2),?_⟩;refine⟨_,_,rfl,fun c u hc h=>(jh hc).trans (sm7 _ _ hc h),jr.trans ?_,by rw[step,length_set];exact ll7,fun h hh=>?_⟩
   ·rw[step,List.map_set]
   ·rw[step]at hh;rcases mem_or_eq_of_mem_set hh with z | z
    ·exact hb7 h z
    ·rw[z];exact yh
  rintro σ' H7 ⟨o6,o7,rfl,sm7,ep7,ll7,hb7⟩;rw[length_map,pl',take_length]at ep7 ll7 hb7;have na1:∀{c:Addr} {xs:List V},H5 c=some (.tup xs)->c≠p1:=fun h z=>by rw[z,e15]at h;cases h
  have over:gs.getD x.1 0<=x.2:=by omega
  refine⟨_,_,_,pas,tas0,D++[x],P,S0,rfl,⟨fun c u h=>sm7 _ _ (m1 h) (s5 _ _ h),?_,sm7 _ _ n12.symm e25,sm7 _ _ n14.symm eT5,All2.mono gP5 fun c y h=>sm7 _ _ (na1 h) h,All2.mono gT5 fun c y h=>sm7 _ _ (na1 h) h,?_,hS0,?_,bP,by omega,?_,?_⟩,by omega⟩
  ·rw[Y7 ovt];exact ep7
  ·rw[<-inv,jU (.inl over),List.append_assoc]
  ·rw[hP,filter_append,filter_cons_of_neg (by rw[ovt];decide)];exact(append_nil _).symm
  ·rw[Y7 ovt];exact ll7
  ·rw[Y7 ovt];exact hb7
theorem ZE(T:Txt K mg t)(yL:FnOk P w K mg base CX0 1 t.yN t.yS ["start","goal","beats","j"] (Pr.Wh))(JP:FnOk P w K mg base CX0 3 t.JQ t.JR ["self","beat"] (sp_sceneS t.jM)):FnOk P w K mg base CX0 4 t.Ji t.Jk ["self","beat"] (sp_heightsS t.jM):=by
 refine T.ZI.ok jN (fun vs H Q E h=>?_) (fun cdv A outer s H vs Q E hr h=>?_)
 ·cases h;subst_vars;rfl
 obtain⟨a,z,ls,ps,gs,hs,E,t0,rfl,A,N,t1,t2,q⟩:=h;refine⟨_,(jb (jm (i:=2) jN.nd rfl (.inl rfl) (YG (pv 0) T.jP T.Ze (JP.mono (by decide)) hr T.ZF .nil pass0 (ja (pv 1) jc)))
  (jb (jm (i:=3) jN.nd rfl (.inl rfl) (ji jo (pv 2) jd))
  (jb (j7 PassesOwn.never rfl (jG (ji jo (pv 2) jd)) (Jz rfl (jq (jk (i:=4) jN.nd rfl (.inl rfl)) (jq (jk (i:=5) jN.nd rfl (.inl rfl)) jZ)))
   (jb (jm (i:=6) jN.nd rfl (.inl rfl) (ji jv (QX (pv 0) rfl) (pv 4)))
   (jf (jS (jt Jn (ji jo (pv 6) jd) jL (nomark _))
    (jb (jm (i:=7) jN.nd rfl (.inl rfl) (YF (Kt hr) (QX (pv 0) rfl) (ji jo (pv 6) jd)))
    (jf (km (jn (yL.mono (by decide)) hr (by rfl) T.j1s T.xA.kp T.j0V .nil pass0 (ja (ji jv (pv 3) (pv 7)) (ja (ji jo (pv 6) jd) (ja (ji jo (pv 6) jd) (ja (pv 5) jc))))) (Xo (pv 3) (pv 7) set_list))))
    ju))))
  (jf (jw (pv 3)))))),?_⟩
 refine jx (σ':=[some _,some _,none,none,none,none,none,none]) rfl ?_;have sz:(10000:Nat)<sizeLine:=by decide
 have W:=N.s.w;have lE:=A.el;obtain⟨dx,ob⟩:=A.ob;exists⟨a,dx,_,rfl,ob,wm (by decide +kernel) (by decide +kernel) (by decide +kernel) (by decide +kernel) (by decide +kernel) (by decide +kernel),?_⟩;exists⟨a,z,ls,ps,gs,hs,E,t0,rfl,A,N,t1,t2,fun r l1 l2 as P H1 s1 hl1 hl2 er h1 ll hb h2 n12 gP pl bP hP=>?_⟩;have fin:=xn N lE A.eo t1 hP;exists ixTm (SqT.of er) rfl ?_;exists ixTm (SqT.of er) rfl ?_;have m1:∀{c u},H c=some u->c≠l1:=fun h=>je h hl1
 have al:=gP.1;refine⟨l2,rfl,⟨_,SqL.of h2⟩,?_⟩;refine j9 (xs:=as.map V.ref) (fun i σ H'=>∃(o4 o5 o6 o7:Option V),σ=[some (.ref a),some (.int t0),some (.ref r),some (.ref l1),o4,o5,o6,o7]/\(∀c u,c≠l1->H1 c=some u->H' c=some u)/\H' l1=some (.lst (((P.take i).foldl (rzH ls ps) (strH ls ps gs E t0)).map V.int))/\((P.take i).foldl (rzH ls ps) (strH ls ps gs E t0)).length=ls.length/\(∀h∈((P.take i).foldl (rzH ls ps) (strH ls ps gs E t0)),0<=h/\h<=10^18))
  ⟨_,_,_,_,rfl,fun c u _ h=>h,h1,ll,hb⟩ ?_ ?_ ?_
 ·rintro i σ H' _ ⟨o4,o5,o6,o7,rfl,sm,ep,_⟩;exact SqL.of (sm _ _ n12.symm h2)
 ·rintro i v σ H' hv ⟨o4,o5,o6,o7,rfl,sm,ep,ll,hb⟩;obtain⟨c,x,rfl,hx,hc⟩:=gP.at_ref hv;obtain⟨x1,x0,x2⟩:=bP x (List.mem_of_getElem? hx);obtain⟨p,hp⟩:∃p,ps[x.1]?=some p:=⟨_,List.getElem?_eq_getElem x1⟩
  obtain⟨fb,efb,hf⟩:=A.fo.get hp;have more:(P.take (i+1)).foldl (rzH ls ps) (strH ls ps gs E t0)=rzH ls ps ((P.take i).foldl (rzH ls ps) (strH ls ps gs E t0)) x:=by
   rw[take_snoc hx,foldl_append];rfl
  rw[more];generalize(P.take i).foldl (rzH ls ps) (strH ls ps gs E t0)=hts at ep ll hb|-;have n3:∀{c u},H c=some u->H' c=some u:=fun h=>sm _ _ (m1 h) (s1 _ _ h)
  have nc:c≠l1:=fun z=>by rw[z,h1]at hc;cases hc
  have hf1:FormAt H' fb p.2:=FormAt.put (fun b xs hb=>n3 hb) hf;refine JV (SqT.of (sm _ _ nc hc)) ?_;exists⟨a,_,dx,_,_,rfl,n3 ob,T.jP,T.Jy,Kp,?_⟩;exists ixLm (SqL.of (n3 A.ho)) (jY (i:=(x.1:Int)) (by omega) efb) ?_;walk_at"g";by_cases hr':∃y v n,p.2 = .rise y v n
  ·obtain⟨y,v,n,e⟩:=hr';rw[e]at hf1;have hp':ps[x.1]?=some (p.1,.rise y v n):=by rw[hp,<-e]
   obtain⟨k,hk⟩:=W.r x.1 p.1 y v n hp';have ek:=Jm W.ln hk;have kl:k<ls.length:=by have:=(List.getElem?_eq_some_iff.mp hk).1;rw[nmsOf,length_map]at this;exact this
   have hf6:H' fb=some (.tup [.str "raise",.str y,.int v,.int n]):=hf1;have gx:gs.getD x.1 0=n:=((N.s.ln x.1 (p.1,.rise y v n) hp').2 n (show LenIs (.rise y v n) _ n from rfl)).symm;have eA:rzH ls ps hts x=hts.set k (Rp.ramp (hts.getD k 0) v n x.2):=by
    unfold rzH;rw[hp'];show hts.set (ixOf (nmsOf ls) y) (Rp.ramp (hts.getD (ixOf (nmsOf ls) y) 0) v n x.2)=_;rw[ek]
   refine ixTm (SqT.of hf6) rfl ?_;exists iteE1 ?_;exists⟨a,_,dx,_,_,rfl,n3 ob,T.jP,T.JT,j0j,?_⟩;exists ixTm (SqT.of hf6) rfl ?_;have g:DGet H' z.d (.str y) (some (.int (k:Nat))):=by
    have g:=DGet.k (k:=Sum.inr y) (n3 A.hd);rw[yp W.ln hk]at g;exact g
   refine⟨z.d,_,rfl,g,?_⟩;walk_at"g";have hh:hts[k]?=some (hts.getD k 0):=by rw[getD_eq_getElem?_getD,List.getElem?_eq_getElem (by omega)];rfl
   refine ixLm (SqL.of ep) (jO (j:=k) (by rw[List.getElem?_map,hh];rfl)) ?_;exists ixTm (SqT.of hf6) rfl ?_;exists ixTm (SqT.of hf6) rfl ?_;walk_at"g";have h0:=hb _ (List.mem_of_getElem? hh);obtain⟨v0,v1,n1,n2⟩:=N.r18 x.1 p.1 y v n hp';refine⟨_,_,_,_,rfl,by unfold Pr.B4;omega,?_⟩;exists⟨l1,_,_,k,rfl,rfl,ep,by unfold ixN;simp[ll,kl],?_⟩;rw[eA];refine⟨_,_,_,_,rfl,fun c u hc h=>(jh hc).trans (sm _ _ hc h),jr.trans (by rw[List.map_set]),by rw[length_set];exact ll,fun h hh'=>?_⟩;rcases mem_or_eq_of_mem_set hh' with z | z
   ·exact hb h z
   ·rw[z];exact wX h0 ⟨v0,v1⟩ n1 x0 (by omega)
  ·have eA:rzH ls ps hts x=hts:=by
    unfold rzH;rw[hp];obtain⟨pn,pf⟩:=p;cases pf with
    | rise y v n=>exact absurd ⟨y,v,n,rfl⟩ hr'
    | _=>rfl
   obtain⟨k,xs,hk,dk⟩:=WL hf1 fun y v n e=>hr' ⟨y,v,n,e⟩
   refine ixTm (SqT.of hk) (at0) ?_;exists iteB0 dk ?_;walk_at"g";rw[eA];exact⟨_,_,_,_,rfl,sm,ep,ll,hb⟩
 rintro σ' H' ⟨o4,o5,o6,o7,rfl,sm,ep,ll,hb⟩;rw[length_map,al,take_length,fin]at ep ll;walk_at"g";exact q l1 H' (fun c u h=>sm _ _ (m1 h) (s1 _ _ h)) hl1 ep ll
theorem j1K(T:Txt K mg t)(Jg:FnOk P w K mg base CX0 6 t.j4 t.Jh ["self","book"] (sp_initS t.jM))(ql:FnOk P w K mg base CX0 4 t.Ji t.Jk ["self","beat"] (sp_heightsS t.jM)):FnOk P w K mg base CX0 8 t.Z4 t.yf ["book","beat"] (sp_standG):=by
 refine T.KZ.ok j2a (fun vs H Q E h=>?_) (fun cdv A outer s H vs Q E hr h=>?_)
 ·cases h;subst_vars;rfl
 obtain⟨b,pl,pp,las,pas,ls,ps,gs,hs,t0,rfl,B,N,t1,t2,q⟩:=h;refine⟨_,(jf (jw (YG (X9 T.XI (Jg.mono (by decide)) hr (by rfl) T.WT T.zi .nil pass0 (ja (pv 0) jc)) T.jP T.ZD (ql.mono (by decide)) hr T.ZH .nil pass0 (ja (pv 1) jc)))),?_⟩;refine jx (σ':=[some _,some _]) rfl ?_;walk_at"g";intro o dx ho hdx ne;have s0:Same H (upd (upd H dx (.own o)) o (.ins t.jM dx [])):=fun c u h=>(jh (je h ho)).trans ((jh (je h hdx)).trans h)
 refine⟨o,dx,b,pl,pp,las,pas,ls,ps,gs,hs,rfl,jr,B.same s0,N,fun z E H1 k1 A=>⟨rfl,?_⟩⟩;obtain⟨dy,ob⟩:=A.ob;have s1:Same H H1:=fun c u h=>k1 _ _ (je h ho) (s0 _ _ h)
 refine⟨o,dy,_,rfl,ob,wm (by decide +kernel) (by decide +kernel) (by decide +kernel) (by decide +kernel) (by decide +kernel) (by decide +kernel),?_⟩;exists⟨o,z,ls,ps,gs,hs,E,t0,rfl,A,N,t1,t2,fun l H2 s2 hl e2 ll=>?_⟩;exact q l E H2 (s1.trans s2) (none_of s1 hl) A.el A.eo e2 ll
theorem yr(T:Txt K mg t)(JP:FnOk P w K mg base CX0 3 t.JQ t.JR ["self","beat"] (sp_sceneS t.jM)):FnOk P w K mg base CX0 4 t.JD t.JF ["self","beat"] (sp_wordsS t.jM):=by
 refine T.yI.ok Jx (fun vs H Q E h=>?_) (fun cdv A outer s H vs Q E hr h=>?_)
 ·cases h;subst_vars;rfl
 obtain⟨a,z,ls,ps,gs,hs,E,t0,rfl,A,N,t1,t2,q⟩:=h;refine⟨_,(jb (jm (i:=2) Jx.nd rfl (.inl rfl) (jF jc))
  (jb (j7 PassesOwn.never rfl (jG (ji jo (YG (pv 0) T.jP T.Ze (JP.mono (by decide)) hr T.ZF .nil pass0 (ja (pv 1) jc)) jd)) (Jz rfl (jq (jk (i:=3) Jx.nd rfl (.inl rfl)) (jq (jk (i:=4) Jx.nd rfl (.inl rfl)) jZ)))
   (jb (jm (i:=5) Jx.nd rfl (.inl rfl) (ji jv (QX (pv 0) rfl) (pv 3)))
   (jf (jS (PW.pt (kn (jt Jn (ji jo (pv 5) jd) jL (nomark _)) (yv (jt Jn (pv 4) jd (nomark _)))))
    (jf (jB (Jf PySem.F.plainAttrs_list PySem.F.slot_list_append PySem.F.type_list_append jA (pv 2) (ja (ji jo (pv 5) jd) jc))))
    ju))))
  (jf (jw (pv 2))))),?_⟩
 refine jx (σ':=[some _,some _,none,none,none,none]) rfl ?_;have sz:(10000:Nat)<sizeLine:=by decide
 obtain⟨dx,ob⟩:=A.ob;exists⟨Nat.zero_le _,?_⟩;walk_at"f p1 hp1 H0 s0 e0";exists⟨a,dx,_,rfl,s0 _ _ ob,wm (by decide +kernel) (by decide +kernel) (by decide +kernel) (by decide +kernel) (by decide +kernel) (by decide +kernel),?_⟩;exists⟨a,z,ls,ps,gs,hs,E,t0,rfl,A.same s0,N,t1,t2,fun r l1 l2 as P H1 s1 hl1 hl2 er h1 ll hb h2 n12 gP pl bP hP=>?_⟩;have fin:=xj N hP;have s01:=s0.trans s1;have e1:=s1 _ _ e0;have m1:∀{c u},H c=some u->c≠p1:=fun h=>je h hp1
 have n2:l2≠p1:=fun e=>by rw[e,e0]at hl2;cases hl2
 have al:=gP.1;have wl:∀xs:List (Nat×Int),(xs.flatMap (ringX ps)).length<=xs.length:=fun xs=>by
  induction xs with
  | nil=>exact Nat.le_refl _
  | cons x r ih=>
   rw[flatMap_cons,List.length_append,length_cons];have:(ringX ps x).length<=1:=by
    unfold ringX;split
    ·split<;>simp
    ·exact Nat.zero_le _
   omega
 exists ixTm (SqT.of er) rfl ?_;refine⟨l2,rfl,⟨_,SqL.of h2⟩,?_⟩;refine j9 (xs:=as.map V.ref) (fun i σ H'=>∃(o3 o4 o5:Option V),σ=[some (.ref a),some (.int t0),some (.ref p1),o3,o4,o5]/\(∀c u,c≠p1->H1 c=some u->H' c=some u)/\H' p1=some (.lst (((P.take i).flatMap (ringX ps)).map V.str)))
  ⟨_,_,_,rfl,fun c u _ h=>h,e1⟩ ?_ ?_ ?_
 ·rintro i σ H' _ ⟨o3,o4,o5,rfl,sm,ep⟩;exact SqL.of (sm _ _ n2 h2)
 ·rintro i v σ H' hv ⟨o3,o4,o5,rfl,sm,ep⟩;obtain⟨c,x,rfl,hx,hc⟩:=gP.at_ref hv;have hi:=(List.getElem?_eq_some_iff.mp hx).1;obtain⟨x1,x0,x2⟩:=bP x (List.mem_of_getElem? hx);obtain⟨p,hp⟩:∃p,ps[x.1]?=some p:=⟨_,List.getElem?_eq_getElem x1⟩
  obtain⟨fb,efb,hf⟩:=A.fo.get hp;have more:(P.take (i+1)).flatMap (ringX ps)=(P.take i).flatMap (ringX ps)++ringX ps x:=by
   rw[take_snoc hx,flatMap_append,flatMap_cons,flatMap_nil,append_nil]
  have n3:∀{c u},H c=some u->H' c=some u:=fun h=>sm _ _ (m1 h) (s01 _ _ h)
  have nc:c≠p1:=fun z=>by rw[z,e1]at hc;cases hc
  have hf1:FormAt H' fb p.2:=FormAt.put (fun b xs hb=>n3 hb) hf;refine JV (SqT.of (sm _ _ nc hc)) ?_;exists⟨a,_,dx,_,_,rfl,n3 ob,T.jP,T.Jy,Kp,?_⟩;exists ixLm (SqL.of (n3 A.ho)) (jY (i:=(x.1:Int)) (by omega) efb) ?_;walk_at"g";by_cases hring:∃y n,p.2 = .ring y n
  ·obtain⟨y,n,er⟩:=hring;rw[er]at hf1;have hf':H' fb=some (.tup [.str "ring",.str y,.int n]):=hf1;have ex:ringX ps x=if x.2=0 then[y]else[]:=by
    unfold ringX;rw[hp];obtain⟨pn,pf⟩:=p;have er:pf = .ring y n:=er;subst er;rfl
   refine ixTm (SqT.of hf') rfl ?_;exists iteE1 ?_;exists iteD (fun c=>?_) (fun c=>?_)
   ·exists⟨.inl ⟨rfl,_,SqL.of ep⟩,?_⟩;exists ixTm (SqT.of hf') rfl ?_;have:=wl (P.take i);rw[length_take]at this;refine⟨p1,_,_,rfl,rfl,ep,by rw[length_map];omega,?_⟩;refine⟨_,_,_,rfl,fun c u hc h=>(jh hc).trans (sm _ _ hc h),jr.trans ?_⟩;rw[more,ex,if_pos c,map_append];rfl
   ·exists⟨_,_,_,rfl,sm,?_⟩;rw[more,ex,if_neg c,append_nil];exact ep
  ·have ex:ringX ps x=[]:=by
    unfold ringX;rw[hp];obtain⟨pn,pf⟩:=p;cases pf with
    | ring y n=>exact absurd ⟨y,n,rfl⟩ hring
    | _=>rfl
   have key:∃k xs,H' fb=some (.tup (.str k::xs))/\decide (k=("ring" : Str))=false:=by
    generalize p.2=f at hf1 hring;cases f with
    | hold n=>exact⟨_,_,hf1,by decide +kernel⟩
    | ring y n=>exact absurd ⟨y,n,rfl⟩ hring
    | rise y v n=>exact⟨_,_,hf1,by decide +kernel⟩
    | row ps=>obtain⟨b',h1,_⟩:=hf1;exact⟨_,_,h1,by decide +kernel⟩
    | side ps=>obtain⟨b',h1,_⟩:=hf1;exact⟨_,_,h1,by decide +kernel⟩
    | again k y=>exact⟨_,_,hf1,by decide +kernel⟩
   obtain⟨k,xs,hk,dk⟩:=key;refine ixTm (SqT.of hk) (at0) ?_;exists iteB0 dk ?_;exists⟨_,_,_,rfl,sm,?_⟩;rw[more,ex,append_nil];exact ep
 rintro σ' H' ⟨o3,o4,o5,rfl,sm,ep⟩;rw[length_map,al,take_length,fin]at ep;walk_at"g";have w1:=wl P;rw[fin]at w1;exact q p1 H' (fun c u h=>sm _ _ (m1 h) (s01 _ _ h)) hp1 ep (by omega)
theorem j1J(T:Txt K mg t)(Jg:FnOk P w K mg base CX0 6 t.j4 t.Jh ["self","book"] (sp_initS t.jM))(qU:FnOk P w K mg base CX0 4 t.JD t.JF ["self","beat"] (sp_wordsS t.jM)):FnOk P w K mg base CX0 8 t.Z3 t.ye ["book","beat"] (sp_ringsG):=by
 refine T.KY.ok j29 (fun vs H Q E h=>?_) (fun cdv A outer s H vs Q E hr h=>?_)
 ·cases h;subst_vars;rfl
 obtain⟨b,pl,pp,las,pas,ls,ps,gs,hs,t0,rfl,B,N,t1,t2,q⟩:=h;refine⟨_,(jf (jw (YG (X9 T.XI (Jg.mono (by decide)) hr (by rfl) T.WT T.zi .nil pass0 (ja (pv 0) jc)) T.jP T.yo (qU.mono (by decide)) hr T.yF .nil pass0 (ja (pv 1) jc)))),?_⟩;refine jx (σ':=[some _,some _]) rfl ?_;walk_at"g";intro o dx ho hdx ne;have s0:Same H (upd (upd H dx (.own o)) o (.ins t.jM dx [])):=fun c u h=>(jh (je h ho)).trans ((jh (je h hdx)).trans h)
 refine⟨o,dx,b,pl,pp,las,pas,ls,ps,gs,hs,rfl,jr,B.same s0,N,fun z E H1 k1 A=>⟨rfl,?_⟩⟩;obtain⟨dy,ob⟩:=A.ob;have s1:Same H H1:=fun c u h=>k1 _ _ (je h ho) (s0 _ _ h)
 refine⟨o,dy,_,rfl,ob,wm (by decide +kernel) (by decide +kernel) (by decide +kernel) (by decide +kernel) (by decide +kernel) (by decide +kernel),?_⟩;exists⟨o,z,ls,ps,gs,hs,E,t0,rfl,A,N,t1,t2,fun l H2 s2 hl e2 ll=>?_⟩;exact q l H2 (s1.trans s2) (none_of s1 hl) e2 ll
theorem j0C(T:Txt K mg t):FnOk P w K mg base CX0 1 t.zW t.Za ["pieces","sizes","beat"] (sp_begins):=by
 refine T.Wr.ok zt (fun vs H Q E h=>?_) (fun cdv A outer s H vs Q E hr h=>?_)
 ·cases h;subst_vars;rfl
 obtain⟨l,ss,t0,bs,qs,gs,rfl,el,pa,es,ok,bl,q⟩:=h;refine⟨_,(jb (jm (i:=3) zt.nd rfl (.inl rfl) (jF jc))
  (jb (j7 PassesOwn.never rfl (jG (pv 0)) (Jz rfl (jq (jk (i:=4) zt.nd rfl (.inr rfl)) (jq (jk (i:=5) zt.nd rfl (.inl rfl)) (jq (jk (i:=6) zt.nd rfl (.inr rfl)) jZ))))
   (jf (jB (Jf PySem.F.plainAttrs_list PySem.F.slot_list_extend PySem.F.type_list_extend zn (pv 3) (ja (JC (ow:=["turn"]) (ci:=[4,2,6,1]) rfl (CompScope.of (defScope yy) ["pieces","sizes","beat","found","part","turns","begin"] rfl rfl (by decide +kernel)) (Jw (by decide)) (JU (by rfl) T.J1 (ja (pv 5) jc)) (fun _ _ _ _ _=>⟨(jk (i:=0) (j5 ["pieces","sizes","beat","found","part","turns","begin"] rfl (by decide +kernel)) rfl (.inl rfl)),JK,(Ja (ja (pv 1) (ja (jp jQ (jp jQ (pv 2) (pv 3)) (jp Jb (pv 0) (ji (JY (K:=K) rfl) (pv 4) (pv 1)))) jc)))⟩)) jc)))))
  (jf (jw (pv 3))))),?_⟩
 refine jx (σ':=[some _,some _,some _,none,none,none,none]) rfl ?_;have sz:(100000:Nat)<sizeLine:=by decide
 have pal:=pa.1;exists⟨Nat.zero_le _,?_⟩;walk_at"f p hp H1 s1 e1";exists⟨l,rfl,⟨_,SqL.of (s1 _ _ el)⟩,?_⟩;have np:∀{c u},H c=some u->c≠p:=fun h=>je h hp
 refine j9 (xs:=bs.map V.ref) (fun i σ H'=>∃(o4 o5 o6:Option V) (as:List Addr),σ=[some (.ref l),some (.ref ss),some (.int t0),some (.ref p),o4,o5,o6]/\Same H H'/\H' p=some (.lst (as.map V.ref))/\GonAt H' as (bgs gs t0 (qs.take i))) ⟨_,_,_,[],rfl,s1,e1,.nil⟩ ?_ ?_ ?_
 ·rintro i σ H' _ ⟨o4,o5,o6,as,rfl,sm,ep,ga⟩;exact SqL.of (sm _ _ el)
 ·rintro i v σ H' hv ⟨o4,o5,o6,as,rfl,sm,ep,ga⟩;obtain⟨a,qq,rfl,hq,hat⟩:=pa.at_ref hv;obtain⟨k1,k2,k3,k4,k5,k6,k7⟩:=ok qq (List.mem_of_getElem? hq);have al:=ga.1;have tk:bgs gs t0 (qs.take (i+1))=bgs gs t0 (qs.take i)++(List.range qq.2.1.toNat).map fun u:Nat=>(qq.1,t0+qq.2.2+(u:Int)*gs.getD qq.1 0):=by
   rw[take_snoc hq];unfold bgs;rw[flatMap_append,flatMap_cons,flatMap_nil,append_nil]
  have dl:(bgs gs t0 (qs.take (i+1))).length<=(bgs gs t0 qs).length:=by
   have e:bgs gs t0 qs=bgs gs t0 (qs.take (i+1))++bgs gs t0 (qs.drop (i+1)):=by
    unfold bgs;rw[<-flatMap_append,List.take_append_drop]
   rw[e,List.length_append];omega
  rw[tk,List.length_append,length_map,length_range]at dl;have hg:gs[qq.1]?=some (gs.getD qq.1 0):=by rw[getD_eq_getElem?_getD,List.getElem?_eq_getElem k1];rfl
  refine j1Y (SqT.of (sm _ _ hat)) ?_;exists⟨.inl ⟨rfl,_,SqL.of ep⟩,?_⟩;exists⟨_,rfl,by omega,by omega,?_⟩;refine JX (fun u ys H2=>∃bs2:List Addr,ys=bs2.map V.ref/\Same H' H2/\GonAt H2 bs2 ((List.range u).map fun u:Nat=>(qq.1,t0+qq.2.2+(u:Int)*gs.getD qq.1 0))) ⟨[],rfl,Same.refl _,.nil⟩ ?_ ?_
  ·rintro u ys H2 hu ⟨bs2,rfl,sm2,ga2⟩;have bl2:=ga2.1;rw[length_map,length_range]at bl2;refine Jc (σ':=[none,some _,some _,some _,some _]) rfl ?_;exists iteT ?_;exists ixLm (SqL.of (sm2 _ _ (sm _ _ es))) (jO (j:=qq.1) (by rw[List.getElem?_map,hg];rfl)) ?_;exists⟨(by show 2<=sizeLine;omega),?_⟩;walk_at"f 3 e";refine⟨by rw[length_map];omega,bs2++[p3],by rw[map_append];rfl,sm2.trans s3,?_⟩;rw[range_succ,map_append];rw[Int.zero_add]at e3;exact All2.snoc (All2.mono ga2 fun c y h=>s3 _ _ h) e3
  ·rintro ys H2 ⟨bs2,rfl,sm2,ga2⟩;have bl2:=ga2.1;rw[length_map,length_range]at bl2;refine⟨by rw[length_map];omega,?_⟩;walk_at"f 3 e";walk_at"g";have ep3:=s3 _ _ (sm2 _ _ ep);refine⟨p,p3,_,_,rfl,rfl,ep3,e3,by rw[length_map,length_map];omega,?_⟩;have nt:∀{c:Addr} {xs:List V},H3 c=some (.tup xs)->c≠p:=fun h z=>by rw[z,ep3]at h;cases h
   exists⟨_,_,_,as++bs2,rfl,fun c u h=>(jh (np h)).trans (s3 _ _ (sm2 _ _ (sm _ _ h))),by rw[jr,map_append],?_⟩;rw[tk];exact All2.app (All2.mono ga fun c y h=>(jh (nt (s3 _ _ (sm2 _ _ h)))).trans (s3 _ _ (sm2 _ _ h))) (All2.mono ga2 fun c y h=>(jh (nt (s3 _ _ h))).trans (s3 _ _ h))
 ·rintro σ H' ⟨o4,o5,o6,as,rfl,sm,ep,ga⟩;rw[length_map,pal,take_length]at ga;walk_at"g";exact q p as H' sm hp ep ga
theorem j1F(T:Txt K mg t)(qr:FnOk P w K mg base CX0 3 t.qv t.qy ["book","sizes"] (sp_pieces_of))(YT:FnOk P w K mg base CX0 1 t.zW t.Za ["pieces","sizes","beat"] (sp_begins)):FnOk P w K mg base CX0 4 t.Z0 t.ya ["book","sizes"] (sp_begun):=by
 refine T.XF.ok Zp (fun vs H Q E h=>?_) (fun cdv A outer s H vs Q E hr h=>?_)
 ·cases h;subst_vars;rfl
 obtain⟨b,pl,pp,ss,las,pas,ls,ps,gs,hs,rfl,B,N,es,ll,q⟩:=h;refine⟨_,(jb (jm (i:=2) Zp.nd rfl (.inl rfl) (jn (qr.mono (by decide)) hr (by rfl) T.Yq T.zP.kp T.Yg .nil pass0 (ja (pv 0) (ja (pv 1) jc))))
  (jb (jm (i:=3) Zp.nd rfl (.inl rfl) (jF jc))
  (jb (jm (i:=4) Zp.nd rfl (.inl rfl) (jF (ja (Ja (ja (jp Qw (jy jJ (by rfl) T.JW Jj (ja (pv 2) jc)) jd) (ja jd jc))) jc)))
  (jb (W5 PassesOwn.never (Xr (pv 4) (fun _=>rfl))
   (jb (jm (i:=5) Zp.nd rfl (.inl rfl) (Xj PySem.F.plainAttrs_list PySem.F.slot_list_pop PySem.F.type_list_pop j1B (pv 4)))
   (jf (jS (Xr (ji jv (pv 2) (ji jo (pv 5) jd)) (fun _=>rfl))
    (jf (jB (Jf PySem.F.plainAttrs_list PySem.F.slot_list_extend PySem.F.type_list_extend zn (pv 4) (ja (j1Q (jn (YT.mono (by decide)) hr (by rfl) T.j1q T.Wr.kp T.j0T .nil pass0 (ja (ji jv (pv 2) (ji jo (pv 5) jd)) (ja (pv 1) (ja (ji jo (pv 5) jd) jc)))) (Q5 (zo qZ jd))) jc))))
    (jf (jB (Jf PySem.F.plainAttrs_list PySem.F.slot_list_append PySem.F.type_list_append jA (pv 3) (ja (Ja (ja (ji jo (ji jv (ji jo (pv 0) jd) (ji jo (pv 5) jd)) jd) (ja (ji jo (pv 5) jd) jc))) jc))))))))
  (jf (jw (pv 3))))))),?_⟩
 refine jx (σ':=[some _,some _,none,none,none,none]) rfl ?_;have sz:(100000:Nat)<sizeLine:=by decide
 have W:=N.s.w;have gl:=N.s.gl;have ne:=N.ne;have p61:=W.p61;have pal:=B.pa.1;exists⟨b,pl,pp,ss,las,pas,ls,ps,gs,rfl,B,W,es,gl,fun l1 as1 H1 s1 hl1 e1 pc=>?_⟩;have pcl:=pc.1;rw[length_map]at pcl;exists⟨Nat.zero_le _,?_⟩;walk_at"f 2 e";exists⟨_,_,rfl,.inl ⟨_,SqL.of (s2 _ _ e1),rfl⟩,?_⟩;rw[length_map,pcl];exists⟨(by show 2<=sizeLine;omega),?_⟩;walk_at"f 3 e";exists⟨(by show 1<=sizeLine;omega),?_⟩;walk_at"f 4 e";rw[show((ps.length:Nat):Int)-1=((ps.length-1:Nat):Int) by omega]at e3;have s12:=s1.trans s2;have s14:=s12.trans (s3.trans s4);have s1_4:=s2.trans (s3.trans s4);have n24:p2≠p4:=je (s3 _ _ e2) hp4;have m2:∀{c u},H1 c=some u->c≠p2:=fun h=>je h hp2
 have m4:∀{c u},H1 c=some u->c≠p4:=fun h=>je (s3 _ _ (s2 _ _ h)) hp4
 have q1:∀i q,q∈pcB ps gs i->1<=q.2.1:=fun i q hq=>(N.pcOk hq).2.2.2.1
 have lvne:∀i (b:Int),1<=(LV ps gs i b).length:=fun i b=>length_pos_iff.mpr (j4h (i:=i) W q1)
 exists⟨fun m σ H'=>∃(o5:Option V) (fas tas:List Addr) (D S:List (Nat×Int)),σ=[some (.ref b),some (.ref ss),some (.ref l1),some (.ref p2),some (.ref p4),o5]/\Same H1 H'/\H' p2=some (.lst (fas.map V.ref))/\H' p4=some (.lst (tas.map V.ref))/\All2 (LfAt H') fas (lvF ps D)/\GonAt H' tas S/\(D++S.reverse.flatMap (fun x=>LV ps gs x.1 x.2)=LV ps gs (ps.length-1) 0)/\(∀x∈S,x.1<ps.length)/\m=(S.map fun x=>NV ps gs x.1).sum,
  ⟨_,none,[],[p3],[],[(ps.length-1,0)],rfl,s1_4,s4 _ _ (s3 _ _ e2),e4,.nil,All2.snoc (as:=[]) (xs:=[]) .nil (s4 _ _ e3),by simp,fun x hx=>by rw[mem_singleton.mp hx];show ps.length-1<_;omega,rfl⟩,?_⟩
 rintro m σ H' ⟨o5,fas,tas,D,S,rfl,sm,eF,eT,lF,gT,inv,hS,rfl⟩;have tl:=gT.1;have fl:=lF.1;have fl2:(lvF ps D).length=D.length:=length_map _;have tot:=congrArg List.length inv;rw[List.length_append]at tot;have sge:S.length<=(S.reverse.flatMap fun x=>LV ps gs x.1 x.2).length:=by
  rw[length_flatMap,<-length_reverse];exact kB fun x _=>lvne x.1 x.2
 exists⟨_,.inl ⟨_,SqL.of eT,rfl⟩,?_⟩;rcases eq_nil_or_concat S with rfl | ⟨S0,x,rfl⟩
 ·have et:tas=[]:=length_eq_zero_iff.mp tl;subst et;refine iteF ?_;walk_at"g";rw[show([]:List (Nat×Int)).reverse.flatMap (fun x=>LV ps gs x.1 x.2)=[]from rfl,append_nil]at inv;subst inv;exact q p2 fas H' (s1.trans sm) (none_of s1 hp2) eF lF
 rw[concat_eq_append]at *;obtain⟨tas0,ax,rfl,gT0,hax⟩:=All2.last gT;rw[map_append]at eT|-;refine iteB1 (by simp) ?_;have x1:=hS x (mem_append_right _ mem_cons_self);have hS0:∀y∈S0,y.1<ps.length:=fun y hy=>hS y (mem_append_left _ hy)
 rw[reverse_append,flatMap_append]at inv sge;rw[map_append,sum_append];have esum:([x].map fun x:Nat×Int=>NV ps gs x.1).sum=NV ps gs x.1:=by simp
 have eflat:([x].reverse.flatMap fun x=>LV ps gs x.1 x.2)=LV ps gs x.1 x.2:=by simp
 rw[esum];rw[eflat]at inv sge;have t0l:=gT0.1;have sl:S0.length+1<=3000:=by
  have h1:=congrArg List.length inv;rw[List.length_append]at h1;rw[List.length_append]at sge;have:[x].length=1:=rfl;omega
 refine⟨fun σ H'=>∃(o5:Option V) (fas tas:List Addr) (D S:List (Nat×Int)),σ=[some (.ref b),some (.ref ss),some (.ref l1),some (.ref p2),some (.ref p4),o5]/\Same H1 H'/\H' p2=some (.lst (fas.map V.ref))/\H' p4=some (.lst (tas.map V.ref))/\All2 (LfAt H') fas (lvF ps D)/\GonAt H' tas S/\(D++S.reverse.flatMap (fun x=>LV ps gs x.1 x.2)=LV ps gs (ps.length-1) 0)/\(∀x∈S,x.1<ps.length)/\(S.map fun x=>NV ps gs x.1).sum<(S0.map fun x=>NV ps gs x.1).sum+NV ps gs x.1,
  fun σ' H' ⟨o5,fas,tas,D,S,h1,h2,h3,h4,h5,h6,h7,h8,h9⟩=>⟨_,h9,o5,fas,tas,D,S,h1,h2,h3,h4,h5,h6,h7,h8,rfl⟩,?_⟩
 exists⟨.inl ⟨rfl,_,SqL.of eT⟩,?_⟩;refine⟨p4,_,.ref ax,rfl,rfl,eT,by simp,?_⟩;rw[show((tas0.map V.ref)++[ax].map V.ref).dropLast=tas0.map V.ref by simp];have naT:∀{c:Addr} {xs:List V},H' c=some (.tup xs)->c≠p4:=fun h z=>by rw[z,eT]at h;cases h
 have x5:Ex p4 H' (upd H' p4 (.lst (tas0.map V.ref))):=fun c u hc h=>(jh hc).trans h
 have eT5:upd H' p4 (.lst (tas0.map V.ref)) p4=some (.lst (tas0.map V.ref)):=jr;generalize upd H' p4 (.lst (tas0.map V.ref))=H5 at x5 eT5|-;have s5:Same H1 H5:=fun c u h=>x5 _ _ (m4 h) (sm _ _ h)
 have e25:=x5 _ _ n24 eF;have kt:∀c xs,H' c=some (.tup xs)->H5 c=some (.tup xs):=fun c xs h=>x5 _ _ (naT h) h
 have lF5:All2 (LfAt H5) fas (lvF ps D):=All2.mono lF fun c y ⟨fa,h1,h2⟩=>⟨fa,kt _ _ h1,FormAt.put kt h2⟩
 have gT5:GonAt H5 tas0 S0:=All2.mono gT0 fun c y h=>kt _ _ h
 have ax5:=kt _ _ hax;exists ixTm (SqT.of ax5) rfl ?_;obtain⟨p,hp⟩:∃p,ps[x.1]?=some p:=⟨_,List.getElem?_eq_getElem x1⟩
 have epc:pcB ps gs x.1=pcsI gs p.2 (inP ps p.2):=by unfold pcB;rw[hp]
 have hpq:(ps.map fun p=>pcsI gs p.2 (inP ps p.2))[x.1]?=some (pcB ps gs x.1):=by rw[List.getElem?_map,hp,epc];rfl
 obtain⟨al,eal,bs,hbs,hq⟩:=pc.get hpq;have bsl:=hq.1;have hbs5:=s5 _ _ hbs;have hq5:PcsAt H5 bs (pcB ps gs x.1):=All2.mono hq fun c y h=>s5 _ _ h
 exists ixLm (SqL.of (s5 _ _ e1)) (jY (i:=(x.1:Int)) (by omega) eal) ?_;exists⟨_,.inl ⟨_,SqL.of hbs5,rfl⟩,?_⟩;by_cases c0:pcB ps gs x.1=[]
 ·rw[c0]at bsl;have eb:bs=[]:=length_eq_zero_iff.mp bsl;subst eb;refine iteF ?_;rw[Zs c0]at inv;obtain⟨pa,epa,fa,hpa,hfa⟩:=B.pa.get hp;exists⟨.inl ⟨rfl,_,SqL.of e25⟩,?_⟩;exists ixTm (SqT.of (s5 _ _ (s1 _ _ B.t))) rfl ?_;exists ixTm (SqT.of ax5) rfl ?_;exists ixLm (SqL.of (s5 _ _ (s1 _ _ B.p))) (jY (i:=(x.1:Int)) (by omega) epa) ?_;exists ixTm (SqT.of (s5 _ _ (s1 _ _ hpa))) rfl ?_;exists ixTm (SqT.of ax5) rfl ?_;exists⟨(by show 2<=sizeLine;omega),?_⟩;walk_at"f 6 e";walk_at"g";have e26:=s6 _ _ e25;refine⟨p2,_,_,rfl,rfl,e26,by rw[length_map];omega,?_⟩;have na2:∀{c:Addr} {xs:List V},H6 c=some (.tup xs)->c≠p2:=fun h z=>by rw[z,e26]at h;cases h
  have kt7:∀c xs,H6 c=some (.tup xs)->upd H6 p2 (.lst (fas.map V.ref++[.ref p6])) c=some (.tup xs):=fun c xs h=>(jh (na2 h)).trans h
  refine⟨_,fas++[p6],tas0,D++[x],S0,rfl,fun c u h=>(jh (m2 h)).trans (s6 _ _ (s5 _ _ h)),by rw[jr,map_append];rfl,(jh n24.symm).trans (s6 _ _ eT5),?_,All2.mono gT5 fun c y h=>kt7 _ _ (s6 _ _ h),by rw[List.append_assoc];exact inv,hS0,by have:=j3x (ps:=ps) (gs:=gs) x.1;omega⟩;unfold lvF;rw[map_append];refine All2.snoc (All2.mono lF5 fun c y ⟨fa,h1,h2⟩=>⟨fa,kt7 _ _ (s6 _ _ h1),FormAt.put kt7 (FormAt.same s6 h2)⟩) ⟨fa,kt7 _ _ e6,?_⟩;show FormAt _ fa (ps.getD x.1 (⟨#[]⟩,.hold 0)).2;rw[show(ps.getD x.1 (⟨#[]⟩,.hold 0))=p by rw[getD_eq_getElem?_getD,hp];rfl];exact FormAt.put kt7 (FormAt.same s6 (FormAt.same s5 (FormAt.same s1 hfa)))
 ·have bne:bs≠[]:=fun z=>c0 (length_eq_zero_iff.mp (by rw[<-bsl,z];rfl))
  refine iteB1 (by cases bs with | nil=>exact absurd rfl bne | cons _ _=>rfl) ?_;rw[Q0 W c0]at inv;have bgl:(bgs gs x.2 (pcB ps gs x.1)).length<=(LV ps gs x.1 x.2).length:=by
   rw[Q0 W c0,length_flatMap];exact kB fun y _=>lvne y.1 y.2
  have lx:(LV ps gs x.1 x.2).length+S0.length<=3000:=by
   have h1:=congrArg List.length inv;rw[<-Q0 W c0,List.length_append,List.length_append]at h1;have h2:S0.length<=(S0.reverse.flatMap fun x=>LV ps gs x.1 x.2).length:=by
    rw[length_flatMap,<-length_reverse];exact kB fun y _=>lvne y.1 y.2
   omega
  exists⟨.inl ⟨rfl,_,SqL.of eT5⟩,?_⟩;exists ixTm (SqT.of ax5) rfl ?_;exists ixLm (SqL.of (s5 _ _ e1)) (jY (i:=(x.1:Int)) (by omega) eal) ?_;exists ixTm (SqT.of ax5) rfl ?_;exists⟨al,ss,x.2,bs,pcB ps gs x.1,gs,rfl,hbs5,hq5,s5 _ _ (s1 _ _ es),fun q hq=>N.pcOk hq,by omega,fun p6 as6 H6 s6 hn6 e6 g6=>?_⟩;have as6l:=g6.1;exists⟨rfl,p6,_,rfl,SqL.of e6,?_⟩;walk_at"f 7 e";walk_at"g";have eT7:=s7 _ _ (s6 _ _ eT5);rw[<-map_reverse]at e7;refine⟨p4,p7,_,_,rfl,rfl,eT7,e7,by rw[length_map,length_map,length_reverse];omega,?_⟩;have na4:∀{c:Addr} {xs:List V},H7 c=some (.tup xs)->c≠p4:=fun h z=>by rw[z,eT7]at h;cases h
  have s67:=s6.trans s7;have kt8:∀c xs,H7 c=some (.tup xs)->upd H7 p4 (.lst (tas0.map V.ref++as6.reverse.map V.ref)) c=some (.tup xs):=fun c xs h=>(jh (na4 h)).trans h
  exists⟨_,fas,tas0++as6.reverse,D,S0++(bgs gs x.2 (pcB ps gs x.1)).reverse,rfl,fun c u h=>(jh (m4 h)).trans (s67 _ _ (s5 _ _ h)),(jh n24).trans (s67 _ _ e25),by rw[jr,map_append],All2.mono lF5 fun c y ⟨fa,h1,h2⟩=>⟨fa,kt8 _ _ (s67 _ _ h1),FormAt.put kt8 (FormAt.same s67 h2)⟩,All2.app (All2.mono gT5 fun c y h=>kt8 _ _ (s67 _ _ h)) (All2.rev (All2.mono g6 fun c y h=>kt8 _ _ (s7 _ _ h))),?_,?_,?_⟩
  ·rw[reverse_append,List.reverse_reverse,flatMap_append];exact inv
  ·intro y hy;rcases mem_append.mp hy with z | z
   ·exact hS0 y z
   ·have:=yP W (List.mem_reverse.mp z);omega
  ·rw[map_append,sum_append,map_reverse,List.sum_reverse,j2u W (b:=x.2) c0];omega
theorem j2Z(T:Txt K mg t):FnOk P w K mg base CX0 1 t.YV t.Y1 ["column","beat"] (sp_stay):=by
 refine T.xB.ok j3c (fun vs H Q E h=>?_) (fun cdv A outer s H vs Q E hr h=>?_)
 ·cases h;subst_vars;rfl
 obtain⟨p,c,t0,rfl,ep,cn,cl,t1,t2,q⟩:=h;refine⟨_,(jf (jB (Jf PySem.F.plainAttrs_list PySem.F.slot_list_extend PySem.F.type_list_extend zn (pv 0) (ja (jp j40 (jF (ja (ji jv (pv 0) (zo qZ jd)) jc)) (jp Qw (jp jQ (pv 1) jd) (jy jJ (by rfl) T.JW Jj (ja (pv 0) jc)))) jc)))),?_⟩;refine jx (σ':=[some _,some _]) rfl ?_;have sz:(2000000:Nat)<sizeLine:=by decide
 exists⟨.inl ⟨rfl,_,SqL.of ep⟩,?_⟩;exists ixLm (SqL.of ep) (Ww cn) ?_;exists⟨(by show 1<=sizeLine;omega),?_⟩;walk_at"f 1 e";exists⟨_,_,rfl,.inl ⟨_,SqL.of (s1 _ _ ep),rfl⟩,?_⟩;rw[length_map];exists⟨p1,_,_,rfl,rfl,e1,by omega,by omega,by show 1*_<=sizeLine;omega,?_⟩;walk_at"f 2 e";walk_at"g";rw[show(List.replicate (t0+1-((c.length:Nat):Int)).toNat [V.int (lastC c)]).flatten=(List.replicate (t0+1-((c.length:Nat):Int)).toNat (lastC c)).map V.int by
  rw[List.map_replicate];generalize(t0+1-((c.length:Nat):Int)).toNat=k
  induction k with
  | zero=>rfl
  | succ k ih=>rw[replicate_succ,flatten_cons,ih];rfl]at e2
 have ep2:=s2 _ _ (s1 _ _ ep);refine⟨p,p2,_,_,rfl,rfl,ep2,e2,by rw[length_map,length_map,length_replicate];omega,?_⟩;exists q _ _ (fun b u hb h=>(jh hb).trans (s2 _ _ (s1 _ _ h))) ?_;rw[jr,<-map_append];rfl
theorem j1G(T:Txt K mg t)(yL:FnOk P w K mg base CX0 1 t.yN t.yS ["start","goal","beats","j"] (Pr.Wh)):FnOk P w K mg base CX0 2 t.Z1 t.yc ["column","goal","beats"] (sp_climb):=by
 refine T.XG.ok xc (fun vs H Q E h=>?_) (fun cdv A outer s H vs Q E hr h=>?_)
 ·cases h;subst_vars;rfl
 obtain⟨p,c,v,n,rfl,ep,cn,cl,cb,v0,v1,n1,n2,q⟩:=h;refine⟨_,(jb (jm (i:=3) xc.nd rfl (.inr rfl) (ji jv (pv 0) (zo qZ jd)))
  (jf (jB (Jf PySem.F.plainAttrs_list PySem.F.slot_list_extend PySem.F.type_list_extend zn (pv 0) (ja (JC (ow:=["j"]) (ci:=[3,1,2]) rfl (CompScope.of (defScope YL) ["column","goal","beats","start"] rfl rfl (by decide +kernel)) (Jw (by decide)) (j0F (by rfl) T.J1 (ja jd (ja (jp jQ (pv 2) jd) jc))) (fun _ _ _ _ _=>⟨(jk (i:=0) (j5 ["column","goal","beats","start"] rfl (by decide +kernel)) rfl (.inl rfl)),JK,(jn (yL.mono (by decide)) hr (by rfl) T.j1s T.xA.kp T.j0V .nil pass0 (ja (pv 1) (ja (pv 2) (ja (pv 3) (ja (pv 0) jc)))))⟩)) jc))))),?_⟩
 refine jx (σ':=[some _,some _,some _,none]) rfl ?_;have sz:(2000000:Nat)<sizeLine:=by decide
 have lb:=cb _ (yX cn);exists ixLm (SqL.of ep) (Ww cn) ?_;exists⟨.inl ⟨rfl,_,SqL.of ep⟩,?_⟩;exists⟨_,_,rfl,⟨by omega,by omega,by omega,by omega⟩,?_⟩;rw[show n+1-1=n by omega];refine JX (fun u ys H2=>ys=((List.range u).map fun j:Nat=>Rp.ramp (lastC c) v n ((j:Int)+1)).map V.int/\Same H H2) ⟨rfl,Same.refl _⟩ ?_ ?_
 ·rintro u ys H2 hu ⟨rfl,sm2⟩;refine Jc (σ':=[none,some _,some _,some _]) rfl ?_;exists iteT ?_;exists⟨_,_,_,_,rfl,by unfold Pr.B4;omega,?_⟩;refine⟨by rw[length_map,length_map,length_range];omega,?_,sm2⟩;rw[range_succ,map_append,map_append,Int.add_comm 1];rfl
 ·rintro ys H2 ⟨rfl,sm2⟩;refine⟨by rw[length_map,length_map,length_range];omega,?_⟩;walk_at"f 3 e";walk_at"g";have ep3:=s3 _ _ (sm2 _ _ ep);refine⟨p,p3,_,_,rfl,rfl,ep3,e3,by rw[length_map,length_map,length_map,length_range];omega,?_⟩;exists q _ _ (fun b u hb h=>(jh hb).trans (s3 _ _ (sm2 _ _ h))) ?_;rw[jr,<-map_append];rfl
theorem kT(T:Txt K mg t)(jR:FnOk P w K mg base CX0 1 t.Ju t.Jv ["named"] (sp_numbers_of))(K4:FnOk P w K mg base CX0 1 t.YV t.Y1 ["column","beat"] (sp_stay))(K1:FnOk P w K mg base CX0 2 t.Z1 t.yc ["column","goal","beats"] (sp_climb)):FnOk P w K mg base CX0 3 t.qG t.qN ["book","leaves","last"] (sp_columns):=by
 refine T.ZZ.ok JB (fun vs H Q E h=>?_) (fun cdv A outer s H vs Q E hr h=>?_)
 ·cases h;subst_vars;rfl
 obtain⟨b,pl,pp,lv,las,pas,as,ls,ps,xs,t0,rfl,B,el,la,ok,t1,t2,q⟩:=h;refine⟨_,(jb (jm (i:=3) JB.nd rfl (.inl rfl) (jn (jR.mono (by decide)) hr (by rfl) T.QC T.qA.kp T.Qx .nil pass0 (ja (ji jo (pv 0) jd) jc)))
  (jb (Zz (i:=4) (ow:=["name","height"]) (ci:=[]) rfl (CompScope.of (defScope QG) ["book","leaves","last","limbs","columns","form","begin","column"] rfl rfl (by decide +kernel)) (yk (by decide) (by decide)) JB.nd rfl (.inl rfl) (jG (ji jo (pv 0) jd)) (fun _ _ _ _ _=>⟨(Jz rfl (jq (jk (i:=0) (j5 ["book","leaves","last","limbs","columns","form","begin","column"] rfl (by decide +kernel)) rfl (.inl rfl)) (jq (jk (i:=1) (j5 ["book","leaves","last","limbs","columns","form","begin","column"] rfl (by decide +kernel)) rfl (.inl rfl)) jZ))),JK,(jF (ja (pv 1) jc))⟩))
  (jb (j7 PassesOwn.never rfl (jG (pv 1)) (Jz rfl (jq (jk (i:=5) JB.nd rfl (.inl rfl)) (jq (jk (i:=6) JB.nd rfl (.inl rfl)) jZ)))
   (jf (jS (jt Jn (ji jo (pv 5) jd) jL (nomark _))
    (jb (jm (i:=7) JB.nd rfl (.inl rfl) (ji jv (pv 4) (YF (Kt hr) (pv 3) (ji jo (pv 5) jd))))
    (jb (jB (jn (K4.mono (by decide)) hr (by rfl) T.j1t T.xB.kp T.j0W .nil pass0 (ja (pv 7) (ja (pv 6) jc))))
    (jf (jB (jn (K1.mono (by decide)) hr (by rfl) T.j2O T.XG.kp T.j2s .nil pass0 (ja (pv 7) (ja (ji jo (pv 5) jd) (ja (ji jo (pv 5) jd) jc))))))))
    ju)))
  (jb (j7 PassesOwn.never rfl (jG (pv 4)) (jk (i:=7) JB.nd rfl (.inl rfl))
   (jf (jB (jn (K4.mono (by decide)) hr (by rfl) T.j1t T.xB.kp T.j0W .nil pass0 (ja (pv 7) (ja (pv 2) jc))))))
  (jf (jw (pv 4))))))),?_⟩
 refine jx (σ':=[some _,some _,some _,none,none,none,none,none]) rfl ?_;have sz:(2000000:Nat)<sizeLine:=by decide
 have al:=la.1;have l8:=ok.l8;have lal:=B.la.1;have nml:(nmsOf ls).length=ls.length:=length_map _;exists ixTm (SqT.of B.t) rfl ?_;exists⟨pl,las,nmsOf ls,rfl,B.l,by rw[nmsOf,length_map];exact lal,fun i a x ea ex=>?_,ok.ln,by omega,fun d H1 s1 hd ed=>?_⟩
 ·unfold nmsOf at ex;rw[List.getElem?_map]at ex;obtain⟨p,ep,rfl⟩:=Option.map_eq_some_iff.mp ex;exact⟨_,B.la.2 i a p ea ep⟩
 exists ixTm (SqT.of (s1 _ _ B.t)) rfl ?_;refine⟨pl,rfl,⟨_,SqL.of (s1 _ _ B.l)⟩,?_⟩;refine j6 (xs:=las.map V.ref) (fun i ys H'=>∃cas:List Addr,ys=cas.map V.ref/\Same H1 H'/\ColsAt H' cas ((ls.take i).map fun q=>[q.2])/\(∀a∈cas,H1 a=none)/\cas.Nodup) ⟨[],rfl,Same.refl _,.nil,(fun _ h=>nomatch h),nodup_nil⟩ ?_ ?_ ?_
 ·rintro i ys H' _ ⟨cas,rfl,sm,ca,cn,nd⟩;exact SqL.of (sm _ _ (s1 _ _ B.l))
 ·rintro i v ys H' hv ⟨cas,rfl,sm,ca,cn,nd⟩;obtain⟨a,p,rfl,hp,hat⟩:=B.la.at_ref hv;have hi:=(List.getElem?_eq_some_iff.mp hp).1;have cl:=ca.1;rw[length_map,length_take]at cl;refine Jc (σ':=[none,none]) rfl ?_;refine JV (SqT.of (sm _ _ (s1 _ _ hat))) ?_;exists iteT ?_;exists⟨(by show 1<=sizeLine;omega),?_⟩;walk_at"f 3 e";refine⟨by rw[length_map];omega,cas++[p3],by rw[map_append];rfl,sm.trans s3,?_,fun a ha=>?_,nodup_append.mpr ⟨nd,nodup_cons.mpr ⟨(fun h=>nomatch h),nodup_nil⟩,fun a ha b' hb z=>?_⟩⟩
  ·rw[take_snoc hp,map_append];exact All2.snoc (All2.mono ca fun c y h=>s3 _ _ h) e3
  ·rcases mem_append.mp ha with z | z
   ·exact cn a z
   ·rw[mem_singleton.mp z];exact none_of sm hp3
  ·rw[mem_singleton.mp hb]at z;subst z;obtain⟨k,hk⟩:=mem_iff_getElem?.mp ha;have kl:=(List.getElem?_eq_some_iff.mp hk).1;obtain⟨c,hc⟩:∃c,((ls.take i).map fun q=>[q.2])[k]?=some c:=⟨_,List.getElem?_eq_getElem (by rw[length_map,length_take];omega)⟩
   have this:H' a=some _:=ca.2 k a c hk hc;rw[hp3]at this;cases this
 rintro ys H2 ⟨cas,rfl,sm,ca,cn,nd⟩;rw[show(las.map V.ref).length=ls.length by rw[length_map];exact lal,take_length]at ca;have cl:=ca.1;rw[length_map]at cl;refine⟨by rw[length_map];omega,?_⟩;walk_at"f 3 e";have n3:∀a∈cas,a≠p3:=fun a ha z=>by
  obtain⟨k,hk⟩:=mem_iff_getElem?.mp ha;have kl:=(List.getElem?_eq_some_iff.mp hk).1;obtain⟨c,hc⟩:∃c,(ls.map fun q=>[q.2])[k]?=some c:=⟨_,List.getElem?_eq_getElem (by rw[length_map];omega)⟩
  have this:H2 a=some _:=ca.2 k a c hk hc;rw[z,hp3]at this;cases this
 have h3:=none_of s1 (none_of sm hp3);have s03:=s1.trans (sm.trans s3);exists⟨lv,rfl,⟨_,SqL.of (s03 _ _ el)⟩,?_⟩;have C0:∀c∈ls.map fun q=>[q.2],bC c/\c.length<=301:=fun c hc=>by
  obtain⟨q',hq,rfl⟩:=mem_map.mp hc;exact⟨⟨cons_ne_nil _ _,fun x hx=>by rw[mem_singleton.mp hx];exact ok.lh q' hq⟩,by show 1<=301;omega⟩
 refine j9 (xs:=as.map V.ref) (fun i σ H'=>∃(o5 o6 o7:Option V),σ=[some (.ref b),some (.ref lv),some (.int t0),some (.ref d),some (.ref p3),o5,o6,o7]/\Same H1 H'/\H' p3=some (.lst (cas.map V.ref))/\ColsAt H' cas (colsN ls (xs.take i))/\∀c∈colsN ls (xs.take i),bC c/\c.length<=301+300*i) ⟨_,_,_,rfl,sm.trans s3,e3,All2.mono ca fun c y h=>s3 _ _ h,C0⟩ ?_ ?_ ?_
 ·rintro i σ H' _ ⟨o5,o6,o7,rfl,sm',ep,ca',cb⟩;exact SqL.of (sm' _ _ (s1 _ _ el))
 ·rintro i v σ H' hv ⟨o5,o6,o7,rfl,sm',ep,ca',cb⟩;obtain⟨a,x,rfl,hx,fa,hat,hfa⟩:=la.at_ref hv;have xm:=List.mem_of_getElem? hx;have xi:=(List.getElem?_eq_some_iff.mp hx).1;have xl:=ok.l;obtain⟨x0,x1⟩:=ok.b x xm;have ecol:colsN ls (xs.take (i+1))=colS (nmsOf ls) (colsN ls (xs.take i)) x:=by
   unfold colsN;rw[take_snoc hx,foldl_append];rfl
  have cl':=ca'.1;obtain⟨kw,zs,hkw,hr'⟩:=hfa.riseK;have s0':=s1.trans sm';refine JV (SqT.of (s0' _ _ hat)) ?_;exists ixTm (SqT.of (s0' _ _ hkw)) (at0) ?_;walk_at"g";rcases hr' with⟨y,v,m,ef,rfl,rfl⟩ | ⟨hd',nf⟩
  ·refine iteE1 ?_;obtain⟨⟨j,hj⟩,v0,v1,m1,m2⟩:=ok.r x xm y v m ef;have ej:=Jm ok.ln hj;have jl:=(List.getElem?_eq_some_iff.mp hj).1;have hb:cas[j]?=some (cas.getD j 0):=by rw[getD_eq_getElem?_getD,List.getElem?_eq_getElem (by omega)];rfl
   have hw:(colsN ls (xs.take i))[j]?=some ((colsN ls (xs.take i)).getD j []):=by rw[getD_eq_getElem?_getD,List.getElem?_eq_getElem (by omega)];rfl
   have hcol:=ca'.2 _ _ _ hb hw;obtain⟨bc,bl⟩:=cb _ (List.mem_of_getElem? hw);have pn:=cn _ (List.mem_of_getElem? hb);have p3n:=n3 _ (List.mem_of_getElem? hb);exists ixTm (SqT.of (s0' _ _ hkw)) rfl ?_;walk_at"g";have g:DGet H' d (.str y) (some (.int (j:Nat))):=by
    have g:=DGet.k (k:=Sum.inr y) (sm' _ _ ed);rw[yp ok.ln hj]at g;exact g
   refine⟨d,_,rfl,g,?_⟩;exists ixLm (SqL.of ep) (jY (i:=(j:Int)) (by omega) hb) ?_;walk_at"g";have f300:300*i<=900000:=by omega
   refine⟨_,_,_,rfl,hcol,bc.1,by omega,x0,x1,fun r5 H5 x5 e5=>?_⟩;have s5:Same H1 H5:=fun c u h=>x5 _ _ (je h pn) (sm' _ _ h)
   have hk5:=s5 _ _ (s1 _ _ hkw);exists ixTm (SqT.of hk5) rfl ?_;exists ixTm (SqT.of hk5) rfl ?_;walk_at"g";have bs:=bc.stay (b:=x.2);have sl:=ZC (c:=(colsN ls (xs.take i)).getD j []) (b:=x.2);refine⟨_,_,_,_,rfl,e5,bs.1,by omega,bs.2,v0,v1,m1,m2,fun r6 H6 x6 e6=>?_⟩;have x56:Ex (cas.getD j 0) H' H6:=x5.trans x6;have es:colS (nmsOf ls) (colsN ls (xs.take i)) x=(colsN ls (xs.take i)).set j (climbC (stayC ((colsN ls (xs.take i)).getD j []) x.2) v m):=by
    unfold colS;rw[ef];show(colsN ls (xs.take i)).set (ixOf (nmsOf ls) y) (climbC (stayC ((colsN ls (xs.take i)).getD (ixOf (nmsOf ls) y) []) x.2) v m)=_;rw[ej]
   have cl6:=YZ (c:=stayC ((colsN ls (xs.take i)).getD j []) x.2) (v:=v) (n:=m);rw[ecol,es];exists⟨_,_,_,rfl,fun c u h=>x56 _ _ (je h pn) (sm' _ _ h),x56 _ _ p3n.symm ep,K5 (g:=fun c:List Int=>.lst (c.map V.int)) ca' nd hb x56 e6,fun c hc=>?_⟩;rcases mem_or_eq_of_mem_set hc with z | z
   ·exact⟨(cb c z).1,by have:=(cb c z).2;omega⟩
   ·rw[z];exact⟨bs.climb v0 v1 m1,by omega⟩
  ·refine iteB0 hd' ?_;walk_at"g";have eW:∀C,colS (nmsOf ls) C x=C:=fun C=>by
    unfold colS;cases e:x.1<;>first | rfl | exact absurd e (nf _ _ _)
   rw[ecol,eW];exact⟨_,_,_,rfl,sm',ep,ca',fun c hc=>⟨(cb c hc).1,by have:=(cb c hc).2;omega⟩⟩
 rintro σ' H4 ⟨o5,o6,o7,rfl,sm',ep,ca',cb⟩;rw[length_map,al,take_length]at ca' cb;have xl:=ok.l;have f300:300*xs.length<=900000:=by omega
 exists⟨p3,rfl,⟨_,SqL.of ep⟩,?_⟩;have cl4:=ca'.1;refine j9 (xs:=cas.map V.ref) (fun i σ H'=>∃(o5 o6 o7:Option V),σ=[some (.ref b),some (.ref lv),some (.int t0),some (.ref d),some (.ref p3),o5,o6,o7]/\Same H1 H'/\H' p3=some (.lst (cas.map V.ref))/\ColsAt H' cas (((colsN ls xs).take i).map (fun c=>stayC c t0)++(colsN ls xs).drop i)) ⟨_,_,_,rfl,sm',ep,ca'⟩ ?_ ?_ ?_
 ·rintro i σ H' _ ⟨o5,o6,o7,rfl,sm5,ep5,ca5⟩;exact SqL.of ep5
 ·rintro i v σ H' hv ⟨o5,o6,o7,rfl,sm5,ep5,ca5⟩;rw[List.getElem?_map]at hv;obtain⟨a,ha,rfl⟩:=Option.map_eq_some_iff.mp hv;have il:=(List.getElem?_eq_some_iff.mp ha).1;obtain⟨c,hc⟩:∃c,(colsN ls xs)[i]?=some c:=⟨_,List.getElem?_eq_getElem (by omega)⟩
  have ic:=(List.getElem?_eq_some_iff.mp hc).1;have ed':(colsN ls xs).drop i=c::(colsN ls xs).drop (i+1):=by rw[List.drop_eq_getElem_cons ic,(List.getElem?_eq_some_iff.mp hc).2]
  have tl:(((colsN ls xs).take i).map fun c=>stayC c t0).length=i:=by rw[length_map,length_take];omega
  have hcol:=ca5.2 i a c ha (by rw[List.getElem?_append_right (by omega),tl,Nat.sub_self,ed'];rfl);obtain⟨bc,bl⟩:=cb c (List.mem_of_getElem? hc);have pn:=cn a (List.mem_of_getElem? ha);have p3n:=n3 a (List.mem_of_getElem? ha);exists⟨a,c,t0,rfl,hcol,bc.1,by omega,t1,t2,fun r5 H5 x5 e5=>?_⟩;exists⟨_,_,_,rfl,fun c u h=>x5 _ _ (je h pn) (sm5 _ _ h),x5 _ _ p3n.symm ep5,?_⟩;have:=K5 (g:=fun c:List Int=>.lst (c.map V.int)) ca5 nd ha x5 (c':=stayC c t0) e5;rw[ed',show(((colsN ls xs).take i).map (fun c=>stayC c t0)++c::(colsN ls xs).drop (i+1)).set i (stayC c t0)=((colsN ls xs).take (i+1)).map (fun c=>stayC c t0)++(colsN ls xs).drop (i+1) by
   rw[List.set_append_right _ _ (by omega),tl,Nat.sub_self,take_snoc hc,map_append,List.append_assoc];rfl]at this
  exact this
 ·rintro σ' H5 ⟨o5,o6,o7,rfl,sm5,ep5,ca5⟩;rw[length_map,cl4,take_length,List.drop_length,append_nil]at ca5;walk_at"g";exact q p3 cas H5 (s1.trans sm5) h3 ep5 ca5
theorem yZ(T:Txt K mg t):FnOk P w K mg base CX0 1 t.JM t.JN ["leaves","last"] (sp_words_by):=by
 refine T.zL.ok qc (fun vs H Q E h=>?_) (fun cdv A outer s H vs Q E hr h=>?_)
 ·cases h;subst_vars;rfl
 obtain⟨lv,as,xs,t0,rfl,el,la,xl,xb,t1,t2,q⟩:=h;refine⟨_,(jb (Zz (i:=2) (ow:=["beat"]) (ci:=[]) rfl (CompScope.of (defScope qk) ["leaves","last","words","form","begin"] rfl rfl (by decide +kernel)) (Jw (by decide)) qc.nd rfl (.inl rfl) (JU (by rfl) T.J1 (ja (jp jQ (pv 1) jd) jc)) (fun _ _ _ _ _=>⟨(jk (i:=0) (j5 ["leaves","last","words","form","begin"] rfl (by decide +kernel)) rfl (.inl rfl)),JK,(jF jc)⟩))
  (jb (j7 PassesOwn.never rfl (jG (pv 0)) (Jz rfl (jq (jk (i:=3) qc.nd rfl (.inl rfl)) (jq (jk (i:=4) qc.nd rfl (.inl rfl)) jZ)))
   (jf (jS (jt Jn (ji jo (pv 3) jd) jL (nomark _))
    (jf (jB (Jf PySem.F.plainAttrs_list PySem.F.slot_list_append PySem.F.type_list_append jA (ji jv (pv 2) (pv 4)) (ja (ji jo (pv 3) jd) jc))))
    ju)))
  (jf (jw (pv 2))))),?_⟩
 refine jx (σ':=[some _,some _,none,none,none]) rfl ?_;have sz:(100000:Nat)<sizeLine:=by decide
 have al:=la.1;exists⟨_,rfl,by omega,by omega,?_⟩;refine JX (fun u ys H2=>∃bs2:List Addr,ys=bs2.map V.ref/\Same H H2/\WrdsAt H2 bs2 (List.replicate u [])/\(∀a∈bs2,H a=none)/\bs2.Nodup) ⟨[],rfl,Same.refl _,.nil,(fun _ h=>nomatch h),nodup_nil⟩ ?_ ?_
 ·rintro u ys H2 hu ⟨bs2,rfl,sm2,ga2,hn,nd⟩;have bl2:=ga2.1;rw[length_replicate]at bl2;refine Jc (σ':=[none]) rfl ?_;exists iteT ?_;exists⟨Nat.zero_le _,?_⟩;walk_at"f 3 e";refine⟨by rw[length_map];omega,bs2++[p3],by rw[map_append];rfl,sm2.trans s3,?_,fun a ha=>?_,nodup_append.mpr ⟨nd,nodup_cons.mpr ⟨(fun h=>nomatch h),nodup_nil⟩,fun a ha b hb z=>?_⟩⟩
  ·rw[List.replicate_succ'];exact All2.snoc (All2.mono ga2 fun c y h=>s3 _ _ h) e3
  ·rcases mem_append.mp ha with z | z
   ·exact hn a z
   ·rw[mem_singleton.mp z];exact none_of sm2 hp3
  ·rw[mem_singleton.mp hb]at z;subst z;obtain⟨i,hi⟩:=mem_iff_getElem?.mp ha;have il:=(List.getElem?_eq_some_iff.mp hi).1;have this:H2 a=some _:=ga2.2 i a [] hi (by rw[List.getElem?_replicate,if_pos (by omega)]);rw[hp3]at this;cases this
 ·rintro ys H2 ⟨bs2,rfl,sm2,ga2,hn,nd⟩;have bl2:=ga2.1;rw[length_replicate]at bl2;refine⟨by rw[length_map];omega,?_⟩;walk_at"f 3 e";exists⟨lv,rfl,⟨_,SqL.of (s3 _ _ (sm2 _ _ el))⟩,?_⟩;have n3:∀a∈bs2,a≠p3:=fun a ha z=>by
   obtain⟨i,hi⟩:=mem_iff_getElem?.mp ha;have il:=(List.getElem?_eq_some_iff.mp hi).1;have this:H2 a=some _:=ga2.2 i a [] hi (by rw[List.getElem?_replicate,if_pos (by omega)]);rw[z,hp3]at this;cases this
  have h3:=none_of sm2 hp3;refine j9 (xs:=as.map V.ref) (fun i σ H'=>∃(o3 o4:Option V),σ=[some (.ref lv),some (.int t0),some (.ref p3),o3,o4]/\Same H H'/\H' p3=some (.lst (bs2.map V.ref))/\WrdsAt H' bs2 ((xs.take i).foldl wrdS (List.replicate (t0+1).toNat []))/\∀w∈(xs.take i).foldl wrdS (List.replicate (t0+1).toNat []),w.length<=i) ⟨_,_,rfl,sm2.trans s3,e3,All2.mono ga2 fun c y h=>s3 _ _ h,fun w hw=>by rw[List.eq_of_mem_replicate hw];exact Nat.le_refl _⟩ ?_ ?_ ?_
  ·rintro i σ H' _ ⟨o3,o4,rfl,sm,ep,ga,wl⟩;exact SqL.of (sm _ _ el)
  ·rintro i v σ H' hv ⟨o3,o4,rfl,sm,ep,ga,wl⟩;obtain⟨a,x,rfl,hx,fa,hat,hfa⟩:=la.at_ref hv;have xm:=List.mem_of_getElem? hx;have xi:=(List.getElem?_eq_some_iff.mp hx).1;obtain⟨x0,x1⟩:=xb x xm;have fl:∀ys:List (Fm×Int),(ys.foldl wrdS (List.replicate (t0+1).toNat [])).length=(t0+1).toNat:=fun ys=>by
    have:∀(ys:List (Fm×Int)) W,(ys.foldl wrdS W).length=W.length:=fun ys=>by
     induction ys with
     | nil=>intro W;rfl
     | cons y r ih=>intro W;rw[foldl_cons,ih,xu]
    rw[this,length_replicate]
   have wlen:=fl (xs.take i);obtain⟨kw,zs,hkw,hr⟩:=hfa.ringK;refine JV (SqT.of (sm _ _ hat)) ?_;exists ixTm (SqT.of (sm _ _ hkw)) (at0) ?_;walk_at"g";rcases hr with⟨y,m,ef,rfl,rfl⟩ | ⟨hd,nf⟩
   ·refine iteE1 ?_;have hb:bs2[x.2.toNat]?=some (bs2.getD x.2.toNat 0):=by rw[getD_eq_getElem?_getD,List.getElem?_eq_getElem (by omega)];rfl
    have hw:((xs.take i).foldl wrdS (List.replicate (t0+1).toNat []))[x.2.toNat]?=some (((xs.take i).foldl wrdS (List.replicate (t0+1).toNat [])).getD x.2.toNat []):=by rw[getD_eq_getElem?_getD,List.getElem?_eq_getElem (by omega)];rfl
    have hcol:=ga.2 _ _ _ hb hw;have wli:=wl _ (List.mem_of_getElem? hw);have pn:=hn _ (List.mem_of_getElem? hb);have p3n:=n3 _ (List.mem_of_getElem? hb);exists ixLm (SqL.of ep) (jY (i:=x.2) x0 hb) ?_;refine⟨.inl ⟨rfl,_,SqL.of hcol⟩,?_⟩;exists ixTm (SqT.of (sm _ _ hkw)) rfl ?_;exists⟨_,_,_,rfl,rfl,hcol,by rw[length_map];omega,?_⟩;have hx':Ex (bs2.getD x.2.toNat 0) H' (upd H' (bs2.getD x.2.toNat 0) (.lst ((((xs.take i).foldl wrdS (List.replicate (t0+1).toNat [])).getD x.2.toNat []).map V.str++[.str y]))):=fun c u hc h=>(jh hc).trans h
    refine⟨_,_,rfl,fun c u h=>hx' _ _ (je h pn) (sm _ _ h),hx' _ _ p3n.symm ep,?_,?_⟩
    ·rw[take_snoc hx,foldl_append];have e2:=K5 (g:=fun c:List Str=>.lst (c.map V.str)) ga nd hb hx' (c':=((xs.take i).foldl wrdS (List.replicate (t0+1).toNat [])).getD x.2.toNat []++[y]) (by rw[jr,map_append];rfl);rw[show[x].foldl wrdS ((xs.take i).foldl wrdS (List.replicate (t0+1).toNat []))=((xs.take i).foldl wrdS (List.replicate (t0+1).toNat [])).set x.2.toNat (((xs.take i).foldl wrdS (List.replicate (t0+1).toNat [])).getD x.2.toNat []++[y]) by
      show wrdS _ x=_;unfold wrdS;rw[ef]]
     exact e2
    ·intro w hw';rw[take_snoc hx,foldl_append]at hw';have hw':w∈wrdS ((xs.take i).foldl wrdS (List.replicate (t0+1).toNat [])) x:=hw';unfold wrdS at hw';rw[ef]at hw';rcases mem_or_eq_of_mem_set hw' with z | z
     ·have:=wl w z;omega
     ·rw[z,List.length_append];exact Nat.add_le_add wli (Nat.le_refl 1)
   ·refine iteB0 hd ?_;walk_at"g";have eW:∀W,wrdS W x=W:=fun W=>by
     unfold wrdS;cases e:x.1<;>first | rfl | exact absurd e (nf _ _)
    refine⟨_,_,rfl,sm,ep,?_,fun w hw'=>?_⟩
    ·rw[take_snoc hx,foldl_append];show WrdsAt H' bs2 (wrdS _ x);rw[eW];exact ga
    ·rw[take_snoc hx,foldl_append]at hw';have hw':w∈wrdS ((xs.take i).foldl wrdS (List.replicate (t0+1).toNat [])) x:=hw';rw[eW]at hw';have:=wl w hw';omega
  ·rintro σ H' ⟨o3,o4,rfl,sm,ep,ga,wl⟩;rw[length_map,al,take_length]at ga;walk_at"g";exact q p3 bs2 H' sm h3 ep ga hn nd
theorem j30(T:Txt K mg t)(QI:FnOk P w K mg base CX0 5 t.QJ t.QK ["book"] (sp_lengths))(K0:FnOk P w K mg base CX0 4 t.Z0 t.ya ["book","sizes"] (sp_begun))(zB:FnOk P w K mg base CX0 3 t.qG t.qN ["book","leaves","last"] (sp_columns))(Qv:FnOk P w K mg base CX0 1 t.JM t.JN ["leaves","last"] (sp_words_by)):FnOk P w K mg base CX0 6 t.YW t.Y2 ["book"] (sp_told):=by
 refine T.j0Y.ok zc (fun vs H Q E h=>?_) (fun cdv A outer s H vs Q E hr h=>?_)
 ·cases h;subst_vars;rfl
 obtain⟨b,pl,pp,las,pas,ls,ps,gs,hs,rfl,B,N,g300,lb,ok,q⟩:=h;refine⟨_,(jb (jm (i:=1) zc.nd rfl (.inl rfl) (jn (QI.mono (by decide)) hr (by rfl) T.Kz T.yJ.kp T.Kb .nil pass0 (ja (pv 0) jc)))
  (jb (jm (i:=2) zc.nd rfl (.inl rfl) (ji jv (pv 1) (zo qZ jd)))
  (jb (jS (jt Zf (pv 2) jd (nomark _))
   (jf Zh)
   ju)
  (jb (jm (i:=3) zc.nd rfl (.inl rfl) (jn (K0.mono (by decide)) hr (by rfl) T.j2N T.XF.kp T.j2r .nil pass0 (ja (pv 0) (ja (pv 1) jc))))
  (jb (jm (i:=4) zc.nd rfl (.inl rfl) (jn (zB.mono (by decide)) hr (by rfl) T.wA T.ZZ.kp T.KU .nil pass0 (ja (pv 0) (ja (pv 3) (ja (pv 2) jc)))))
  (jb (jm (i:=5) zc.nd rfl (.inl rfl) (jF jc))
  (jb (j7 PassesOwn.never rfl (YI (by rfl) T.Q1 (ja (jn (Qv.mono (by decide)) hr (by rfl) T.Yy T.zL.kp T.Yv .nil pass0 (ja (pv 3) (ja (pv 2) jc))) jc)) (Jz rfl (jq (jk (i:=6) zc.nd rfl (.inr rfl)) (jq (jk (i:=7) zc.nd rfl (.inl rfl)) jZ)))
   (jf (jB (Jf PySem.F.plainAttrs_list PySem.F.slot_list_append PySem.F.type_list_append jA (pv 5) (ja (Ja (ja (JC (ow:=["column"]) (ci:=[6]) rfl (CompScope.of (defScope Wb) ["book","sizes","last","leaves","columns","found","beat","words"] rfl rfl (by decide +kernel)) (Jw (by decide)) (jG (pv 4)) (fun _ _ _ _ _=>⟨(jk (i:=0) (j5 ["book","sizes","last","leaves","columns","found","beat","words"] rfl (by decide +kernel)) rfl (.inl rfl)),JK,(ji (JY (K:=K) rfl) (pv 0) (pv 1))⟩)) (ja (pv 7) jc))) jc)))))
  (jf (jw (pv 5)))))))))),?_⟩
 refine jx (σ':=[some _,none,none,none,none,none,none,none]) rfl ?_;have sz:(100000:Nat)<sizeLine:=by decide
 have W:=N.s.w;have gl:=N.s.gl;have ne:=N.ne;have p61:=W.p61;have glast:atI (gs.map V.int) (-1)=some (.int (gs.getD (ps.length-1) 0)):=YD (by omega) (by rw[gl]);have g1:=(N.g (show ps.length-1<ps.length by omega)).1;exists⟨b,pl,pp,las,pas,ls,ps,gs,hs,rfl,B,N.s,fun l1 H1 s1 hl1 e1=>?_⟩;exists ixLm (SqL.of e1) (glast) ?_;exists iteD (fun c=>absurd g300 (by omega)) (fun _=>?_);exists⟨b,pl,pp,l1,las,pas,ls,ps,gs,hs,rfl,B.same s1,N,e1,by have:=ok.l;rw[lvF,length_map]at this;exact this,fun l2 as2 H2 s2 hl2 e2 lf=>?_⟩;have s12:=s1.trans s2;generalize hxs:lvF ps (LV ps gs (ps.length-1) 0)=xs at ok lf q;have xb:∀x∈xs,0<=x.2/\x.2<=gs.getD (ps.length-1) 0:=fun x hx=>by
  rw[<-hxs]at hx;obtain⟨y,hy,rfl⟩:=mem_map.mp hx;exact lb y hy
 clear hxs lb;generalize gs.getD (ps.length-1) 0=t0 at g300 g1 q xb glast;exists⟨b,pl,pp,l2,las,pas,as2,ls,ps,xs,t0,rfl,B.same s12,e2,lf,ok,by omega,g300,fun p3 cas H3 s3 hp3 e3 ca=>?_⟩;exists⟨Nat.zero_le _,?_⟩;walk_at"f 4 e";have s34:=s3.trans s4;exists⟨l2,as2,xs,t0,rfl,s34 _ _ e2,All2.mono lf fun c y h=>h.same s34,ok.l,xb,by omega,g300,fun p5 was H5 s5 hp5 e5 wa wn wnd=>?_⟩;exists⟨p5,_,rfl,SqL.of e5,?_⟩;have s45:=s4.trans s5;have s05:=s12.trans (s3.trans s45);have h4:H p4=none:=none_of (s12.trans s3) hp4;have wl:=wa.1;have wl2:(wrdsN t0 xs).length=(t0+1).toNat:=by
  unfold wrdsN;have:∀(ys:List (Fm×Int)) W,(ys.foldl wrdS W).length=W.length:=fun ys=>by
   induction ys with
   | nil=>intro W;rfl
   | cons y r ih=>intro W;rw[foldl_cons,ih,xu]
  rw[this,length_replicate]
 have ca5:ColsAt H5 cas ((colsN ls xs).map fun c=>stayC c t0):=All2.mono ca fun c y h=>s45 _ _ h
 have e35:=s45 _ _ e3;have n45:∀{c u},H3 c=some u->c≠p4:=fun h=>je h hp4
 have e45:=s5 _ _ e4;have np5:p5≠p4:=(je e4 hp5).symm;refine yi (xs:=was.map V.ref) (fun i σ H'=>∃(o6 o7:Option V) (as P1:List Addr),σ=[some (.ref b),some (.ref l1),some (.int t0),some (.ref l2),some (.ref p3),some (.ref p4),o6,o7]/\Ex p4 H5 H'/\H' p4=some (.lst (as.map V.ref))/\All2 (RowN p4 H') as ((rowsT ls xs t0).take i)/\P1.length=i/\P1.Nodup/\(∀a∈P1,H a=none/\a∉was/\a≠p4/\∃o,H' a=some o)/\∀(u:Nat) (a p1 p2:Addr),as[u]?=some a->P1[u]?=some p1->was[u]?=some p2->H' a=some (.tup [.ref p1,.ref p2])/\a≠p4) ⟨_,_,[],[],rfl,Ex.refl _,e45,.nil,rfl,nodup_nil,(fun _ h=>nomatch h),(fun u a p1 p2 h=>nomatch h)⟩ ?_ ?_ ?_
 ·rintro i σ H' _ ⟨o6,o7,as,P1,rfl,sm,ep,ra,pl1,pnd,pnw,pat⟩;exact SqL.of (sm _ _ np5 e5)
 ·rintro i v σ H' TT H'' hv ⟨o6,o7,as,P1,rfl,sm,ep,ra,pl1,pnd,pnw,pat⟩ s6 eT;rw[List.getElem?_map]at hv;obtain⟨a,ha,rfl⟩:=Option.map_eq_some_iff.mp hv;have il:=(List.getElem?_eq_some_iff.mp ha).1;obtain⟨w,hw⟩:∃w,(wrdsN t0 xs)[i]?=some w:=⟨_,List.getElem?_eq_getElem (by omega)⟩
  have hwa:=wa.2 i a w ha hw;have na4:a≠p4:=fun z=>by
   have:=wn a (List.mem_of_getElem? ha);rw[z,e4]at this;cases this
  have al:=ra.1;rw[length_take]at al;have rl:(rowsT ls xs t0).length=(t0+1).toNat:=by unfold rowsT;rw[length_map,length_range]
  have row:(rowsT ls xs t0)[i]?=some ((colsN ls xs).map (fun c=>(stayC c t0).getD i 0),w):=by
   unfold rowsT;rw[List.getElem?_map,List.getElem?_range (by omega)];show some (_,(wrdsN t0 xs).getD i [])=_;rw[show(wrdsN t0 xs).getD i []=w by rw[getD_eq_getElem?_getD,hw];rfl]
  refine JV (SqT.of eT) ?_;walk_at"g";have x6:Ex p4 H5 H'':=fun c u hc h=>s6 _ _ (sm _ _ hc h)
  refine⟨.inl ⟨rfl,_,SqL.of (s6 _ _ ep)⟩,?_⟩;walk_at"g";have e36:=x6 _ _ (n45 e3) e35;refine⟨p3,rfl,⟨_,SqL.of e36⟩,?_⟩;have cl:=ca.1;rw[length_map]at cl;have ca6:ColsAt H'' cas ((colsN ls xs).map fun c=>stayC c t0):=⟨ca.1,fun i a c h1 h2=>x6 _ _ (n45 (ca.2 i a c h1 h2)) (ca5.2 i a c h1 h2)⟩
  have c8:(colsN ls xs).length<=8:=by
   have:∀(ys:List (Fm×Int)) C,(ys.foldl (colS (nmsOf ls)) C).length=C.length:=fun ys=>by
    induction ys with
    | nil=>intro C;rfl
    | cons y r ih=>intro C;rw[foldl_cons,ih,WA]
   unfold colsN;rw[this,length_map];exact ok.l8
  refine j6 (xs:=cas.map V.ref) (fun k ys H7=>ys=(((colsN ls xs).take k).map (fun c=>(stayC c t0).getD i 0)).map V.int/\H''=H7) ⟨rfl,rfl⟩ ?_ ?_ ?_
  ·rintro k ys H7 _ ⟨rfl,rfl⟩;exact SqL.of e36
  ·rintro k x ys H7 hx ⟨rfl,rfl⟩;rw[List.getElem?_map]at hx;obtain⟨ca',hca,rfl⟩:=Option.map_eq_some_iff.mp hx;have kl:=(List.getElem?_eq_some_iff.mp hca).1;obtain⟨c,hc⟩:∃c,(colsN ls xs)[k]?=some c:=⟨_,List.getElem?_eq_getElem (by omega)⟩
   have hcol:=ca6.2 k ca' (stayC c t0) hca (by rw[List.getElem?_map,hc];rfl);have sl:=ZC (c:=c) (b:=t0);have hci:(stayC c t0)[i]?=some ((stayC c t0).getD i 0):=by rw[getD_eq_getElem?_getD,List.getElem?_eq_getElem (by omega)];rfl
   refine Jc (σ':=[none,some _]) rfl ?_;exists iteT ?_;exists ixLm (SqL.of hcol) (jO (j:=i) (by rw[List.getElem?_map,hci];rfl)) ?_;refine⟨by rw[length_map,length_map,length_take];omega,?_,rfl⟩;rw[take_snoc hc,map_append,map_append];rfl
  ·rintro ys H7 ⟨rfl,rfl⟩;rw[show(cas.map V.ref).length=(colsN ls xs).length by rw[length_map];exact cl,take_length];refine⟨by rw[length_map,length_map];omega,?_⟩;walk_at"f 8 e";exists⟨(by show 2<=sizeLine;omega),?_⟩;walk_at"f 9 e";walk_at"g";have s69:=s6.trans (s8.trans s9);have ep9:=s69 _ _ ep;refine⟨p4,_,_,rfl,rfl,ep9,by rw[length_map];omega,?_⟩;have x9:Ex p4 H9 (upd H9 p4 (.lst (as.map V.ref++[.ref p9]))):=fun c u hc h=>(jh hc).trans h
   have e10:upd H9 p4 (.lst (as.map V.ref++[.ref p9])) p4=some (.lst ((as++[p9]).map V.ref)):=by rw[jr,map_append];rfl
   generalize upd H9 p4 (.lst (as.map V.ref++[.ref p9]))=H10 at x9 e10|-;have n8:p8≠p4:=(je (s6 _ _ ep) hp8).symm;have n9:p9≠p4:=(je (s8 _ _ (s6 _ _ ep)) hp9).symm;have al':=ra.1;have x69:∀c u,c≠p4->H' c=some u->H10 c=some u:=fun c u hc h=>x9 _ _ hc (s69 _ _ h)
   have h8:H p8=none:=by
    cases e:H p8 with
    | none=>rfl
    | some u=>have:=x6 _ _ (je e h4) (s05 _ _ e);rw[this]at hp8;cases hp8
   have w8:p8∉was:=fun z=>by
    obtain⟨k,hk⟩:=mem_iff_getElem?.mp z;have kl:=(List.getElem?_eq_some_iff.mp hk).1;obtain⟨w',hw'⟩:∃w,(wrdsN t0 xs)[k]?=some w:=⟨_,List.getElem?_eq_getElem (by omega)⟩
    have e:H5 p8=some _:=wa.2 k p8 w' hk hw';have:=x6 _ _ n8 e;rw[this]at hp8;cases hp8
   refine⟨_,_,as++[p9],P1++[p8],rfl,fun c u hc h=>x9 _ _ hc (s69 _ _ (sm _ _ hc h)),e10,?_,by rw[List.length_append,pl1];rfl,nodup_append.mpr ⟨pnd,nodup_cons.mpr ⟨(fun h=>nomatch h),nodup_nil⟩,fun a ha b' hb z=>?_⟩,fun a ha=>?_,fun u a' p1 p2 h1 h2 h3=>?_⟩
   rotate_left
   ·rw[mem_singleton.mp hb]at z;subst z;obtain⟨o,ho⟩:=(pnw a ha).2.2.2;rw[s6 _ _ ho]at hp8;cases hp8
   ·rcases mem_append.mp ha with z | z
    ·obtain⟨b1,b2,b3,o,b4⟩:=pnw a z;exact⟨b1,b2,b3,o,x69 _ _ b3 b4⟩
    ·rw[mem_singleton.mp z];exact⟨h8,w8,n8,_,x9 _ _ n8 (s9 _ _ e8)⟩
   ·have asl:as.length=i:=by omega
    by_cases c:u<i
    ·rw[List.getElem?_append_left (by omega)]at h1 h2;obtain⟨b1,b2⟩:=pat u a' p1 p2 h1 h2 h3;exact⟨x69 _ _ b2 b1,b2⟩
    ·rw[List.getElem?_append_right (by omega)]at h1 h2;have eu:u=i:=by
      have:=(List.getElem?_eq_some_iff.mp h1).1;rw[List.length_singleton]at this;omega
     subst eu;rw[asl,Nat.sub_self]at h1;rw[pl1,Nat.sub_self]at h2;rw[ha]at h3;cases h1;cases h2;cases h3;exact⟨x9 _ _ n9 e9,n9⟩
   rw[take_snoc row];refine All2.snoc (All2.mono ra fun c y h=>h.ex fun c u hc h=>x9 _ _ hc (s69 _ _ h)) ⟨p8,a,x9 _ _ n9 e9,x9 _ _ n8 (s9 _ _ e8),x9 _ _ na4 (s69 _ _ (sm _ _ na4 hwa)),n9,n8,na4⟩
 ·rintro σ' H' ⟨o6,o7,as,P1,rfl,sm,ep,ra,pl1,pnd,pnw,pat⟩;rw[length_map,wl,wl2,take_of_length_le (by unfold rowsT;rw[length_map,length_range];exact Nat.le_refl _)]at ra;walk_at"g";have asl:=ra.1;rw[show(rowsT ls xs t0).length=(t0+1).toNat by unfold rowsT;rw[length_map,length_range]]at asl;rw[length_map]at pl1;refine q p4 as P1 was H' (fun c u h=>sm _ _ (je h h4) (s05 _ _ h)) h4 ep (All2.mono ra fun c y h=>h.at) ⟨by omega,by omega,nodup_append.mpr ⟨pnd,wnd,fun a ha b' hb z=>(pnw a ha).2.1 (z▸hb)⟩,fun a ha=>?_,fun u a p1 p2 h1 h2 h3=>(pat u a p1 p2 h1 h2 h3).1⟩;rcases mem_append.mp ha with z | z
  ·exact⟨(pnw a z).1,(pnw a z).2.2.1⟩
  ·refine⟨none_of (s12.trans s34) (wn a z),fun e=>?_⟩;have:=wn a z;rw[e,e4]at this;cases this
theorem wH(T:Txt K mg t):FnOk P w K mg base CX0 1 t.qt t.qw ["_law_script","_law_k"] (sp_cellC K):=by
 refine T.qp.ok zJ (fun vs H Q E h=>?_) (fun cdv A outer s H vs Q E hr h=>?_)
 ·cases h;subst_vars;rfl
 obtain⟨a,ns,k,rfl,hS,h63,k0,k1,q⟩:=h;refine⟨_,(jb (jS (jt X7 (pv 1) (jy jJ (by rfl) T.JW Jj (ja (pv 0) jc)) (nomark _))
   (jf (jw (ji jv (pv 0) (pv 1))))
   ju)
  (jb (jm (i:=2) zJ.nd rfl (.inl rfl) (jp jQ (jp Jb (pv 1) (pv 1)) jd))
  (jb (ze (jt Zf (jy jJ (by rfl) T.JW Jj (ja (pv 0) jc)) jd (nomark _))
   (jf (jm (i:=2) zJ.nd rfl (.inl rfl) (jp jQ (pv 2) (jp Jp (ji jv (pv 0) (jp Jp (jp Jb (pv 1) jd) (jy jJ (by rfl) T.JW Jj (ja (pv 0) jc)))) jd))))
   ju)
  (jf (jw (jp Jp (jp Jb (pv 2) (pv 2)) jd)))))),?_⟩
 refine jx (σ':=[some _,some _,none]) rfl ?_;have sz:(200:Nat)<sizeLine:=by decide
 exists⟨_,_,rfl,.inl ⟨_,hS,rfl⟩,?_⟩;rw[length_map];exists iteD (fun c=>?_) (fun c=>?_)
 ·exists⟨a,_,_,_,rfl,rfl,hS,Pr.XL k0 c,?_⟩;exact q _ fun hb=>Pr.j0b hb _
 exists⟨fun σ' H'=>∃n:Int,σ'=[some (.ref a),some (.int k),some (.int n)]/\H=H'/\0<=n/\n<=10^10,?_,?_⟩
 rotate_left
 ·have kk:=Xe (A:=100) (B:=100) (show -100<=k by omega) k1 (show -100<=k by omega) k1;have kp:0<=k*k:=Int.mul_nonneg k0 k0;exists⟨_,_,rfl,.inl ⟨_,hS,rfl⟩,?_⟩;rw[length_map];exists iteD (fun c'=>?_) (fun c'=>?_)
  ·exists⟨_,_,rfl,.inl ⟨_,hS,rfl⟩,?_⟩;rw[length_map];walk_at"g";have m0:=Int.emod_nonneg (k*7) (show(ns.length:Int)≠0 by omega);have m1:=Int.emod_lt_of_pos (k*7) (show(0:Int)<(ns.length:Int) by omega);refine⟨a,_,_,_,rfl,rfl,hS,Pr.XL m0 m1,?_⟩;walk_at"g";exact⟨_,rfl,rfl,by omega,by omega⟩
  ·walk_at"g";exact⟨_,rfl,rfl,by omega,by omega⟩
 rintro σ' H' ⟨n,rfl,rfl,n0,n1⟩;walk_at"g";exact q _ fun _=>YY (by omega) (by omega)
theorem kR(T:Txt K mg t):FnOk P w K mg base CX0 1 t.qE t.qL ["_law_cell_here","_law_many"] (sp_onames):=by
 refine T.ZX.ok jC (fun vs H Q E h=>?_) (fun cdv A outer s H vs Q E hr h=>?_)
 ·cases h;subst_vars;rfl
 obtain⟨c,n,rfl,hn,q⟩:=h;refine⟨_,(jb (jm (i:=2) jC.nd rfl (.inl rfl) jL)
  (jb (jm (i:=3) jC.nd rfl (.inl rfl) (jp jQ jd (jp Jp (pv 0) jd)))
  (jb (jm (i:=4) jC.nd rfl (.inl rfl) (jp Jp (jp JZ (pv 0) jd) (pv 3)))
  (jb (jm (i:=5) jC.nd rfl (.inl rfl) (jp Jp (pv 0) jd))
  (jb (jm (i:=6) jC.nd rfl (.inl rfl) jL)
  (jb (j7 PassesOwn.never rfl (JU (by rfl) T.J1 (ja (pv 3) jc)) (jk (i:=7) jC.nd rfl (.inl rfl))
   (jb (jm (i:=5) jC.nd rfl (.inl rfl) (jp Jp (jp jQ (jp jQ (jp jQ (jp Jb (pv 5) (pv 5)) (jp Jb jd (pv 5))) (pv 7)) jd) jd))
   (jf (jm (i:=6) jC.nd rfl (.inl rfl) (jp zF (pv 6) (ji xT (pv 2) (jp Jp (jp JZ (pv 5) jd) jd)))))))
  (jb (jm (i:=8) jC.nd rfl (.inl rfl) (Jf PySem.F.plainAttrs_str PySem.F.slot_str_index PySem.F.type_str_index j0y (pv 2) (ja (ji xT (pv 6) (pv 4)) jc)))
  (jb (jm (i:=9) jC.nd rfl (.inl rfl) (jF jc))
  (jb (j7 PassesOwn.never rfl (JU (by rfl) T.J1 (ja (pv 1) jc)) (jk (i:=7) jC.nd rfl (.inl rfl))
   (jb (jm (i:=10) jC.nd rfl (.inl rfl) (ji xT (pv 2) (jp Jp (jp jQ (pv 8) (jp Jb jd (pv 7))) jd)))
   (jb (jm (i:=11) jC.nd rfl (.inl rfl) (jp Jb (jp Jp (pv 7) jd) (jp Jp (jp JZ (pv 0) jd) jd)))
   (jf (jB (Jf PySem.F.plainAttrs_list PySem.F.slot_list_append PySem.F.type_list_append jA (pv 9) (ja (jp zF (jp zF (jp zF (Zg Xw (pv 6) YJ (Q5 (pv 4))) (pv 10)) (Zg Xw (pv 6) (Q5 (jp jQ (pv 4) jd)) YJ)) (Zg Xw jL YJ (Q5 (pv 11)))) jc)))))))
  (jf (jw (pv 9)))))))))))),?_⟩
 refine jx (σ':=[some _,some _,none,none,none,none,none,none,none,none,none,none]) rfl ?_;have sz:(200:Nat)<sizeLine:=by decide
 walk_at"g";have a0:=Int.emod_nonneg (c/6) (show 1+c%6≠0 by omega);have a1:=Int.emod_lt_of_pos (c/6) (show 0<1+c%6 by omega);generalize hat:c/6%(1+c%6)=at' at a0 a1|-;have g0:1<=1+c%6:=by omega
 have g1:1+c%6<=6:=by omega
 generalize 1+c%6=lg at a1 g0 g1|-;refine⟨_,rfl,by omega,by omega,?_⟩;refine Zv (fun i σ H'=>∃(o7:Option V) (sd:Int) (x:Str),σ=[some (.int c),some (.int n),some (.str "abcdefghijklmnopqrstuvwxyz"),some (.int lg),some (.int at'),some (.int sd),some (.str x),o7,none,none,none,none]/\H=H'/\0<=sd/\sd<1000003/\x.length=i/\∀d∈x.cps.toList,97<=d/\d<=122)
  ⟨_,_,_,rfl,rfl,by omega,by omega,by decide +kernel,(fun d h=>by rw[show(Str.ofString "").cps.toList=[] by decide +kernel]at h;exact nomatch h)⟩ ?_ ?_
 ·rintro i σ H' hi ⟨o7,sd,x,rfl,rfl,d0,d1,lx,cx⟩;have hi:i<6:=by omega
  have ss:=Xe (A:=1000003) (B:=1000003) (show -1000003<=sd by omega) (by omega) (show -1000003<=sd by omega) (by omega);exists⟨_,_,_,rfl,rfl,(by decide +kernel),j1o (by omega) (by omega),?_⟩;refine⟨_,_,rfl,rfl,by rw[lx];show i+1<=_;omega,?_⟩;refine⟨_,_,_,rfl,rfl,by omega,by omega,by rw[Str.length_append,lx];rfl,fun d hd=>?_⟩;rw[app_list]at hd;rcases mem_append.mp hd with z | z
  ·exact cx d z
  ·rw[show d=_ from mem_singleton.mp z];omega
 rintro σ' H' ⟨o7,sd,x,rfl,rfl,d0,d1,lx,cx⟩;have lx':x.cps.toList.length=x.length:=Ws.wv x;have ax:at'.toNat<x.cps.toList.length:=by rw[lx',lx];omega
 have x6:x.length<=6:=by omega
 clear lx g0 g1 a1;walk_at"g";obtain⟨c0,hc0⟩:∃c0,x.cps.toList[at'.toNat]?=some c0:=⟨_,List.getElem?_eq_getElem ax⟩
 have c0b:=cx c0 (List.mem_of_getElem? hc0);refine⟨rfl,?_⟩;exists⟨_,_,_,rfl,rfl,(by omega),j10 a0 hc0,?_⟩;refine⟨_,_,_,_,rfl,rfl,j2M c0b.1 c0b.2,?_⟩;exists⟨Nat.zero_le _,?_⟩;walk_at"f 5 t";exists⟨_,rfl,by omega,by omega,?_⟩;have e2:0<=c/36%2/\c/36%2<2:=by omega
 generalize hE:c/36%2=ee at e2;refine Zv (fun i σ H'=>∃(o7 o10 o11:Option V) (ws:List Str),σ=[some (.int c),some (.int n),some (.str "abcdefghijklmnopqrstuvwxyz"),some (.int lg),some (.int at'),some (.int sd),some (.str x),o7,some (.int (c0-97:Nat)),some (.ref p5),o10,o11]/\Same H H'/\H' p5=some (.lst (ws.map V.str))/\ws.length=i/\∀j,j<i->(ws[j]?).map (·.cps.toList)=some (onL x.cps.toList at'.toNat (c0-97) (j%3*ee.toNat) j))
  ⟨_,_,_,[],rfl,s5,t5,rfl,fun j hj=>absurd hj (Nat.not_lt_zero j)⟩ ?_ ?_
 ·rintro i σ H' hi ⟨o7,o10,o11,ws,rfl,sm,hl',hn',hw⟩
  replace hi:i<26:=by omega
  exists⟨_,_,_,rfl,rfl,(by decide +kernel),j1o (by omega) (by omega),?_⟩;walk_at"g";rw[hE];have em:(0+(i:Int))%3*ee=((i%3*ee.toNat:Nat):Int):=by
   have:ee=0\/ee=1:=by omega
   rcases this with rfl | rfl
   ·simp
   ·simp
  have em2:i%3*ee.toNat<=2:=by
   have:ee.toNat=0\/ee.toNat=1:=by omega
   rcases this with z | z<;>rw[z]<;>omega
  rw[em];have e98:97+((((c0-97:Nat):Int)+3*(0+(i:Int)))%26).toNat=97+(c0-97+3*i)%26:=by
   rw[show((c0-97:Nat):Int)+3*(0+(i:Int))=((c0-97+3*i:Nat):Int) by omega];rfl
  rw[e98];clear e98 e2;generalize hm:i%3*ee.toNat=m at em2;have hlab:(Str.ofString "ab").length=2:=by decide +kernel
  have one:∀c:Nat,(⟨#[c]⟩:Str).length=1:=fun _=>rfl
  have j1:=Txt.slice_le x none (some at');have j2:=Txt.slice_le x (some (at'+1)) none;have j3:=Txt.slice_le (Str.ofString "ab") none (some (m:Int));refine⟨.inl ⟨rfl,_,SqL.of hl'⟩,?_⟩;exists⟨by omega,?_⟩;exists⟨_,_,rfl,rfl,by rw[one];omega,?_⟩;exists⟨by omega,?_⟩;refine⟨_,_,rfl,rfl,by rw[Str.length_append,one];omega,?_⟩;exists⟨by rw[hlab];omega,?_⟩;refine⟨_,_,rfl,rfl,by rw[Str.length_append,Str.length_append,one];omega,?_⟩;exists⟨p5,_,_,rfl,rfl,hl',by rw[length_map];omega,?_⟩;refine⟨_,_,_,ws++[_],rfl,Ws.j28 sm hp5,by rw[jr,map_append];rfl,by rw[List.length_append,hn'];rfl,?_⟩;refine j32 hn' hw ?_;rw[hm,app_list,app_list,app_list,cutTo a0 (by omega),cutFrom (by omega) (by omega),cutTo (by omega) (by rw[hlab];omega)];unfold onL;rw[show(at'+1).toNat=at'.toNat+1 by omega,show(Str.ofString "ab").cps.toList=[97,98] by decide +kernel,Int.toNat_natCast]
 rintro σ' H' ⟨o7,o10,o11,ws,rfl,sm,hl',hn',hw⟩;walk_at"g";have hn2:ws.length=n:=by omega
 obtain⟨g1,g2⟩:=j1L (by omega) cx (by omega) ax hn2 (fun j hj=>hw j (by omega));exact q _ _ _ sm hp5 hl' hn2 g1 g2
theorem kQ(T:Txt K mg t):FnOk P w K mg base CX0 1 t.qD t.qK ["_law_form_here","_law_limbs","_law_movers"] (sp_movesD):=by
 refine T.zx.ok qj (fun vs H Q E h=>?_) (fun cdv A outer s H vs Q E hr h=>?_)
 ·cases h;subst_vars;rfl
 obtain⟨a,l,m,f,L,mas,M,rfl,hf,el,nd,em,am,hM,hbnd,j8,jl,hr',q⟩:=h;refine⟨_,(jb (jS (jt Jn (ji jo (pv 0) jd) jL (nomark _))
   (jf (jw (jF (ja (Jf PySem.F.plainAttrs_list PySem.F.slot_list_index PySem.F.type_list_index j0x (pv 1) (ja (ji jo (pv 0) jd) jc)) jc))))
   ju)
  (jb (jm (i:=3) qj.nd rfl (.inr rfl) (jF jc))
  (jb (ze (PW.pt (ko (jt Jn (ji jo (pv 0) jd) jL (nomark _)) (Yd (jt Jn (ji jo (pv 0) jd) jL (nomark _)))))
   (jf (j7 PassesOwn.never rfl (jG (ji jo (pv 0) jd)) (jk (i:=4) qj.nd rfl (.inl rfl))
    (jf (jm (i:=3) qj.nd rfl (.inr rfl) (jp Xg (pv 3) (JC (ow:=["_law_limb"]) (ci:=[3]) rfl (CompScope.of (defScope QE) ["_law_form_here","_law_limbs","_law_movers","_law_found","_law_k"] rfl rfl (by decide +kernel)) (Jw (by decide)) (jG (ji jv (pv 2) (pv 4))) (fun _ _ _ _ _=>⟨(jk (i:=0) (j5 ["_law_form_here","_law_limbs","_law_movers","_law_found","_law_k"] rfl (by decide +kernel)) rfl (.inl rfl)),(Xn (jt (kW (K:=K) rfl) (pv 0) (pv 1) (by with_unfolding_all rfl))),(pv 0)⟩)))))))
   ju)
  (jb (ze (jt Jn (ji jo (pv 0) jd) jL (nomark _))
   (jf (jm (i:=3) qj.nd rfl (.inr rfl) (QM QB (by rfl) T.zY Q2 (ja (ji jv (pv 2) (ji jo (pv 0) jd)) jc))))
   ju)
  (jf (jw (jy wg (by rfl) T.Wx Kh (ja (pv 3) jc)))))))),?_⟩
 refine jx (σ':=[some _,some _,some _,none,none]) rfl ?_;have sz:(200:Nat)<sizeLine:=by decide
 have aml:=am.1;have Mat:∀j,j<M.length->M[j]?=some (M.getD j []):=fun j h=>by
  rw[getD_eq_getElem?_getD,List.getElem?_eq_getElem h];rfl
 have Mok:∀j,j<M.length->(M.getD j []).Pairwise (· < ·)/\(M.getD j []).length<=8:=fun j h=>hM _ (List.mem_of_getElem? (Mat j h))
 by_cases hri:∃x h n,f = .rise x h n
 ·obtain⟨x,h,n,rfl⟩:=hri;have hf:H a=some (.tup [.str "raise",.str x,.int h,.int n]):=hf;obtain⟨i,hi⟩:=hr' x h n rfl;exists ixTm (SqT.of hf) rfl ?_;exists iteE1 ?_;exists⟨.inl ⟨rfl,_,SqL.of el⟩,?_⟩;exists ixTm (SqT.of hf) rfl ?_;refine⟨l,L.map V.str,.str x,.str x,i,rfl,rfl,SqL.of el,rfl,?_,by rw[List.getElem?_map,hi];rfl,by show(x==x)=true;exact beq_self_eq_true _,fun k z hk hz=>?_,?_⟩
  ·rw[all_eq_true];intro y hy;obtain⟨s',_,rfl⟩:=mem_map.mp hy;rfl
  ·rw[List.getElem?_map]at hz;obtain⟨s',hs',rfl⟩:=Option.map_eq_some_iff.mp hz;show(s'==x)=false;rw[beq_eq_false_iff_ne];intro e;subst e;have e1:=Jm nd hs';have e2:=Jm nd hi;omega
  exists⟨(by show 1<=sizeLine;omega),?_⟩;walk_at"f p hp H1 s1 t1";refine q p [(i:Int)] H1 s1 hp t1 ⟨pairwise_singleton _ _,fun k=>⟨fun hk=>.inr ⟨x,h,n,i,rfl,hi,mem_singleton.mp hk⟩,?_⟩⟩;rintro(⟨j,hj,_⟩ | ⟨x',h',n',i',e,hi',rfl⟩)
  ·exact nomatch hj
  ·injection e with e _ _;subst e;have e1:=Jm nd hi;have e2:=Jm nd hi';rw[show i'=i by omega];exact mem_singleton.mpr rfl
 have nori:∀k,¬∃(x:Str) (h n:Int) (i:Nat),f = .rise x h n/\L[i]?=some x/\k=(i:Int):=fun k ⟨x,h,n,i,e,_⟩=>hri ⟨x,h,n,e⟩
 have key:∃kw xs,H a=some (.tup (.str kw::xs))/\decide (kw=("raise" : Str))=false/\(((decide (kw=("row" : Str))=true\/(decide (kw=("row" : Str))=false/\decide (kw=("side" : Str))=true))/\decide (kw=("again" : Str))=false/\∃b,xs=[.ref b]/\H b=some (.lst (f.js.map vN)))\/
   (decide (kw=("row" : Str))=false/\decide (kw=("side" : Str))=false/\decide (kw=("again" : Str))=true/\∃k j,f = .again k j/\xs=[.int k,.int (j:Nat)])\/
   (decide (kw=("row" : Str))=false/\decide (kw=("side" : Str))=false/\decide (kw=("again" : Str))=false/\f.js=[])):=by
  cases f with
  | hold n=>exact⟨_,_,hf,by decide +kernel,.inr (.inr ⟨by decide +kernel,by decide +kernel,by decide +kernel,rfl⟩)⟩
  | ring x n=>exact⟨_,_,hf,by decide +kernel,.inr (.inr ⟨by decide +kernel,by decide +kernel,by decide +kernel,rfl⟩)⟩
  | rise x v n=>exact absurd ⟨x,v,n,rfl⟩ hri
  | row is=>obtain⟨b,h1,h2⟩:=hf;exact⟨_,_,h1,by decide +kernel,.inl ⟨.inl (by decide +kernel),by decide +kernel,b,rfl,h2⟩⟩
  | side is=>obtain⟨b,h1,h2⟩:=hf;exact⟨_,_,h1,by decide +kernel,.inl ⟨.inr ⟨by decide +kernel,by decide +kernel⟩,by decide +kernel,b,rfl,h2⟩⟩
  | again k j=>exact⟨_,_,hf,by decide +kernel,.inr (.inl ⟨by decide +kernel,by decide +kernel,by decide +kernel,k,j,rfl,rfl⟩)⟩
 obtain⟨kw,xs,hk,dr,hkind⟩:=key;exists ixTm (SqT.of hk) (at0) ?_;exists iteB0 dr ?_;exists⟨Nat.zero_le _,?_⟩;walk_at"f 0 t";exists⟨fun σ' H'=>∃(o4:Option V) (pf:Addr) (ts:List Int),σ'=[some (.ref a),some (.ref l),some (.ref m),some (.ref pf),o4]/\Same H H'/\H' pf=some (.lst (ts.map V.int))/\((∃k j,f = .again k j)/\ts=[]\/(¬∃k j,f = .again k j)/\ts.Nodup/\∀k,k∈ts↔∃j∈f.js,k∈M.getD j []),?_,?_⟩
 rotate_left
 ·exists ixTm (SqT.of (s0 _ _ hk)) (at0) ?_;walk_at"g";rcases hkind with⟨hd,da,b,rfl,hb⟩ | ⟨d1,d2,da,k,j,ef,rfl⟩ | ⟨d1,d2,da,ejs⟩
  ·have nag:¬∃k j,f = .again k j:=fun⟨k,j,e⟩=>by
    subst e;have:H a=some (.tup [.str "again",.int k,.int (j:Nat)]):=hf;rw[hk]at this;cases this
   rcases hd with d | ⟨d,d'⟩
   ·refine iteB1 d ?_;exists iteT ?_;exists ixTm (SqT.of (s0 _ _ hk)) rfl ?_;refine⟨b,rfl,⟨_,SqL.of (s0 _ _ hb)⟩,?_⟩;refine j9 (xs:=f.js.map vN) (fun i σ H'=>∃(o4:Option V) (pf:Addr) (ts:List Int),σ=[some (.ref a),some (.ref l),some (.ref m),some (.ref pf),o4]/\Same H H'/\H' pf=some (.lst (ts.map V.int))/\ts.length<=8*i/\ts.Nodup/\∀k,k∈ts↔∃j∈f.js.take i,k∈M.getD j []) ⟨_,p0,[],rfl,s0,t0,Nat.le_refl _,.nil,fun k=>⟨(fun h=>nomatch h),fun⟨j,h,_⟩=>by simp at h⟩⟩ ?_ ?_ ?_
    ·rintro i σ H' _ ⟨o4,pf,ts,rfl,sm,et,tl,tn,tm⟩;exact SqL.of (sm _ _ hb)
    ·rintro i v σ H' hv ⟨o4,pf,ts,rfl,sm,et,tl,tn,tm⟩;obtain⟨j,hj,rfl,hjm⟩:=kE hv;have il:=(List.getElem?_eq_some_iff.mp hj).1;have hjl:=jl j hjm;obtain⟨aj,eaj,haj⟩:=am.get (Mat j hjl);obtain⟨mp,k8⟩:=Mok j hjl;exists ixLm (SqL.of (sm _ _ em)) (jY (i:=(j:Int)) (by omega) eaj) ?_;refine⟨aj,rfl,⟨_,SqL.of (sm _ _ haj)⟩,?_⟩;refine j6 (xs:=(M.getD j []).map V.int) (fun i ys H''=>ys=(((M.getD j []).take i).filter fun k=>!decide (k∈ts)).map V.int/\H'=H'') ⟨rfl,rfl⟩ ?_ ?_ ?_
     ·rintro i ys H'' _ ⟨rfl,rfl⟩;exact SqL.of (sm _ _ haj)
     ·rintro i x ys H'' hx ⟨rfl,rfl⟩;rw[List.getElem?_map]at hx;obtain⟨k,hk,rfl⟩:=Option.map_eq_some_iff.mp hx;have ik:=(List.getElem?_eq_some_iff.mp hk).1;refine Jc (σ':=[none,some _]) rfl ?_;exists⟨pf,_,rfl,.inl (SqL.of et),rfl,flats _,?_⟩;rw[notInI];walk_at"g";rw[take_snoc hk,filter_append];have lf:(((M.getD j []).take i).filter fun k=>!decide (k∈ts)).length<=8:=Nat.le_trans (length_filter_le _ _) (by rw[length_take];omega);refine iteN (fun c=>?_) (fun c=>?_)
      ·exists⟨by rw[length_map];omega,?_,rfl⟩;rw[map_append];simp[c]
      ·refine⟨?_,rfl⟩;simp[c]
     rintro ys H'' ⟨rfl,rfl⟩;rw[show((M.getD j []).map V.int).length=(M.getD j []).length from length_map _,take_length];have lf:((M.getD j []).filter fun k=>!decide (k∈ts)).length<=8:=Nat.le_trans (length_filter_le _ _) k8;refine⟨by rw[length_map];omega,?_⟩;walk_at"f 4 t";refine⟨pf,p4,_,_,rfl,rfl,s4 _ _ et,t4,by rw[length_map,length_map];omega,?_⟩;walk_at"f 5 t";obtain⟨n1,n2⟩:=WW hj tm tn (mp.imp fun h=>by omega);exact⟨_,p5,ts++((M.getD j []).filter fun k=>!decide (k∈ts)),rfl,sm.trans (s4.trans s5),by rw[t5,map_append],by rw[List.length_append];omega,n1,n2⟩
    rintro σ' H' ⟨o4,pf,ts,rfl,sm,et,tl,tn,tm⟩;rw[show(f.js.map vN).length=f.js.length from length_map _,take_length]at tm;exact⟨_,pf,ts,rfl,sm,et,.inr ⟨nag,tn,tm⟩⟩
   ·refine iteB0 d ?_;exists ixTm (SqT.of (s0 _ _ hk)) (at0) ?_;exists iteB1 d' ?_;exists ixTm (SqT.of (s0 _ _ hk)) rfl ?_;refine⟨b,rfl,⟨_,SqL.of (s0 _ _ hb)⟩,?_⟩;refine j9 (xs:=f.js.map vN) (fun i σ H'=>∃(o4:Option V) (pf:Addr) (ts:List Int),σ=[some (.ref a),some (.ref l),some (.ref m),some (.ref pf),o4]/\Same H H'/\H' pf=some (.lst (ts.map V.int))/\ts.length<=8*i/\ts.Nodup/\∀k,k∈ts↔∃j∈f.js.take i,k∈M.getD j []) ⟨_,p0,[],rfl,s0,t0,Nat.le_refl _,.nil,fun k=>⟨(fun h=>nomatch h),fun⟨j,h,_⟩=>by simp at h⟩⟩ ?_ ?_ ?_
    ·rintro i σ H' _ ⟨o4,pf,ts,rfl,sm,et,tl,tn,tm⟩;exact SqL.of (sm _ _ hb)
    ·rintro i v σ H' hv ⟨o4,pf,ts,rfl,sm,et,tl,tn,tm⟩;obtain⟨j,hj,rfl,hjm⟩:=kE hv;have il:=(List.getElem?_eq_some_iff.mp hj).1;have hjl:=jl j hjm;obtain⟨aj,eaj,haj⟩:=am.get (Mat j hjl);obtain⟨mp,k8⟩:=Mok j hjl;exists ixLm (SqL.of (sm _ _ em)) (jY (i:=(j:Int)) (by omega) eaj) ?_;refine⟨aj,rfl,⟨_,SqL.of (sm _ _ haj)⟩,?_⟩;refine j6 (xs:=(M.getD j []).map V.int) (fun i ys H''=>ys=(((M.getD j []).take i).filter fun k=>!decide (k∈ts)).map V.int/\H'=H'') ⟨rfl,rfl⟩ ?_ ?_ ?_
     ·rintro i ys H'' _ ⟨rfl,rfl⟩;exact SqL.of (sm _ _ haj)
     ·rintro i x ys H'' hx ⟨rfl,rfl⟩;rw[List.getElem?_map]at hx;obtain⟨k,hk,rfl⟩:=Option.map_eq_some_iff.mp hx;have ik:=(List.getElem?_eq_some_iff.mp hk).1;refine Jc (σ':=[none,some _]) rfl ?_;exists⟨pf,_,rfl,.inl (SqL.of et),rfl,flats _,?_⟩;rw[notInI];walk_at"g";rw[take_snoc hk,filter_append];have lf:(((M.getD j []).take i).filter fun k=>!decide (k∈ts)).length<=8:=Nat.le_trans (length_filter_le _ _) (by rw[length_take];omega);refine iteN (fun c=>?_) (fun c=>?_)
      ·exists⟨by rw[length_map];omega,?_,rfl⟩;rw[map_append];simp[c]
      ·refine⟨?_,rfl⟩;simp[c]
     rintro ys H'' ⟨rfl,rfl⟩;rw[show((M.getD j []).map V.int).length=(M.getD j []).length from length_map _,take_length];have lf:((M.getD j []).filter fun k=>!decide (k∈ts)).length<=8:=Nat.le_trans (length_filter_le _ _) k8;refine⟨by rw[length_map];omega,?_⟩;walk_at"f 4 t";refine⟨pf,p4,_,_,rfl,rfl,s4 _ _ et,t4,by rw[length_map,length_map];omega,?_⟩;walk_at"f 5 t";obtain⟨n1,n2⟩:=WW hj tm tn (mp.imp fun h=>by omega);exact⟨_,p5,ts++((M.getD j []).filter fun k=>!decide (k∈ts)),rfl,sm.trans (s4.trans s5),by rw[t5,map_append],by rw[List.length_append];omega,n1,n2⟩
    rintro σ' H' ⟨o4,pf,ts,rfl,sm,et,tl,tn,tm⟩;rw[show(f.js.map vN).length=f.js.length from length_map _,take_length]at tm;exact⟨_,pf,ts,rfl,sm,et,.inr ⟨nag,tn,tm⟩⟩
  ·refine iteB0 d1 ?_;exists ixTm (SqT.of (s0 _ _ hk)) (at0) ?_;exists iteB0 d2 ?_;walk_at"g";exact⟨_,p0,[],rfl,s0,t0,.inl ⟨⟨k,j,ef⟩,rfl⟩⟩
  ·refine iteB0 d1 ?_;exists ixTm (SqT.of (s0 _ _ hk)) (at0) ?_;exists iteB0 d2 ?_;walk_at"g";have nag:¬∃k j,f = .again k j:=fun⟨k,j,e⟩=>by
    subst e;cases ejs
   exact⟨_,p0,[],rfl,s0,t0,.inr ⟨nag,.nil,fun k=>⟨(fun h=>nomatch h),fun⟨j,h,_⟩=>by rw[ejs]at h;exact nomatch h⟩⟩⟩
 rintro σ' H2 ⟨o4,pf,ts,rfl,s2,e2,hts⟩;exists⟨fun σ' H'=>∃(o4:Option V) (pf:Addr) (ts:List Int),σ'=[some (.ref a),some (.ref l),some (.ref m),some (.ref pf),o4]/\Same H H'/\H' pf=some (.lst (ts.map V.int))/\ts.length<64/\ts.Nodup/\∀k,k∈ts↔∃j∈f.js,k∈M.getD j [],?_,?_⟩
 rotate_left
 ·exists ixTm (SqT.of (s2 _ _ hk)) (at0) ?_;walk_at"g";by_cases hag:∃k j,f = .again k j
  ·obtain⟨k,j,rfl⟩:=hag;have hf:H a=some (.tup [.str "again",.int k,.int (j:Nat)]):=hf;rw[hk]at hf;cases hf;have hjl:=jl j mem_cons_self;obtain⟨aj,eaj,haj⟩:=am.get (Mat j hjl);obtain⟨mp,k8⟩:=Mok j hjl;refine iteE1 ?_;exists ixTm (SqT.of (s2 _ _ hk)) rfl ?_;exists ixLm (SqL.of (s2 _ _ em)) (jY (i:=(j:Int)) (by omega) eaj) ?_;exists⟨aj,_,rfl,.inl (SqL.of (s2 _ _ haj)),?_⟩;walk_at"f 3 t";refine⟨_,p3,M.getD j [],rfl,s2.trans s3,t3,by omega,mp.imp fun h=>by omega,fun k'=>⟨fun h=>⟨j,mem_cons_self,h⟩,fun⟨j',hj',h⟩=>by rw[mem_singleton.mp hj']at h;exact h⟩⟩
  ·have da:decide (kw=("again" : Str))=false:=by
    rcases hkind with⟨_,da,_⟩ | ⟨_,_,_,k,j,ef,_⟩ | ⟨_,_,da,_⟩
    ·exact da
    ·exact absurd ⟨k,j,ef⟩ hag
    ·exact da
   refine iteB0 da ?_;walk_at"g";rcases hts with⟨h,_⟩ | ⟨_,tn,tm⟩
   ·exact absurd h hag
   exact⟨_,pf,ts,rfl,s2,e2,lt64 tn (fun k hk=>by obtain⟨j,hj,h⟩:=(tm k).mp hk;exact j2R hbnd (jl j hj) h),tn,tm⟩
 rintro σ' H3 ⟨o4',pf',ts',rfl,s3,e3,t64,tn,tm⟩;exists⟨pf',_,rfl,SqL.of e3,t64,fun l5 ms hl5 hperm hsort=>?_⟩;have s5:=Pr.j27 hl5 (.lst (ms.map V.int));refine q l5 ms _ (s3.trans s5) (none_of s3 hl5) jr ⟨KK hperm tn hsort,fun k=>?_⟩;rw[hperm.mem_iff,tm];exact⟨.inl,fun h=>h.elim id fun z=>absurd z (nori k)⟩
theorem wJ(T:Txt K mg t):FnOk P w K mg base CX0 1 t.Qh t.Qo ["_law_form_here","_law_longs"] (sp_longD):=by
 refine T.QY.ok Wc (fun vs H Q E h=>?_) (fun cdv A outer s H vs Q E hr h=>?_)
 ·cases h;subst_vars;rfl
 obtain⟨a,l,f,gs,rfl,hf,el,j8,jl,hsd,hag,hg,q⟩:=h;refine⟨_,(jb (jS (jt Jn (ji jo (pv 0) jd) jL (nomark _))
   (jf (jw (jy (Kk rfl) (by rfl) T.j3o j14 (ja (JC (ow:=["_law_k"]) (ci:=[1]) rfl (CompScope.of (defScope Qu) ["_law_form_here","_law_longs"] rfl rfl (by decide +kernel)) (Jw (by decide)) (jG (ji jo (pv 0) jd)) (fun _ _ _ _ _=>⟨(jk (i:=0) (j5 ["_law_form_here","_law_longs"] rfl (by decide +kernel)) rfl (.inl rfl)),JK,(ji (JY (K:=K) rfl) (pv 1) (pv 0))⟩)) jc))))
   ju)
  (jb (jS (jt Jn (ji jo (pv 0) jd) jL (nomark _))
   (jf (jw (jy (Ki rfl) (by rfl) T.j11 xH (ja (JC (ow:=["_law_k"]) (ci:=[1]) rfl (CompScope.of (defScope Qu) ["_law_form_here","_law_longs"] rfl rfl (by decide +kernel)) (Jw (by decide)) (jG (ji jo (pv 0) jd)) (fun _ _ _ _ _=>⟨(jk (i:=0) (j5 ["_law_form_here","_law_longs"] rfl (by decide +kernel)) rfl (.inl rfl)),JK,(ji (JY (K:=K) rfl) (pv 1) (pv 0))⟩)) jc))))
   ju)
  (jb (jS (jt Jn (ji jo (pv 0) jd) jL (nomark _))
   (jf (jw (jp Jb (ji jo (pv 0) jd) (ji jv (pv 1) (ji jo (pv 0) jd)))))
   ju)
  (jf (jw (ji jo (pv 0) (zo qZ jd))))))),?_⟩
 refine jx (σ':=[some _,some _]) rfl ?_;have sz:(200:Nat)<sizeLine:=by decide
 have gat:∀j,j<gs.length->gs[j]?=some (gs.getD j 0):=fun j h=>by
  rw[getD_eq_getElem?_getD,List.getElem?_eq_getElem h];rfl
 have gmem:∀j,j<gs.length->0<=gs.getD j 0/\gs.getD j 0<=10^60:=fun j h=>hg _ (List.mem_of_getElem? (gat j h))
 cases f with
 | hold n=>
  have hf:H a=some (.tup [.str "hold",.int n]):=hf;exists ixTm (SqT.of hf) rfl ?_;exists iteE0 ?_;exists ixTm (SqT.of hf) rfl ?_;exists iteE0 ?_;exists ixTm (SqT.of hf) rfl ?_;exists iteE0 ?_;exists ixTm (SqT.of hf) rfl ?_;exact q _ _ (Same.refl _) rfl
 | ring x n=>
  have hf:H a=some (.tup [.str "ring",.str x,.int n]):=hf;exists ixTm (SqT.of hf) rfl ?_;exists iteE0 ?_;exists ixTm (SqT.of hf) rfl ?_;exists iteE0 ?_;exists ixTm (SqT.of hf) rfl ?_;exists iteE0 ?_;exists ixTm (SqT.of hf) rfl ?_;exact q _ _ (Same.refl _) rfl
 | rise x v n=>
  have hf:H a=some (.tup [.str "raise",.str x,.int v,.int n]):=hf;exists ixTm (SqT.of hf) rfl ?_;exists iteE0 ?_;exists ixTm (SqT.of hf) rfl ?_;exists iteE0 ?_;exists ixTm (SqT.of hf) rfl ?_;exists iteE0 ?_;exists ixTm (SqT.of hf) rfl ?_;exact q _ _ (Same.refl _) rfl
 | again k j=>
  have hf:H a=some (.tup [.str "again",.int k,.int (j:Nat)]):=hf;have hj:=jl j mem_cons_self;obtain⟨k0,k1⟩:=hag k j rfl;have gj:=gmem j hj;exists ixTm (SqT.of hf) rfl ?_;exists iteE0 ?_;exists ixTm (SqT.of hf) rfl ?_;exists iteE0 ?_;exists ixTm (SqT.of hf) rfl ?_;exists iteE1 ?_;exists ixTm (SqT.of hf) rfl ?_;exists ixTm (SqT.of hf) rfl ?_;exists ixLm (SqL.of el) (jO (j:=j) (by rw[List.getElem?_map,gat j hj];rfl)) ?_;walk_at"g";exact q _ _ (Same.refl _) rfl
 | row is=>
  obtain⟨b,hf,hb⟩:=hf;exists ixTm (SqT.of hf) rfl ?_;exists iteE1 ?_;exists ixTm (SqT.of hf) rfl ?_;refine⟨b,rfl,⟨_,SqL.of hb⟩,?_⟩;refine j6 (xs:=is.map vN) (fun i ys H'=>ys=((is.take i).map fun j=>gs.getD j 0).map V.int/\H=H') ⟨rfl,rfl⟩ ?_ ?_ ?_
  ·rintro i ys H' _ ⟨rfl,rfl⟩;exact SqL.of hb
  ·rintro i x ys H' hx ⟨rfl,rfl⟩;obtain⟨j,hj,rfl,hjm⟩:=kE hx;have il:=(List.getElem?_eq_some_iff.mp hj).1;have i8:is.length<=8:=j8;refine Jc (σ':=[none,some _]) rfl ?_;exists iteT ?_;exists ixLm (SqL.of el) (jO (j:=j) (by rw[List.getElem?_map,gat j (jl j hjm)];rfl)) ?_;refine⟨by rw[length_map,length_map,length_take];omega,?_,rfl⟩;rw[take_snoc hj,map_append,map_append];rfl
  rintro ys H' ⟨rfl,rfl⟩;rw[show(is.map vN).length=is.length from length_map _,take_length];have i8:is.length<=8:=j8;refine⟨by rw[length_map,length_map];omega,?_⟩;walk_at"f 1 t";exists⟨p1,_,rfl,SqL.of t1,?_⟩;exact q _ _ s1 rfl
 | side is=>
  obtain⟨b,hf,hb⟩:=hf;have ne:=hsd is rfl;exists ixTm (SqT.of hf) rfl ?_;exists iteE0 ?_;exists ixTm (SqT.of hf) rfl ?_;exists iteE1 ?_;exists ixTm (SqT.of hf) rfl ?_;refine⟨b,rfl,⟨_,SqL.of hb⟩,?_⟩;refine j6 (xs:=is.map vN) (fun i ys H'=>ys=((is.take i).map fun j=>gs.getD j 0).map V.int/\H=H') ⟨rfl,rfl⟩ ?_ ?_ ?_
  ·rintro i ys H' _ ⟨rfl,rfl⟩;exact SqL.of hb
  ·rintro i x ys H' hx ⟨rfl,rfl⟩;obtain⟨j,hj,rfl,hjm⟩:=kE hx;have il:=(List.getElem?_eq_some_iff.mp hj).1;have i8:is.length<=8:=j8;refine Jc (σ':=[none,some _]) rfl ?_;exists iteT ?_;exists ixLm (SqL.of el) (jO (j:=j) (by rw[List.getElem?_map,gat j (jl j hjm)];rfl)) ?_;refine⟨by rw[length_map,length_map,length_take];omega,?_,rfl⟩;rw[take_snoc hj,map_append,map_append];rfl
  rintro ys H' ⟨rfl,rfl⟩;rw[show(is.map vN).length=is.length from length_map _,take_length];have i8:is.length<=8:=j8;refine⟨by rw[length_map,length_map];omega,?_⟩;walk_at"f 1 t";exists⟨p1,_,rfl,SqL.of t1,by rw[length_map];exact length_pos_iff.mpr ne,fun m hm hmax=>?_⟩;obtain⟨j,hj,rfl⟩:=mem_map.mp hm;exact q _ _ s1 ⟨⟨j,hj,rfl⟩,fun j' hj'=>hmax _ (mem_map.mpr ⟨j',hj',rfl⟩)⟩
theorem wL(T:Txt K mg t):FnOk P w K mg base CX0 1 t.Qj t.Qq ["_law_cell_here"] (xh):=by
 refine T.zO.ok qb (fun vs H Q E h=>?_) (fun cdv A outer s H vs Q E hr h=>?_)
 ·obtain⟨c,rfl,q⟩:=h;rfl
 obtain⟨c,rfl,q⟩:=h;refine⟨_,(jb (jS (jt j4p (pv 0) (jp wS jd jd) (nomark _))
   (jf (jw (jF (ja (pv 0) jc))))
   ju)
  (jb (jm (i:=1) qb.nd rfl (.inl rfl) (jp Jp (pv 0) jd))
  (jb (jm (i:=2) qb.nd rfl (.inl rfl) jd)
  (jb (j7 PassesOwn.never rfl (JU (by rfl) T.J1 (ja jd jc)) (jk (i:=3) qb.nd rfl (.inl rfl))
   (jb (jm (i:=1) qb.nd rfl (.inl rfl) (jp Jp (jp jQ (jp jQ (jp jQ (jp Jb (pv 1) (pv 1)) (jp Jb jd (pv 1))) jd) (pv 3)) jd))
   (jf (jm (i:=2) qb.nd rfl (.inl rfl) (jp jQ (jp j33 (pv 2) jd) (jp Jp (jp Jb (pv 1) (pv 1)) jd))))))
  (jf (jw (jF (ja (pv 2) jc)))))))),?_⟩
 refine jx (σ':=[some _,none,none,none]) rfl ?_;have sz:(200:Nat)<sizeLine:=by decide
 exists iteD (fun _=>?_) (fun _=>?_)
 ·exists⟨(by show 1<=sizeLine;omega),?_⟩;walk_at"f p hp H1 s1 t1";exact q _ _ _ s1 hp t1
 exists⟨_,rfl,by omega,by omega,?_⟩;refine Zv (fun i σ H'=>∃(o3:Option V) (sd nm:Int),σ=[some (.int c),some (.int sd),some (.int nm),o3]/\H=H'/\0<=sd/\sd<2147483629) ⟨_,_,_,rfl,rfl,by omega,by omega⟩ ?_ ?_
 ·rintro i σ H' hi ⟨o3,sd,nm,rfl,rfl,d0,d1⟩;have hi:i<7:=by omega
  have ss:=Xe (A:=2147483629) (B:=2147483629) (show -2147483629<=sd by omega) (by omega) (show -2147483629<=sd by omega) (by omega);walk_at"g";have e0:=Int.emod_nonneg (sd*sd+40692*sd+7+(0+(i:Int))) (show(2147483399:Int)≠0 by decide);have e1:=Int.emod_lt_of_pos (sd*sd+40692*sd+7+(0+(i:Int))) (show(0:Int)<2147483399 by decide);generalize(sd*sd+40692*sd+7+(0+(i:Int)))%2147483399=sd2 at e0 e1|-;walk_at"g";exact⟨_,_,_,rfl,rfl,e0,by omega⟩
 rintro σ' H' ⟨o3,sd,nm,rfl,rfl,d0,d1⟩;exists⟨(by show 1<=sizeLine;omega),?_⟩;walk_at"f p hp H1 s1 t1";exact q _ _ _ s1 hp t1
theorem wM(T:Txt K mg t):FnOk P w K mg base CX0 1 t.qu t.qx ["_law_pool_here","_law_many"] (sp_takeD):=by
 refine T.jE.ok yA (fun vs H Q E h=>?_) (fun cdv A outer s H vs Q E hr h=>?_)
 ·cases h;subst_vars;rfl
 obtain⟨p,x,m,rfl,ep,m0,m1,q⟩:=h;refine⟨_,(jb (jm (i:=2) yA.nd rfl (.inl rfl) (jp Jp (ji jv (pv 0) jd) (pv 1)))
  (jb (km (jp JZ (ji jv (pv 0) jd) (pv 1)) (Xo (pv 0) jd set_list))
  (jf (jw (pv 2))))),?_⟩
 refine jx (σ':=[some _,some _,none]) rfl ?_;exists ixLm (SqL.of ep) rfl ?_;exists ixLm (SqL.of ep) rfl ?_;exists⟨p,_,_,0,rfl,rfl,ep,rfl,?_⟩;walk_at"g";exact q _ _ _ (Int.emod_nonneg x (by omega)) (Int.emod_lt_of_pos x m0) (fun c u hc h=>(jh hc).trans h) jr
theorem kP(T:Txt K mg t):FnOk P w K mg base CX0 1 t.qC t.qJ ["_law_movers","_law_some"] (sp_apartD):=by
 refine T.ZW.ok qi (fun vs H Q E h=>?_) (fun cdv A outer s H vs Q E hr h=>?_)
 ·cases h;subst_vars;rfl
 obtain⟨m,l,mas,M,is,rfl,em,am,m8,el,i8,jl,q⟩:=h;refine⟨_,(jb (jm (i:=2) qi.nd rfl (.inl rfl) (jF jc))
  (jb (jm (i:=3) qi.nd rfl (.inr rfl) (jF jc))
  (jb (j7 PassesOwn.never rfl (jG (pv 1)) (jk (i:=4) qi.nd rfl (.inl rfl))
   (jf (jS (PW.pt (kn (jt (j3Z hr.units) (ji jv (pv 0) (pv 4)) (jF jc) (nomark _)) (yv (jt (j3V hr.units) (JC (ow:=["_law_limb"]) (ci:=[3]) rfl (CompScope.of (defScope QD) ["_law_movers","_law_some","_law_found","_law_taken","_law_k"] rfl rfl (by decide +kernel)) (Jw (by decide)) (jG (ji jv (pv 0) (pv 4))) (fun _ _ _ _ _=>⟨(jk (i:=0) (j5 ["_law_movers","_law_some","_law_found","_law_taken","_law_k"] rfl (by decide +kernel)) rfl (.inl rfl)),(Xn (jt (kg (K:=K) rfl) (pv 0) (pv 1) (by with_unfolding_all rfl))),(pv 0)⟩)) (jF jc) (nomark _)))))
    (jb (jB (Jf PySem.F.plainAttrs_list PySem.F.slot_list_append PySem.F.type_list_append jA (pv 2) (ja (pv 4) jc)))
    (jf (jm (i:=3) qi.nd rfl (.inr rfl) (jp Xg (pv 3) (ji jv (pv 0) (pv 4))))))
    ju)))
  (jf (jw (pv 2)))))),?_⟩
 refine jx (σ':=[some _,some _,none,none,none]) rfl ?_;have sz:(200:Nat)<sizeLine:=by decide
 have aml:=am.1;exists⟨Nat.zero_le _,?_⟩;walk_at"f 0 t";exists⟨Nat.zero_le _,?_⟩;walk_at"f 1 t";have s01:=s0.trans s1;have t01:=s1 _ _ t0;have np:∀{c u},H c=some u->c≠p0:=fun h=>je h hp0
 exists⟨l,rfl,⟨_,SqL.of (s01 _ _ el)⟩,?_⟩;refine j9 (xs:=is.map vN) (fun i σ H'=>∃(o4:Option V) (pt:Addr) (js:List Nat) (ts:List Int),σ=[some (.ref m),some (.ref l),some (.ref p0),some (.ref pt),o4]/\Same H H'/\H' p0=some (.lst (js.map vN))/\H' pt=some (.lst (ts.map V.int))/\pt≠p0/\js.length<=i/\ts.length<=8*i/\(∀j∈js,j∈is)/\ApartN M js/\∀j∈js,∀k∈M.getD j [],k∈ts)
  ⟨_,p1,[],[],rfl,s01,t01,t1,(je t0 hp1).symm,Nat.le_refl _,Nat.le_refl _,(fun j h=>nomatch h),⟨(fun j h=>nomatch h),.nil⟩,(fun j h=>nomatch h)⟩ ?_ ?_ ?_
 ·rintro i σ H' _ ⟨o4,pt,js,ts,rfl,sm,e0,e1,n01,jll,tll,hin,hap,hsub⟩;exact SqL.of (sm _ _ el)
 ·rintro i v σ H' hv ⟨o4,pt,js,ts,rfl,sm,e0,e1,n01,jll,tll,hin,hap,hsub⟩;obtain⟨j,hj,rfl,hjm⟩:=kE hv;have il:=(List.getElem?_eq_some_iff.mp hj).1;have hjl:=jl j hjm;have hM:M[j]?=some (M.getD j []):=by rw[getD_eq_getElem?_getD,List.getElem?_eq_getElem hjl];rfl
  obtain⟨a,ea,ha⟩:=am.get hM;have k8:=m8 _ (List.mem_of_getElem? hM);exists ixLm (SqL.of (sm _ _ em)) (jY (i:=(j:Int)) (by omega) ea) ?_;exists⟨Nat.zero_le _,?_⟩;walk_at"f 3 t";have s03:=sm.trans s3;refine⟨_,_,j3p (s03 _ _ ha),j4l t3,shp _,shp0,?_⟩;rw[j3q];exists iteN (fun d1=>?_) (fun d1=>?_)
  ·exists ixLm (SqL.of (s03 _ _ em)) (jY (i:=(j:Int)) (by omega) ea) ?_;have e13:=s3 _ _ e1;refine⟨a,rfl,⟨_,SqL.of (s03 _ _ ha)⟩,?_⟩;refine j6 (xs:=(M.getD j []).map V.int) (fun i ys H'=>ys=(((M.getD j []).take i).filter fun k=>decide (k∈ts)).map V.int/\H3=H') ⟨rfl,rfl⟩ ?_ ?_ ?_
   ·rintro i ys H' _ ⟨rfl,rfl⟩;exact SqL.of (s03 _ _ ha)
   ·rintro i x ys H' hx ⟨rfl,rfl⟩;rw[List.getElem?_map]at hx;obtain⟨k,hk,rfl⟩:=Option.map_eq_some_iff.mp hx;have ik:=(List.getElem?_eq_some_iff.mp hk).1;refine Jc (σ':=[none,some _]) rfl ?_;exists⟨pt,_,rfl,.inl (SqL.of e13),rfl,flats _,?_⟩;rw[inI];walk_at"g";rw[take_snoc hk,filter_append];have lf:(((M.getD j []).take i).filter fun k=>decide (k∈ts)).length<=8:=Nat.le_trans (length_filter_le _ _) (by rw[length_take];omega);refine iteD (fun c=>?_) (fun c=>?_)
    ·exists⟨by rw[length_map];omega,?_,rfl⟩;rw[map_append];simp[c]
    ·refine⟨?_,rfl⟩;simp[c]
   rintro ys H' ⟨rfl,rfl⟩;rw[show((M.getD j []).map V.int).length=(M.getD j []).length from length_map _,take_length];have lf:((M.getD j []).filter fun k=>decide (k∈ts)).length<=8:=Nat.le_trans (length_filter_le _ _) k8;refine⟨by rw[length_map];omega,?_⟩;walk_at"f 4 t";exists⟨Nat.zero_le _,?_⟩;walk_at"f 5 t";have s05:=s03.trans (s4.trans s5);refine⟨_,_,j3p (s5 _ _ t4),j4l t5,shp _,shp0,?_⟩;rw[j3q];walk_at"g";have e05:=s5 _ _ (s4 _ _ (s3 _ _ e0));have e15:=s5 _ _ (s4 _ _ e13);refine iteD (fun c=>?_) (fun c=>?_)
   ·have hno:∀k∈M.getD j [],¬k∈ts:=fun k hk hkt=>by
     have:k∈(M.getD j []).filter fun k=>decide (k∈ts):=mem_filter.mpr ⟨hk,decide_eq_true hkt⟩
     rw[c]at this;exact nomatch this
    exists⟨.inl ⟨rfl,_,SqL.of e05⟩,?_⟩;exists⟨p0,_,_,rfl,rfl,e05,by rw[length_map];omega,?_⟩;have s6:Same H (upd H5 p0 (.lst (js.map vN++[.int (j:Nat)]))):=fun c u h=>(jh (np h)).trans (s05 _ _ h)
    have e06:upd H5 p0 (.lst (js.map vN++[.int (j:Nat)])) p0=some (.lst ((js++[j]).map vN)):=by rw[jr,map_append];rfl
    have e16:=(jh (o:=HO.lst (js.map vN++[.int (j:Nat)])) n01).trans e15;generalize upd H5 p0 (.lst (js.map vN++[.int (j:Nat)]))=H6 at s6 e06 e16|-;exists ixLm (SqL.of (s6 _ _ em)) (jY (i:=(j:Int)) (by omega) ea) ?_;refine⟨pt,a,_,_,rfl,rfl,e16,s6 _ _ ha,by rw[length_map,length_map];omega,?_⟩;walk_at"f 7 t";refine⟨_,p7,js++[j],ts++M.getD j [],rfl,s6.trans s7,s7 _ _ e06,by rw[t7,map_append],(fun z=>by rw[z,e06]at hp7;cases hp7),by rw[List.length_append];show js.length+1<=_;omega,by rw[List.length_append];omega,fun j' hj'=>?_,⟨fun j' hj'=>?_,?_⟩,fun j' hj' k hk=>?_⟩
    ·rcases mem_append.mp hj' with z | z
     ·exact hin j' z
     ·rw[mem_singleton.mp z];exact hjm
    ·rcases mem_append.mp hj' with z | z
     ·exact hap.1 j' z
     ·rw[mem_singleton.mp z];exact d1
    ·refine List.pairwise_append.mpr ⟨hap.2,pairwise_singleton _ _,fun x hx y hy k hk hk'=>?_⟩;rw[mem_singleton.mp hy]at hk';exact hno k hk' (hsub x hx k hk)
    ·rcases mem_append.mp hj' with z | z
     ·exact mem_append_left _ (hsub j' z k hk)
     ·rw[mem_singleton.mp z]at hk;exact mem_append_right _ hk
   ·walk_at"g";exact⟨_,pt,js,ts,rfl,s05,e05,e15,n01,by omega,by omega,hin,hap,hsub⟩
  ·walk_at"g";exact⟨_,pt,js,ts,rfl,s03,s3 _ _ e0,s3 _ _ e1,n01,by omega,by omega,hin,hap,hsub⟩
 rintro σ' H' ⟨o4,pt,js,ts,rfl,sm,e0,e1,n01,jll,tll,hin,hap,hsub⟩;walk_at"g";rw[length_map]at jll;exact q p0 js H' sm hp0 e0 jll hin hap
theorem wI(T:Txt K mg t)(zy:FnOk P w K mg base CX0 1 t.qC t.qJ ["_law_movers","_law_some"] (sp_apartD))(jz:FnOk P w K mg base CX0 1 t.qu t.qx ["_law_pool_here","_law_many"] (sp_takeD)):FnOk P w K mg base CX0 2 t.Qg t.Qn ["_law_pool_here","_law_limbs","_law_words","_law_movers","_law_pace"] (sp_formD):=by
 refine T.Yi.ok jX (fun vs H Q E h=>?_) (fun cdv A outer s H vs Q E hr h=>?_)
 ·cases h;subst_vars;rfl
 obtain⟨p,l,w0,m,x,pace,L,Wd,mas,M,rfl,ep,el,L1,L8,ew,w4,ww,em,am,m8,M60,nma,nl,nw,nm,pc1,pc2,q⟩:=h;refine⟨_,(jb (jm (i:=5) jX.nd rfl (.inl rfl) (jn (jz.mono (by decide)) hr (by rfl) T.jK T.jE.kp T.jI .nil pass0 (ja (pv 0) (ja jd jc))))
  (jb (ze (jt Jn (jy jJ (by rfl) T.JW Jj (ja (pv 3) jc)) jd (nomark _))
   (jf (jm (i:=5) jX.nd rfl (.inl rfl) (jp Jp (pv 5) jd)))
   ju)
  (jb (jS (jt Jn (pv 5) jd (nomark _))
   (jf (jw (Ja (ja jL (ja (jp jQ jd (jn (jz.mono (by decide)) hr (by rfl) T.jK T.jE.kp T.jI .nil pass0 (ja (pv 0) (ja (pv 4) jc)))) jc)))))
   ju)
  (jb (jS (jt Jn (pv 5) jd (nomark _))
   (jb (jm (i:=6) jX.nd rfl (.inl rfl) (ji jv (pv 2) (jn (jz.mono (by decide)) hr (by rfl) T.jK T.jE.kp T.jI .nil pass0 (ja (pv 0) (ja jd jc)))))
   (jf (jw (Ja (ja jL (ja (pv 6) (ja (jp jQ jd (jn (jz.mono (by decide)) hr (by rfl) T.jK T.jE.kp T.jI .nil pass0 (ja (pv 0) (ja (pv 4) jc)))) jc)))))))
   ju)
  (jb (jS (PW.pt (ko (jt Jn (pv 5) jd (nomark _)) (Yd (jt Jn (pv 5) jd (nomark _)))))
   (jb (jm (i:=7) jX.nd rfl (.inl rfl) (jp jQ jd (jn (jz.mono (by decide)) hr (by rfl) T.jK T.jE.kp T.jI .nil pass0 (ja (pv 0) (ja jd jc)))))
   (jb (Zz (i:=8) (ow:=["_law_k"]) (ci:=[0,3]) rfl (CompScope.of (defScope Q7) ["_law_pool_here","_law_limbs","_law_words","_law_movers","_law_pace","_law_kind","_law_word","_law_many","_law_some","_law_apart_here","_law_times","_law_limb","_law_most","_law_height"] rfl rfl (by decide +kernel)) (Jw (by decide)) jX.nd rfl (.inl rfl) (JU (by rfl) T.J1 (ja (pv 7) jc)) (fun _ _ _ _ _=>⟨(jk (i:=0) (j5 ["_law_pool_here","_law_limbs","_law_words","_law_movers","_law_pace","_law_kind","_law_word","_law_many","_law_some","_law_apart_here","_law_times","_law_limb","_law_most","_law_height"] rfl (by decide +kernel)) rfl (.inl rfl)),JK,(jn (jz.mono (by decide)) hr (by rfl) T.jK T.jE.kp T.jI .nil pass0 (ja (pv 1) (ja (jy (j0d (K:=K) rfl) (by rfl) T.JW Jj (ja (pv 2) jc)) jc)))⟩))
   (jb (jm (i:=9) jX.nd rfl (.inl rfl) (jn (zy.mono (by decide)) hr (by rfl) T.wx T.ZW.kp T.KQ .nil pass0 (ja (pv 3) (ja (pv 8) jc))))
   (jb (jS (PW.pt (kn (jt Jn (pv 5) jd (nomark _)) (yv (jt Zf (jy jJ (by rfl) T.JW Jj (ja (pv 9) jc)) jd (nomark _)))))
    (jf (jw (Ja (ja jL (ja (pv 9) jc)))))
    ju)
   (jf (jw (Ja (ja jL (ja (pv 8) jc)))))))))
   ju)
  (jb (jS (jt Zf (pv 5) jd (nomark _))
   (jb (jm (i:=10) jX.nd rfl (.inl rfl) (jp jQ jd (jn (jz.mono (by decide)) hr (by rfl) T.jK T.jE.kp T.jI .nil pass0 (ja (pv 0) (ja (pv 4) jc)))))
   (jf (jw (Ja (ja jL (ja (pv 10) (ja (jn (jz.mono (by decide)) hr (by rfl) T.jK T.jE.kp T.jI .nil pass0 (ja (pv 0) (ja (jy jJ (by rfl) T.JW Jj (ja (pv 3) jc)) jc))) jc)))))))
   ju)
  (jb (jm (i:=11) jX.nd rfl (.inl rfl) (ji jv (pv 1) (jn (jz.mono (by decide)) hr (by rfl) T.jK T.jE.kp T.jI .nil pass0 (ja (pv 0) (ja (jy jJ (by rfl) T.JW Jj (ja (pv 1) jc)) jc)))))
  (jb (jm (i:=12) jX.nd rfl (.inl rfl) (ji jv (jF (ja jd (ja (jp jQ (jp wS jd jd) jd) jc))) (jn (jz.mono (by decide)) hr (by rfl) T.jK T.jE.kp T.jI .nil pass0 (ja (pv 0) (ja jd jc)))))
  (jb (jm (i:=13) jX.nd rfl (.inl rfl) (jn (jz.mono (by decide)) hr (by rfl) T.jK T.jE.kp T.jI .nil pass0 (ja (pv 0) (ja (pv 12) jc))))
  (jf (jw (Ja (ja jL (ja (pv 11) (ja (pv 13) (ja (jp jQ jd (jn (jz.mono (by decide)) hr (by rfl) T.jK T.jE.kp T.jI .nil pass0 (ja (pv 0) (ja (pv 4) jc)))) jc)))))))))))))))),?_⟩
 refine jx (σ':=[some _,some _,some _,some _,some _,none,none,none,none,none,none,none,none,none]) rfl ?_;have sz:(200:Nat)<sizeLine:=by decide
 have aml:=am.1;have nlt:∀{c:Addr} {xs:List V} {Hx:Hp} {y:Int},Hx p=some (.lst [.int y])->Hx c=some (.tup xs)->c≠p:=fun h1 h2 z=>by rw[z,h1]at h2;cases h2
 exists⟨p,x,8,rfl,ep,by omega,by omega,fun k0 y1 H1 k00 k01 x1 ep1=>?_⟩;exists⟨fun σ' H'=>∃k:Int,σ'=[some (.ref p),some (.ref l),some (.ref w0),some (.ref m),some (.int pace),some (.int k),none,none,none,none,none,none,none,none]/\H1=H'/\0<=k/\k<8/\(M.length=0->k<4),?_,?_⟩
 rotate_left
 ·exists⟨_,_,rfl,.inl ⟨_,SqL.of (x1 _ _ nm em),rfl⟩,?_⟩;rw[show(mas.map V.ref).length=M.length by rw[length_map];exact aml];exists iteD (fun c=>?_) (fun c=>?_)
  ·walk_at"g";exact⟨_,rfl,rfl,by omega,by omega,fun _=>by omega⟩
  ·walk_at"g";exact⟨_,rfl,rfl,k00,k01,fun h=>absurd (by rw[h];rfl) c⟩
 rintro σ' H' ⟨k,rfl,rfl,kl,kh,k4⟩;exists iteD (fun c=>?_) (fun c2=>?_)
 ·exists⟨p,y1,pace,rfl,ep1,by omega,by omega,fun r y2 H2 r0 r1 x2 ep2=>?_⟩;exists⟨(by show 2<=sizeLine;omega),?_⟩;walk_at"f a ha H3 s3 t3";have ep3:=s3 _ _ ep2;exact q a (.hold (1+r)) y2 H3 (x1.trans (x2.trans (.of s3))) ep3 (fun H'' xx=>xx _ _ (nlt ep3 t3) ((x1.trans x2).none ha (nlt ep3 t3)) t3) ⟨by omega,by omega⟩
 exists iteD (fun c=>?_) (fun c3=>?_)
 ·exists⟨p,y1,4,rfl,ep1,by omega,by omega,fun r y2 H2 r0 r1 x2 ep2=>?_⟩;obtain⟨j,hj⟩:∃j:Nat,r=(j:Int):=⟨r.toNat,by omega⟩
  subst hj;have ew2:H2 w0=_:=(x1.trans x2) _ _ nw ew;obtain⟨wd,hwd⟩:∃wd,Wd[j]?=some wd:=⟨_,List.getElem?_eq_getElem (by omega)⟩
  refine ixLm (SqL.of ew2) (jO (j:=j) (by rw[List.getElem?_map,hwd];rfl)) ?_;exists⟨p,y2,pace,rfl,ep2,by omega,by omega,fun r y3 H3 r0 r1 x3 ep3=>?_⟩;exists⟨(by show 3<=sizeLine;omega),?_⟩;walk_at"f a ha H4 s4 t4";have ep4:=s4 _ _ ep3;exact q a (.ring wd (1+r)) y3 H4 (x1.trans (x2.trans (x3.trans (.of s4)))) ep4 (fun H'' xx=>xx _ _ (nlt ep4 t4) ((x1.trans (x2.trans x3)).none ha (nlt ep4 t4)) t4) ⟨by omega,by omega,ww _ (List.mem_of_getElem? hwd)⟩
 walk_at"g";have em1:H1 m=_:=x1 _ _ nm em;have am1:ListsAt H1 mas M:=⟨am.1,fun i a' ks h1 h2=>x1 _ _ (nma a' (List.mem_of_getElem? h1)) (am.2 i a' ks h1 h2)⟩
 have both:4<=k->0<M.length:=fun h=>by
  have:M.length≠0:=fun z=>by have:=k4 z;omega
  omega
 refine iteD (fun c=>?_) (fun c4=>?_)
 ·have M0:=both (by omega);exists iteT ?_;exists⟨p,y1,4,rfl,ep1,by omega,by omega,fun r y2 H2 r0 r1 x2 ep2=>?_⟩;exists⟨_,rfl,by omega,by omega,?_⟩;have em2:H2 m=_:=x2 _ _ nm em1;have am2:ListsAt H2 mas M:=⟨am1.1,fun i a' ks h1 h2=>x2 _ _ (nma a' (List.mem_of_getElem? h1)) (am1.2 i a' ks h1 h2)⟩
  refine JX (fun i ys H'=>∃(is:List Nat) (y:Int),ys=is.map vN/\is.length=i/\(∀j∈is,j<M.length)/\Ex p H2 H'/\H' p=some (.lst [.int y])) ⟨[],y2,rfl,rfl,(fun j h=>nomatch h),.refl _,ep2⟩ ?_ ?_
  ·rintro i ys H' hi ⟨is,y,rfl,il,jl,xx,epx⟩;refine Jc (σ':=[none,some _,some _]) rfl ?_;exists iteT ?_;exists⟨_,_,rfl,.inl ⟨_,SqL.of (xx _ _ nm em2),rfl⟩,?_⟩;rw[show(mas.map V.ref).length=M.length by rw[length_map];exact aml];exists⟨p,y,_,rfl,epx,by omega,by omega,fun r' y3 H3 r0' r1' x3 ep3=>?_⟩;obtain⟨j,hj⟩:∃j:Nat,r'=(j:Int):=⟨r'.toNat,by omega⟩
   subst hj;refine⟨by rw[length_map];omega,is++[j],y3,by rw[map_append];rfl,by rw[List.length_append,il];rfl,fun j' hj'=>?_,xx.trans x3,ep3⟩;rcases mem_append.mp hj' with z | z
   ·exact jl j' z
   ·rw[mem_singleton.mp z];omega
  rintro ys H3 ⟨is,y3,rfl,il,jl,x3,ep3⟩;refine⟨by rw[length_map];omega,?_⟩;walk_at"f b hb H4 s4 t4";have ep4:=s4 _ _ ep3;have em4:H4 m=_:=s4 _ _ (x3 _ _ nm em2);have am4:ListsAt H4 mas M:=⟨am2.1,fun i a' ks h1 h2=>s4 _ _ (x3 _ _ (nma a' (List.mem_of_getElem? h1)) (am2.2 i a' ks h1 h2))⟩
  have nb:b≠p:=fun z=>by rw[z,ep3]at hb;cases hb
  have xs4:Ex p H H4:=x1.trans (x2.trans (x3.trans (.of s4)));exists⟨m,b,mas,M,is,rfl,em4,am4,m8,t4,by omega,jl,fun pa js H5 s5 hpa e5 jsl jsm ap=>?_⟩;have ep5:=s5 _ _ ep4;have xs5:Ex p H H5:=xs4.trans (.of s5);have npa:pa≠p:=fun z=>by rw[z,ep4]at hpa;cases hpa
  have fin:∀(a:Addr) (H6:Hp),H5 a=none->Same H5 H6->H6 a=some (.tup [.str "row",.ref b])->Q (.ref a) H6:=fun a H6 h5a s6 t6=>
   q a (.row is) y3 H6 (xs5.trans (.of s6)) (s6 _ _ ep5) (fun H'' xx=>⟨b,xx _ _ (nlt (s6 _ _ ep5) t6) (xs5.none h5a (nlt (s6 _ _ ep5) t6)) t6,xx _ _ nb ((x1.trans (x2.trans x3)).none hb nb) (s6 _ _ (s5 _ _ t4))⟩) ⟨fun z=>by rw[z]at il;simp at il;omega,by omega,jl⟩
  exists iteD (fun c5=>?_) (fun c5=>?_)
  ·exists⟨_,_,rfl,.inl ⟨_,SqL.of e5,rfl⟩,?_⟩;rw[length_map];exists iteD (fun c6=>?_) (fun c6=>?_)
   ·exists⟨(by show 2<=sizeLine;omega),?_⟩;walk_at"f a ha H6 s6 t6";have ep6:=s6 _ _ ep5;exact q a (.side js) y3 H6 (xs5.trans (.of s6)) ep6 (fun H'' xx=>⟨pa,xx _ _ (nlt ep6 t6) (xs5.none ha (nlt ep6 t6)) t6,xx _ _ npa (xs4.none hpa npa) (s6 _ _ e5)⟩) ⟨by omega,by omega,fun j hj=>jl j (jsm j hj),ap⟩
   ·exists⟨(by show 2<=sizeLine;omega),?_⟩;walk_at"f a ha H6 s6 t6";exact fin a H6 ha s6 t6
  ·refine iteF ?_;exists⟨(by show 2<=sizeLine;omega),?_⟩;walk_at"f a ha H6 s6 t6";exact fin a H6 ha s6 t6
 exists iteD (fun c=>?_) (fun c5'=>?_)
 ·have M0:=both (by omega);exists⟨p,y1,4,rfl,ep1,by omega,by omega,fun r y2 H2 r0 r1 x2 ep2=>?_⟩;exists⟨_,rfl,by omega,by omega,?_⟩;have em2:H2 m=_:=x2 _ _ nm em1;have am2:ListsAt H2 mas M:=⟨am1.1,fun i a' ks h1 h2=>x2 _ _ (nma a' (List.mem_of_getElem? h1)) (am1.2 i a' ks h1 h2)⟩
  refine JX (fun i ys H'=>∃(is:List Nat) (y:Int),ys=is.map vN/\is.length=i/\(∀j∈is,j<M.length)/\Ex p H2 H'/\H' p=some (.lst [.int y])) ⟨[],y2,rfl,rfl,(fun j h=>nomatch h),.refl _,ep2⟩ ?_ ?_
  ·rintro i ys H' hi ⟨is,y,rfl,il,jl,xx,epx⟩;refine Jc (σ':=[none,some _,some _]) rfl ?_;exists iteT ?_;exists⟨_,_,rfl,.inl ⟨_,SqL.of (xx _ _ nm em2),rfl⟩,?_⟩;rw[show(mas.map V.ref).length=M.length by rw[length_map];exact aml];exists⟨p,y,_,rfl,epx,by omega,by omega,fun r' y3 H3 r0' r1' x3 ep3=>?_⟩;obtain⟨j,hj⟩:∃j:Nat,r'=(j:Int):=⟨r'.toNat,by omega⟩
   subst hj;refine⟨by rw[length_map];omega,is++[j],y3,by rw[map_append];rfl,by rw[List.length_append,il];rfl,fun j' hj'=>?_,xx.trans x3,ep3⟩;rcases mem_append.mp hj' with z | z
   ·exact jl j' z
   ·rw[mem_singleton.mp z];omega
  rintro ys H3 ⟨is,y3,rfl,il,jl,x3,ep3⟩;refine⟨by rw[length_map];omega,?_⟩;walk_at"f b hb H4 s4 t4";have ep4:=s4 _ _ ep3;have em4:H4 m=_:=s4 _ _ (x3 _ _ nm em2);have am4:ListsAt H4 mas M:=⟨am2.1,fun i a' ks h1 h2=>s4 _ _ (x3 _ _ (nma a' (List.mem_of_getElem? h1)) (am2.2 i a' ks h1 h2))⟩
  have nb:b≠p:=fun z=>by rw[z,ep3]at hb;cases hb
  have xs4:Ex p H H4:=x1.trans (x2.trans (x3.trans (.of s4)));exists⟨m,b,mas,M,is,rfl,em4,am4,m8,t4,by omega,jl,fun pa js H5 s5 hpa e5 jsl jsm ap=>?_⟩;have ep5:=s5 _ _ ep4;have xs5:Ex p H H5:=xs4.trans (.of s5);have npa:pa≠p:=fun z=>by rw[z,ep4]at hpa;cases hpa
  have fin:∀(a:Addr) (H6:Hp),H5 a=none->Same H5 H6->H6 a=some (.tup [.str "row",.ref b])->Q (.ref a) H6:=fun a H6 h5a s6 t6=>
   q a (.row is) y3 H6 (xs5.trans (.of s6)) (s6 _ _ ep5) (fun H'' xx=>⟨b,xx _ _ (nlt (s6 _ _ ep5) t6) (xs5.none h5a (nlt (s6 _ _ ep5) t6)) t6,xx _ _ nb ((x1.trans (x2.trans x3)).none hb nb) (s6 _ _ (s5 _ _ t4))⟩) ⟨fun z=>by rw[z]at il;simp at il;omega,by omega,jl⟩
  exists iteD (fun c5=>?_) (fun c5=>?_)
  ·exists⟨_,_,rfl,.inl ⟨_,SqL.of e5,rfl⟩,?_⟩;rw[length_map];exists iteD (fun c6=>?_) (fun c6=>?_)
   ·exists⟨(by show 2<=sizeLine;omega),?_⟩;walk_at"f a ha H6 s6 t6";have ep6:=s6 _ _ ep5;exact q a (.side js) y3 H6 (xs5.trans (.of s6)) ep6 (fun H'' xx=>⟨pa,xx _ _ (nlt ep6 t6) (xs5.none ha (nlt ep6 t6)) t6,xx _ _ npa (xs4.none hpa npa) (s6 _ _ e5)⟩) ⟨by omega,by omega,fun j hj=>jl j (jsm j hj),ap⟩
   ·exists⟨(by show 2<=sizeLine;omega),?_⟩;walk_at"f a ha H6 s6 t6";exact fin a H6 ha s6 t6
  ·refine iteF ?_;exists⟨(by show 2<=sizeLine;omega),?_⟩;walk_at"f a ha H6 s6 t6";exact fin a H6 ha s6 t6
 exists iteD (fun c=>?_) (fun c6=>?_)
 ·have M0:=both (by omega);exists⟨p,y1,pace,rfl,ep1,by omega,by omega,fun r y2 H2 r0 r1 x2 ep2=>?_⟩;exists⟨_,_,rfl,.inl ⟨_,SqL.of (x2 _ _ nm em1),rfl⟩,?_⟩;rw[show(mas.map V.ref).length=M.length by rw[length_map];exact aml];exists⟨p,y2,_,rfl,ep2,by omega,by omega,fun r' y3 H3 r0' r1' x3 ep3=>?_⟩;obtain⟨j,hj⟩:∃j:Nat,r'=(j:Int):=⟨r'.toNat,by omega⟩
  subst hj;exists⟨(by show 3<=sizeLine;omega),?_⟩;walk_at"f a ha H4 s4 t4";have ep4:=s4 _ _ ep3;exact q a (.again (1+r) j) y3 H4 (x1.trans (x2.trans (x3.trans (.of s4)))) ep4 (fun H'' xx=>xx _ _ (nlt ep4 t4) ((x1.trans (x2.trans x3)).none ha (nlt ep4 t4)) t4) ⟨by omega,by omega,by omega⟩
 exists⟨_,_,rfl,.inl ⟨_,SqL.of (x1 _ _ nl el),rfl⟩,?_⟩;rw[length_map];exists⟨p,y1,_,rfl,ep1,by omega,by omega,fun r y2 H2 r0 r1 x2 ep2=>?_⟩;obtain⟨j,hj⟩:∃j:Nat,r=(j:Int):=⟨r.toNat,by omega⟩
 subst hj;obtain⟨lb,hlb⟩:∃lb,L[j]?=some lb:=⟨_,List.getElem?_eq_getElem (by omega)⟩
 refine ixLm (SqL.of ((x1.trans x2) _ _ nl el)) (jO (j:=j) (by rw[List.getElem?_map,hlb];rfl)) ?_;exists⟨(by show 2<=sizeLine;omega),?_⟩;walk_at"f b ha H3 s3 t3";have ep3:=s3 _ _ ep2;have nb:b≠p:=fun z=>by rw[z,ep2]at ha;cases ha
 exists⟨p,y2,2,rfl,ep3,by omega,by omega,fun r y4 H4 r0' r1' x4 ep4=>?_⟩;obtain⟨mo,amo,hmo⟩:=at2 (a:=7) (b:=10^18+1) r0' r1';refine ixLm (SqL.of (x4 _ _ nb t3)) (amo) ?_;exists⟨p,y4,mo,rfl,ep4,by omega,by omega,fun hh y5 H5 h0 h1 x5 ep5=>?_⟩;exists⟨p,y5,pace,rfl,ep5,by omega,by omega,fun bt y6 H6 b0 b1 x6 ep6=>?_⟩;exists⟨(by show 4<=sizeLine;omega),?_⟩;walk_at"f a ha' H7 s7 t7";have ep7:=s7 _ _ ep6;exact q a (.rise lb hh (1+bt)) y6 H7 (x1.trans (x2.trans ((Ex.of s3).trans (x4.trans (x5.trans (x6.trans (.of s7))))))) ep7 (fun H'' xx=>xx _ _ (nlt ep7 t7) ((x1.trans (x2.trans ((Ex.of s3).trans (x4.trans (x5.trans x6))))).none ha' (nlt ep7 t7)) t7) ⟨⟨j,hlb⟩,h0,by omega,by omega,by omega⟩
theorem wK(T:Txt K mg t):FnOk P w K mg base CX0 1 t.Qi t.Qp ["_law_longs","_law_most"] (sp_playD):=by
 refine T.Yj.ok qS (fun vs H Q E h=>?_) (fun cdv A outer s H vs Q E hr h=>?_)
 ·cases h;subst_vars;rfl
 obtain⟨l,gs,most,rfl,el,g1,g60,hg,m60,q⟩:=h;refine⟨_,(jb (jm (i:=2) qS.nd rfl (.inl rfl) (jF jc))
  (jb (jm (i:=3) qS.nd rfl (.inl rfl) jd)
  (jb (j7 PassesOwn.never rfl (j0G (by rfl) T.J1 (ja (jp Qw (jy jJ (by rfl) T.JW Jj (ja (pv 0) jc)) jd) (ja (zo qZ jd) (ja (zo qZ jd) jc)))) (jk (i:=4) qS.nd rfl (.inl rfl))
   (jf (jS (PW.pt (kn (jt X7 (jy jJ (by rfl) T.JW Jj (ja (pv 2) jc)) jd (nomark _)) (yv (jt X6 (jp jQ (pv 3) (ji jv (pv 0) (pv 4))) (pv 1) (nomark _)))))
    (jb (jB (Jf PySem.F.plainAttrs_list PySem.F.slot_list_append PySem.F.type_list_append jA (pv 2) (ja (pv 4) jc)))
    (jf (jm (i:=3) qS.nd rfl (.inl rfl) (jp jQ (pv 3) (ji jv (pv 0) (pv 4))))))
    ju)))
  (jf (jw (Ja (ja jL (ja (pv 2) jc)))))))),?_⟩
 refine jx (σ':=[some _,some _,none,none,none]) rfl ?_;have sz:(200:Nat)<sizeLine:=by decide
 have gat:∀j,j<gs.length->gs[j]?=some (gs.getD j 0):=fun j h=>by
  rw[getD_eq_getElem?_getD,List.getElem?_eq_getElem h];rfl
 exists⟨Nat.zero_le _,?_⟩;walk_at"f 0 t";have np:∀{c u},H c=some u->c≠p0:=fun h=>je h hp0
 exists⟨_,_,rfl,.inl ⟨_,SqL.of (s0 _ _ el),rfl⟩,?_⟩;rw[length_map];exists⟨_,_,rfl,⟨by omega,by omega,by omega,by omega⟩,?_⟩;refine j1e (fun i σ H'=>∃(o4:Option V) (is:List Nat),σ=[some (.ref l),some (.int most),some (.ref p0),some (.int (is.map fun j=>gs.getD j 0).sum),o4]/\Same H H'/\H' p0=some (.lst (is.map vN))/\is.length<=8/\(∀j∈is,j<gs.length)/\(is.map fun j=>gs.getD j 0).sum<=most/\(0<i->is≠[]))
  ⟨_,[],rfl,s0,t0,Nat.zero_le _,(fun j h=>nomatch h),?_,fun h=>absurd h (Nat.lt_irrefl _)⟩ ?_ ?_
 ·have:=hg _ (List.mem_of_getElem? (gat 0 (by omega)));show(0:Int)<=most;omega
 ·rintro i σ H' hi ⟨o4,is,rfl,sm,e0,i8,jl,tot,hne⟩;have hi:i<gs.length:=by omega
  obtain⟨j,hj⟩:∃j:Nat,(gs.length:Int)-1-(i:Int)=(j:Int):=⟨gs.length-1-i,by omega⟩
  have jg:j<gs.length:=by omega
  rw[hj];have gj:=hg _ (List.mem_of_getElem? (gat j jg));exists⟨_,_,rfl,.inl ⟨_,SqL.of e0,rfl⟩,?_⟩;rw[length_map];exists iteD (fun c=>?_) (fun c=>?_)
  ·exists ixLm (SqL.of (sm _ _ el)) (jO (j:=j) (by rw[List.getElem?_map,gat j jg];rfl)) ?_;exists iteD (fun c2=>?_) (fun c2=>?_)
   ·exists⟨.inl ⟨rfl,_,SqL.of e0⟩,?_⟩;exists⟨p0,_,_,rfl,rfl,e0,by rw[length_map];omega,?_⟩;have s6:Same H (upd H' p0 (.lst (is.map vN++[.int (j:Nat)]))):=fun c u h=>(jh (np h)).trans (sm _ _ h)
    have e06:upd H' p0 (.lst (is.map vN++[.int (j:Nat)])) p0=some (.lst ((is++[j]).map vN)):=by rw[jr,map_append];rfl
    generalize upd H' p0 (.lst (is.map vN++[.int (j:Nat)]))=H6 at s6 e06|-;exists ixLm (SqL.of (s6 _ _ el)) (jO (j:=j) (by rw[List.getElem?_map,gat j jg];rfl)) ?_;walk_at"g";have es:((is++[j]).map fun j=>gs.getD j 0).sum=(is.map fun j=>gs.getD j 0).sum+gs.getD j 0:=by rw[map_append,sum_append];simp
    refine⟨_,is++[j],by rw[es],s6,e06,by rw[List.length_append];show is.length+1<=8;omega,fun j' hj'=>?_,by rw[es];exact c2,fun _=>by simp⟩;rcases mem_append.mp hj' with z | z
    ·exact jl j' z
    ·rw[mem_singleton.mp z];exact jg
   ·exists⟨_,is,rfl,sm,e0,i8,jl,tot,fun _=>?_⟩;by_cases z:i=0
    ·intro e;subst e;exact c2 (by show(0:Int)+_<=most;omega)
    ·exact hne (by omega)
  ·exists⟨_,is,rfl,sm,e0,i8,jl,tot,fun _=>?_⟩;intro e;subst e;exact c (by show((0:Nat):Int)<_;omega)
 rintro σ' H' ⟨o4,is,rfl,sm,e0,i8,jl,tot,hne⟩;exists⟨(by show 2<=sizeLine;omega),?_⟩;walk_at"f 1 t";exact q p1 is H1 (sm.trans s1) (none_of sm hp1) ⟨p0,hp0,t1,s1 _ _ e0⟩ (hne (by omega)) i8 jl tot
theorem yt(T:Txt K mg t):FnOk P w K mg base CX0 1 t.JE t.JG ["_law_form_here","_law_names_here"] (sp_told_formD):=by
 refine T.zj.ok yB (fun vs H Q E h=>?_) (fun cdv A outer s H vs Q E hr h=>?_)
 ·cases h;subst_vars;rfl
 obtain⟨a,n,f,names,rfl,hf,en,j8,jl,q⟩:=h;refine⟨_,(jb (jS (PW.pt (ko (jt Jn (ji jo (pv 0) jd) jL (nomark _)) (Yd (jt Jn (ji jo (pv 0) jd) jL (nomark _)))))
   (jf (jw (Ja (ja (ji jo (pv 0) jd) (ja (QM kN (by rfl) T.j2y j15 (ja (JC (ow:=["_law_k"]) (ci:=[1]) rfl (CompScope.of (defScope qa) ["_law_form_here","_law_names_here"] rfl rfl (by decide +kernel)) (Jw (by decide)) (jG (ji jo (pv 0) jd)) (fun _ _ _ _ _=>⟨(jk (i:=0) (j5 ["_law_form_here","_law_names_here"] rfl (by decide +kernel)) rfl (.inl rfl)),JK,(ji (JY (K:=K) rfl) (pv 1) (pv 0))⟩)) jc)) jc)))))
   ju)
  (jb (jS (jt Jn (ji jo (pv 0) jd) jL (nomark _))
   (jf (jw (Ja (ja jL (ja (ji jo (pv 0) jd) (ja (ji jv (pv 1) (ji jo (pv 0) jd)) jc))))))
   ju)
  (jf (jw (pv 0))))),?_⟩
 refine jx (σ':=[some _,some _]) rfl ?_;have sz:(200:Nat)<sizeLine:=by decide
 have nat':∀j,j<names.length->names[j]?=some (names.getD j ⟨#[]⟩):=fun j h=>by
  rw[getD_eq_getElem?_getD,List.getElem?_eq_getElem h];rfl
 cases f with
 | hold m=>
  have hf:H a=some (.tup [.str "hold",.int m]):=hf;exists ixTm (SqT.of hf) rfl ?_;exists iteE0 ?_;exists ixTm (SqT.of hf) rfl ?_;exists iteE0 ?_;exists ixTm (SqT.of hf) rfl ?_;exists iteE0 ?_;walk_at"g";exact q _ _ (Same.refl _) hf
 | ring x m=>
  have hf:H a=some (.tup [.str "ring",.str x,.int m]):=hf;exists ixTm (SqT.of hf) rfl ?_;exists iteE0 ?_;exists ixTm (SqT.of hf) rfl ?_;exists iteE0 ?_;exists ixTm (SqT.of hf) rfl ?_;exists iteE0 ?_;walk_at"g";exact q _ _ (Same.refl _) hf
 | rise x v m=>
  have hf:H a=some (.tup [.str "raise",.str x,.int v,.int m]):=hf;exists ixTm (SqT.of hf) rfl ?_;exists iteE0 ?_;exists ixTm (SqT.of hf) rfl ?_;exists iteE0 ?_;exists ixTm (SqT.of hf) rfl ?_;exists iteE0 ?_;walk_at"g";exact q _ _ (Same.refl _) hf
 | again k j=>
  have hf:H a=some (.tup [.str "again",.int k,.int (j:Nat)]):=hf;have hj:=jl j mem_cons_self;exists ixTm (SqT.of hf) rfl ?_;exists iteE0 ?_;exists ixTm (SqT.of hf) rfl ?_;exists iteE0 ?_;exists ixTm (SqT.of hf) rfl ?_;exists iteE1 ?_;exists ixTm (SqT.of hf) rfl ?_;exists ixTm (SqT.of hf) rfl ?_;exists ixLm (SqL.of en) (jO (j:=j) (by rw[List.getElem?_map,nat' j hj];rfl)) ?_;exists⟨(by show 3<=sizeLine;omega),?_⟩;walk_at"f p hp H1 s1 t1";exact q _ _ s1 t1
 | row is=>
  obtain⟨b,hf,hb⟩:=hf;have i8:is.length<=8:=j8;exists ixTm (SqT.of hf) rfl ?_;exists iteE1 ?_;exists iteT ?_;exists ixTm (SqT.of hf) rfl ?_;exists ixTm (SqT.of hf) rfl ?_;refine⟨b,rfl,⟨_,SqL.of hb⟩,?_⟩;refine j6 (xs:=is.map vN) (fun i ys H'=>ys=((is.take i).map fun j=>names.getD j ⟨#[]⟩).map V.str/\H=H') ⟨rfl,rfl⟩ ?_ ?_ ?_
  ·rintro i ys H' _ ⟨rfl,rfl⟩;exact SqL.of hb
  ·rintro i x ys H' hx ⟨rfl,rfl⟩;obtain⟨j,hj,rfl,hjm⟩:=kE hx;have il:=(List.getElem?_eq_some_iff.mp hj).1;refine Jc (σ':=[none,some _]) rfl ?_;exists iteT ?_;exists ixLm (SqL.of en) (jO (j:=j) (by rw[List.getElem?_map,nat' j (jl j hjm)];rfl)) ?_;refine⟨by rw[length_map,length_map,length_take];omega,?_,rfl⟩;rw[take_snoc hj,map_append,map_append];rfl
  rintro ys H' ⟨rfl,rfl⟩;rw[show(is.map vN).length=is.length from length_map _,take_length];refine⟨by rw[length_map,length_map];omega,?_⟩;walk_at"f 1 t";exists⟨p1,_,rfl,.inl ⟨SqL.of t1,?_⟩⟩;walk_at"f 2 t";exists⟨(by show 2<=sizeLine;omega),?_⟩;walk_at"f 3 t";exact q _ _ (s1.trans (s2.trans s3)) ⟨p2,t3,s3 _ _ t2⟩
 | side is=>
  obtain⟨b,hf,hb⟩:=hf;have i8:is.length<=8:=j8;exists ixTm (SqT.of hf) rfl ?_;exists iteE0 ?_;exists ixTm (SqT.of hf) rfl ?_;exists iteE1 ?_;exists ixTm (SqT.of hf) rfl ?_;exists ixTm (SqT.of hf) rfl ?_;refine⟨b,rfl,⟨_,SqL.of hb⟩,?_⟩;refine j6 (xs:=is.map vN) (fun i ys H'=>ys=((is.take i).map fun j=>names.getD j ⟨#[]⟩).map V.str/\H=H') ⟨rfl,rfl⟩ ?_ ?_ ?_
  ·rintro i ys H' _ ⟨rfl,rfl⟩;exact SqL.of hb
  ·rintro i x ys H' hx ⟨rfl,rfl⟩;obtain⟨j,hj,rfl,hjm⟩:=kE hx;have il:=(List.getElem?_eq_some_iff.mp hj).1;refine Jc (σ':=[none,some _]) rfl ?_;exists iteT ?_;exists ixLm (SqL.of en) (jO (j:=j) (by rw[List.getElem?_map,nat' j (jl j hjm)];rfl)) ?_;refine⟨by rw[length_map,length_map,length_take];omega,?_,rfl⟩;rw[take_snoc hj,map_append,map_append];rfl
  rintro ys H' ⟨rfl,rfl⟩;rw[show(is.map vN).length=is.length from length_map _,take_length];refine⟨by rw[length_map,length_map];omega,?_⟩;walk_at"f 1 t";exists⟨p1,_,rfl,.inl ⟨SqL.of t1,?_⟩⟩;walk_at"f 2 t";exists⟨(by show 2<=sizeLine;omega),?_⟩;walk_at"f 3 t";exact q _ _ (s1.trans (s2.trans s3)) ⟨p2,t3,s3 _ _ t2⟩
theorem wG(T:Txt K mg t)(Jt:FnOk P w K mg base CX0 1 t.qt t.qw ["_law_script","_law_k"] (sp_cellC K))(zz:FnOk P w K mg base CX0 1 t.qE t.qL ["_law_cell_here","_law_many"] (sp_onames))(Qz:FnOk P w K mg base CX0 1 t.qD t.qK ["_law_form_here","_law_limbs","_law_movers"] (sp_movesD))(Qe:FnOk P w K mg base CX0 1 t.Qh t.Qo ["_law_form_here","_law_longs"] (sp_longD))(QZ:FnOk P w K mg base CX0 1 t.Qj t.Qq ["_law_cell_here"] (xh))(jz:FnOk P w K mg base CX0 1 t.qu t.qx ["_law_pool_here","_law_many"] (sp_takeD))(zR:FnOk P w K mg base CX0 2 t.Qg t.Qn ["_law_pool_here","_law_limbs","_law_words","_law_movers","_law_pace"] (sp_formD))(zT:FnOk P w K mg base CX0 1 t.Qi t.Qp ["_law_longs","_law_most"] (sp_playD))(qV:FnOk P w K mg base CX0 1 t.JE t.JG ["_law_form_here","_law_names_here"] (sp_told_formD)):FnOk P w K mg base CX0 3 t.Qf t.Qm ["_law_script","_law_many","_law_pace","_law_most"] (sp_bookD K):=by
 refine T.Yh.ok jH (fun vs H Q E h=>?_) (fun cdv A outer s H vs Q E hr h=>?_)
 ·cases h;subst_vars;rfl
 obtain⟨a,ns,many,pace,most,rfl,hS,h63,mn1,mn2,pc1,pc2,ms1,ms2,q⟩:=h;refine⟨_,(jb (jm (i:=4) jH.nd rfl (.inr rfl) (jn (zz.mono (by decide)) hr (by rfl) T.wy T.ZX.kp T.KR .nil pass0 (ja (jn (Jt.mono (by decide)) hr (by rfl) T.Qt T.qp.kp T.Qd .nil pass0 (ja (pv 0) (ja jd jc))) (ja jd jc))))
  (jb (jm (i:=5) jH.nd rfl (.inr rfl) (jn (Jt.mono (by decide)) hr (by rfl) T.Qt T.qp.kp T.Qd .nil pass0 (ja (pv 0) (ja jd jc))))
  (jb (Zz (i:=6) (ow:=["_law_k"]) (ci:=[4,5]) rfl (CompScope.of (defScope qz) ["_law_script","_law_many","_law_pace","_law_most","_law_names_here","_law_first","_law_limbs","_law_forms","_law_movers","_law_longs","_law_k","_law_pool_here","_law_form_here","_law_heights","_law_parts"] rfl rfl (by decide +kernel)) (Jw (by decide)) jH.nd rfl (.inl rfl) (JU (by rfl) T.J1 (ja (jp jQ jd (jp Jp (jp JZ (pv 5) jd) jd)) jc)) (fun _ _ _ _ _=>⟨(jk (i:=0) (j5 ["_law_script","_law_many","_law_pace","_law_most","_law_names_here","_law_first","_law_limbs","_law_forms","_law_movers","_law_longs","_law_k","_law_pool_here","_law_form_here","_law_heights","_law_parts"] rfl (by decide +kernel)) rfl (.inl rfl)),JK,(ji (JY (K:=K) rfl) (pv 1) (jp jQ (jp Qw jd (jp Jb jd (jp Jp (pv 2) jd))) (jp Jb (jp Qw (jp Jb jd (jp Jp (pv 2) jd)) jd) (pv 0))))⟩))
  (jb (jm (i:=7) jH.nd rfl (.inr rfl) (jF jc))
  (jb (jm (i:=8) jH.nd rfl (.inl rfl) (jF jc))
  (jb (jm (i:=9) jH.nd rfl (.inl rfl) (jF jc))
  (jb (j7 PassesOwn.never rfl (JU (by rfl) T.J1 (ja (pv 1) jc)) (jk (i:=10) jH.nd rfl (.inl rfl))
   (jb (jm (i:=11) jH.nd rfl (.inr rfl) (jn (QZ.mono (by decide)) hr (by rfl) T.Yp T.zO.kp T.Yf .nil pass0 (ja (jn (Jt.mono (by decide)) hr (by rfl) T.Qt T.qp.kp T.Qd .nil pass0 (ja (pv 0) (ja (jp jQ jd (jp Jb jd (pv 10))) jc))) jc)))
   (jb (jm (i:=12) jH.nd rfl (.inl rfl) (jn (zR.mono (by decide)) hr (by rfl) T.WP T.Yi.kp T.Wn .nil pass0 (ja (pv 11) (ja (pv 6) (ja (Zg j3e (pv 4) (Q5 (jp Jb jd (jp Jp (jp JZ (pv 5) jd) jd))) (Q5 jd)) (ja (pv 8) (ja (pv 2) jc)))))))
   (jb (ze (jt Zf (jn (Qe.mono (by decide)) hr (by rfl) T.Zd T.QY.kp T.zN .nil pass0 (ja (pv 12) (ja (pv 9) jc))) (pv 3) (nomark _))
    (jf (jm (i:=12) jH.nd rfl (.inl rfl) (Ja (ja jL (ja (jp jQ jd (jn (jz.mono (by decide)) hr (by rfl) T.jK T.jE.kp T.jI .nil pass0 (ja (pv 11) (ja jd jc)))) jc)))))
    ju)
   (jb (jB (Jf PySem.F.plainAttrs_list PySem.F.slot_list_append PySem.F.type_list_append jA (pv 7) (ja (pv 12) jc)))
   (jb (jB (Jf PySem.F.plainAttrs_list PySem.F.slot_list_append PySem.F.type_list_append jA (pv 8) (ja (jn (Qz.mono (by decide)) hr (by rfl) T.yn T.zx.kp T.ZV .nil pass0 (ja (pv 12) (ja (pv 6) (ja (pv 8) jc)))) jc)))
   (jf (jB (Jf PySem.F.plainAttrs_list PySem.F.slot_list_append PySem.F.type_list_append jA (pv 9) (ja (jn (Qe.mono (by decide)) hr (by rfl) T.Zd T.QY.kp T.zN .nil pass0 (ja (pv 12) (ja (pv 9) jc))) jc))))))))))
  (jb (jm (i:=11) jH.nd rfl (.inr rfl) (jn (QZ.mono (by decide)) hr (by rfl) T.Yp T.zO.kp T.Yf .nil pass0 (ja (jn (Jt.mono (by decide)) hr (by rfl) T.Qt T.qp.kp T.Qd .nil pass0 (ja (pv 0) (ja jd jc))) jc)))
  (jb (ze (PW.pt (kn (jt Zf (jn (jz.mono (by decide)) hr (by rfl) T.jK T.jE.kp T.jI .nil pass0 (ja (pv 11) (ja jd jc))) jd (nomark _)) (yv (jt Zf (jy jJ (by rfl) T.JW Jj (ja (pv 7) jc)) jd (nomark _)))))
   (jb (jB (Jf PySem.F.plainAttrs_list PySem.F.slot_list_append PySem.F.type_list_append jA (pv 7) (ja (jn (zT.mono (by decide)) hr (by rfl) T.WQ T.Yj.kp T.Wo .nil pass0 (ja (pv 9) (ja (pv 3) jc))) jc)))
   (jb (jB (Jf PySem.F.plainAttrs_list PySem.F.slot_list_append PySem.F.type_list_append jA (pv 8) (ja (jn (Qz.mono (by decide)) hr (by rfl) T.yn T.zx.kp T.ZV .nil pass0 (ja (ji jv (pv 7) (zo qZ jd)) (ja (pv 6) (ja (pv 8) jc)))) jc)))
   (jf (jB (Jf PySem.F.plainAttrs_list PySem.F.slot_list_append PySem.F.type_list_append jA (pv 9) (ja (jn (Qe.mono (by decide)) hr (by rfl) T.Zd T.QY.kp T.zN .nil pass0 (ja (ji jv (pv 7) (zo qZ jd)) (ja (pv 9) jc))) jc))))))
   ju)
  (jb (Zz (i:=13) (ow:=["_law_k"]) (ci:=[11,5]) rfl (CompScope.of (defScope qz) ["_law_script","_law_many","_law_pace","_law_most","_law_names_here","_law_first","_law_limbs","_law_forms","_law_movers","_law_longs","_law_k","_law_pool_here","_law_form_here","_law_heights","_law_parts"] rfl rfl (by decide +kernel)) (Jw (by decide)) jH.nd rfl (.inl rfl) (JU (by rfl) T.J1 (ja (jy jJ (by rfl) T.JW Jj (ja (pv 6) jc)) jc)) (fun _ _ _ _ _=>⟨(jk (i:=0) (j5 ["_law_script","_law_many","_law_pace","_law_most","_law_names_here","_law_first","_law_limbs","_law_forms","_law_movers","_law_longs","_law_k","_law_pool_here","_law_form_here","_law_heights","_law_parts"] rfl (by decide +kernel)) rfl (.inl rfl)),JK,(jn (jz.mono (by decide)) hr (by rfl) T.jK T.jE.kp T.jI .nil pass0 (ja (pv 1) (ja (ji (JY (K:=K) rfl) (jF (ja jd (ja (jp jQ (jp wS jd jd) jd) jc))) (jp Jp (jp JZ (pv 2) jd) jd)) jc)))⟩))
  (jb (Zz (i:=14) (ow:=["_law_k"]) (ci:=[4,7]) rfl (CompScope.of (defScope qz) ["_law_script","_law_many","_law_pace","_law_most","_law_names_here","_law_first","_law_limbs","_law_forms","_law_movers","_law_longs","_law_k","_law_pool_here","_law_form_here","_law_heights","_law_parts"] rfl rfl (by decide +kernel)) (Jw (by decide)) jH.nd rfl (.inl rfl) (JU (by rfl) T.J1 (ja (jy jJ (by rfl) T.JW Jj (ja (pv 7) jc)) jc)) (fun _ _ _ _ _=>⟨(jk (i:=0) (j5 ["_law_script","_law_many","_law_pace","_law_most","_law_names_here","_law_first","_law_limbs","_law_forms","_law_movers","_law_longs","_law_k","_law_pool_here","_law_form_here","_law_heights","_law_parts"] rfl (by decide +kernel)) rfl (.inl rfl)),JK,(Ja (ja (ji (JY (K:=K) rfl) (pv 1) (pv 0)) (ja (jn (qV.mono (by decide)) hr (by rfl) T.yY T.zj.kp T.yG .nil pass0 (ja (ji (JY (K:=K) rfl) (pv 2) (pv 0)) (ja (pv 1) jc))) jc)))⟩))
  (jf (jw (jF (ja (Ja (ja (Xm rfl (by rfl) T.zY (by rfl) T.XM (ja (pv 6) (ja (pv 13) jc))) (ja (pv 14) jc))) (ja (pv 7) (ja (pv 8) (ja (pv 9) jc)))))))))))))))))),?_⟩
 refine jx (σ':=[some _,some _,some _,some _,none,none,none,none,none,none,none,none,none,none,none]) rfl ?_;have sz:(200:Nat)<sizeLine:=by decide
 exists⟨a,ns,_,rfl,hS,h63,by omega,by omega,fun c0 _=>?_⟩;exists⟨c0,26,rfl,by omega,fun p1 ws H1 s1 hp1 e1 wl wd ww=>?_⟩;have hS1:=s1.seq hS;have wsat:∀{k:Nat},k<26->ws[k]?=some (ws.getD k ⟨#[]⟩):=fun {k} h1=>by
  rw[getD_eq_getElem?_getD,List.getElem?_eq_getElem (by omega)];rfl
 exists⟨a,ns,_,rfl,hS1,h63,by omega,by omega,fun ff _=>?_⟩;walk_at"g";obtain⟨mm,hmm,n1,n8⟩:∃mm:Nat,1+ff/2%4=(mm:Int)/\1<=mm/\mm<=8:=⟨(1+ff/2%4).toNat,by omega,by omega,by omega⟩
 rw[hmm];clear hmm;refine⟨_,rfl,by omega,by omega,?_⟩;have h2:ff%2=0\/ff%2=1:=by omega
 have idx:∀i:Nat,i<8->25-25*(ff%2)+(2*(ff%2)-1)*(0+(i:Int))=((if ff%2=0 then 25-i else i:Nat):Int):=fun i hi=>by
  rcases h2 with h | h
  ·rw[if_pos h,h];omega
  ·rw[if_neg (by omega),h];omega
 have idl:∀i:Nat,i<8->(if ff%2=0 then 25-i else i)<26:=fun i hi=>by split<;>omega
 refine JX (fun i ys H'=>ys=((List.range i).map fun i=>ws.getD (if ff%2=0 then 25-i else i) ⟨#[]⟩).map V.str/\H1=H') ⟨rfl,rfl⟩ ?_ ?_
 ·rintro i ys H' hi ⟨rfl,rfl⟩
  replace hi:i<mm:=by omega
  refine Jc (σ':=[none,some _,some _]) rfl ?_;exists iteT ?_;walk_at"g";rw[idx i (by omega)];refine ixLm (SqL.of e1) (jO (by rw[List.getElem?_map,wsat (idl i (by omega))];rfl)) ?_;refine⟨by rw[length_map,length_map,length_range];omega,?_,rfl⟩;rw[range_succ,map_append,map_append];rfl
 rintro ys H' ⟨rfl,rfl⟩;rw[Int.toNat_natCast];refine⟨by rw[length_map,length_map,length_range];omega,?_⟩;walk_at"f 2 e";obtain⟨L,hL⟩:∃L,L=(List.range mm).map fun i=>ws.getD (if ff%2=0 then 25-i else i) ⟨#[]⟩:=⟨_,rfl⟩
 rw[<-hL]at e2;have Ll:L.length=mm:=by rw[hL,length_map,length_range]
 have Lnd:L.Nodup:=by
  have e:L=((List.range mm).map fun i=>if ff%2=0 then 25-i else i).map fun j=>ws.getD j ⟨#[]⟩:=by rw[hL,List.map_map];rfl
  rw[e];refine WY wd ?_ fun j hj=>?_
  ·refine pairwise_map.mpr ((List.nodup_range).imp_of_mem fun {x y} hx hy hxy e=>hxy ?_);have:=mem_range.mp hx;have:=mem_range.mp hy;split at e<;>omega
  ·obtain⟨i,hi,rfl⟩:=mem_map.mp hj;have:=mem_range.mp hi;rw[wl];exact idl i (by omega)
 have LW:∀x∈L,Ws.isW x=true:=fun x hx=>by
  rw[hL]at hx;obtain⟨i,hi,rfl⟩:=mem_map.mp hx;have:=mem_range.mp hi;exact ww _ (List.mem_of_getElem? (wsat (idl i (by omega))))
 clear hL idx idl;have s12:=s1.trans s2;have e12:=s2 _ _ e1;exists⟨Nat.zero_le _,?_⟩;walk_at"f pf hpf H3 s3 e3";exists⟨Nat.zero_le _,?_⟩;walk_at"f pm hpm H4 s4 e4";exists⟨Nat.zero_le _,?_⟩;walk_at"f pg hpg H5 s5 e5";have s25:=s3.trans (s4.trans s5);have s15:=s12.trans s25;have nf:∀{c u},H2 c=some u->c≠pf:=fun h=>je h hpf
 have nm:∀{c u},H2 c=some u->c≠pm:=fun h=>je (s3 _ _ h) hpm
 have ng:∀{c u},H2 c=some u->c≠pg:=fun h=>je (s4 _ _ (s3 _ _ h)) hpg
 have nfm:pf≠pm:=je e3 hpm;have nfg:pf≠pg:=je (s4 _ _ e3) hpg;have nmg:pm≠pg:=je e4 hpg;exists⟨_,rfl,by omega,by omega,?_⟩;refine Zv (fun i σ H'=>∃(o10 o11 o12:Option V) (fas mas:List Addr) (fs:List Fn) (M:List (List Int)) (gs:List Int),σ=[some (.ref a),some (.int many),some (.int pace),some (.int most),some (.ref p1),some (.int ff),some (.ref p2),some (.ref pf),some (.ref pm),some (.ref pg),o10,o11,o12,none,none]/\Same H2 H'/\H' pf=some (.lst (fas.map V.ref))/\H' pm=some (.lst (mas.map V.ref))/\H' pg=some (.lst (gs.map V.int))/\All2 (FnSt pf pm pg H') fas fs/\All2 (MvSt pf pm pg H') mas M/\DOk L fs M gs/\fs.length=i/\∀j,j<fs.length->gs.getD j 0<=most)
  ⟨_,_,_,[],[],[],[],[],rfl,s25,s5 _ _ (s4 _ _ e3),s5 _ _ e4,e5,.nil,.nil,⟨rfl,rfl,fun i f h=>by simp at h,fun i h=>absurd h (Nat.not_lt_zero i)⟩,rfl,fun j h=>absurd h (Nat.not_lt_zero j)⟩ ?_ ?_
 ·rintro i σ H' hi ⟨o10,o11,o12,fas,mas,fs,M,gs,rfl,sm,ef,em,eg,aF,aM,D,fl,gm⟩;have hi:i<15:=by omega
  have ml:=D.ml;have gl:=D.gl;have up:=D.up (by omega);have fal:=aF.1;have mal:=aM.1;have hSx:=sm.seq (s12.seq hS);exists⟨a,ns,_,rfl,hSx,h63,by omega,by omega,fun ck _=>?_⟩;exists⟨ck,rfl,fun p y0 H6 s6 hp e6=>?_⟩;have np:∀{c u},H' c=some u->c≠p:=fun h=>je h hp
  exists⟨p1,_,rfl,SqL.of (s6 _ _ (sm _ _ e12)),?_⟩;walk_at"f pw hpw H7 s7 e7";have s67:=s6.trans s7;have ep7:=s7 _ _ e6;have npw:pw≠p:=fun z=>by rw[z,e6]at hpw;cases hpw
  obtain⟨Ws',hW,hW4,hWw⟩:∃Ws':List Str,cutV (ws.map V.str) (some (18*(ff/4%2))) (some 22)=Ws'.map V.str/\4<=Ws'.length/\∀x∈Ws',Ws.isW x=true:=by
   have h:18*(ff/4%2)=0\/18*(ff/4%2)=18:=by omega
   unfold cutV;rcases h with h | h
   ·rw[h];refine⟨(ws.drop 0).take 22,?_,by rw[length_take,length_drop];omega,fun x hx=>ww x (List.mem_of_mem_drop (mem_of_mem_take hx))⟩;rw[length_map,wl,map_take,List.map_drop];rfl
   ·rw[h];refine⟨(ws.drop 18).take 4,?_,by rw[length_take,length_drop];omega,fun x hx=>ww x (List.mem_of_mem_drop (mem_of_mem_take hx))⟩;rw[length_map,wl,map_take,List.map_drop];rfl
  rw[hW]at e7;have am7:ListsAt H7 mas M:=⟨aM.1,fun i a' ks h1 h2=>s67 _ _ (aM.2 i a' ks h1 h2).2.2.2⟩
  have nma:∀a'∈mas,a'≠p:=fun a' h=>by
   obtain⟨j,hj,ej⟩:=List.getElem_of_mem h;exact np (aM.2 j a' _ (by rw[List.getElem?_eq_getElem hj,ej]) (List.getElem?_eq_getElem (by omega))).2.2.2
  exists⟨p,p2,pw,pm,y0,pace,L,Ws',mas,M,rfl,ep7,s67 _ _ (sm _ _ e2),by omega,by omega,e7,hW4,hWw,s67 _ _ em,am7,fun ks h=>(up ks h).2.1,by omega,nma,np (sm _ _ e2),npw,np em,pc1,pc2,fun fa f y8 H8 x8 ep8 st8 pre=>?_⟩;rw[ml]at pre;have k8:∀{c u},H' c=some u->H8 c=some u:=fun h=>x8 _ _ (np h) (s67 _ _ h)
  have js:=pre.js;have n7:∀{c:Addr},H7 c=none->H' c=none:=fun {c} h=>by
   cases e:H' c with
   | none=>rfl
   | some u=>rw[s67 _ _ e]at h;cases h
  have f8:FnAt H8 fa f:=st8 H8 fun c u _ _ h=>h
  have gpos:∀g∈gs,0<=g/\g<=10^60:=fun g hg=>by
   obtain⟨j,hj,rfl⟩:=mem_iff_getElem.mp hg;have:=D.g j (by omega);rw[getD_eq_getElem?_getD,List.getElem?_eq_getElem hj]at this;exact⟨Int.le_trans (by decide) this.1,this.2⟩
  exists⟨fun σ' H10=>∃(fb:Addr) (f':Fn),σ'=[some (.ref a),some (.int many),some (.int pace),some (.int most),some (.ref p1),some (.int ff),some (.ref p2),some (.ref pf),some (.ref pm),some (.ref pg),some (.int (0+(i:Int))),some (.ref p),some (.ref fb),none,none]/\(∀c u,H' c=some u->H10 c=some u)/\(∀H'',(∀c u,H' c=none->c≠p->H10 c=some u->H'' c=some u)->FnAt H'' fb f')/\PreN L M fs.length f'/\∀g',LenN gs f' g'->g'<=most,?_,?_⟩
  rotate_left
  ·exists⟨fa,pg,f,gs,rfl,f8,k8 eg,js.1,fun j hj=>by have:=js.2 j hj;omega,fun is e z=>?_,fun k j e=>?_,gpos,fun g H9 s9 lg=>?_⟩
   ·subst e;have:=pre.1;rw[z]at this;simp at this
   ·subst e;exact⟨Int.le_trans (by decide) pre.1,pre.2.1⟩
   have st9:∀H'',(∀c u,c≠p->H' c=none->H9 c=some u->H'' c=some u)->FnAt H'' fa f:=fun H'' hh=>st8 H'' fun c u hc hn hu=>hh c u hc (n7 hn) (s9 _ _ hu)
   have k9:∀{c u},H' c=some u->H9 c=some u:=fun h=>s9 _ _ (k8 h)
   have ep9:=s9 _ _ ep8;exists iteD (fun c=>?_) (fun c=>?_)
   ·exists⟨p,y8,3,rfl,ep9,by omega,by omega,fun r y10 H10 r0 r1 x10 ep10=>?_⟩;exists⟨(by show 2<=sizeLine;omega),?_⟩;walk_at"f fb hfb H11 s11 e11";have nfb:fb≠p:=fun z=>by rw[z,ep10]at hfb;cases hfb
    refine⟨fb,.hold (1+r),rfl,fun c u h=>s11 _ _ (x10 _ _ (np h) (k9 h)),fun H'' hh=>hh _ _ ?_ nfb e11,⟨by omega,by omega⟩,fun g' hg'=>?_⟩
    ·cases e:H' fb with
     | none=>rfl
     | some u=>rw[x10 _ _ (np e) (k9 e)]at hfb;cases hfb
    ·have:g'=1+r:=hg';omega
   ·exists⟨fa,f,rfl,fun c u h=>k9 h,fun H'' hh=>st9 H'' fun c u hc hn hu=>hh c u hn hc hu,pre,fun g' hg'=>?_⟩;have:g'=g:=j1l hg' lg;omega
  rintro σ' H10 ⟨fb,f',rfl,k10,st10,pre',lm⟩;have js':=pre'.js;exists⟨.inl ⟨rfl,_,SqL.of (k10 _ _ ef)⟩,?_⟩;exists⟨pf,_,_,rfl,rfl,k10 _ _ ef,by rw[length_map];omega,?_⟩;have k11:∀c u,c≠pf->H' c=some u->upd H10 pf (.lst (fas.map V.ref++[.ref fb])) c=some u:=fun c u hc h=>(jh hc).trans (k10 _ _ h)
  have e11:upd H10 pf (.lst (fas.map V.ref++[.ref fb])) pf=some (.lst ((fas++[fb]).map V.ref)):=by rw[jr,map_append];rfl
  have st11:∀H'',(∀c u,H' c=none->c≠p->upd H10 pf (.lst (fas.map V.ref++[.ref fb])) c=some u->H'' c=some u)->FnAt H'' fb f':=fun H'' hh=>st10 H'' fun c u hn hc hu=>hh c u hn hc ((jh (fun z=>by rw[z,ef]at hn;cases hn)).trans hu)
  generalize upd H10 pf (.lst (fas.map V.ref++[.ref fb]))=H11 at k11 e11 st11|-;have fb11:FnAt H11 fb f':=st11 H11 fun c u _ _ h=>h
  have em11:=k11 _ _ nfm.symm em;have eg11:=k11 _ _ nfg.symm eg;have el11:=k11 _ _ (nf e2) (sm _ _ e2);have am11:ListsAt H11 mas M:=⟨aM.1,fun i a' ks h1 h2=>k11 _ _ (aM.2 i a' ks h1 h2).1 (aM.2 i a' ks h1 h2).2.2.2⟩
  exists⟨.inl ⟨rfl,_,SqL.of em11⟩,?_⟩;exists⟨fb,p2,pm,f',L,mas,M,rfl,fb11,el11,Lnd,em11,am11,fun ks h=>⟨(up ks h).1,(up ks h).2.1⟩,fun ks h=>(up ks h).2.2,js'.1,fun j hj=>by have:=js'.2 j hj;omega,fun x h n e=>by subst e;exact pre'.1,fun pk ks H12 s12' hpk e12' mv=>?_⟩;refine⟨pm,_,_,rfl,rfl,s12' _ _ em11,by rw[length_map];omega,?_⟩;have npk:pk≠pm:=fun z=>by rw[z,em11]at hpk;cases hpk
  have npkf:pk≠pf:=fun z=>by rw[z,e11]at hpk;cases hpk
  have npkg:pk≠pg:=fun z=>by rw[z,eg11]at hpk;cases hpk
  have s13:∀c u,c≠pm->H11 c=some u->upd H12 pm (.lst (mas.map V.ref++[.ref pk])) c=some u:=fun c u hc h=>(jh hc).trans (s12' _ _ h)
  have e13:upd H12 pm (.lst (mas.map V.ref++[.ref pk])) pm=some (.lst ((mas++[pk]).map V.ref)):=by rw[jr,map_append];rfl
  have ek13:=(jh (o:=HO.lst (mas.map V.ref++[.ref pk])) npk).trans e12';generalize upd H12 pm (.lst (mas.map V.ref++[.ref pk]))=H13 at s13 e13 ek13|-;have st13:∀H'',(∀c u,H' c=none->c≠p->H13 c=some u->H'' c=some u)->FnAt H'' fb f':=fun H'' hh=>st11 H'' fun c u hn hc hu=>hh c u hn hc (s13 c u (fun z=>by rw[z,em]at hn;cases hn) hu)
  have fb13:FnAt H13 fb f':=st13 H13 fun c u _ _ h=>h
  have eg13:=s13 _ _ nmg.symm eg11;exists⟨.inl ⟨rfl,_,SqL.of eg13⟩,?_⟩;exists⟨fb,pg,f',gs,rfl,fb13,eg13,js'.1,fun j hj=>by have:=js'.2 j hj;omega,fun is e z=>?_,fun k j e=>?_,gpos,fun g' H14 s14 lg'=>?_⟩
  ·subst e;have:=pre'.1;rw[z]at this;simp at this
  ·subst e;exact⟨Int.le_trans (by decide) pre'.1,pre'.2.1⟩
  refine⟨pg,_,_,rfl,rfl,s14 _ _ eg13,by rw[length_map];omega,?_⟩;have g'1:=D.gpos pre' lg';have g'2:=lm g' lg';have k15:∀c u,c≠pf->c≠pm->c≠pg->H' c=some u->upd H14 pg (.lst (gs.map V.int++[.int g'])) c=some u:=fun c u h1 h2 h3 h=>(jh h3).trans (s14 _ _ (s13 _ _ h2 (k11 _ _ h1 h)))
  refine⟨_,_,_,fas++[fb],mas++[pk],fs++[f'],M++[ks],gs++[g'],rfl,fun c u h=>k15 c u (nf h) (nm h) (ng h) (sm _ _ h),(jh nfg).trans (s14 _ _ (s13 _ _ nfm e11)),(jh nmg).trans (s14 _ _ e13),by rw[jr,map_append];rfl,?_,?_,D.add pre' mv lg' ⟨g'1,by omega⟩,by rw[List.length_append,fl];rfl,fun j hj=>?_⟩
  ·refine All2.snoc (All2.mono aF fun c x h=>FnSt.mono k15 h) fun H'' kk=>?_
   refine st13 H'' fun c u hn hc hu=>kk c u (fun z=>by rw[z,ef]at hn;cases hn) (fun z=>by rw[z,em]at hn;cases hn) (fun z=>by rw[z,eg]at hn;cases hn) ?_
   exact(jh (fun z=>by rw[z,eg]at hn;cases hn)).trans (s14 _ _ hu)
  ·refine All2.snoc (All2.mono aM fun c x h=>⟨h.1,h.2.1,h.2.2.1,k15 _ _ h.1 h.2.1 h.2.2.1 h.2.2.2⟩) ⟨npkf,npk,npkg,(jh npkg).trans (s14 _ _ ek13)⟩
  ·by_cases z:j<fs.length
   ·rw[qP (by omega)];exact gm j z
   ·have:j=gs.length:=by rw[List.length_append]at hj;simp at hj;omega
    subst this;rw[QV];exact g'2
 rintro σ' H6 ⟨o10,o11,o12,fas,mas,fs,M,gs,rfl,sm,ef,em,eg,aF,aM,D,fl,gm⟩;have ef6:=ef;have em6:=em;have eg6:=eg;have hSx:=sm.seq (s12.seq hS);exists⟨a,ns,_,rfl,hSx,h63,by omega,by omega,fun ck _=>?_⟩;exists⟨ck,rfl,fun p y0 H7 s7 hp e7=>?_⟩;have np:∀{c u},H6 c=some u->c≠p:=fun h=>je h hp
 have fl1:1<=fs.length/\fs.length<=15:=by omega
 clear fl;exists⟨fun σ' H8=>∃(fas mas:List Addr) (fs:List Fn) (M:List (List Int)) (gs:List Int) (y:Int),σ'=[some (.ref a),some (.int many),some (.int pace),some (.int most),some (.ref p1),some (.int ff),some (.ref p2),some (.ref pf),some (.ref pm),some (.ref pg),o10,some (.ref p),o12,none,none]/\Same H2 H8/\H8 pf=some (.lst (fas.map V.ref))/\H8 pm=some (.lst (mas.map V.ref))/\H8 pg=some (.lst (gs.map V.int))/\All2 (fun a f=>∀H'',Ex p H8 H''->FnAt H'' a f) fas fs/\All2 (fun a ks=>a≠p/\H8 a=some (.lst (ks.map V.int))) mas M/\DOk L fs M gs/\1<=fs.length/\fs.length<=16/\(∀j,j<fs.length->gs.getD j 0<=most)/\H8 p=some (.lst [.int y]),?_,?_⟩
 rotate_left
 ·exists⟨p,y0,4,rfl,e7,by omega,by omega,fun r y8 H8 r0 r1 x8 ep8=>?_⟩;have k8:∀{c u},H6 c=some u->H8 c=some u:=fun h=>x8 _ _ (np h) (s7 _ _ h)
  have ml:=D.ml;have gl:=D.gl;have up:=D.up (by omega);have fal:=aF.1;have mal:=aM.1;walk_at"g";have stay:∃(fas mas:List Addr) (fs:List Fn) (M:List (List Int)) (gs:List Int) (y:Int),Same H2 H8/\H8 pf=some (.lst (fas.map V.ref))/\H8 pm=some (.lst (mas.map V.ref))/\H8 pg=some (.lst (gs.map V.int))/\All2 (fun a f=>∀H'',Ex p H8 H''->FnAt H'' a f) fas fs/\All2 (fun a ks=>a≠p/\H8 a=some (.lst (ks.map V.int))) mas M/\DOk L fs M gs/\1<=fs.length/\fs.length<=16/\(∀j,j<fs.length->gs.getD j 0<=most)/\H8 p=some (.lst [.int y]):=
   ⟨fas,mas,fs,M,gs,y8,fun c u h=>k8 (sm _ _ h),k8 ef,k8 em,k8 eg,All2.mono aF fun c x h H'' xx=>h H'' fun c u _ _ _ hc=>xx _ _ (np hc) (k8 hc),All2.mono aM fun c x h=>⟨np h.2.2.2,k8 h.2.2.2⟩,D,fl1.1,by omega,gm,ep8⟩
  obtain⟨fas0,mas0,fs0,M0,gs0,y0',st1,st2⟩:=stay;refine iteD (fun c=>?_) (fun c=>?_)
  ·exists⟨_,_,rfl,.inl ⟨_,SqL.of (k8 ef),rfl⟩,?_⟩;rw[length_map,fal];exists iteD (fun c2=>?_) (fun c2=>absurd (show(0:Int)<(fs.length:Int) by omega) c2);exists⟨.inl ⟨rfl,_,SqL.of (k8 ef)⟩,?_⟩;walk_at"g";have gpos:∀g∈gs,0<=g/\g<=10^60:=fun g hg=>by
    obtain⟨j,hj,rfl⟩:=mem_iff_getElem.mp hg;have:=D.g j (by omega);rw[getD_eq_getElem?_getD,List.getElem?_eq_getElem hj]at this;exact⟨Int.le_trans (by decide) this.1,this.2⟩
   have gmost:∀g∈gs,0<=g/\g<=most:=fun g hg=>by
    refine⟨(gpos g hg).1,?_⟩;obtain⟨j,hj,rfl⟩:=mem_iff_getElem.mp hg;have:=gm j (by omega);rw[getD_eq_getElem?_getD,List.getElem?_eq_getElem hj]at this;exact this
   refine⟨pg,gs,most,rfl,k8 eg,by omega,by omega,gmost,ms2,fun fa is H9 s9 hfa ff9 ine i8 ijl itot=>?_⟩;obtain⟨b,hb,ef9,eb9⟩:=ff9;have pre:PreN L M fs.length (.row is):=⟨ine,i8,fun j hj=>by have:=ijl j hj;omega⟩
   have ep9:=s9 _ _ ep8;have nbp:b≠p:=fun z=>by rw[z,ep8]at hb;cases hb
   have nfp:fa≠p:=fun z=>by rw[z,ep8]at hfa;cases hfa
   have n8:∀{c u x},H6 c=some u->H8 x=none->x≠c:=fun h hx z=>by rw[z,k8 h]at hx;cases hx
   have k9:∀{c u},H6 c=some u->H9 c=some u:=fun h=>s9 _ _ (k8 h)
   refine⟨pf,_,_,rfl,rfl,k9 ef,by rw[length_map];omega,?_⟩;have k10:∀c u,c≠pf->H9 c=some u->upd H9 pf (.lst (fas.map V.ref++[.ref fa])) c=some u:=fun c u hc h=>(jh hc).trans h
   have e10:upd H9 pf (.lst (fas.map V.ref++[.ref fa])) pf=some (.lst ((fas++[fa]).map V.ref)):=by rw[jr,map_append];rfl
   generalize upd H9 pf (.lst (fas.map V.ref++[.ref fa]))=H10 at k10 e10|-;have fa10:FnAt H10 fa (.row is):=⟨b,k10 _ _ (n8 ef hfa) ef9,k10 _ _ (n8 ef hb) eb9⟩
   have atl:atI ((fas++[fa]).map V.ref) (-1)=some (.ref fa):=by
    have i:ixN ((fas++[fa]).map V.ref).length (-1)=some fas.length:=by
     unfold ixN;simp;omega
    unfold atI;rw[i];simp
   have em10:=k10 _ _ nfm.symm (k9 em);have eg10:=k10 _ _ nfg.symm (k9 eg);have el10:=k10 _ _ (nf e2) (k9 (sm _ _ e2));have am10:ListsAt H10 mas M:=⟨aM.1,fun i a' ks h1 h2=>k10 _ _ (aM.2 i a' ks h1 h2).1 (k9 (aM.2 i a' ks h1 h2).2.2.2)⟩
   exists⟨.inl ⟨rfl,_,SqL.of em10⟩,?_⟩;exists ixLm (SqL.of e10) (atl) ?_;exists⟨fa,p2,pm,.row is,L,mas,M,rfl,fa10,el10,Lnd,em10,am10,fun ks h=>⟨(up ks h).1,(up ks h).2.1⟩,fun ks h=>(up ks h).2.2,i8,fun j hj=>by have:=ijl j hj;omega,(fun x h n e=>nomatch e),fun pk ks H11 s11 hpk e11 mv=>?_⟩;refine⟨pm,_,_,rfl,rfl,s11 _ _ em10,by rw[length_map];omega,?_⟩;have npk:pk≠pm:=fun z=>by rw[z,em10]at hpk;cases hpk
   have npkf:pk≠pf:=fun z=>by rw[z,e10]at hpk;cases hpk
   have npkg:pk≠pg:=fun z=>by rw[z,eg10]at hpk;cases hpk
   have ep10:=k10 _ _ (np ef).symm ep9;have npkp:pk≠p:=fun z=>by rw[z,ep10]at hpk;cases hpk
   have s12':∀c u,c≠pm->H10 c=some u->upd H11 pm (.lst (mas.map V.ref++[.ref pk])) c=some u:=fun c u hc h=>(jh hc).trans (s11 _ _ h)
   have e12':upd H11 pm (.lst (mas.map V.ref++[.ref pk])) pm=some (.lst ((mas++[pk]).map V.ref)):=by rw[jr,map_append];rfl
   have ek12:=(jh (o:=HO.lst (mas.map V.ref++[.ref pk])) npk).trans e11;generalize upd H11 pm (.lst (mas.map V.ref++[.ref pk]))=H12 at s12' e12' ek12|-;have ef12:=s12' _ _ nfm e10;have eg12:=s12' _ _ nmg.symm eg10;have k12:∀c u,c≠pf->c≠pm->H9 c=some u->H12 c=some u:=fun c u h1 h2 h=>s12' _ _ h2 (k10 _ _ h1 h)
   have fa12:FnAt H12 fa (.row is):=⟨b,k12 _ _ (n8 ef hfa) (n8 em hfa) ef9,k12 _ _ (n8 ef hb) (n8 em hb) eb9⟩
   exists⟨.inl ⟨rfl,_,SqL.of eg12⟩,?_⟩;exists ixLm (SqL.of ef12) (atl) ?_;exists⟨fa,pg,.row is,gs,rfl,fa12,eg12,i8,fun j hj=>by have:=ijl j hj;omega,(fun is' e=>nomatch e),(fun k j e=>nomatch e),gpos,fun g' H13 s13 lg'=>?_⟩;refine⟨pg,_,_,rfl,rfl,s13 _ _ eg12,by rw[length_map];omega,?_⟩;have g'1:=D.gpos pre lg';have g'2:g'<=most:=by have:g'=(is.map fun j=>gs.getD j 0).sum:=lg';omega
   have k14:∀c u,c≠pf->c≠pm->c≠pg->H9 c=some u->upd H13 pg (.lst (gs.map V.int++[.int g'])) c=some u:=fun c u h1 h2 h3 h=>(jh h3).trans (s13 _ _ (k12 _ _ h1 h2 h))
   refine⟨fas++[fa],mas++[pk],fs++[.row is],M++[ks],gs++[g'],y8,rfl,fun c u h=>k14 c u (nf h) (nm h) (ng h) (k9 (sm _ _ h)),(jh nfg).trans (s13 _ _ ef12),(jh nmg).trans (s13 _ _ e12'),by rw[jr,map_append];rfl,?_,?_,D.add pre mv lg' ⟨g'1,by omega⟩,by rw[List.length_append];show 1<=fs.length+1;omega,by rw[List.length_append];show fs.length+1<=16;omega,fun j hj=>?_,k14 _ _ (np ef).symm (np em).symm (np eg).symm ep9⟩
   ·refine All2.snoc (All2.mono aF fun c x h H'' xx=>h H'' fun c u h1 h2 h3 hc=>xx _ _ (np hc) (k14 _ _ h1 h2 h3 (k9 hc))) fun H'' xx=>?_
    exact⟨b,xx _ _ nfp (k14 _ _ (n8 ef hfa) (n8 em hfa) (n8 eg hfa) ef9),xx _ _ nbp (k14 _ _ (n8 ef hb) (n8 em hb) (n8 eg hb) eb9)⟩
   ·refine All2.snoc (All2.mono aM fun c x h=>⟨np h.2.2.2,k14 _ _ h.1 h.2.1 h.2.2.1 (k9 h.2.2.2)⟩) ⟨npkp,(jh npkg).trans (s13 _ _ ek12)⟩
   ·by_cases z:j<fs.length
    ·rw[qP (by omega)];exact gm j z
    ·have:j=gs.length:=by rw[List.length_append]at hj;simp at hj;omega
     subst this;rw[QV];exact g'2
  ·exists iteF ?_;walk_at"g";exact⟨fas0,mas0,fs0,M0,gs0,y0',rfl,st1,st2⟩
 rintro σ' H8 ⟨fas,mas,fs,M,gs,y8,rfl,sm8,ef,em,eg,aF,aM,D,f1,f16,gm,ep8⟩;have n2p:∀{c u},H2 c=some u->c≠p:=fun h=>np (sm _ _ h)
 have fal:=aF.1;exists⟨_,_,rfl,.inl ⟨_,SqL.of (sm8 _ _ e2),rfl⟩,?_⟩;rw[length_map,Ll];exists⟨_,rfl,by omega,by omega,?_⟩;refine JX (fun i ys H'=>∃(hs:List Int) (y:Int),ys=hs.map V.int/\hs.length=i/\(∀h∈hs,0<=h/\h<=10^18)/\Ex p H8 H'/\H' p=some (.lst [.int y])) ⟨[],y8,rfl,rfl,(fun h hh=>nomatch hh),.refl _,ep8⟩ ?_ ?_
 ·rintro i ys H' hi ⟨hs,y,rfl,hl,hb,xx,epx⟩;refine Jc (σ':=[none,some _,some _]) rfl ?_;exists iteT ?_;exists⟨(by show 2<=sizeLine;omega),?_⟩;walk_at"f b hb' H9 s9 t9";walk_at"g";obtain⟨mo,amo,hmo⟩:=at2 (a:=9) (b:=10^18+1) (show 0<=ff/8%2 by omega) (by omega);refine ixLm (SqL.of t9) (amo) ?_;exists⟨p,y,mo,rfl,s9 _ _ epx,by omega,by omega,fun r y10 H10 r0 r1 x10 ep10=>?_⟩;refine⟨by rw[length_map];omega,hs++[r],y10,by rw[map_append];rfl,by rw[List.length_append,hl];rfl,fun h hh=>?_,xx.trans ((Ex.of s9).trans x10),ep10⟩;rcases mem_append.mp hh with z | z
  ·exact hb h z
  ·rw[mem_singleton.mp z];omega
 rintro ys H9 ⟨hs,y9,rfl,hl,hb,x9,ep9⟩
 replace hl:hs.length=mm:=by omega
 refine⟨by rw[length_map];omega,?_⟩;walk_at"f ph hph H10 s10 e10";have x10:Ex p H8 H10:=x9.trans (.of s10);have k10:∀{c u},H2 c=some u->H10 c=some u:=fun h=>x10 _ _ (n2p h) (sm8 _ _ h)
 have aF10:All2 (FnAt H10) fas fs:=All2.mono aF fun c f h=>h H10 x10
 have aM10:ListsAt H10 mas M:=All2.mono aM fun c ks h=>x10 _ _ h.1 h.2
 have ef10:=x10 _ _ (np ef6) ef;have em10:=x10 _ _ (np em6) em;have eg10:=x10 _ _ (np eg6) eg;clear aF aM ef em eg;exists⟨_,_,rfl,.inl ⟨_,SqL.of ef10,rfl⟩,?_⟩;rw[length_map,fal];exists⟨_,rfl,by omega,by omega,?_⟩;have fget:∀i,i<fs.length->fs[i]?=some (fs.getD i (.hold 0)):=fun i h=>by
  rw[getD_eq_getElem?_getD,List.getElem?_eq_getElem h];rfl
 refine JX (fun i ys H'=>∃pas:List Addr,ys=pas.map V.ref/\pas.length=i/\Same H10 H'/\All2 (PartAt H') pas ((List.range i).map fun i=>(ws.getD i ⟨#[]⟩,toldF ws (fs.getD i (.hold 0))))) ⟨[],rfl,rfl,Same.refl _,.nil⟩ ?_ ?_
 ·rintro i ys H' hi ⟨pas,rfl,pl,sx,aP⟩;have hi:i<fs.length:=by omega
  obtain⟨fa,efa,hfa⟩:=aF10.get (fget i hi);have js:=(D.f i _ (fget i hi)).1.js;refine Jc (σ':=[none,some _,some _]) rfl ?_;exists iteT ?_;exists ixLm (SqL.of (sx _ _ (k10 e12))) (Rm.jO (i:=i) (show(ws.map V.str)[i]?=some (.str (ws.getD i ⟨#[]⟩)) by rw[List.getElem?_map,wsat (by omega)];rfl)) ?_;exists ixLm (SqL.of (sx _ _ ef10)) (jY (i:=0+(i:Int)) (by omega) (by rw[show(0+(i:Int)).toNat=i by omega];exact efa)) ?_;exists⟨fa,p1,_,ws,rfl,FnAt.same sx hfa,sx _ _ (k10 e12),js.1,fun j hj=>by have:=js.2 j hj;omega,fun b H11 s11 hb11=>?_⟩;exists⟨(by show 2<=sizeLine;omega),?_⟩;walk_at"f c hc H12 s12' e12'";refine⟨by rw[length_map];omega,pas++[c],by rw[map_append];rfl,by rw[List.length_append,pl];rfl,sx.trans (s11.trans s12'),?_⟩;rw[range_succ,map_append];exact All2.snoc (All2.mono aP fun c x h=>PartAt.same (s11.trans s12') h) ⟨b,e12',FormAt.same s12' hb11⟩
 rintro ys H11 ⟨pas,rfl,pl,s11,aP⟩;have pl:pas.length=fs.length:=by omega
 rw[Int.toNat_natCast]at aP;refine⟨by rw[length_map];omega,?_⟩;walk_at"f pp hpp H12 s12' e12'";have s1012:=s11.trans s12';exists⟨p2,ph,_,_,rfl,SqL.of (s1012 _ _ (k10 e2)),SqL.of (s1012 _ _ e10),by rw[length_map,length_map];omega,fun pl' las H13 s13 hpl e13 lal hz=>?_⟩;exists⟨(by show 2<=sizeLine;omega),?_⟩;walk_at"f pb hpb H14 s14 e14";exists⟨(by show 4<=sizeLine;omega),?_⟩;walk_at"f pr hpr H15 s15 e15";have s1015:=s1012.trans (s13.trans (s14.trans s15));have llz:(L.zip hs).length=mm:=by rw[List.length_zip];omega
 have nmz:nmsOf (L.zip hs)=L:=by
  unfold nmsOf;rw[List.map_fst_zip];omega
 have B:BookAt H15 pb pl' pp las pas (L.zip hs) (drawnPs ws fs):=by
  refine⟨s15 _ _ e14,s15 _ _ (s14 _ _ e13),⟨by rw[lal,length_map];omega,fun i c x h1 h2=>?_⟩,s15 _ _ (s14 _ _ (s13 _ _ e12')),All2.mono aP fun c x h=>PartAt.same (s12'.trans (s13.trans (s14.trans s15))) h⟩;rw[List.getElem?_zip_eq_some]at h2;exact s15 _ _ (s14 _ _ (hz i c (.str x.1) (.int x.2) h1 (by rw[List.getElem?_map,h2.1];rfl) (by rw[List.getElem?_map,h2.2];rfl)))
 refine q pr pb pl' pp pf pm pg las pas fas mas ws (L.zip hs) fs M gs H15 (fun c u h=>s1015 _ _ (k10 (s12 _ _ h))) e15 B (s1015 _ _ ef10) (All2.mono aF10 fun c f h=>FnAt.same s1015 h) (s1015 _ _ em10) (All2.mono aM10 fun c ks h=>s1015 _ _ h) (s1015 _ _ eg10) wl wd ww f1 f16 (by rw[nmz];exact D) (by rw[nmz];exact Lnd) (by omega) (by omega) (fun x hx=>hb _ (of_mem_zip hx).2) gm
theorem kO(T:Txt K mg t):FnOk P w K mg base CX0 1 t.qB t.qI ["_law_found","_law_due"] (sp_oalike):=by
 refine T.zw.ok zg (fun vs H Q E h=>?_) (fun cdv A outer s H vs Q E hr h=>?_)
 ·cases h;subst_vars;rfl
 obtain⟨l1,l2,xs,rfl,e1,e2,hx,h150,q⟩:=h;refine⟨_,(jb (jS (PW.pt (ko (Yb (ZQ (jy zZ (by rfl) T.qH qg (ja (pv 0) (ja (yu (v:=.ty "list") (by rfl) T.zY Q2 rfl) jc))))) (Yd (jt X8 (jy jJ (by rfl) T.JW Jj (ja (pv 0) jc)) (jy jJ (by rfl) T.JW Jj (ja (pv 1) jc)) (nomark _)))))
   (jf (jw Yr))
   ju)
  (jb (j7 PassesOwn.never rfl (Xp (by rfl) T.XM (ja (pv 0) (ja (pv 1) jc))) (Jz rfl (jq (jk (i:=2) zg.nd rfl (.inl rfl)) (jq (jk (i:=3) zg.nd rfl (.inl rfl)) jZ)))
   (jf (jS (ZQ (jy zZ (by rfl) T.qH qg (ja (pv 3) (ja (yu (v:=.ty "str") (by rfl) T.j3n j13 rfl) jc))))
    (jf (jS (PW.pt (ko (Yb (ZQ (jy zZ (by rfl) T.qH qg (ja (pv 2) (ja (yu (v:=.ty "str") (by rfl) T.j3n j13 rfl) jc))))) (Yd (jt X8 (pv 2) (pv 3) (nomark _)))))
     (jf (jw Yr))
     ju))
    (jf (jS (PW.pt (ko (Yb (ZQ (jy zZ (by rfl) T.qH qg (ja (pv 2) (ja (yu (v:=.ty "int") (by rfl) T.j4j j3G rfl) jc))))) (ko (ZQ (jy zZ (by rfl) T.qH qg (ja (pv 2) (ja (yu (v:=.ty "bool") (by rfl) T.j3B j2A rfl) jc)))) (Yd (jt X8 (pv 2) (pv 3) (nomark _))))))
     (jf (jw Yr))
     ju)))))
  (jf (jw Yr)))),?_⟩
 refine jx (σ':=[some _,some _,none,none]) rfl ?_;have sz:(200:Nat)<sizeLine:=by decide
 exists⟨_,_,_,_,rfl,.lst e1,WK,?_⟩;exists iteF ?_;exists⟨_,_,rfl,.inl ⟨_,SqL.of e1,rfl⟩,?_⟩;exists⟨_,_,rfl,.inl ⟨_,SqL.of e2,rfl⟩,?_⟩;exists iteN (fun z=>absurd rfl z) (fun _=>?_);exists⟨l1,l2,_,_,rfl,SqL.of e1,SqL.of e2,?_⟩;refine XV (xs:=xs) (ys:=xs) (fun i σ H'=>∃(o2 o3:Option V),σ=[some (.ref l1),some (.ref l2),o2,o3]/\Same H H') rfl ⟨_,_,rfl,Same.refl _⟩ ?_ ?_ ?_
 ·rintro i σ H' _ ⟨o2,o3,rfl,sm⟩;exact⟨SqL.of (sm _ _ e1),SqL.of (sm _ _ e2)⟩
 ·rintro i u v σ H' P H4 hu hv ⟨o2,o3,rfl,sm⟩ sP tP;have euv:u=v:=Option.some.inj (hu.symm.trans hv);subst euv;refine JV (SqT.of tP) ?_;walk_at"g";rcases hx u (List.mem_of_getElem? hu)with⟨i,rfl⟩ | ⟨z,rfl⟩
  ·refine⟨_,_,_,_,rfl,.int _,j0n,?_⟩;exists iteF ?_;exists⟨_,_,_,_,rfl,.int _,j0m,?_⟩;exists iteF ?_;exists⟨_,_,_,_,rfl,.int _,xR,?_⟩;exists iteF ?_;exists iteN (fun z=>absurd rfl z) (fun _=>?_);walk_at"g";exact⟨_,_,rfl,sm.trans sP⟩
  ·refine⟨_,_,_,_,rfl,.str _,Ku,?_⟩;exists iteT ?_;exists⟨_,_,_,_,rfl,.str _,Ku,?_⟩;exists iteF ?_;exists iteN (fun z=>absurd rfl z) (fun _=>?_);walk_at"g";exact⟨_,_,rfl,sm.trans sP⟩
 rintro σ' H' ⟨o2,o3,rfl,sm⟩;walk_at"g";exact q _ sm
theorem j3U(T:Txt K mg t)(YC:FnOk P w K mg base CX0 8 t.Z4 t.yf ["book","beat"] (sp_standG))(YB:FnOk P w K mg base CX0 8 t.Z3 t.ye ["book","beat"] (sp_ringsG))(xC:FnOk P w K mg base CX0 6 t.YW t.Y2 ["book"] (sp_told))(Jt:FnOk P w K mg base CX0 1 t.qt t.qw ["_law_script","_law_k"] (sp_cellC K))(zQ:FnOk P w K mg base CX0 3 t.Qf t.Qm ["_law_script","_law_many","_law_pace","_law_most"] (sp_bookD K))(Qy:FnOk P w K mg base CX0 1 t.qB t.qI ["_law_found","_law_due"] (sp_oalike)):FnOk P w K mg base CX0 9 t.XJ t.WB ["_law_script"] (Pr.sp_law K):=by
 refine T.j3k.ok qf (fun vs H Q E h=>?_) (fun cdv A outer s H vs Q E hr h=>?_)
 ·cases h;subst_vars;rfl
 obtain⟨a,ns,rfl,hS,h63,hB,q⟩:=h;refine⟨_,(jb (jm (i:=1) qf.nd rfl (.inl rfl) (jy (j0e rfl) (by rfl) T.j11 xH (ja jd (ja (jy (Kj rfl) (by rfl) T.j3m j12 (ja jd (ja (jp JZ (jp Qw (jy jJ (by rfl) T.JW Jj (ja (pv 0) jc)) jd) jd) jc))) jc))))
  (jb (km (jn (zQ.mono (by decide)) hr (by rfl) T.WO T.Yh.kp T.Wm .nil pass0 (ja (pv 0) (ja (pv 1) (ja jd (ja jd jc))))) (j36 rfl (jq (jk (i:=2) qf.nd rfl (.inl rfl)) (jq (jk (i:=3) qf.nd rfl (.inl rfl)) (jq (jk (i:=4) qf.nd rfl (.inl rfl)) (jq (jk (i:=5) qf.nd rfl (.inl rfl)) jZ))))))
  (jb (jm (i:=6) qf.nd rfl (.inl rfl) (Ja (ja (QM QB (by rfl) T.zY Q2 (ja (ji jo (pv 2) jd) jc)) (ja (QM QB (by rfl) T.zY Q2 (ja (ji jo (pv 2) jd) jc)) jc))))
  (jb (jm (i:=7) qf.nd rfl (.inl rfl) (jn (xC.mono (by decide)) hr (by rfl) T.j3S T.j0Y.kp T.j3u .nil pass0 (ja (pv 2) jc)))
  (jb (jS (jt X8 (jy jJ (by rfl) T.JW Jj (ja (pv 7) jc)) (jp jQ (ji jv (pv 5) (zo qZ jd)) jd) (nomark _))
   (jf (jw Yr))
   ju)
  (jb (jm (i:=8) qf.nd rfl (.inl rfl) (Xl rfl (by rfl) T.zY (by rfl) T.J1 (ja (jy jJ (by rfl) T.JW Jj (ja (pv 7) jc)) jc)))
  (jb (ze (jt Jn (jp Jp (jn (Jt.mono (by decide)) hr (by rfl) T.Qt T.qp.kp T.Qd .nil pass0 (ja (pv 0) (ja jd jc))) jd) jd (nomark _))
   (jf (jm (i:=8) qf.nd rfl (.inl rfl) (Xk rfl (by rfl) T.zY (by rfl) T.xG (ja (pv 8) jc))))
   ju)
  (jb (j7 PassesOwn.never rfl (jG (pv 8)) (jk (i:=9) qf.nd rfl (.inl rfl))
   (jb (km (ji jv (pv 7) (pv 9)) (Jz rfl (jq (jk (i:=10) qf.nd rfl (.inl rfl)) (jq (jk (i:=11) qf.nd rfl (.inl rfl)) jZ))))
   (jb (jm (i:=12) qf.nd rfl (.inl rfl) (jn (YC.mono (by decide)) hr (by rfl) T.X3 T.KZ.kp T.XE .nil pass0 (ja (pv 6) (ja (pv 9) jc))))
   (jb (jS (Yb (ZQ (jn (Qy.mono (by decide)) hr (by rfl) T.ym T.zw.kp T.ZU .nil pass0 (ja (pv 12) (ja (pv 10) jc)))))
    (jf (jw Yr))
    ju)
   (jb (jB (Jf PySem.F.plainAttrs_list PySem.F.slot_list_append PySem.F.type_list_append jA (pv 12) (ja jd jc)))
   (jb (jm (i:=12) qf.nd rfl (.inl rfl) (jn (YB.mono (by decide)) hr (by rfl) T.X2 T.KY.kp T.XD .nil pass0 (ja (pv 6) (ja (pv 9) jc))))
   (jb (jS (Yb (ZQ (jn (Qy.mono (by decide)) hr (by rfl) T.ym T.zw.kp T.ZU .nil pass0 (ja (pv 12) (ja (pv 11) jc)))))
    (jf (jw Yr))
    ju)
   (jf (jB (Jf PySem.F.plainAttrs_list PySem.F.slot_list_append PySem.F.type_list_append jA (pv 12) (ja jL jc)))))))))))
  (jb (jm (i:=13) qf.nd rfl (.inl rfl) (jp JZ (jy jJ (by rfl) T.JW Jj (ja (pv 7) jc)) jd))
  (jf (jw (j1O (wU (j3W hr.units) (pv 6) (pv 2) (nomark _)) (j1O (wU (j1M hr.units) (jn (YC.mono (by decide)) hr (by rfl) T.X3 T.KZ.kp T.XE .nil pass0 (ja (pv 6) (ja (pv 13) jc))) (ji jo (ji jv (pv 7) (pv 13)) jd) (nomark _)) (j41 (wU (j1M hr.units) (jn (YB.mono (by decide)) hr (by rfl) T.X2 T.KY.kp T.XD .nil pass0 (ja (pv 6) (ja (pv 13) jc))) (ji jo (ji jv (pv 7) (pv 13)) jd) (nomark _)))))))))))))))),?_⟩
 refine jx (σ':=[some _,none,none,none,none,none,none,none,none,none,none,none,none,none]) rfl ?_;have sz:(100000:Nat)<sizeLine:=by decide
 exists⟨_,_,rfl,.inl ⟨_,hS,rfl⟩,?_⟩;rw[length_map];exists⟨_,_,rfl,?_⟩;exists⟨_,_,rfl,?_⟩;obtain⟨many,hm,m1,m15⟩:∃many:Int,(if(if((ns.length:Int)-3)/2<15 then((ns.length:Int)-3)/2 else 15)>1 then(if((ns.length:Int)-3)/2<15 then((ns.length:Int)-3)/2 else 15)else 1)=many/\1<=many/\many<=15:=by
  refine⟨_,rfl,?_,?_⟩
  ·split<;>omega
  ·split
   ·split<;>omega
   ·omega
 rw[hm];exists⟨a,ns,_,_,_,rfl,hS,h63,m1,m15,by decide,by decide,by decide,by decide,fun r b pl pp pf pm pg las pas fas mas names ls fs M gs H2 s2 er B ef af em am eg nl nd _ f1 f16 D lnd l1 l8 lh gm=>?_⟩;have hS2:=s2.seq hS;have nml:(nmsOf ls).length=ls.length:=length_map _;have X:BkD (nmsOf ls) names fs M gs:=⟨D,by omega,nd,lnd,by omega,f16⟩
 have gl:=D.gl;have lal:=B.la.1;have pal:=B.pa.1;have dl:(drawnPs names fs).length=fs.length:=Jq;obtain⟨k,hk,kl⟩:∃k:Nat,fs.length-1=k/\k<fs.length:=⟨_,rfl,by omega⟩
 have gk:=D.g k kl;have g40:gs.getD k 0<=40:=gm k kl;have hb:Rm.hB (ls.map (·.2)):=fun x hx=>by
  obtain⟨p,hp,rfl⟩:=mem_map.mp hx;exact lh p hp
 have hhl:(ls.map (·.2)).length=(nmsOf ls).length:=by rw[nml,length_map]
 have tk:(drawnPs names fs).take (k+1)=drawnPs names fs:=by rw[take_of_length_le (by omega)]
 have tg:gs.take (k+1)=gs:=by rw[take_of_length_le (by omega)]
 have tM:M.take (k+1)=M:=by rw[take_of_length_le (by have:=D.ml;omega)]
 have zl:(nmsOf ls).zip (ls.map (·.2))=ls:=by
  unfold nmsOf;rw[List.zip_map'];exact map_id _
 have N:=X.take kl hhl hb;rw[tk,tg,tM,zl]at N;obtain⟨lb,lok⟩:=j3h X rfl lh kl (by omega);have glast:atI (gs.map V.int) (-1)=some (.int (gs.getD k 0)):=by rw[<-hk,<-gl];exact YD (by omega) rfl
 refine j47 (SqL.of er) ?_;exists ixTm (SqT.of B.t) rfl ?_;exists⟨pl,_,rfl,.inl (SqL.of B.l),?_⟩;walk_at"f 3 t";exists ixTm (SqT.of (s3 _ _ B.t)) rfl ?_;exists⟨pp,_,rfl,.inl (SqL.of (s3 _ _ B.p)),?_⟩;walk_at"f 4 t";exists⟨(by show 2<=sizeLine;omega),?_⟩;walk_at"f 5 t";have s25:=s3.trans (s4.trans s5);have n3:p3≠pl:=(je B.l hp3).symm;have n4:p4≠pp:=(je (s3 _ _ B.p) hp4).symm;have B5:=B.same s25;have BH:BookAt H5 p5 p3 p4 las pas ls (drawnPs names fs):=⟨t5,s5 _ _ (s4 _ _ t3),B5.la,s5 _ _ t4,B5.pa⟩
 exists⟨b,pl,pp,las,pas,ls,_,gs,M,rfl,B5,N,by rw[dl,hk];omega,by rw[dl,hk];exact lb,by rw[dl,hk];exact lok,fun l6 as6 _ _ H6 s6 hl6 e6 ra _=>?_⟩;rw[dl,hk]at ra;have rl:(rowsT ls (lvF (drawnPs names fs) (LV (drawnPs names fs) gs k 0)) (gs.getD k 0)).length=(gs.getD k 0+1).toNat:=by unfold rowsT;rw[length_map,length_range]
 have al:=ra.1;have s26:=s25.trans s6;have BH6:=BH.same s6;have row:∀(E:List (List (Int×Int))),EN (nmsOf ls) fs (k+1) E->∀(u:Nat) (x:Addr),(u:Int)<=gs.getD k 0->as6[u]?=some x->RowAt H6 x (plN (nmsOf ls) names fs gs E k u (ls.map (·.2)),rgN names fs gs k u):=fun E hE u x hu hx=>ra.2 u x _ hx (xp X rfl kl (Nat.lt_succ_self k) (by omega) hE hu)
 have rowW:∀(u:Nat) (x:Addr),as6[u]?=some x->∃p1 p2 R W,H6 x=some (.tup [.ref p1,.ref p2])/\H6 p1=some (.lst (R.map V.int))/\H6 p2=some (.lst (W.map V.str))/\((u:Int)<=gs.getD k 0->∀(E:List (List (Int×Int))),EN (nmsOf ls) fs (k+1) E->R=plN (nmsOf ls) names fs gs E k u (ls.map (·.2))/\W=rgN names fs gs k u):=fun u x hx=>by
  have ul:=(List.getElem?_eq_some_iff.mp hx).1;obtain⟨rr,hr⟩:∃rr,(rowsT ls (lvF (drawnPs names fs) (LV (drawnPs names fs) gs k 0)) (gs.getD k 0))[u]?=some rr:=⟨_,List.getElem?_eq_getElem (by omega)⟩
  obtain⟨p1,p2,h1,h2,h3⟩:=ra.2 u x rr hx hr;refine⟨p1,p2,rr.1,rr.2,h1,h2,h3,fun hu E hE=>?_⟩;rw[xp X rfl kl (Nat.lt_succ_self k) (by omega) hE hu]at hr;cases hr;exact⟨rfl,rfl⟩
 clear row;have st:∀(E4:List (List (Int×Int))) (t:Int),0<=t->E4.length=(drawnPs names fs).length->EndOk ls (drawnPs names fs) E4->EN (nmsOf ls) fs (k+1) E4/\standH ls (drawnPs names fs) gs E4 t=plN (nmsOf ls) names fs gs E4 k t (ls.map (·.2)):=fun E4 t t0 lE oE=>by
  have eN:EN (nmsOf ls) fs (k+1) E4:=EN.of X.D X.hnm X.nd (by omega) rfl (by rw[<-QT,tk];exact lE) (by rw[<-QT,tk];exact oE);have:=(X.st (t:=t) kl hhl t0 (E:=E4) (by rw[tk];exact lE) (by rw[tk,zl];exact oE)).2.2 (k+1) E4 (by omega) (by omega) eN;rw[tk,tg,zl]at this;exact⟨eN,this⟩
 have rgE:∀t,ringsW (drawnPs names fs) gs t=rgN names fs gs k t:=fun t=>by
  have:=X.rg (t:=t) kl;rw[tk,tg]at this;exact this
 exists⟨_,_,rfl,.inl ⟨_,SqL.of e6,rfl⟩,?_⟩;rw[length_map,al,rl];exists ixLm (SqL.of (s26 _ _ eg)) (glast) ?_;exists iteN (fun z=>absurd (by omega) z) (fun _=>?_);exists j4r ?_;exists⟨_,_,rfl,.inl ⟨_,SqL.of e6,rfl⟩,?_⟩;rw[length_map,al,rl];exists⟨_,rfl,by omega,?_⟩;walk_at"f 7 t";exists⟨fun σ' H'=>∃(p8:Addr) (us:List Nat) (o9 o10 o11 o12 o13:Option V),σ'=[some (.ref a),some (.int many),some (.ref b),some (.ref pf),some (.ref pm),some (.ref pg),some (.ref p5),some (.ref l6),some (.ref p8),o9,o10,o11,o12,o13]/\Same H6 H'/\H' p8=some (.lst (us.map fun u:Nat=>V.int (u:Nat)))/\∀u∈us,(u:Int)<=gs.getD k 0,?_,?_⟩
 rotate_left
 ·exists⟨a,ns,_,rfl,s7.seq (s26.seq hS2),h63,by omega,by omega,fun c _=>?_⟩;exists iteD (fun _=>?_) (fun _=>?_)
  ·exists j4s ?_;exists⟨p7,_,rfl,SqL.of t7,?_⟩;walk_at"f 8 t";exists⟨p8,(List.range (gs.getD k 0+1).toNat).reverse,_,_,_,_,_,rfl,s7.trans s8,by rw[t8,map_reverse],fun u hu=>?_⟩;have:=mem_range.mp (List.mem_reverse.mp hu);omega
  ·exists⟨p7,List.range (gs.getD k 0+1).toNat,_,_,_,_,_,rfl,s7,t7,fun u hu=>?_⟩;have:=mem_range.mp hu;omega
 rintro _ H8 ⟨p8,us,o9,o10,o11,o12,o13,rfl,s8,t8,hus⟩;exists⟨p8,rfl,⟨_,SqL.of t8⟩,?_⟩;refine j9 (xs:=us.map fun u:Nat=>V.int (u:Nat)) (fun _ σ H'=>∃(o9 o10 o11 o12 o13:Option V),σ=[some (.ref a),some (.int many),some (.ref b),some (.ref pf),some (.ref pm),some (.ref pg),some (.ref p5),some (.ref l6),some (.ref p8),o9,o10,o11,o12,o13]/\Same H8 H') ⟨_,_,_,_,_,rfl,Same.refl _⟩ ?_ ?_ ?_
 ·rintro i σ H' _ ⟨o9,o10,o11,o12,o13,rfl,sm⟩;exact SqL.of (sm _ _ t8)
 ·rintro i v σ H' hv ⟨o9,o10,o11,o12,o13,rfl,sm⟩;rw[List.getElem?_map]at hv;obtain⟨u,hu,rfl⟩:=Option.map_eq_some_iff.mp hv;have ug:=hus u (List.mem_of_getElem? hu);obtain⟨x,hx⟩:∃x,as6[u]?=some x:=⟨_,List.getElem?_eq_getElem (by omega)⟩
  obtain⟨p1,p2,R,W,h1,h2,h3,hRW⟩:=rowW u x hx;have hRW:=hRW ug;have s6m:=s8.trans sm;exists ixLm (SqL.of (s6m _ _ e6)) (jY (i:=(u:Int)) (by omega) hx) ?_;refine JV (SqT.of (s6m _ _ h1)) ?_;exists⟨p5,p3,p4,las,pas,_,_,_,_,_,rfl,BH6.same s6m,N,by omega,by rw[dl,hk];exact ug,fun l4 E4 H9 s9 hl4 lE oE e4 ll4=>?_⟩;obtain⟨eN,eS⟩:=st E4 u (by omega) lE oE;rw[eS,<-(hRW E4 eN).1]at e4 ll4;have eW:=(hRW E4 eN).2;have s69:=s6m.trans s9;exists⟨l4,p1,_,rfl,e4,s69 _ _ h2,fun x hx=>?_,by rw[length_map];omega,fun H10 s10=>?_⟩
  ·obtain⟨i,_,rfl⟩:=mem_map.mp hx;exact .inl ⟨i,rfl⟩
  exists iteF ?_;exists⟨.inl ⟨rfl,_,SqL.of (s10 _ _ e4)⟩,?_⟩;exists⟨l4,_,_,rfl,rfl,s10 _ _ e4,by rw[length_map];omega,?_⟩;have sA:Same H8 (upd H10 l4 (.lst (R.map V.int++[.int 0]))):=fun c u h=>(jh (je (sm _ _ h) hl4)).trans (s10 _ _ (s9 _ _ (sm _ _ h)))
  generalize upd H10 l4 (.lst (R.map V.int++[.int 0]))=HA at sA|-;have s6A:=s8.trans sA;exists⟨p5,p3,p4,las,pas,_,_,_,_,_,rfl,BH6.same s6A,N,by omega,by rw[dl,hk];exact ug,fun l5 HB sB hl5 e5 ll5=>?_⟩;rw[rgE,<-eW]at e5 ll5;exists⟨l5,p2,_,rfl,e5,sB _ _ (s6A _ _ h3),fun x hx=>?_,by rw[length_map];omega,fun HC sC=>?_⟩
  ·obtain⟨i,_,rfl⟩:=mem_map.mp hx;exact .inr ⟨i,rfl⟩
  exists iteF ?_;exists⟨.inl ⟨rfl,_,SqL.of (sC _ _ e5)⟩,?_⟩;exists⟨l5,_,_,rfl,rfl,sC _ _ e5,by rw[length_map];omega,?_⟩;exact⟨_,_,_,_,_,rfl,fun c u h=>(jh (je (sA _ _ h) hl5)).trans (sC _ _ (sB _ _ (sA _ _ h)))⟩
 ·rintro σ' H9 ⟨o9,o10,o11,o12,o13,rfl,sm⟩;have s69:=s8.trans sm;exists⟨_,_,rfl,.inl ⟨_,SqL.of (s69 _ _ e6),rfl⟩,?_⟩;rw[length_map,al,rl];walk_at"g";obtain⟨u,hu,ug⟩:∃u:Nat,(((gs.getD k 0+1).toNat:Nat):Int)/2=(u:Int)/\(u:Int)<=gs.getD k 0:=⟨((gs.getD k 0+1).toNat/2),by omega,by omega⟩
  rw[hu];obtain⟨x,hx⟩:∃x,as6[u]?=some x:=⟨_,List.getElem?_eq_getElem (by omega)⟩
  obtain⟨p1,p2,R,W,h1,h2,h3,hRW⟩:=rowW u x hx;have hRW:=hRW ug;have s59:=s6.trans s69;refine⟨p5,b,p3,p4,pl,pp,las,pas,rfl,rfl,SqT.of (s59 _ _ t5),SqT.of (s59 _ _ (s25 _ _ B.t)),SqL.of (s59 _ _ BH.l),SqL.of (s59 _ _ B5.l),SqL.of (s59 _ _ BH.p),SqL.of (s59 _ _ B5.p),n3,n4,?_⟩;exists iteT ?_;exists⟨p5,p3,p4,las,pas,_,_,_,_,_,rfl,BH.same s59,N,by omega,by rw[dl,hk];exact ug,fun l4 E4 HA sA hl4 lE oE e4 ll4=>?_⟩;obtain⟨eN,eS⟩:=st E4 u (by omega) lE oE;rw[eS,<-(hRW E4 eN).1]at e4;have eW:=(hRW E4 eN).2;have s6A:=s69.trans sA;exists ixLm (SqL.of (s6A _ _ e6)) (jY (i:=(u:Int)) (by omega) hx) ?_;exists ixTm (SqT.of (s6A _ _ h1)) rfl ?_;refine⟨l4,p1,_,rfl,rfl,SqL.of e4,SqL.of (s6A _ _ h2),fun v hv=>?_,?_⟩
  ·obtain⟨i,_,rfl⟩:=mem_map.mp hv;exact .inl ⟨i,rfl⟩
  exists iteT ?_;exists⟨p5,p3,p4,las,pas,_,_,_,_,_,rfl,(BH.same s59).same sA,N,by omega,by rw[dl,hk];exact ug,fun l5 HB sB hl5 e5 ll5=>?_⟩;rw[rgE,<-eW]at e5;have s6B:=s6A.trans sB;exists ixLm (SqL.of (s6B _ _ e6)) (jY (i:=(u:Int)) (by omega) hx) ?_;exists ixTm (SqT.of (s6B _ _ h1)) rfl ?_;refine⟨l5,p2,_,rfl,rfl,SqL.of e5,SqL.of (s6B _ _ h3),fun v hv=>?_,?_⟩
  ·obtain⟨i,_,rfl⟩:=mem_map.mp hv;exact .inr ⟨i,rfl⟩
  exact q _
theorem j2v(T:Txt K mg t):FnOk P w K mg base CX0 9 t.XJ t.WB ["_law_script"] (Pr.sp_law K):=by
 have jR:FnOk P w K mg base CX0 1 t.Ju t.Jv _ _:=kU T;have ZJ:FnOk P w K mg base CX0 1 t.QO t.QQ _ _:=W0 T;have QA:FnOk P w K mg base CX0 2 t.zC t.zD _ _:=j1H T jR ZJ;have yK:FnOk P w K mg base CX0 3 t.yM t.yR _ _:=j2X T jR QA;have K2:FnOk P w K mg base CX0 4 t.Z2 t.yd _ _:=j1I T yK;have zA:FnOk P w K mg base CX0 1 t.qF t.qM _ _:=kS T;have zU:FnOk P w K mg base CX0 1 t.Qk t.Qr _ _:=wN T;have QI:FnOk P w K mg base CX0 5 t.QJ t.QK _ _:=Xf T QA K2 zA zU;have zV:FnOk P w K mg base CX0 1 t.Ql t.Qs _ _:=wP T;have qr:FnOk P w K mg base CX0 3 t.qv t.qy _ _:=wQ T QA zV;have Jg:FnOk P w K mg base CX0 6 t.j4 t.Jh _ _:=yq T jR yK QI qr;have yL:FnOk P w K mg base CX0 1 t.yN t.yS _ _:=j2Y T;have ZK:FnOk P w K mg base CX0 1 t.QP t.QR _ _:=W1 T;have YU:FnOk P w K mg base CX0 2 t.zX t.Zb _ _:=j0D T ZK;have JP:FnOk P w K mg base CX0 3 t.JQ t.JR _ _:=kf T YU;have ql:FnOk P w K mg base CX0 4 t.Ji t.Jk _ _:=ZE T yL JP;have YC:FnOk P w K mg base CX0 8 t.Z4 t.yf _ _:=j1K T Jg ql;have qU:FnOk P w K mg base CX0 4 t.JD t.JF _ _:=yr T JP;have YB:FnOk P w K mg base CX0 8 t.Z3 t.ye _ _:=j1J T Jg qU;have YT:FnOk P w K mg base CX0 1 t.zW t.Za _ _:=j0C T;have K0:FnOk P w K mg base CX0 4 t.Z0 t.ya _ _:=j1F T qr YT;have K4:FnOk P w K mg base CX0 1 t.YV t.Y1 _ _:=j2Z T;have K1:FnOk P w K mg base CX0 2 t.Z1 t.yc _ _:=j1G T yL;have zB:FnOk P w K mg base CX0 3 t.qG t.qN _ _:=kT T jR K4 K1;have Qv:FnOk P w K mg base CX0 1 t.JM t.JN _ _:=yZ T;have xC:FnOk P w K mg base CX0 6 t.YW t.Y2 _ _:=j30 T QI K0 zB Qv;have Jt:FnOk P w K mg base CX0 1 t.qt t.qw _ _:=wH T;have zz:FnOk P w K mg base CX0 1 t.qE t.qL _ _:=kR T;have Qz:FnOk P w K mg base CX0 1 t.qD t.qK _ _:=kQ T;have Qe:FnOk P w K mg base CX0 1 t.Qh t.Qo _ _:=wJ T;have QZ:FnOk P w K mg base CX0 1 t.Qj t.Qq _ _:=wL T;have jz:FnOk P w K mg base CX0 1 t.qu t.qx _ _:=wM T;have zy:FnOk P w K mg base CX0 1 t.qC t.qJ _ _:=kP T;have zR:FnOk P w K mg base CX0 2 t.Qg t.Qn _ _:=wI T zy jz;have zT:FnOk P w K mg base CX0 1 t.Qi t.Qp _ _:=wK T;have qV:FnOk P w K mg base CX0 1 t.JE t.JG _ _:=yt T;have zQ:FnOk P w K mg base CX0 3 t.Qf t.Qm _ _:=wG T Jt zz Qz Qe QZ jz zR zT qV;have Qy:FnOk P w K mg base CX0 1 t.qB t.qI _ _:=kO T;exact j3U T YC YB xC Jt zQ Qy
end
@[elab_as_elim] theorem uu1{P:List Value->Prop}(us:List Value)(hl:us.length=1)(h:∀a0,P [a0]):P us:=match us,hl with | [a0],_=>h a0
theorem bb1{K:Frg}{x q:Str}{st:Stmt}{f:Addr}{fd:FuncData}{x0:Str}(F:Fun K x q st f fd)(h:∀(kV doc pm:Value) (an:Option Addr) (cdv ct:Value) (a0:Value),bindArgs (W.fnOf x q (defArgs st) (defBody st) (defScope st) .none kV doc pm an cdv ct) ⟨[a0],[]⟩=pure ([x0].zip [a0])):Binds K fd [x0] []:=F.binds fun a b c d e g us hl=>uu1 us hl (h a b c d e g)
@[elab_as_elim] theorem uu2{P:List Value->Prop}(us:List Value)(hl:us.length=2)(h:∀a0 a1,P [a0,a1]):P us:=match us,hl with | [a0,a1],_=>h a0 a1
theorem bb2{K:Frg}{x q:Str}{st:Stmt}{f:Addr}{fd:FuncData}{x0 x1:Str}(F:Fun K x q st f fd)(h:∀(kV doc pm:Value) (an:Option Addr) (cdv ct:Value) (a0 a1:Value),bindArgs (W.fnOf x q (defArgs st) (defBody st) (defScope st) .none kV doc pm an cdv ct) ⟨[a0,a1],[]⟩=pure ([x0,x1].zip [a0,a1])):Binds K fd [x0,x1] []:=F.binds fun a b c d e g us hl=>uu2 us hl (h a b c d e g)
@[elab_as_elim] theorem uu3{P:List Value->Prop}(us:List Value)(hl:us.length=3)(h:∀a0 a1 a2,P [a0,a1,a2]):P us:=match us,hl with | [a0,a1,a2],_=>h a0 a1 a2
theorem bb3{K:Frg}{x q:Str}{st:Stmt}{f:Addr}{fd:FuncData}{x0 x1 x2:Str}(F:Fun K x q st f fd)(h:∀(kV doc pm:Value) (an:Option Addr) (cdv ct:Value) (a0 a1 a2:Value),bindArgs (W.fnOf x q (defArgs st) (defBody st) (defScope st) .none kV doc pm an cdv ct) ⟨[a0,a1,a2],[]⟩=pure ([x0,x1,x2].zip [a0,a1,a2])):Binds K fd [x0,x1,x2] []:=F.binds fun a b c d e g us hl=>uu3 us hl (h a b c d e g)
@[elab_as_elim] theorem uu4{P:List Value->Prop}(us:List Value)(hl:us.length=4)(h:∀a0 a1 a2 a3,P [a0,a1,a2,a3]):P us:=match us,hl with | [a0,a1,a2,a3],_=>h a0 a1 a2 a3
theorem bb4{K:Frg}{x q:Str}{st:Stmt}{f:Addr}{fd:FuncData}{x0 x1 x2 x3:Str}(F:Fun K x q st f fd)(h:∀(kV doc pm:Value) (an:Option Addr) (cdv ct:Value) (a0 a1 a2 a3:Value),bindArgs (W.fnOf x q (defArgs st) (defBody st) (defScope st) .none kV doc pm an cdv ct) ⟨[a0,a1,a2,a3],[]⟩=pure ([x0,x1,x2,x3].zip [a0,a1,a2,a3])):Binds K fd [x0,x1,x2,x3] []:=F.binds fun a b c d e g us hl=>uu4 us hl (h a b c d e g)
@[elab_as_elim] theorem uu5{P:List Value->Prop}(us:List Value)(hl:us.length=5)(h:∀a0 a1 a2 a3 a4,P [a0,a1,a2,a3,a4]):P us:=match us,hl with | [a0,a1,a2,a3,a4],_=>h a0 a1 a2 a3 a4
theorem bb5{K:Frg}{x q:Str}{st:Stmt}{f:Addr}{fd:FuncData}{x0 x1 x2 x3 x4:Str}(F:Fun K x q st f fd)(h:∀(kV doc pm:Value) (an:Option Addr) (cdv ct:Value) (a0 a1 a2 a3 a4:Value),bindArgs (W.fnOf x q (defArgs st) (defBody st) (defScope st) .none kV doc pm an cdv ct) ⟨[a0,a1,a2,a3,a4],[]⟩=pure ([x0,x1,x2,x3,x4].zip [a0,a1,a2,a3,a4])):Binds K fd [x0,x1,x2,x3,x4] []:=F.binds fun a b c d e g us hl=>uu5 us hl (h a b c d e g)
theorem j4e{K:Frg}{h:Heap}{mg:Str->Option Value}(X:K.In h)(G:h.Ns mainGlobals mg)
  {C_Stage:Addr}
  (aC_Stage:W.nsIn K mainGlobals "Stage"= some (some (.ref C_Stage))) (pg_Stage:W.plainGet K C_Stage Str.empty=true) (hd_Stage:W.hasDictIn K C_Stage=true) (po_Stage:W.plainOver K C_Stage=true) (sa_Stage:W.findIn K (.ref C_Stage) "__setattr__"= some (some (.builtin "object.__setattr__"))) (mk_Stage:W.makesIn K C_Stage=true) (kc_Stage:W.keepIn K (.ref C_Stage)=true) (JT:W.findIn K (.ref C_Stage) "limbs"= some none) (JS:W.findIn K (.ref C_Stage) "first"= some none) (Jy:W.findIn K (.ref C_Stage) "forms"= some none) (jW:W.findIn K (.ref C_Stage) "sizes"= some none) (J3:W.findIn K (.ref C_Stage) "left"= some none) (JH:W.findIn K (.ref C_Stage) "pieces"= some none)
  {f1:Addr} {d1:FuncData}
  (a1:W.nsIn K mainGlobals "numbers_of"= some (some (.ref f1))) (F1:Fun K "numbers_of" "numbers_of" zI f1 d1)
  {f2:Addr} {d2:FuncData}
  (a2:W.nsIn K mainGlobals "names_in"= some (some (.ref f2))) (F2:Fun K "names_in" "names_in" ZR f2 d2)
  {f3:Addr} {d3:FuncData}
  (a3:W.nsIn K mainGlobals "inner"= some (some (.ref f3))) (F3:Fun K "inner" "inner" YM f3 d3)
  {f4:Addr} {d4:FuncData}
  (a4:W.nsIn K mainGlobals "ends"= some (some (.ref f4))) (F4:Fun K "ends" "ends" Xs f4 d4)
  {f5:Addr} {d5:FuncData}
  (a5:W.nsIn K mainGlobals "moved"= some (some (.ref f5))) (F5:Fun K "moved" "moved" YO f5 d5)
  {f6:Addr} {d6:FuncData}
  (a6:W.nsIn K mainGlobals "check_side"= some (some (.ref f6))) (F6:Fun K "check_side" "check_side" QF f6 d6)
  {f7:Addr} {d7:FuncData}
  (a7:W.nsIn K mainGlobals "length_of"= some (some (.ref f7))) (F7:Fun K "length_of" "length_of" Zn f7 d7)
  {f8:Addr} {d8:FuncData}
  (a8:W.nsIn K mainGlobals "lengths"= some (some (.ref f8))) (F8:Fun K "lengths" "lengths" zr f8 d8)
  {f9:Addr} {d9:FuncData}
  (a9:W.nsIn K mainGlobals "ramp"= some (some (.ref f9))) (F9:Fun K "ramp" "ramp" Xt f9 d9)
  {f10:Addr} {d10:FuncData}
  (a10:W.nsIn K mainGlobals "pieces_in"= some (some (.ref f10))) (F10:Fun K "pieces_in" "pieces_in" Zo f10 d10)
  {f11:Addr} {d11:FuncData}
  (a11:W.nsIn K mainGlobals "pieces_of"= some (some (.ref f11))) (F11:Fun K "pieces_of" "pieces_of" Q8 f11 d11)
  {f12:Addr} {d12:FuncData}
  (a12:W.nsIn K mainGlobals "progress"= some (some (.ref f12))) (F12:Fun K "progress" "progress" ZS f12 d12)
  {f13:Addr} {d13:FuncData}
  (a13:W.nsIn K mainGlobals "within"= some (some (.ref f13))) (F13:Fun K "within" "within" ku f13 d13)
  {f14:Addr} {d14:FuncData}
  (a14:W.findIn K (.ref C_Stage) "__init__"= some (some (.ref f14))) (i14:W.isFn K (.ref f14)=true) (F14:Fun K "__init__" "Stage.__init__" JJ f14 d14)
  {f15:Addr} {d15:FuncData}
  (a15:W.findIn K (.ref C_Stage) "scene"= some (some (.ref f15))) (i15:W.isFn K (.ref f15)=true) (F15:Fun K "scene" "Stage.scene" zf f15 d15)
  {f16:Addr} {d16:FuncData}
  (a16:W.findIn K (.ref C_Stage) "heights_at"= some (some (.ref f16))) (i16:W.isFn K (.ref f16)=true) (F16:Fun K "heights_at" "Stage.heights_at" qm f16 d16)
  {f17:Addr} {d17:FuncData}
  (a17:W.findIn K (.ref C_Stage) "words_at"= some (some (.ref f17))) (i17:W.isFn K (.ref f17)=true) (F17:Fun K "words_at" "Stage.words_at" qX f17 d17)
  {f18:Addr} {d18:FuncData}
  (a18:W.nsIn K mainGlobals "stand"= some (some (.ref f18))) (F18:Fun K "stand" "stand" Wa f18 d18)
  {f19:Addr} {d19:FuncData}
  (a19:W.nsIn K mainGlobals "rings"= some (some (.ref f19))) (F19:Fun K "rings" "rings" w6 f19 d19)
  {f20:Addr} {d20:FuncData}
  (a20:W.nsIn K mainGlobals "begins"= some (some (.ref f20))) (F20:Fun K "begins" "begins" yy f20 d20)
  {f21:Addr} {d21:FuncData}
  (a21:W.nsIn K mainGlobals "begun"= some (some (.ref f21))) (F21:Fun K "begun" "begun" wZ f21 d21)
  {f22:Addr} {d22:FuncData}
  (a22:W.nsIn K mainGlobals "stay"= some (some (.ref f22))) (F22:Fun K "stay" "stay" Xu f22 d22)
  {f23:Addr} {d23:FuncData}
  (a23:W.nsIn K mainGlobals "climb"= some (some (.ref f23))) (F23:Fun K "climb" "climb" YL f23 d23)
  {f24:Addr} {d24:FuncData}
  (a24:W.nsIn K mainGlobals "columns_of"= some (some (.ref f24))) (F24:Fun K "columns_of" "columns_of" QG f24 d24)
  {f25:Addr} {d25:FuncData}
  (a25:W.nsIn K mainGlobals "words_by_beat"= some (some (.ref f25))) (F25:Fun K "words_by_beat" "words_by_beat" qk f25 d25)
  {f26:Addr} {d26:FuncData}
  (a26:W.nsIn K mainGlobals "told"= some (some (.ref f26))) (F26:Fun K "told" "told" Wb f26 d26)
  {f27:Addr} {d27:FuncData}
  (a27:W.nsIn K mainGlobals "_law_cell"= some (some (.ref f27))) (F27:Fun K "_law_cell" "_law_cell" Zj f27 d27)
  {f28:Addr} {d28:FuncData}
  (a28:W.nsIn K mainGlobals "_law_names"= some (some (.ref f28))) (F28:Fun K "_law_names" "_law_names" zH f28 d28)
  {f29:Addr} {d29:FuncData}
  (a29:W.nsIn K mainGlobals "_law_moves"= some (some (.ref f29))) (F29:Fun K "_law_moves" "_law_moves" QE f29 d29)
  {f30:Addr} {d30:FuncData}
  (a30:W.nsIn K mainGlobals "_law_long"= some (some (.ref f30))) (F30:Fun K "_law_long" "_law_long" Qu f30 d30)
  {f31:Addr} {d31:FuncData}
  (a31:W.nsIn K mainGlobals "_law_apart"= some (some (.ref f31))) (F31:Fun K "_law_apart" "_law_apart" QD f31 d31)
  {f32:Addr} {d32:FuncData}
  (a32:W.nsIn K mainGlobals "_law_pool"= some (some (.ref f32))) (F32:Fun K "_law_pool" "_law_pool" Zl f32 d32)
  {f33:Addr} {d33:FuncData}
  (a33:W.nsIn K mainGlobals "_law_take"= some (some (.ref f33))) (F33:Fun K "_law_take" "_law_take" Zm f33 d33)
  {f34:Addr} {d34:FuncData}
  (a34:W.nsIn K mainGlobals "_law_form"= some (some (.ref f34))) (F34:Fun K "_law_form" "_law_form" Q7 f34 d34)
  {f35:Addr} {d35:FuncData}
  (a35:W.nsIn K mainGlobals "_law_play"= some (some (.ref f35))) (F35:Fun K "_law_play" "_law_play" Zk f35 d35)
  {f36:Addr} {d36:FuncData}
  (a36:W.nsIn K mainGlobals "_law_told_form"= some (some (.ref f36))) (F36:Fun K "_law_told_form" "_law_told_form" qa f36 d36)
  {f37:Addr} {d37:FuncData}
  (a37:W.nsIn K mainGlobals "_law_book"= some (some (.ref f37))) (F37:Fun K "_law_book" "_law_book" qz f37 d37)
  {f38:Addr} {d38:FuncData}
  (a38:W.nsIn K mainGlobals "_law_alike"= some (some (.ref f38))) (F38:Fun K "_law_alike" "_law_alike" zG f38 d38)
  {f39:Addr} {d39:FuncData}
  (a39:W.nsIn K mainGlobals "law"= some (some (.ref f39))) (F39:Fun K "law" "law" j26 f39 d39)
  {qd:Addr}
  (g_MOST_NAMES:W.nsIn K mainGlobals "MOST_NAMES"= some (some (.ref qd))) (kk_MOST_NAMES:TabK K qd [("row",.flat (.int 8)),("side",.flat (.int 4))])
  (z0:W.nsIn K mainGlobals "bool"= some none) (z1:W.nsIn K mainGlobals "dict"= some none) (z2:W.nsIn K mainGlobals "enumerate"= some none) (z3:W.nsIn K mainGlobals "int"= some none) (z4:W.nsIn K mainGlobals "isinstance"= some none) (z5:W.nsIn K mainGlobals "len"= some none) (z6:W.nsIn K mainGlobals "list"= some none) (z7:W.nsIn K mainGlobals "max"= some none) (z8:W.nsIn K mainGlobals "min"= some none) (z9:W.nsIn K mainGlobals "range"= some none) (z10:W.nsIn K mainGlobals "reversed"= some none) (z11:W.nsIn K mainGlobals "sorted"= some none) (z12:W.nsIn K mainGlobals "str"= some none) (z13:W.nsIn K mainGlobals "sum"= some none) (z14:W.nsIn K mainGlobals "tuple"= some none) (z15:W.nsIn K mainGlobals "zip"= some none) :
  ∃t:Ad,Txt K mg t:=by
 exact⟨⟨f1,_,f2,_,f3,_,f4,_,f5,_,f6,_,f7,_,f8,_,f9,_,f10,_,f11,_,f12,_,f13,_,f14,_,f15,_,f16,_,f17,_,f18,_,f19,_,f20,_,f21,_,f22,_,f23,_,f24,_,f25,_,f26,_,f27,_,f28,_,f29,_,f30,_,f31,_,f32,_,f33,_,f34,_,f35,_,f36,_,f37,_,f38,_,f39,_,C_Stage,_⟩,⟨F1,W.mg_of X G a1,bb1 F1 fun _ _ _ _ _ _ _=>rfl,
  F2,W.mg_of X G a2,bb1 F2 fun _ _ _ _ _ _ _=>rfl,
  F3,W.mg_of X G a3,bb1 F3 fun _ _ _ _ _ _ _=>rfl,
  F4,W.mg_of X G a4,bb1 F4 fun _ _ _ _ _ _ _=>rfl,
  F5,W.mg_of X G a5,bb1 F5 fun _ _ _ _ _ _ _=>rfl,
  F6,W.mg_of X G a6,bb3 F6 fun _ _ _ _ _ _ _ _ _=>rfl,
  F7,W.mg_of X G a7,bb2 F7 fun _ _ _ _ _ _ _ _=>rfl,
  F8,W.mg_of X G a8,bb1 F8 fun _ _ _ _ _ _ _=>rfl,
  F9,W.mg_of X G a9,bb4 F9 fun _ _ _ _ _ _ _ _ _ _=>rfl,
  F10,W.mg_of X G a10,bb3 F10 fun _ _ _ _ _ _ _ _ _=>rfl,
  F11,W.mg_of X G a11,bb2 F11 fun _ _ _ _ _ _ _ _=>rfl,
  F12,W.mg_of X G a12,bb3 F12 fun _ _ _ _ _ _ _ _ _=>rfl,
  F13,W.mg_of X G a13,bb3 F13 fun _ _ _ _ _ _ _ _ _=>rfl,
  F14,⟨a14,i14,F14.kp⟩,bb2 F14 fun _ _ _ _ _ _ _ _=>rfl,
  F15,⟨a15,i15,F15.kp⟩,bb2 F15 fun _ _ _ _ _ _ _ _=>rfl,
  F16,⟨a16,i16,F16.kp⟩,bb2 F16 fun _ _ _ _ _ _ _ _=>rfl,
  F17,⟨a17,i17,F17.kp⟩,bb2 F17 fun _ _ _ _ _ _ _ _=>rfl,
  F18,W.mg_of X G a18,bb2 F18 fun _ _ _ _ _ _ _ _=>rfl,
  F19,W.mg_of X G a19,bb2 F19 fun _ _ _ _ _ _ _ _=>rfl,
  F20,W.mg_of X G a20,bb3 F20 fun _ _ _ _ _ _ _ _ _=>rfl,
  F21,W.mg_of X G a21,bb2 F21 fun _ _ _ _ _ _ _ _=>rfl,
  F22,W.mg_of X G a22,bb2 F22 fun _ _ _ _ _ _ _ _=>rfl,
  F23,W.mg_of X G a23,bb3 F23 fun _ _ _ _ _ _ _ _ _=>rfl,
  F24,W.mg_of X G a24,bb3 F24 fun _ _ _ _ _ _ _ _ _=>rfl,
  F25,W.mg_of X G a25,bb2 F25 fun _ _ _ _ _ _ _ _=>rfl,
  F26,W.mg_of X G a26,bb1 F26 fun _ _ _ _ _ _ _=>rfl,
  F27,W.mg_of X G a27,bb2 F27 fun _ _ _ _ _ _ _ _=>rfl,
  F28,W.mg_of X G a28,bb2 F28 fun _ _ _ _ _ _ _ _=>rfl,
  F29,W.mg_of X G a29,bb3 F29 fun _ _ _ _ _ _ _ _ _=>rfl,
  F30,W.mg_of X G a30,bb2 F30 fun _ _ _ _ _ _ _ _=>rfl,
  F31,W.mg_of X G a31,bb2 F31 fun _ _ _ _ _ _ _ _=>rfl,
  F32,W.mg_of X G a32,bb1 F32 fun _ _ _ _ _ _ _=>rfl,
  F33,W.mg_of X G a33,bb2 F33 fun _ _ _ _ _ _ _ _=>rfl,
  F34,W.mg_of X G a34,bb5 F34 fun _ _ _ _ _ _ _ _ _ _ _=>rfl,
  F35,W.mg_of X G a35,bb2 F35 fun _ _ _ _ _ _ _ _=>rfl,
  F36,W.mg_of X G a36,bb2 F36 fun _ _ _ _ _ _ _ _=>rfl,
  F37,W.mg_of X G a37,bb4 F37 fun _ _ _ _ _ _ _ _ _ _=>rfl,
  F38,W.mg_of X G a38,bb2 F38 fun _ _ _ _ _ _ _ _=>rfl,
  F39,W.mg_of X G a39,bb1 F39 fun _ _ _ _ _ _ _=>rfl,
  ⟨pg_Stage,hd_Stage,po_Stage,sa_Stage⟩,⟨mk_Stage,a14,i14,kc_Stage⟩,W.mg_of X G aC_Stage,JT,JS,Jy,jW,J3,JH,
  W.mg_none_of X G z0,
  W.mg_none_of X G z1,
  W.mg_none_of X G z2,
  W.mg_none_of X G z3,
  W.mg_none_of X G z4,
  W.mg_none_of X G z5,
  W.mg_none_of X G z6,
  W.mg_none_of X G z7,
  W.mg_none_of X G z8,
  W.mg_none_of X G z9,
  W.mg_none_of X G z10,
  W.mg_none_of X G z11,
  W.mg_none_of X G z12,
  W.mg_none_of X G z13,
  W.mg_none_of X G z14,
  W.mg_none_of X G z15,
  W.mg_of X G g_MOST_NAMES,kk_MOST_NAMES⟩⟩
end K18
open PySem PySem.W PyProof.Rows
set_option maxRecDepth 100000 in
set_option maxHeartbeats 0 in
theorem PySem.Challenge.cw_camplay_k18_stand_as_told_holds : PySem.Challenge.rw_camplay_k18_stand_as_told.Holds := by
 w_on;o_law;k_head;(case hw=>w_witness2)
 k_fill
 refine L2.j2o (l:=PySem.Challenge.rw_camplay_k18_stand_as_told) (n:=63) (k:=9) (x:="_law_script") (CX:=L2.CX0) (sp:=Pr.sp_law) rfl (by decide) rfl ⟨rfl,by decide,by decide⟩ (fun w h Y=>PySem.W.kIn_of Y) ?F (fun K H a ns hl hb hO hS=>⟨a,ns,rfl,hS,hl,hb,fun _=>rfl⟩) (fun _ _ _ _ z=>z)
 case F=>
  intro w mg fa h KX G hmg;have TT:∃t:K18.Ad,K18.Txt (L2.KOf KX) mg t:=by
   dsimp only[L2.KOf];refine' K18.j4e KX G ?aC_Stage ?pg_Stage ?hd_Stage ?po_Stage ?sa_Stage ?mk_Stage ?kc_Stage ?JT ?JS ?Jy ?jW ?J3 ?JH ?a1 (L2.jD ?l1 ?c1 ?k1) ?a2 (L2.jD ?l2 ?c2 ?k2) ?a3 (L2.jD ?l3 ?c3 ?k3) ?a4 (L2.jD ?l4 ?c4 ?k4) ?a5 (L2.jD ?l5 ?c5 ?k5) ?a6 (L2.jD ?l6 ?c6 ?k6) ?a7 (L2.jD ?l7 ?c7 ?k7) ?a8 (L2.jD ?l8 ?c8 ?k8) ?a9 (L2.jD ?l9 ?c9 ?k9) ?a10 (L2.jD ?l10 ?c10 ?k10) ?a11 (L2.jD ?l11 ?c11 ?k11) ?a12 (L2.jD ?l12 ?c12 ?k12) ?a13 (L2.jD ?l13 ?c13 ?k13) ?a14 ?i14 (L2.jD ?l14 ?c14 ?k14) ?a15 ?i15 (L2.jD ?l15 ?c15 ?k15) ?a16 ?i16 (L2.jD ?l16 ?c16 ?k16) ?a17 ?i17 (L2.jD ?l17 ?c17 ?k17) ?a18 (L2.jD ?l18 ?c18 ?k18) ?a19 (L2.jD ?l19 ?c19 ?k19) ?a20 (L2.jD ?l20 ?c20 ?k20) ?a21 (L2.jD ?l21 ?c21 ?k21) ?a22 (L2.jD ?l22 ?c22 ?k22) ?a23 (L2.jD ?l23 ?c23 ?k23) ?a24 (L2.jD ?l24 ?c24 ?k24) ?a25 (L2.jD ?l25 ?c25 ?k25) ?a26 (L2.jD ?l26 ?c26 ?k26) ?a27 (L2.jD ?l27 ?c27 ?k27) ?a28 (L2.jD ?l28 ?c28 ?k28) ?a29 (L2.jD ?l29 ?c29 ?k29) ?a30 (L2.jD ?l30 ?c30 ?k30) ?a31 (L2.jD ?l31 ?c31 ?k31) ?a32 (L2.jD ?l32 ?c32 ?k32) ?a33 (L2.jD ?l33 ?c33 ?k33) ?a34 (L2.jD ?l34 ?c34 ?k34) ?a35 (L2.jD ?l35 ?c35 ?k35) ?a36 (L2.jD ?l36 ?c36 ?k36) ?a37 (L2.jD ?l37 ?c37 ?k37) ?a38 (L2.jD ?l38 ?c38 ?k38) ?a39 (L2.jD ?l39 ?c39 ?k39) ?g_MOST_NAMES ?kk_MOST_NAMES ?z0 ?z1 ?z2 ?z3 ?z4 ?z5 ?z6 ?z7 ?z8 ?z9 ?z10 ?z11 ?z12 ?z13 ?z14 ?z15
   (case aC_Stage=>k_is);(case pg_Stage=>k_is);(case hd_Stage=>k_is);(case po_Stage=>k_is);(case sa_Stage=>k_is);(case mk_Stage=>k_is);(case kc_Stage=>k_is);(case JT=>k_is);(case JS=>k_is);(case Jy=>k_is);(case jW=>k_is);(case J3=>k_is);(case JH=>k_is)
   (case a1=>k_is);(case l1=>k_is);(case c1=>k_is);(case k1=>k_is)
   (case a2=>k_is);(case l2=>k_is);(case c2=>k_is);(case k2=>k_is)
   (case a3=>k_is);(case l3=>k_is);(case c3=>k_is);(case k3=>k_is)
   (case a4=>k_is);(case l4=>k_is);(case c4=>k_is);(case k4=>k_is)
   (case a5=>k_is);(case l5=>k_is);(case c5=>k_is);(case k5=>k_is)
   (case a6=>k_is);(case l6=>k_is);(case c6=>k_is);(case k6=>k_is)
   (case a7=>k_is);(case l7=>k_is);(case c7=>k_is);(case k7=>k_is)
   (case a8=>k_is);(case l8=>k_is);(case c8=>k_is);(case k8=>k_is)
   (case a9=>k_is);(case l9=>k_is);(case c9=>k_is);(case k9=>k_is)
   (case a10=>k_is);(case l10=>k_is);(case c10=>k_is);(case k10=>k_is)
   (case a11=>k_is);(case l11=>k_is);(case c11=>k_is);(case k11=>k_is)
   (case a12=>k_is);(case l12=>k_is);(case c12=>k_is);(case k12=>k_is)
   (case a13=>k_is);(case l13=>k_is);(case c13=>k_is);(case k13=>k_is)
   (case a14=>k_is);(case i14=>k_is)
   (case l14=>k_is);(case c14=>k_is);(case k14=>k_is)
   (case a15=>k_is);(case i15=>k_is)
   (case l15=>k_is);(case c15=>k_is);(case k15=>k_is)
   (case a16=>k_is);(case i16=>k_is)
   (case l16=>k_is);(case c16=>k_is);(case k16=>k_is)
   (case a17=>k_is);(case i17=>k_is)
   (case l17=>k_is);(case c17=>k_is);(case k17=>k_is)
   (case a18=>k_is);(case l18=>k_is);(case c18=>k_is);(case k18=>k_is)
   (case a19=>k_is);(case l19=>k_is);(case c19=>k_is);(case k19=>k_is)
   (case a20=>k_is);(case l20=>k_is);(case c20=>k_is);(case k20=>k_is)
   (case a21=>k_is);(case l21=>k_is);(case c21=>k_is);(case k21=>k_is)
   (case a22=>k_is);(case l22=>k_is);(case c22=>k_is);(case k22=>k_is)
   (case a23=>k_is);(case l23=>k_is);(case c23=>k_is);(case k23=>k_is)
   (case a24=>k_is);(case l24=>k_is);(case c24=>k_is);(case k24=>k_is)
   (case a25=>k_is);(case l25=>k_is);(case c25=>k_is);(case k25=>k_is)
   (case a26=>k_is);(case l26=>k_is);(case c26=>k_is);(case k26=>k_is)
   (case a27=>k_is);(case l27=>k_is);(case c27=>k_is);(case k27=>k_is)
   (case a28=>k_is);(case l28=>k_is);(case c28=>k_is);(case k28=>k_is)
   (case a29=>k_is);(case l29=>k_is);(case c29=>k_is);(case k29=>k_is)
   (case a30=>k_is);(case l30=>k_is);(case c30=>k_is);(case k30=>k_is)
   (case a31=>k_is);(case l31=>k_is);(case c31=>k_is);(case k31=>k_is)
   (case a32=>k_is);(case l32=>k_is);(case c32=>k_is);(case k32=>k_is)
   (case a33=>k_is);(case l33=>k_is);(case c33=>k_is);(case k33=>k_is)
   (case a34=>k_is);(case l34=>k_is);(case c34=>k_is);(case k34=>k_is)
   (case a35=>k_is);(case l35=>k_is);(case c35=>k_is);(case k35=>k_is)
   (case a36=>k_is);(case l36=>k_is);(case c36=>k_is);(case k36=>k_is)
   (case a37=>k_is);(case l37=>k_is);(case c37=>k_is);(case k37=>k_is)
   (case a38=>k_is);(case l38=>k_is);(case c38=>k_is);(case k38=>k_is)
   (case a39=>k_is);(case l39=>k_is);(case c39=>k_is);(case k39=>k_is)
   (case g_MOST_NAMES=>k_is);(case kk_MOST_NAMES=>(show PyProof.Rows.KTD.tabLook _ _ _ _=true);kernel_rfl)
   (case z0=>k_is)
   (case z1=>k_is)
   (case z2=>k_is)
   (case z3=>k_is)
   (case z4=>k_is)
   (case z5=>k_is)
   (case z6=>k_is)
   (case z7=>k_is)
   (case z8=>k_is)
   (case z9=>k_is)
   (case z10=>k_is)
   (case z11=>k_is)
   (case z12=>k_is)
   (case z13=>k_is)
   (case z14=>k_is)
   (case z15=>k_is)
  obtain⟨t,T⟩:=TT;obtain⟨_,_,kV,dc,pm,an,cd,ct,_,e,_⟩:=T.j3k.ex;have e0:=hmg.symm.trans T.j4n;cases e0;refine⟨t.WB,fun s v=>?_,fun base _ _=>K18.j2v T⟩;rw[e];exact .of_eq rfl
#print axioms PySem.Challenge.cw_camplay_k18_stand_as_told_holds
