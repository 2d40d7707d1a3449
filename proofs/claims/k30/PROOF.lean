import PyProof.Rows.All
import Wide.All
import OpenK.AllK
import Wide.FinOn
import Lean
import PyProof.EqAt
import PyProof.EqKinds
import PyProof.TupleCall
import PySem.Challenge.RW_camplay_k30_jumps_among_first_beats
set_option Elab.async false
set_option linter.all false
set_option maxRecDepth 100000
set_option maxHeartbeats 4000000
open List (all_cons all_eq_true any_cons any_eq_true append_nil cons_ne_nil ext_getElem filterMap_cons filter_append filter_cons filter_cons_of_pos filter_nil flatMap_cons foldl_append foldl_cons getD_eq_getElem?_getD getElem_map getElem_mem getElem_range isEmpty_iff length_cons length_drop length_filter_le length_map length_nil length_pos_of_mem length_range length_replicate length_set length_singleton length_take lookup_cons map_append map_congr_left map_cons map_map map_nil mem_append mem_append_left mem_append_right mem_cons mem_cons_of_mem mem_cons_self mem_filter mem_filterMap mem_flatMap mem_iff_getElem mem_map mem_of_mem_take mem_range mem_singleton nodup_append nodup_cons nodup_nil of_mem_zip pairwise_cons pairwise_iff_getElem pairwise_map pairwise_singleton range_succ reverse_cons size_toArray sum_append sum_cons take_length)
abbrev Frg := PySem.W.Frag
namespace L2
open PySem PySem.Spec PyProof.Rows
noncomputable abbrev Key:=Sum Int Str
noncomputable def keyIs:Key->Value->Bool
 | .inl k,v=>Value.isInt k v
 | .inr x,v=>Value.isStrOf x v
noncomputable def keyH(w:World):Key->Int
 | .inl k=>hashInt k
 | .inr x=>hashStr w x
theorem Jp:∀{k:Key} {v:Value},keyIs k v=true->(∃i t,k=Sum.inl i/\v=Value.int i t)\/(∃x t,k=Sum.inr x/\v=Value.str x t)
 | .inl i,v,h=>by
  obtain⟨t,e⟩:=Value.isInt_shape (k:=i) (v:=v) h;exact .inl ⟨i,t,rfl,e⟩
 | .inr x,v,h=>by
  obtain⟨t,e⟩:=Value.isStrOf_shape (x:=x) (v:=v) h;exact .inr ⟨x,t,rfl,e⟩
theorem YB(i:Int)(t:Tok):keyIs (.inl i) (.int i t)=true:=by simp[keyIs,Value.isInt]
theorem j0B(x:Str)(t:Tok):keyIs (.inr x) (.str x t)=true:=by simp[keyIs,Value.isStrOf]
theorem j4i(a b:Int):decide ((Sum.inl a:Key)=Sum.inl b)=(a==b):=by
 by_cases e:a=b
 ·subst e;simp
 ·have h:¬(Sum.inl a:Key)=Sum.inl b:=fun q=>e (Sum.inl.inj q)
  rw[decide_eq_false h];exact(beq_eq_false_iff_ne.mpr e).symm
theorem j4l(a b:Str):decide ((Sum.inr a:Key)=Sum.inr b)=decide (a=b):=by
 by_cases e:a=b
 ·subst e;simp
 ·have h:¬(Sum.inr a:Key)=Sum.inr b:=fun q=>e (Sum.inr.inj q)
  rw[decide_eq_false h,decide_eq_false e]
theorem j4j(a:Int)(b:Str):decide ((Sum.inl a:Key)=Sum.inr b)=false:=decide_eq_false (fun q=>nomatch q)
theorem j4k(a:Str)(b:Int):decide ((Sum.inr a:Key)=Sum.inl b)=false:=decide_eq_false (fun q=>nomatch q)
noncomputable def mixKind(prog:Program)(w:World):PySem.KeyKind prog w Key where
 is:=keyIs
 hash:=keyH w
 inj:=fun v a b ha hb=>by
  rcases Jp ha with⟨i,t,rfl,rfl⟩ | ⟨x,t,rfl,rfl⟩
  ·rcases Jp hb with⟨j,u,rfl,e⟩ | ⟨y,u,rfl,e⟩
   ·injection e with e1 _;rw[e1]
   ·exact nomatch e
  ·rcases Jp hb with⟨j,u,rfl,e⟩ | ⟨y,u,rfl,e⟩
   ·exact nomatch e
   ·injection e with e1 _;rw[e1]
 byValue:=fun k v h=>by
  rcases Jp h with⟨i,t,rfl,rfl⟩ | ⟨x,t,rfl,rfl⟩<;>rfl
 pyHash:=fun hv h=>by
  rcases Jp hv with⟨i,t,rfl,rfl⟩ | ⟨x,t,rfl,rfl⟩
  ·exact wpAny_pyHash_int h
  ·exact wpAny_pyHash_str h
 eqBool:=fun hu hv h=>by
  rcases Jp hu with⟨i,t,rfl,rfl⟩ | ⟨x,t,rfl,rfl⟩
  ·rcases Jp hv with⟨j,u,rfl,rfl⟩ | ⟨y,u,rfl,rfl⟩
   ·rw[j4i]at h;exact wpAny_eqBool_int h
   ·rw[j4j]at h;exact SeqAt.EqAt.int_str i t y u _ _ _ _ h
  ·rcases Jp hv with⟨j,u,rfl,rfl⟩ | ⟨y,u,rfl,rfl⟩
   ·rw[j4k]at h;exact SeqAt.EqAt.str_int x t j u _ _ _ _ h
   ·rw[j4l]at h;exact wpAny_eqBool_str h
 «strs»:=fun k x t v h=>by
  rcases Jp h with⟨i,u,rfl,e⟩ | ⟨y,u,rfl,e⟩
  ·exact nomatch e
  ·injection e with e1 _;subst e1;cases v<;>rfl
theorem xq(prog:Program)(w:World)(i:Int)(t:Tok):(mixKind prog w).is (.inl i) (.int i t)=true:=YB i t
theorem xr(prog:Program)(w:World)(x:Str)(t:Tok):(mixKind prog w).is (.inr x) (.str x t)=true:=j0B x t
inductive V where
 | non | bl (b:Bool) | int (i:Int) | str (x:Str) | byt (b:Array UInt8) | flt (b:UInt64) | ref (a:Addr) | ty (n:String)
 deriving DecidableEq
noncomputable def RelV:V->Value->Prop
 | .non,u=>u=Value.none
 | .bl b,u=>u=Value.bool b
 | .int i,u=>∃t,u=Value.int i t
 | .str x,u=>∃t,u=Value.str x t
 | .byt b,u=>∃t,u=Value.bytes b t
 | .flt b,u=>∃t,u=Value.float b t
 | .ref a,u=>u=Value.ref a
 | .ty n,u=>u=Value.type n
noncomputable abbrev Vals:List V->List Value->Prop:=Paired RelV
theorem Vals.length{xs:List V}{us:List Value}(r:Vals xs us):xs.length=us.length:=Paired.length r
theorem Vals.get:∀{xs:List V} {us:List Value} {i:Nat} {x:V},Vals xs us->xs[i]?=some x->∃u,us[i]?=some u/\RelV x u
 | _,_,_,_,.nil,e=>by simp at e
 | _,_,0,_,.cons r _,e=>by simp at e;subst e;exact⟨_,rfl,r⟩
 | _,_,i+1,x,.cons _ t,e=>by
  obtain⟨u,h1,h2⟩:=Vals.get (i:=i) (x:=x) t (by simpa using e);exact⟨u,by simpa using h1,h2⟩
theorem Vals.set{x:V}{u:Value}(r:RelV x u):∀{xs:List V} {us:List Value} (i:Nat),Vals xs us->Vals (xs.set i x) (us.set i u)
 | _,_,_,.nil=>.nil
 | _,_,0,.cons _ t=>.cons r t
 | _,_,i+1,.cons q t=>.cons q (Vals.set r i t)
theorem Vals.append:∀{xs ys:List V} {us ws:List Value},Vals xs us->Vals ys ws->Vals (xs++ys) (us++ws)
 | _,_,_,_,.nil,s=>s
 | _,_,_,_,.cons r t,s=>.cons r (Vals.append t s)
theorem Vals.take:∀{xs:List V} {us:List Value} (n:Nat),Vals xs us->Vals (xs.take n) (us.take n)
 | _,_,0,_=>.nil
 | _,_,_+1,.nil=>.nil
 | _,_,n+1,.cons r t=>.cons r (Vals.take n t)
theorem Vals.drop:∀{xs:List V} {us:List Value} (n:Nat),Vals xs us->Vals (xs.drop n) (us.drop n)
 | _,_,0,r=>r
 | _,_,_+1,.nil=>.nil
 | _,_,n+1,.cons _ t=>Vals.drop n t
noncomputable def RelO:Option V->Option Value->Prop
 | some v,some u=>RelV v u
 | none,none=>True
 | _,_=>False
noncomputable def KV{κ:Type}:List (κ×V)->List (κ×Value)->Prop:=Paired fun(p:κ×V) (q:κ×Value)=>p.1=q.1/\RelV p.2 q.2
noncomputable def kV:Key->V
 | .inl i=>.int i
 | .inr x=>.str x
inductive HO where
 | lst (xs:List V)
 | tup (xs:List V)
 | dK (kvs:List (Key×V)) | dT (kvs:List (List Key×V))
 | set (S:Int->Bool) (n:Nat)
 | ins (C dx:Addr) (fs:List (Str×V))
 | own (x:Addr)
 | xd (fs:List (Str×V))
 | met (f x:Addr)
 | rng (lo hi:Int)
 | frz (o:Obj) (u:HO)
 | tbl (ps:Array Value)
 | ext (φ:Heap->Prop)
noncomputable abbrev Hp:=Addr->Option HO
noncomputable def upd(H:Hp)(a:Addr)(o:HO):Hp:=fun b=>if b=a then some o else H b
theorem jA{H:Hp}{a:Addr}{o:HO}:upd H a o a=some o:=by unfold upd;rw[if_pos rfl]
theorem jh{H:Hp}{a b:Addr}{o:HO}(h:b≠a):upd H a o b=H b:=by unfold upd;rw[if_neg h]
theorem Q5{H:Hp}{a b:Addr}{o u:HO}(h:H a=some o)(h':H b=some u)(d:o≠u):a≠b:=by
 intro e;subst e;rw[h]at h';exact d (Option.some.inj h')
theorem jg{H:Hp}{a b:Addr}{o:HO}(h:H a=some o)(h':H b=none):a≠b:=by
 intro e;subst e;rw[h]at h';cases h'
section
variable(P:Program)(w:World)
noncomputable def ObjOk(H:Hp)(h:Heap)(a:Addr):HO->Prop
 | .lst xs=>xs.length<=sizeLine/\∃(its:List Value) (n:Nat),Vals xs its/\h.get? a=some {cls:=.type "list",data:=.seq its.toArray n}
 | .tup xs=>xs.length<=sizeLine/\∃its:List Value,Vals xs its/\IsTup h a its.toArray
 | .dK kvs=>kvs.length<=sizeLine/\(a==sysModules)=false/\∃vs,KV kvs vs/\h.DictOf (mixKind P w) a vs
 | .dT kvs=>kvs.length<=sizeLine/\(a==sysModules)=false/\∃xs:List (List Key×Addr×Value),
   Paired (fun(p:List Key×V) (q:List Key×Addr×Value)=>p.1=q.1/\H q.2.1=some (.tup (p.1.map kV))/\RelV p.2 q.2.2) kvs xs/\
   ∃o es ep,h.get? a=some o/\o.ExactDict/\o.data = .dict es ep/\es.toList=xs.map (entryOfKey (tupleKind (mixKind P w)))/\(xs.map (·.1)).Nodup
 | .set S n=>h.SetOf (intKind P w) a S n
 | .ins C dx fs=>H dx=some (.own a)/\fs.length<=1000/\dx≠a/\h.get? a=some (PySem.W.instObj C dx)/\
   ∃mA,h.Ns1 dx mA/\(∀f,RelO (fs.lookup f) (mA f))/\PySem.Within mA (fs.map (·.1))
 | .own _=>∃o,h.get? a=some o
 | .xd fs=>∃mA,h.Ns1 a mA/\∀f,RelO (fs.lookup f) (mA f)
 | .rng lo hi=>∃t u v,h.get? a=some {cls:=.type "range",data:=.fields #[.int lo t,.int hi u,.int 1 v]}
 | .frz o u=>h.get? a=some o/\ObjOk H h a u
 | .tbl ps=>h.get? a=some {cls:=.none,data:=.fields ps}
 | .met f x=>h.get? a=some (PySem.W.methodObj (.ref f) (.ref x))
 | .ext φ=>φ h/\(∃o,h.get? a=some o)/\∀h1 h2:Heap,φ h1->(∀o,h1.get? a=some o->h2.get? a=some o)->φ h2
def HOk(H:Hp)(h:Heap):Prop:=∀a o,H a=some o->ObjOk P w H h a o
end
section
variable{P:Program}{w:World}{H H':Hp}{h h':Heap}{a:Addr}{o:HO}
theorem ObjOk.lt(x:ObjOk P w H h a o):a<h.objs.size:=by
 cases o with
 | lst xs=>obtain⟨_,_,_,_,e⟩:=x;exact Heap.lt_size e
 | tup xs=>obtain⟨_,_,_,p⟩:=x;exact p.lt
 | dK kvs=>obtain⟨_,_,_,_,o,_,_,e,_⟩:=x;exact Heap.lt_size e
 | dT kvs=>obtain⟨_,_,_,_,o,_,_,e,_⟩:=x;exact Heap.lt_size e
 | set S n=>obtain⟨o,_,_,_,e,_⟩:=x;exact Heap.lt_size e
 | ins C dx fs=>obtain⟨_,_,_,e,_⟩:=x;exact Heap.lt_size e
 | own y=>obtain⟨_,e⟩:=x;exact Heap.lt_size e
 | xd fs=>obtain⟨_,⟨_,_,_,e,_⟩,_⟩:=x;exact Heap.lt_size e
 | rng lo hi=>obtain⟨_,_,_,e⟩:=x;exact Heap.lt_size e
 | frz ob u=>obtain⟨e,_⟩:=x;exact Heap.lt_size e
 | tbl ps=>exact Heap.lt_size (show h.get? a=some _ from x)
 | met f y=>exact Heap.lt_size (show h.get? a=some _ from x)
 | ext φ=>obtain⟨_,⟨_,e⟩,_⟩:=x;exact Heap.lt_size e
theorem Paired.mapP{α β:Type}{F G:α->β->Prop}:∀{l₁:List α} {l₂:List β},Paired F l₁ l₂->(∀a b,F a b->G a b)->Paired G l₁ l₂
 | _,_,.nil,_=>.nil
 | _,_,.cons r t,f=>.cons (f _ _ r) (Paired.mapP t f)
theorem ObjOk.stay(x:ObjOk P w H h a o)(k:∀b u,(b=a\/H b=some (.own a))->h.get? b=some u->h'.get? b=some u)
  (ho:∀b,H b=some (.own a)->H' b=some (.own a)) (ht:∀b xs,H b=some (.tup xs)->H' b=some (.tup xs)):ObjOk P w H' h' a o:=by
 induction o with
 | lst xs=>obtain⟨z,its,n,r,e⟩:=x;exact⟨z,its,n,r,k _ _ (.inl rfl) e⟩
 | tup xs=>obtain⟨z,its,r,ob,e,c⟩:=x;exact⟨z,its,r,ob,k _ _ (.inl rfl) e,c⟩
 | dK kvs=>obtain⟨z,y,vs,r,ob,es,ep,e,c⟩:=x;exact⟨z,y,vs,r,ob,es,ep,k _ _ (.inl rfl) e,c⟩
 | dT kvs=>
  obtain⟨z,y,xs,r,ob,es,ep,e,c⟩:=x;exact⟨z,y,xs,Paired.mapP r fun p q z=>⟨z.1,ht _ _ z.2.1,z.2.2⟩,ob,es,ep,k _ _ (.inl rfl) e,c⟩
 | set S n=>obtain⟨ob,es,ep,t,e,c⟩:=x;exact⟨ob,es,ep,t,k _ _ (.inl rfl) e,c⟩
 | ins C dx fs=>
  obtain⟨d,z,ne,e,mA,⟨od,es,ep,e2,c⟩,r⟩:=x;exact⟨ho _ d,z,ne,k _ _ (.inl rfl) e,mA,⟨od,es,ep,k _ _ (.inr d) e2,c⟩,r⟩
 | own y=>obtain⟨ob,e⟩:=x;exact⟨ob,k _ _ (.inl rfl) e⟩
 | xd fs=>obtain⟨mA,⟨od,es,ep,e,c⟩,r⟩:=x;exact⟨mA,⟨od,es,ep,k _ _ (.inl rfl) e,c⟩,r⟩
 | rng lo hi=>obtain⟨t,u,v,e⟩:=x;exact⟨t,u,v,k _ _ (.inl rfl) e⟩
 | frz ob u ih=>obtain⟨e,q⟩:=x;exact⟨k _ _ (.inl rfl) e,ih q⟩
 | tbl ps=>
  have e:h.get? a=some {cls:=.none,data:=.fields ps}:=x;show h'.get? a=some {cls:=.none,data:=.fields ps};exact k a _ (.inl rfl) e
 | met f y=>
  have e:h.get? a=some (PySem.W.methodObj (.ref f) (.ref y)):=x;show h'.get? a=some (PySem.W.methodObj (.ref f) (.ref y));exact k a _ (.inl rfl) e
 | ext φ=>obtain⟨p,⟨o,e⟩,st⟩:=x;exact⟨st _ _ p fun o q=>k _ _ (.inl rfl) q,⟨o,k _ _ (.inl rfl) e⟩,st⟩
theorem HOk.lt(x:HOk P w H h)(e:H a=some o):a<h.objs.size:=(x a o e).lt
theorem HOk.fresh(x:HOk P w H h)(e:h.objs.size<=a):H a=none:=by
 cases q:H a with
 | none=>rfl
 | some u=>exact absurd (Nat.lt_of_lt_of_le (x.lt q) e) (Nat.lt_irrefl _)
theorem HOk.kept(x:HOk P w H h)(k:∀b u,h.get? b=some u->h'.get? b=some u):HOk P w H h':=fun a o e=>
 (x a o e).stay (fun b u _ q=>k b u q) (fun _ q=>q) fun _ _ q=>q
theorem HOk.laid(x:HOk P w H h)(k:∀b u,h.get? b=some u->h'.get? b=some u)(hp:h.objs.size<=a)(new:ObjOk P w (upd H a o) h' a o):HOk P w (upd H a o) h':=fun b u e=>by
 have hn:=x.fresh hp;by_cases hb:b=a
 ·subst hb;rw[jA]at e;cases e;exact new
 ·rw[jh hb]at e;exact(x b u e).stay (fun c v _ q=>k c v q) (fun c q=>by rw[jh (jg q hn)];exact q) fun c xs q=>by rw[jh (jg q hn)];exact q
end
def Rd(H:Hp)(a:Addr)(u:HO):Prop:=H a=some u\/∃o,H a=some (.frz o u)
theorem Rd.ok{P:Program}{w:World}{H:Hp}{h:Heap}{a:Addr}{u:HO}(r:Rd H a u)(x:HOk P w H h):ObjOk P w H h a u:=by
 rcases r with r | ⟨o,r⟩
 ·exact x a u r
 ·obtain⟨_,q⟩:=x a _ r;exact q
noncomputable def Mut:Option HO->Prop
 | some (.lst _)=>True
 | some (.dK _)=>True
 | some (.dT _)=>True
 | some (.set _ _)=>True
 | some (.ins _ _ _)=>True
 | some (.ext _)=>True
 | _=>False
section
variable{P:Program}{w:World}{H:Hp}{h h':Heap}{x e:Addr}{o':HO}
theorem HOk.write(ok:HOk P w H h)(mu:Mut (H x))(he:e=x\/H e=some (.own x))(k:∀b u,b≠e->h.get? b=some u->h'.get? b=some u)(heo:∃u,h'.get? e=some u)
  (new:ObjOk P w (upd H x o') h' x o'):HOk P w (upd H x o') h':=fun b u q=>by
 have nown:∀c y,H c=some (.own y)->c≠x:=fun c y r z=>by subst z;rw[r]at mu;exact mu
 have ntup:∀c xs,H c=some (.tup xs)->c≠x:=fun c xs r z=>by subst z;rw[r]at mu;exact mu
 by_cases hb:b=x
 ·subst hb;rw[jA]at q;cases q;exact new
 ·rw[jh hb]at q;by_cases hbe:b=e
  ·have q':H b=some (.own x):=by
    rcases he with z | z
    ·exact absurd (hbe.trans z) hb
    ·rw[hbe];exact z
   rw[q]at q';cases q';obtain⟨v,hv⟩:=heo;exact⟨v,by rw[hbe];exact hv⟩
  ·refine(ok b u q).stay (fun c v hc r=>k c v ?_ r) (fun c r=>by rw[jh (nown c b r)];exact r) fun c xs r=>by rw[jh (ntup c xs r)];exact r
   rcases hc with rfl | hc
   ·exact hbe
   ·rintro rfl;rcases he with z | z
    ·exact nown c b hc z
    ·rw[hc]at z;cases z;exact hb rfl
end
structure Un(fs ex:List Addr)(H H':Hp)(h h':Heap):Prop where
 keep:∀b o,h.get? b=some o->H b=none->b∉fs->b∉ex->h'.get? b=some o
 slot:∀b o,h.get? b=some o->H b=none->b∈fs->b∉ex->∃sl,h'.get? b=some {o with slots:=sl}
 free:∀b o,h.get? b=some o->H b=none->b∉ex->H' b=none
 there:∀b o,h.get? b=some o->b∉ex->∃o',h'.get? b=some o'
 tups:∀b xs,H b=some (.tup xs)->H' b=some (.tup xs)
 frzs:∀b o u,H b=some (.frz o u)->H' b=some (.frz o u)
 tbls:∀b ps,H b=some (.tbl ps)->∃more,H' b=some (.tbl (ps++more))
section
variable{fs fs' ex ex':List Addr}{H H1 H2:Hp}{h h1 h2 h':Heap}{a x e:Addr}{o:HO}
theorem Un.any(u:Un fs ex H H1 h h1){b:Addr}{ob:Obj}(q:h.get? b=some ob)(n:H b=none)(hx:b∉ex):∃sl,h1.get? b=some {ob with slots:=sl}:=by
 by_cases hb:b∈fs
 ·exact u.slot b ob q n hb hx
 ·exact⟨ob.slots,u.keep b ob q n hb hx⟩
theorem Un.kept(k:∀b u,h.get? b=some u->h'.get? b=some u):Un fs ex H H h h':=
 ⟨fun b ob q _ _ _=>k b ob q,fun b ob q _ _ _=>⟨ob.slots,k b ob q⟩,fun _ _ _ n _=>n,fun b ob q _=>⟨ob,k b ob q⟩,fun _ _ q=>q,fun _ _ _ q=>q,fun _ ps q=>⟨#[],by rw[q];simp⟩⟩
theorem Un.refl:Un fs ex H H h h:=Un.kept fun _ _ q=>q
theorem Un.laid(k:∀b u,h.get? b=some u->h'.get? b=some u)(hp:h.objs.size<=a)(hn:H a=none):Un fs ex H (upd H a o) h h' where
 keep:=fun b u q _ _ _=>k b u q
 slot:=fun b u q _ _ _=>⟨u.slots,k b u q⟩
 free:=fun b u q n _=>by rw[jh (Nat.ne_of_lt (Nat.lt_of_lt_of_le (Heap.lt_size q) hp))];exact n
 there:=fun b u q _=>⟨u,k b u q⟩
 tups:=fun b xs q=>by rw[jh (jg q hn)];exact q
 frzs:=fun b u xs q=>by rw[jh (jg q hn)];exact q
 tbls:=fun b ps q=>⟨#[],by rw[jh (jg q hn),q];simp⟩
theorem Un.write(mu:Mut (H x))(he:e=x\/H e=some (.own x))(k:∀b u,b≠e->h.get? b=some u->h'.get? b=some u)(heo:∃u,h'.get? e=some u):Un fs ex H (upd H x o) h h':=by
 have hx:∀b,H b=none->b≠x:=fun b n z=>by subst z;rw[n]at mu;exact mu
 have hb:∀b,H b=none->b≠e:=fun b n z=>by
  subst z;rcases he with r | r
  ·exact hx b n r
  ·rw[n]at r;cases r
 have hm:∀b u,H b=some u->¬Mut (some u)->b≠x:=fun b u q nm z=>by subst z;rw[q]at mu;exact nm mu
 refine⟨fun b u q n _ _=>k b u (hb b n) q,fun b u q n _ _=>⟨u.slots,k b u (hb b n) q⟩,fun b u q n _=>by rw[jh (hx b n)];exact n,fun b u q _=>?_,
  fun b xs q=>by rw[jh (hm b _ q fun z=>z)];exact q,fun b u xs q=>by rw[jh (hm b _ q fun z=>z)];exact q,fun b ps q=>⟨#[],by rw[jh (hm b _ q fun z=>z),q];simp⟩⟩
 by_cases hbe:b=e
 ·subst hbe;exact heo
 ·exact⟨u,k b u hbe q⟩
end
noncomputable def trk(h:Heap)(H:Hp):List Addr:=(List.range h.objs.size).filter fun a=>(H a).isSome
noncomputable def hidT(h:Heap)(H:Hp):Heap:=PySem.W.hideAll h (trk h H)
theorem j0y(h:Heap)(H:Hp):(hidT h H).objs.size=h.objs.size:=PySem.W.hideAll_size _ _
theorem j1E{h:Heap}{H:Hp}{b:Addr}{o:Obj}(e:h.get? b=some o)(n:H b=none):(hidT h H).get? b=some o:=
 PySem.W.hideAll_get _ e fun hm=>by
  have q:(H b).isSome=true:=(mem_filter.mp hm).2;rw[n]at q;simp at q
theorem j3q{h:Heap}{H:Hp}{b:Addr}{o:Obj}(e:(hidT h H).get? b=some o):h.get? b=some o/\H b=none:=by
 have e':h.get? b=some o:=PySem.W.of_hideAll (trk h H) e;refine⟨e',?_⟩;cases q:H b with
 | none=>rfl
 | some x=>
  have hm:b∈trk h H:=mem_filter.mpr ⟨mem_range.mpr (Heap.lt_size e'),by simp[q]⟩;have z:(hidT h H).get? b=none:=PySem.W.hideAll_none (trk h H) hm;rw[z]at e;cases e
structure Mod(K:Frg)(mg:Str->Option Value)(base:Heap):Prop where
 kin:K.In base
 glob:base.Ns mainGlobals mg
 blt:∃mb,base.Ns builtinsNs mb/\∀x:Str,x≠"__name__"->mb x=bootBuiltins x
 nolimit:base.NoLimit
structure Cx where
 prog:Program
 w:World
 K:Frg
 mg:Str->Option Value
 base:Heap
 A:Around
 N:List Str
 s₀:Shared
 H₀:Hp
 env:Env
 outer:List Env
 stack:List Env
 ex:List Addr
 fn:Str->Bool
 calm:Bool
 pn:List (Addr×Obj)
 xe:Value->Shared->Prop
noncomputable def frs(l:List Env):List Addr:=l.filterMap (·.frame)
noncomputable abbrev Cx.fs(X:Cx):List Addr:=frs X.outer
def Vis(sc:Scope)(x:Str):Prop:=sc.names.lookup x=some .local\/sc.names.lookup x=some .cell\/sc.names.lookup x=some .free
def Loc(sc:Scope)(x:Str):Prop:=sc.names.lookup x=some .local\/sc.names.lookup x=some .cell
def Look(env:Env)(h:Heap)(m:Str->Option Value)(x:Str)(u:Value):Prop:=
 (env.kindOf x=some .local/\m x=some u)\/((env.kindOf x=some .cell\/env.kindOf x=some .free)/\∃c,env.cells.lookup x=some c/\h.IsCell c (some u))
structure Cx.Ok(X:Cx):Prop where
 mod:Mod X.K X.mg X.base
 kind:X.env.scope.kind = .function
 glob:X.env.globals=mainGlobals
 blt:X.env.builtins=builtinsNs
 above:X.s₀.heap.objs.size<=X.env.locals
 inj:∀x y c,X.env.cells.lookup x=some c->X.env.cells.lookup y=some c->x=y
 has:∀x,(X.env.kindOf x=some .cell\/X.env.kindOf x=some .free)->∃c,X.env.cells.lookup x=some c
 cab:∀x c,X.fn x=true->X.env.cells.lookup x=some c->X.s₀.heap.objs.size<=c
 hd:X.calm=true->X.A.handled=none
 frames:X.A.frames=some X.stack
 stk:X.stack=X.outer\/(X.stack=X.env::X.outer/\X.env.frame=some X.env.locals)
 exf:∀b∈X.ex,b≠X.env.locals/\∀x c,X.env.cells.lookup x=some c->c≠b
 bs:∀b o,X.base.get? b=some o->X.s₀.heap.get? b=some o/\X.H₀ b=none
 bsz:X.base.objs.size<=X.s₀.heap.objs.size
 noex:∀b o,X.base.get? b=some o->b∉X.ex
 exfs:∀b∈X.ex,b∉X.fs
 funs:X.s₀.heap.FunFrames X.base X.outer
 frf:∀b∈X.fs,X.H₀ b=none
structure Inv(X:Cx)(pins:List (Addr×Obj))(σ:List (Option V))(H:Hp)(s:Shared):Prop where
 ok:X.Ok
 os:s.os=X.s₀.os
 bare:AllBare s.gens
 base:Un X.fs X.ex X.H₀ H X.s₀.heap s.heap
 loc:∃m,s.heap.Ns X.env.locals m/\∀(i:Nat) (x:Str) (v:V),X.N[i]?=some x->σ[i]?=some (some v)->Vis X.env.scope x->∃u,RelV v u/\Look X.env s.heap m x u
 cell:∀x c,X.env.cells.lookup x=some c->∃v,s.heap.IsCell c v
 free:H X.env.locals=none
 freeC:∀x c,X.env.cells.lookup x=some c->H c=none
 pin:∀p∈X.pn++pins,s.heap.get? p.1=some p.2/\H p.1=none/\p.1≠X.env.locals/\p.1∉X.fs/\∀v,p.2.data≠.cell v
 hok:HOk X.prog X.w H s.heap
 len:σ.length=X.N.length
section
variable{X:Cx}{pins:List (Addr×Obj)}{σ:List (Option V)}{H H':Hp}{s:Shared}{h':Heap}
theorem Cx.Ok.nofr(ok:X.Ok){b:Addr}{o:Obj}(e:X.base.get? b=some o):b∉X.fs:=fun hb=>by
 have:=(ok.funs.mem hb).1;rw[e]at this;cases this
theorem Inv.bs(I:Inv X pins σ H s):∀b o,X.base.get? b=some o->s.heap.get? b=some o/\H b=none:=fun b o e=>
 ⟨I.base.keep b o (I.ok.bs b o e).1 (I.ok.bs b o e).2 (I.ok.nofr e) (I.ok.noex b o e),I.base.free b o (I.ok.bs b o e).1 (I.ok.bs b o e).2 (I.ok.noex b o e)⟩
theorem Inv.bk(I:Inv X pins σ H s):∀b o,X.base.get? b=some o->s.heap.get? b=some o:=fun b o e=>(I.bs b o e).1
theorem Inv.mod(I:Inv X pins σ H s):Mod X.K X.mg X.base:=I.ok.mod
theorem Inv.kIn(I:Inv X pins σ H s):X.K.In s.heap:=I.ok.mod.kin.keeps I.bk
theorem Inv.lt(I:Inv X pins σ H s):X.env.locals<s.heap.objs.size:=let ⟨_,hn,_⟩:=I.loc;hn.lt
theorem Inv.sz(I:Inv X pins σ H s):X.s₀.heap.objs.size<=s.heap.objs.size:=Nat.le_trans I.ok.above (Nat.le_of_lt I.lt)
theorem Inv.nofs(I:Inv X pins σ H s){a:Addr}(h:s.heap.objs.size<=a):a∉X.fs:=fun hb=>by
 obtain⟨_,o,ho,_⟩:=I.ok.funs.mem hb;exact absurd (Nat.lt_of_lt_of_le (Heap.lt_size ho) (Nat.le_trans I.sz h)) (Nat.lt_irrefl _)
theorem Inv.cne(I:Inv X pins σ H s):∀x c,X.env.cells.lookup x=some c->c≠X.env.locals:=fun x c e z=>by
 obtain⟨v,o,ho,hd⟩:=I.cell x c e;obtain⟨m,⟨o',es,ep,ho',hd',_⟩,_⟩:=I.loc;rw[z,ho']at ho;cases ho;rw[hd']at hd;cases hd
theorem Inv.funs(I:Inv X pins σ H s):s.heap.FunFrames X.base X.outer:=by
 have all:∀(l:List Env),(∀b∈frs l,b∈X.fs)->X.s₀.heap.FunFrames X.base l->s.heap.FunFrames X.base l:=by
  intro l
  induction l with
  | nil=>intro _ _;trivial
  | cons env r ih=>
   intro hs hl;obtain⟨hk,⟨L,o,hf,hn,ho,hd⟩,hr⟩:=hl;have hL:L∈X.fs:=hs L (by unfold frs;rw[filterMap_cons,hf];exact mem_cons_self);obtain⟨sl,e⟩:=I.base.slot L o ho (I.ok.frf L hL) hL fun z=>I.ok.exfs L z hL
   exact⟨hk,⟨L,_,hf,hn,e,hd⟩,ih (fun b hb=>hs b (by unfold frs;rw[filterMap_cons,hf];exact mem_cons_of_mem _ hb)) hr⟩
 exact all X.outer (fun _ hb=>hb) I.ok.funs
theorem Inv.stack(I:Inv X pins σ H s):s.heap.FunFrames X.base X.stack:=by
 rcases I.ok.stk with e | ⟨e,hf⟩
 ·rw[e];exact I.funs
 ·rw[e];obtain⟨m,hn,_⟩:=I.loc;refine .cons (by rw[I.ok.kind];decide) hf hn ?_ I.funs;exact Heap.get?_none_of_le (Nat.le_trans I.ok.bsz I.ok.above)
theorem Inv.stkSub(I:Inv X pins σ H s):∀b∈frs X.stack,b∈X.env.locals::X.fs:=fun b hb=>by
 rcases I.ok.stk with e | ⟨e,hf⟩
 ·rw[e]at hb;exact mem_cons_of_mem _ hb
 ·rw[e]at hb;unfold frs at hb;rw[filterMap_cons,hf]at hb;exact hb
theorem Inv.stkFree(I:Inv X pins σ H s):∀b∈frs X.stack,H b=none:=fun b hb=>by
 rcases mem_cons.mp (I.stkSub b hb)with e | hb
 ·rw[e];exact I.free
 ·obtain⟨_,o,ho,_⟩:=I.ok.funs.mem hb;exact I.base.free b o ho (I.ok.frf b hb) fun z=>I.ok.exfs b z hb
theorem Inv.step{g':Array GenState}{t':Nat}{d':Drawn}{ch:List Addr}(I:Inv X pins σ H s)
  (hch:∀b∈ch,(b∈X.ex\/X.s₀.heap.objs.size<=b)/\b≠X.env.locals/\(∀x c,X.env.cells.lookup x=some c->c≠b)/\∀p∈X.pn++pins,p.1≠b)
  (keep:∀b o,b≠X.env.locals->b∉X.fs->b∉ch->s.heap.get? b=some o->H b=none->h'.get? b=some o)
  (slot:∀b o,b≠X.env.locals->b∈X.fs->b∉ch->s.heap.get? b=some o->H b=none->∃sl,h'.get? b=some {o with slots:=sl}) (free:∀b o,b∉ch->s.heap.get? b=some o->H b=none->H' b=none)
  (there:∀b o,b∉ch->s.heap.get? b=some o->∃o',h'.get? b=some o')
  (tups:∀b xs,H b=some (.tup xs)->H' b=some (.tup xs)) (frzs:∀b o u,H b=some (.frz o u)->H' b=some (.frz o u)) (tbls:∀b ps,H b=some (.tbl ps)->∃more,H' b=some (.tbl (ps++more)))
  (ns:∀m,s.heap.Ns X.env.locals m->h'.Ns X.env.locals m) (hok:HOk X.prog X.w H' h') (hg:AllBare g') :
  Inv X pins σ H' {s with heap:=h',gens:=g',drawn:=d',toks:=t'}:=by
 have neL:∀b o,X.s₀.heap.get? b=some o->b≠X.env.locals:=fun b o e=>Nat.ne_of_lt (Nat.lt_of_lt_of_le (Heap.lt_size e) I.ok.above)
 have neC:∀b o,X.s₀.heap.get? b=some o->b∉X.ex->b∉ch:=fun b o e hx hb=>by
  rcases(hch b hb).1 with z | z
  ·exact hx z
  ·exact absurd (Nat.lt_of_lt_of_le (Heap.lt_size e) z) (Nat.lt_irrefl _)
 have cellK:∀x c,X.env.cells.lookup x=some c->∀v,s.heap.IsCell c v->h'.IsCell c v:=fun x c e v ⟨o,ho,hd⟩=>by
  have nch:c∉ch:=fun z=>(hch c z).2.2.1 x c e rfl
  by_cases hc:c∈X.fs
  ·obtain⟨sl,q⟩:=slot c o (I.cne x c e) hc nch ho (I.freeC x c e);exact⟨_,q,hd⟩
  ·exact⟨o,keep c o (I.cne x c e) hc nch ho (I.freeC x c e),hd⟩
 refine⟨I.ok,I.os,hg,⟨fun b o e n hb hx=>?_,fun b o e n hb hx=>?_,fun b o e n hx=>?_,fun b o e hx=>?_,fun b xs e=>tups b xs (I.base.tups b xs e),fun b o xs e=>frzs b o xs (I.base.frzs b o xs e),fun b ps e=>?_⟩,?_,fun x c e=>?_,?_,fun x c e=>?_,fun p hp=>?_,hok,I.len⟩
 ·exact keep b o (neL b o e) hb (neC b o e hx) (I.base.keep b o e n hb hx) (I.base.free b o e n hx)
 ·obtain⟨sl,e1⟩:=I.base.slot b o e n hb hx;obtain⟨sl',e2⟩:=slot b _ (neL b o e) hb (neC b o e hx) e1 (I.base.free b o e n hx);exact⟨sl',e2⟩
 ·obtain⟨o',e1⟩:=I.base.there b o e hx;exact free b o' (neC b o e hx) e1 (I.base.free b o e n hx)
 ·obtain⟨o',e1⟩:=I.base.there b o e hx;exact there b o' (neC b o e hx) e1
 ·obtain⟨m1,e1⟩:=I.base.tbls b ps e;obtain⟨m2,e2⟩:=tbls b _ e1;exact⟨m1++m2,by rw[e2,Array.append_assoc]⟩
 ·obtain⟨m,hn,hl⟩:=I.loc;refine⟨m,ns m hn,fun i x v e1 e2 e3=>?_⟩;obtain⟨u,r,l⟩:=hl i x v e1 e2 e3;refine⟨u,r,?_⟩;rcases l with l | ⟨k,c,e,z⟩
  ·exact .inl l
  ·exact .inr ⟨k,c,e,cellK x c e _ z⟩
 ·obtain⟨v,z⟩:=I.cell x c e;exact⟨v,cellK x c e v z⟩
 ·obtain⟨m,⟨o,_,_,ho,_⟩,_⟩:=I.loc;exact free _ o (fun z=>(hch _ z).2.1 rfl) ho I.free
 ·obtain⟨v,o,ho,hd⟩:=I.cell x c e;exact free c o (fun z=>(hch c z).2.2.1 x c e rfl) ho (I.freeC x c e)
 ·obtain⟨e,n,ne,nf,d⟩:=I.pin p hp;have nch:p.1∉ch:=fun z=>(hch p.1 z).2.2.2 p hp rfl
  exact⟨keep p.1 p.2 ne nf nch e n,free p.1 p.2 nch e n,ne,nf,d⟩
theorem Inv.un{t':Nat}(I:Inv X pins σ H s)(u:Un X.fs [] H H' s.heap h')(hok:HOk X.prog X.w H' h'):Inv X pins σ H' {s with heap:=h',toks:=t'}:=by
 obtain⟨m,⟨o,es,ep,ho,r⟩,_⟩:=id I.loc;obtain⟨sl,hL⟩:=u.any ho I.free (by simp);exact I.step (g':=s.gens) (d':=s.drawn) (ch:=[]) (fun _ z=>nomatch z) (fun b o _ hb _ e n=>u.keep b o e n hb (by simp)) (fun b o _ hb _ e n=>u.slot b o e n hb (by simp)) (fun b o _ e n=>u.free b o e n (by simp)) (fun b o _ e=>u.there b o e (by simp)) u.tups u.frzs u.tbls (fun m' hm=>by
  obtain⟨o',es',ep',ho',r'⟩:=hm;rw[ho]at ho';cases ho';exact⟨_,es',ep',hL,r'⟩) hok I.bare
theorem Inv.call{g':Array GenState}{t':Nat}{d':Drawn}{ch:List Addr}(I:Inv X pins σ H s)(u:Un (frs X.stack) ch H H' s.heap h')(hok:HOk X.prog X.w H' h')(hg:AllBare g')
  (hch:∀b∈ch,(b∈X.ex\/X.s₀.heap.objs.size<=b)/\b≠X.env.locals/\(∀x c,X.env.cells.lookup x=some c->c≠b)/\∀p∈X.pn++pins,p.1≠b) :
  Inv X pins σ H' {s with heap:=h',gens:=g',drawn:=d',toks:=t'}:=by
 obtain⟨m,⟨o,es,ep,ho,r⟩,_⟩:=id I.loc;obtain⟨sl,hL⟩:=u.any ho I.free fun z=>(hch _ z).2.1 rfl
 exact I.step (ch:=ch) hch (fun b o hL hb hc e n=>u.keep b o e n (fun z=>(mem_cons.mp (I.stkSub b z)).elim hL hb) hc) (fun b o _ _ hc e n=>u.any e n hc) (fun b o hc e n=>u.free b o e n hc) (fun b o hc e=>u.there b o e hc) u.tups u.frzs u.tbls (fun m' hm=>by
  obtain⟨o',es',ep',ho',r'⟩:=hm;rw[ho]at ho';cases ho';exact⟨_,es',ep',hL,r'⟩) hok hg
theorem Inv.turned{t':Nat}{it:Addr}(I:Inv X pins σ H s)(k:∀b o,b≠it->s.heap.get? b=some o->h'.get? b=some o)(hn:H it=none)(hL:it≠X.env.locals)
  (h1:it∈X.ex\/X.s₀.heap.objs.size<=it) (h2:∀x c,X.env.cells.lookup x=some c->c≠it) (h3:∀p∈X.pn++pins,p.1≠it):Inv X pins σ H {s with heap:=h',toks:=t'}:=by
 have nit:∀b u,H b=some u->b≠it:=fun b u e z=>by rw[z,hn]at e;cases e
 refine I.step (g':=s.gens) (d':=s.drawn) (ch:=[it]) (fun b hb=>?_) (fun b o _ _ hc e _=>k b o (fun z=>hc (by simp[z])) e) (fun b o _ _ hc e _=>⟨o.slots,k b o (fun z=>hc (by simp[z])) e⟩) (fun _ _ _ _ n=>n)
  (fun b o hc e=>⟨o,k b o (fun z=>hc (by simp[z])) e⟩) (fun _ _ e=>e) (fun _ _ _ e=>e) (fun b ps e=>⟨#[],by rw[e];simp⟩) (fun m hm=>?_) (fun b u e=>?_) I.bare
 ·have e:b=it:=by simpa using hb
  subst e;exact⟨h1,hL,h2,h3⟩
 ·obtain⟨o,es,ep,ho,r⟩:=hm;exact⟨o,es,ep,k _ o (Ne.symm hL) ho,r⟩
 ·refine(I.hok b u e).stay (fun c v hc q=>k c v ?_ q) (fun _ q=>q) fun _ _ q=>q
  rcases hc with z | z
  ·rw[z];exact nit b u e
  ·exact nit c _ z
theorem Inv.tok(I:Inv X pins σ H s)(t:Nat):Inv X pins σ H {s with toks:=t}:=I.un (h':=s.heap) (t':=t) Un.refl I.hok
theorem Inv.kept{t':Nat}(I:Inv X pins σ H s)(k:∀b u,s.heap.get? b=some u->h'.get? b=some u):Inv X pins σ H {s with heap:=h',toks:=t'}:=I.un (Un.kept k) (I.hok.kept k)
theorem Inv.laid{a:Addr}{o:HO}{t':Nat}(I:Inv X pins σ H s)(k:∀b u,s.heap.get? b=some u->h'.get? b=some u)(hp:s.heap.objs.size<=a)(new:ObjOk X.prog X.w (upd H a o) h' a o) :
  Inv X pins σ (upd H a o) {s with heap:=h',toks:=t'}:=I.un (Un.laid k hp (I.hok.fresh hp)) (I.hok.laid k hp new)
theorem Inv.write{x e:Addr}{o:HO}{t':Nat}(I:Inv X pins σ H s)(mu:Mut (H x))(he:e=x\/H e=some (.own x))(k:∀b u,b≠e->s.heap.get? b=some u->h'.get? b=some u)(heo:∃u,h'.get? e=some u)
  (new:ObjOk X.prog X.w (upd H x o) h' x o):Inv X pins σ (upd H x o) {s with heap:=h',toks:=t'}:=I.un (Un.write mu he k heo) (I.hok.write mu he k heo new)
theorem Inv.weak{σ':List (Option V)}(I:Inv X pins σ H s)(hl:σ'.length=σ.length)(w:∀(i:Nat) v,σ'[i]?=some (some v)->σ[i]?=some (some v)):Inv X pins σ' H s:=
 ⟨I.ok,I.os,I.bare,I.base,let ⟨m,hn,hl'⟩:=I.loc;⟨m,hn,fun i x v e1 e2 e3=>hl' i x v e1 (w i v e2) e3⟩,I.cell,I.free,I.freeC,I.pin,I.hok,hl.trans I.len⟩
theorem Inv.pins_of{pins':List (Addr×Obj)}(I:Inv X pins σ H s)(h:∀p∈pins',s.heap.get? p.1=some p.2/\H p.1=none/\p.1≠X.env.locals/\p.1∉X.fs/\∀v,p.2.data≠.cell v):Inv X pins' σ H s:=
 ⟨I.ok,I.os,I.bare,I.base,I.loc,I.cell,I.free,I.freeC,fun p hp=>(mem_append.mp hp).elim (fun z=>I.pin p (mem_append_left _ z)) (h p),I.hok,I.len⟩
theorem xu{N:List Str}(hN:N.Nodup){i j:Nat}{x:Str}(a:N[i]?=some x)(b:N[j]?=some x):i=j:=by
 obtain⟨h1,e1⟩:=List.getElem?_eq_some_iff.mp a;obtain⟨h2,e2⟩:=List.getElem?_eq_some_iff.mp b;exact(List.getElem_inj hN).mp (e1.trans e2.symm)
theorem wu{M:Model}{A:Around}{E:Value->Shared->Prop}{i:Nat}{x:Str}{v:V}{u:Value}{Q:Unit->Shared->Prop}(I:Inv X pins σ H s)(hN:X.N.Nodup)(hi:X.N[i]?=some x)(hx:Loc X.env.scope x)(r:RelV v u)
  (h:∀s',Inv X pins (σ.set i (some v)) H s'->(∃a,Heap.SameBut a s.heap s'.heap/\(a=X.env.locals\/X.env.cells.lookup x=some a))->Q () s') (hf:X.fn x=true\/X.env.scope.names.lookup x=some .local:=by first | exact .inl rfl | exact .inr rfl | assumption):wpAny M A (storeName X.env x u) Q E s:=by
 obtain⟨m,hn,hl⟩:=id I.loc;have hcls:(X.env.scope.kind == .class||(X.env.scope.kind == .module&&X.env.locals != X.env.globals))=false:=by rw[I.ok.kind];rfl
 have hiσ:i<σ.length:=by rw[I.len];exact(List.getElem?_eq_some_iff.mp hi).1
 have cne:=I.cne;have tracked:∀{a:Addr} {h':Heap},(∃o,s.heap.get? a=some o/\H a=none)->Heap.SameBut a s.heap h'->HOk X.prog X.w H h':=fun {a h'} ha hs b ob e=>by
  obtain⟨_,_,hfree⟩:=ha;refine(I.hok b ob e).stay (fun c w' hc q=>(hs.2 c ?_).trans q) (fun _ q=>q) fun _ _ q=>q
  rintro rfl;rcases hc with rfl | hc
  ·rw[hfree]at e;cases e
  ·rw[hfree]at hc;cases hc
 rcases hx with hk | hk
 ·refine wpAny_storeName_local hk hn (fun h' hn' hs=>?_) hcls;obtain⟨oL,_,_,hoL,_⟩:=id hn;refine h _ ⟨I.ok,I.os,I.bare,⟨fun b o e n hb hx=>?_,fun b o e n hb hx=>?_,I.base.free,fun b o e hx=>?_,I.base.tups,I.base.frzs,I.base.tbls⟩,⟨_,hn',fun j y v' e1 e2 e3=>?_⟩,fun y c e=>?_,I.free,I.freeC,fun p hp=>?_,tracked ⟨oL,hoL,I.free⟩ hs,by simpa using I.len⟩ ⟨_,hs,.inl rfl⟩
  ·exact(hs.2 b (Nat.ne_of_lt (Nat.lt_of_lt_of_le (Heap.lt_size e) I.ok.above))).trans (I.base.keep b o e n hb hx)
  ·obtain⟨sl,e1⟩:=I.base.slot b o e n hb hx;exact⟨sl,(hs.2 b (Nat.ne_of_lt (Nat.lt_of_lt_of_le (Heap.lt_size e) I.ok.above))).trans e1⟩
  ·obtain⟨o',e1⟩:=I.base.there b o e hx;exact⟨o',(hs.2 b (Nat.ne_of_lt (Nat.lt_of_lt_of_le (Heap.lt_size e) I.ok.above))).trans e1⟩
  ·by_cases hj:j=i
   ·subst hj;rw[hi]at e1;cases e1;rw[List.getElem?_set_self hiσ]at e2;cases e2;exact⟨u,r,.inl ⟨hk,by simp⟩⟩
   ·rw[List.getElem?_set_ne (Ne.symm hj)]at e2;obtain⟨u',r',q⟩:=hl j y v' e1 e2 e3;refine⟨u',r',?_⟩;rcases q with⟨k,e⟩ | ⟨k,c,e,z⟩
    ·refine .inl ⟨k,?_⟩;have:y≠x:=fun e=>hj (xu hN e1 (e▸hi))
     simp[this,e]
    ·exact .inr ⟨k,c,e,z.sameBut hs (cne y c e)⟩
  ·obtain⟨w',z⟩:=I.cell y c e;exact⟨w',z.sameBut hs (cne y c e)⟩
  ·obtain⟨e,n,ne,nf,d⟩:=I.pin p hp;exact⟨(hs.2 p.1 ne).trans e,n,ne,nf,d⟩
 ·have hfn:X.fn x=true:=by
   rcases hf with z | z
   ·exact z
   ·rw[z]at hk;cases hk
  obtain⟨c,hc⟩:=I.ok.has x (.inl hk);obtain⟨w',z⟩:=I.cell x c hc;refine wpAny_storeName_cell I.ok.kind hk hc z (fun h' hc' hs=>?_);obtain⟨oc,hoc,hocd⟩:=id z;refine h {s with heap:=h'} ⟨I.ok,I.os,I.bare,⟨fun b o e n hb hx=>?_,fun b o e n hb hx=>?_,I.base.free,fun b o e hx=>?_,I.base.tups,I.base.frzs,I.base.tbls⟩,⟨m,hn.sameBut hs (Ne.symm (cne x c hc)),fun j y v' e1 e2 e3=>?_⟩,fun y c' e=>?_,I.free,I.freeC,fun p hp=>?_,tracked ⟨oc,hoc,I.freeC x c hc⟩ hs,by simpa using I.len⟩ ⟨c,hs,.inr hc⟩
  ·exact(hs.2 b (Nat.ne_of_lt (Nat.lt_of_lt_of_le (Heap.lt_size e) (I.ok.cab x c hfn hc)))).trans (I.base.keep b o e n hb hx)
  ·obtain⟨sl,e1⟩:=I.base.slot b o e n hb hx;exact⟨sl,(hs.2 b (Nat.ne_of_lt (Nat.lt_of_lt_of_le (Heap.lt_size e) (I.ok.cab x c hfn hc)))).trans e1⟩
  ·obtain⟨o',e1⟩:=I.base.there b o e hx;exact⟨o',(hs.2 b (Nat.ne_of_lt (Nat.lt_of_lt_of_le (Heap.lt_size e) (I.ok.cab x c hfn hc)))).trans e1⟩
  ·by_cases hj:j=i
   ·subst hj;rw[hi]at e1;cases e1;rw[List.getElem?_set_self hiσ]at e2;cases e2;exact⟨u,r,.inr ⟨.inl hk,c,hc,hc'⟩⟩
   ·rw[List.getElem?_set_ne (Ne.symm hj)]at e2;obtain⟨u',r',q⟩:=hl j y v' e1 e2 e3;refine⟨u',r',?_⟩;rcases q with q | ⟨k,c',e,z'⟩
    ·exact .inl q
    ·refine .inr ⟨k,c',e,z'.sameBut hs ?_⟩;rintro rfl;exact hj (xu hN e1 (I.ok.inj _ _ _ e hc▸hi))
  ·by_cases hcc:c'=c
   ·subst hcc;exact⟨_,hc'⟩
   ·obtain⟨w2,z2⟩:=I.cell y c' e;exact⟨w2,z2.sameBut hs hcc⟩
  ·obtain⟨e,n,ne,nf,d⟩:=I.pin p hp;refine⟨(hs.2 p.1 ?_).trans e,n,ne,nf,d⟩;intro q;rw[q,hoc]at e;have q':oc=p.2:=Option.some.inj e;exact d w' (by rw[<-q'];exact hocd)
theorem Ks{M:Model}{A:Around}{E:Value->Shared->Prop}{i:Nat}{x:Str}{v:V}{u:Value}{Q:Unit->Shared->Prop}(I:Inv X pins σ H s)(hN:X.N.Nodup)(hi:X.N[i]?=some x)(hx:Loc X.env.scope x)(r:RelV v u)
  (h:∀s',Inv X pins (σ.set i (some v)) H s'->Q () s') (hf:X.fn x=true\/X.env.scope.names.lookup x=some .local:=by first | exact .inl rfl | exact .inr rfl | assumption):wpAny M A (storeName X.env x u) Q E s:=
 wu I hN hi hx r (fun s' I' _=>h s' I') hf
theorem Inv.call'{s':Shared}{ch:List Addr}(I:Inv X pins σ H s)(ho:s'.os=s.os)(u:Un (frs X.stack) ch H H' s.heap s'.heap)(hok:HOk X.prog X.w H' s'.heap)(hg:AllBare s'.gens)
  (hch:∀b∈ch,(b∈X.ex\/X.s₀.heap.objs.size<=b)/\b≠X.env.locals/\(∀x c,X.env.cells.lookup x=some c->c≠b)/\∀p∈X.pn++pins,p.1≠b):Inv X pins σ H' s':=by
 obtain⟨h',g',d',t',o'⟩:=s';have e:o'=s.os:=ho;subst e;exact I.call (g':=g') (t':=t') (d':=d') u hok hg hch
end
noncomputable abbrev XK:=Value->Option Addr->Hp->Prop
noncomputable abbrev St:=List (Option V)
noncomputable abbrev VK:=V->Hp->Prop
noncomputable abbrev TE:=St->Hp->VK->Prop
noncomputable abbrev TT:=St->Hp->(Bool->Hp->Prop)->Prop
noncomputable abbrev TA:=St->Hp->(List V->Hp->Prop)->Prop
structure Ends where
 nx:St->Hp->Prop
 rt:VK
 bk:St->Hp->Prop:=fun _ _=>False
 ct:St->Hp->Prop:=fun _ _=>False
noncomputable abbrev TS:=Ends->St->Hp->Prop
def EP(X:Cx)(pins:List (Addr×Obj))(σ:St)(Q:VK)(u:Value)(s':Shared):Prop:=∃v H',Inv X pins σ H' s'/\RelV v u/\Q v H'
def TP(X:Cx)(pins:List (Addr×Obj))(σ:St)(Q:Bool->Hp->Prop)(b:Bool)(s':Shared):Prop:=∃H',Inv X pins σ H' s'/\Q b H'
def AP(X:Cx)(pins:List (Addr×Obj))(σ:St)(Q:List V->Hp->Prop)(us:List Value)(s':Shared):Prop:=∃vs H',Inv X pins σ H' s'/\Vals vs us/\Q vs H'
def SP(X:Cx)(pins:List (Addr×Obj))(D:Ends)(f:Flow)(s':Shared):Prop:=
 match f with
 | .next=>∃σ' H',Inv X pins σ' H' s'/\D.nx σ' H'
 | .brk=>∃σ' H',Inv X pins σ' H' s'/\D.bk σ' H'
 | .cont=>∃σ' H',Inv X pins σ' H' s'/\D.ct σ' H'
 | .ret u=>∃v σ' H',Inv X pins σ' H' s'/\RelV v u/\D.rt v H'
def PE(X:Cx)(e:Expr)(t:TE):Prop:=
 ∀(pins:List (Addr×Obj)) (s:Shared) (σ:St) (H:Hp) (Q:VK),Inv X pins σ H s->t σ H Q->wpAny (model X.prog X.w) X.A (eval e X.env) (EP X pins σ Q) X.xe s
def PT(X:Cx)(e:Expr)(t:TT):Prop:=
 ∀(pins:List (Addr×Obj)) (s:Shared) (σ:St) (H:Hp) (Q:Bool->Hp->Prop),Inv X pins σ H s->t σ H Q->wpAny (model X.prog X.w) X.A (isTrue e X.env (eval e X.env)) (TP X pins σ Q) X.xe s
def PW(X:Cx)(e:Expr)(t:TT):Prop:=
 ∀(whole:Sem Value) (pins:List (Addr×Obj)) (s:Shared) (σ:St) (H:Hp) (Q:Bool->Hp->Prop),Inv X pins σ H s->t σ H Q->wpAny (model X.prog X.w) X.A (isTrue e X.env whole) (TP X pins σ Q) X.xe s
theorem PW.pt{X:Cx}{e:Expr}{t:TT}(h:PW X e t):PT X e t:=h _
def PA(X:Cx)(es:List Expr)(t:TA):Prop:=
 ∀(pos:Pos) (pins:List (Addr×Obj)) (s:Shared) (σ:St) (H:Hp) (Q:List V->Hp->Prop),Inv X pins σ H s->t σ H Q->wpAny (model X.prog X.w) X.A (spliced (backTo pos (starEach es X.env))) (AP X pins σ Q) X.xe s
def PS(X:Cx)(st:Stmt)(t:TS):Prop:=
 ∀(pins:List (Addr×Obj)) (s:Shared) (σ:St) (H:Hp) (D:Ends),Inv X pins σ H s->t D σ H->wpAny (model X.prog X.w) X.A (exec st X.env) (SP X pins D) X.xe s
def PSs(X:Cx)(st:List Stmt)(t:TS):Prop:=
 ∀(pins:List (Addr×Obj)) (s:Shared) (σ:St) (H:Hp) (D:Ends),Inv X pins σ H s->t D σ H->wpAny (model X.prog X.w) X.A (execs st X.env) (SP X pins D) X.xe s
theorem thn{α:Type}{t:Sem α}{Q Q':α->Shared->Prop}{M:Model}{A:Around}{E:Value->Shared->Prop}{s:Shared}(h:wpAny M A t Q E s)(hQ:∀a s,Q a s->Q' a s):wpAny M A t Q' E s:=wpAny_mono h hQ fun _ _ x=>x
section
variable{X:Cx}
def tVar(i:Nat):TE:=fun σ H Q=>∃v,σ[i]?=some (some v)/\Q v H
def tC(v:V):TE:=fun _ H Q=>Q v H
theorem j4A{i:Nat}{x:Str}{pos:Pos}(hN:X.N[i]?=some x)(hv:Vis X.env.scope x)(hd:(x==("__debug__" : Str))=false:=by decide)(hcd:(x==("__classdict__" : Str))=false:=by decide):PE X (.Name x pos) (tVar i):=by
 intro pins s σ H Q I h;obtain⟨v,e,h⟩:=h;obtain⟨m,hn,hl⟩:=I.loc;obtain⟨u,r,l⟩:=hl i x v hN e hv;have fin:EP X pins σ Q u s:=⟨v,H,I,r,h⟩
 rcases l with⟨hk,hm⟩ | ⟨hk,c,hc,hcell⟩
 ·exact wpAny_Name (wpAny_loadName_local I.ok.kind hk hn hm fin) hd
 ·rcases hk with hk | hk
  ·exact wpAny_Name (wpAny_loadName_cell I.ok.kind hk hc hcell fin) hd
  ·exact wpAny_Name (wpAny_loadName_free I.ok.kind hk hc hcell fin hcd) hd
theorem jf{i j pos}:PE X (.Constant (.int i) j pos) (tC (.int i)):=fun _ _ _ H _ I h=>wpAny_Constant_int ⟨.int i,H,I.tok _,⟨_,rfl⟩,h⟩
theorem j06{b j pos}:PE X (.Constant (.bool b) j pos) (tC (.bl b)):=fun _ _ _ H _ I h=>Constant_bool ⟨.bl b,H,I,rfl,h⟩
theorem Qu{j pos}:PE X (.Constant .none j pos) (tC .non):=fun _ _ _ H _ I h=>Constant_none ⟨.non,H,I,rfl,h⟩
theorem jz{x j pos}:PE X (.Constant (.str x) j pos) (tC (.str x)):=fun _ _ _ H _ I h=>Calls.Constant_str ⟨.str x,H,I.tok _,⟨_,rfl⟩,h⟩
def Gl(X:Cx)(x:Str):Prop:=X.env.kindOf x=some .globalImplicit
theorem wX{E:Value->Shared->Prop}{pins:List (Addr×Obj)}{s:Shared}{σ:St}{H:Hp}{x:Str}{u:Value}{pos:Pos}{Q:Value->Shared->Prop}(I:Inv X pins σ H s)(hg:Gl X x)(hm:X.mg x=some u)(h:Q u s)
  (hd:(x==("__debug__" : Str))=false:=by decide):wpAny (model X.prog X.w) X.A (eval (.Name x pos) X.env) Q E s:=
 Calls.Name_function_global I.ok.kind hg (Calls.loadGlobal_global (by rw[I.ok.glob];exact I.mod.glob.keeps I.bk) hm h) hd
theorem yz{E:Value->Shared->Prop}{pins:List (Addr×Obj)}{s:Shared}{σ:St}{H:Hp}{x:Str}{u:Value}{pos:Pos}{Q:Value->Shared->Prop}(I:Inv X pins σ H s)(hg:Gl X x)(hm:X.mg x=none)(hv:bootBuiltins x=some u)(h:Q u s)
  (hn:x≠"__name__":=by decide) (hd:(x==("__debug__" : Str))=false:=by decide):wpAny (model X.prog X.w) X.A (eval (.Name x pos) X.env) Q E s:=by
 obtain⟨mb,h1,h2⟩:=I.mod.blt;exact Calls.Name_function_global I.ok.kind hg (Calls.loadGlobal_builtin (by rw[I.ok.glob];exact I.mod.glob.keeps I.bk) hm (by rw[I.ok.blt];exact h1.keeps I.bk) ((h2 x hn).trans hv) h) hd
theorem j3v{x:Str}{v:V}{u:Value}{pos:Pos}(hg:Gl X x)(hm:X.mg x=some u)(r:RelV v u)(hd:(x==("__debug__" : Str))=false:=by decide):PE X (.Name x pos) (tC v):=
 fun _ _ _ H _ I h=>wX I hg hm ⟨v,H,I,r,h⟩ hd
theorem j07{x:Str}{v:V}{u:Value}{pos:Pos}(hg:Gl X x)(hm:X.mg x=none)(hv:bootBuiltins x=some u)(r:RelV v u)(hn:x≠"__name__":=by decide)(hd:(x==("__debug__" : Str))=false:=by decide):PE X (.Name x pos) (tC v):=
 fun _ _ _ H _ I h=>yz I hg hm hv ⟨v,H,I,r,h⟩ hn hd
variable{a b:Expr}{ta tb:TE}{pos:Pos}
def tB(t:TE):TT:=fun σ H Q=>t σ H fun x H1=>∃c,x = .bl c/\Q c H1
theorem j29{e:Expr}{t:TE}(h:PE X e t)(he:∀whole,isTrue e X.env whole=(do let v <-whole;standAt e.pos;holding [v] (truthy v)):=by intro _;rfl):PT X e (tB t):=by
 intro pins s σ H Q I hw;refine isTrue_plain (thn (h pins s σ H _ I hw) fun v s1 ⟨x,H1,I1,r1,q1⟩=>?_) (he _);obtain⟨d,rfl,q⟩:=q1;cases r1;exact wpAny_truthy_bool ⟨H1,I1,q⟩
variable{tA tB':TT}{rest:List Expr}
def tAnd(t u:TT):TT:=fun σ H Q=>t σ H fun c H1=>if c=true then u σ H1 Q else Q false H1
def tNot(t:TT):TT:=fun σ H Q=>t σ H fun c H1=>Q (!c) H1
theorem Z9(ha:PT X a tA):PW X (.BoolOp .And [a] pos) tA:=by
 intro wh pins s σ H Q I h;refine isTrue_and (thn (ha pins s σ H Q I h) fun c s1 e=>?_);cases c with
 | true=>exact isTrue_and_nil e
 | false=>exact e
theorem yE(ha:PT X a tA)(hb:PW X (.BoolOp .And (b::rest) pos) tB'):PW X (.BoolOp .And (a::b::rest) pos) (tAnd tA tB'):=by
 intro wh pins s σ H Q I h;refine isTrue_and (thn (ha pins s σ H _ I h) fun c s1 ⟨H1,I1,q1⟩=>?_);cases c with
 | true=>exact hb wh pins s1 σ H1 Q I1 q1
 | false=>exact⟨H1,I1,q1⟩
theorem XC(ha:PT X a tA):PT X (.UnaryOp .Not a pos) (tNot tA):=by
 intro pins s σ H Q I h;exact isTrue_not (ha pins s σ H (fun c H1=>Q (!c) H1) I h)
def tAndV(ta tb:TE):TE:=fun σ H Q=>ta σ H fun x H1=>∃c,x = .bl c/\if c=true then tb σ H1 Q else Q (.bl false) H1
def tOrV(ta tb:TE):TE:=fun σ H Q=>ta σ H fun x H1=>∃c,x = .bl c/\if c=true then Q (.bl true) H1 else tb σ H1 Q
theorem Wy{op}{t:TE}(h:PE X a t):PE X (.BoolOp op [a] pos) t:=fun pins s σ H Q I hw=>BoolOp_one (h pins s σ H Q I hw)
theorem Ww(ha:PE X a ta)(hb:PE X (.BoolOp .And (b::rest) pos) tb):PE X (.BoolOp .And (a::b::rest) pos) (tAndV ta tb):=by
 intro pins s σ H Q I h;refine BoolOp_and (thn (ha pins s σ H _ I h) fun v s1 ⟨x,H1,I1,r1,q1⟩=>?_);obtain⟨c,rfl,q1⟩:=q1;cases r1;refine wpAny_truthy_bool ?_;cases c with
 | true=>exact hb pins s1 σ H1 Q I1 q1
 | false=>exact⟨.bl false,H1,I1,rfl,q1⟩
theorem j51(ha:PE X a ta)(hb:PE X (.BoolOp .Or (b::rest) pos) tb):PE X (.BoolOp .Or (a::b::rest) pos) (tOrV ta tb):=by
 intro pins s σ H Q I h;refine BoolOp_or (thn (ha pins s σ H _ I h) fun v s1 ⟨x,H1,I1,r1,q1⟩=>?_);obtain⟨c,rfl,q1⟩:=q1;cases r1;refine wpAny_truthy_bool ?_;cases c with
 | false=>exact hb pins s1 σ H1 Q I1 q1
 | true=>exact⟨.bl true,H1,I1,rfl,q1⟩
def tIf(t:TT)(ta tb:TE):TE:=fun σ H Q=>t σ H fun c H1=>if c=true then ta σ H1 Q else tb σ H1 Q
theorem Ya{c:Expr}(hc:PT X c tA)(ha:PE X a ta)(hb:PE X b tb):PE X (.IfExp c a b pos) (tIf tA ta tb):=by
 intro pins s σ H Q I h;refine wpAny_IfExp (thn (hc pins s σ H _ I h) fun d s1 ⟨H1,I1,q1⟩=>?_);cases d with
 | true=>exact ha pins s1 σ H1 Q I1 q1
 | false=>exact hb pins s1 σ H1 Q I1 q1
end
def SqL(K:Frg)(H:Hp)(a:Addr)(xs:List V):Prop:=
 Rd H a (.lst xs)\/
  ∃(o:Obj) (its:Array Value) (n:Nat),K.lookup a=some o/\o.cls = .type "list"/\o.dict=none/\o.data = .seq its n/\its.size<=sizeLine/\Vals xs its.toList
def SqT(K:Frg)(H:Hp)(a:Addr)(xs:List V):Prop:=
 Rd H a (.tup xs)\/
  ∃(o:Obj) (its:Array Value) (n:Nat),K.lookup a=some o/\o.cls = .type "tuple"/\o.data = .seq its n/\its.size<=sizeLine/\Vals xs its.toList
noncomputable def absV:Value->Option V
 | .none=>some .non
 | .bool b=>some (.bl b)
 | .int i _=>some (.int i)
 | .str x _=>some (.str x)
 | .bytes b _=>some (.byt b)
 | .float b _=>some (.flt b)
 | .ref a=>some (.ref a)
 | .type n=>some (.ty n)
 | _=>none
theorem RelV.abs{x:V}{u:Value}(r:RelV x u):absV u=some x:=by
 cases x with
 | non=>cases r;rfl
 | bl _=>cases r;rfl
 | int _=>obtain⟨t,rfl⟩:=r;rfl
 | str _=>obtain⟨t,rfl⟩:=r;rfl
 | byt _=>obtain⟨t,rfl⟩:=r;rfl
 | flt _=>obtain⟨t,rfl⟩:=r;rfl
 | ref _=>cases r;rfl
 | ty _=>cases r;rfl
theorem RelV.inj{x y:V}{u:Value}(r:RelV x u)(q:RelV y u):x=y:=Option.some.inj (r.abs.symm.trans q.abs)
theorem Vals.inj:∀{xs ys:List V} {us:List Value},Vals xs us->Vals ys us->xs=ys
 | _,_,_,.nil,.nil=>rfl
 | _,_,_,.cons r t,.cons r' t'=>by rw[r.inj r',Vals.inj t t']
section
variable{X:Cx}{pins:List (Addr×Obj)}{σ:St}{H:Hp}{s:Shared}{a:Addr}{xs ys:List V}
theorem SqL.of{K:Frg}(h:H a=some (.lst xs)):SqL K H a xs:=.inl (.inl h)
theorem SqT.of{K:Frg}(h:H a=some (.tup xs)):SqT K H a xs:=.inl (.inl h)
theorem Inv.list(I:Inv X pins σ H s)(h:SqL X.K H a xs):∃its:List Value,Vals xs its/\PlainL s.heap a its.toArray/\xs.length<=sizeLine:=by
 rcases h with h | ⟨o,its,n,hk,hc,hd,hs,hz,r⟩
 ·obtain⟨z,its,n,r,e⟩:=h.ok I.hok;exact⟨its,r,⟨_,n,e,rfl,rfl,rfl⟩,z⟩
 ·refine⟨its.toList,r,⟨o,n,I.kIn a o hk,hc,hd,by simpa using hs⟩,?_⟩;have e:=r.length;simp only[Array.length_toList]at e;omega
theorem Inv.tuple(I:Inv X pins σ H s)(h:SqT X.K H a xs):∃its:List Value,Vals xs its/\IsTup s.heap a its.toArray/\xs.length<=sizeLine:=by
 rcases h with h | ⟨o,its,n,hk,hc,hs,hz,r⟩
 ·obtain⟨z,its,r,p⟩:=h.ok I.hok;exact⟨its,r,p,z⟩
 ·refine⟨its.toList,r,⟨o,I.kIn a o hk,hc,n,by simpa using hs⟩,?_⟩;have e:=r.length;simp only[Array.length_toList]at e;omega
theorem Inv.list_inj(I:Inv X pins σ H s)(h:SqL X.K H a xs)(h':SqL X.K H a ys):xs=ys:=by
 obtain⟨its,r,⟨o,n,e,_,_,d⟩,_⟩:=I.list h;obtain⟨its',r',⟨o',n',e',_,_,d'⟩,_⟩:=I.list h';rw[e]at e';cases e';rw[d]at d';injection d' with d1 _;have:its=its':=by simpa using congrArg Array.toList d1
 subst this;exact r.inj r'
theorem Inv.tuple_inj(I:Inv X pins σ H s)(h:SqT X.K H a xs)(h':SqT X.K H a ys):xs=ys:=by
 obtain⟨its,r,⟨o,e,_,n,d⟩,_⟩:=I.tuple h;obtain⟨its',r',⟨o',e',_,n',d'⟩,_⟩:=I.tuple h';rw[e]at e';cases e';rw[d]at d';injection d' with d1 _;have:its=its':=by simpa using congrArg Array.toList d1
 subst this;exact r.inj r'
end
noncomputable abbrev Cx.wish(X:Cx)(E:Value->Shared->Prop):Cx:={X with xe:=E}
noncomputable abbrev Cx.nox(X:Cx):Cx:=X.wish fun _ _=>False
theorem Cx.Ok.wish{X:Cx}(ok:X.Ok)(E:Value->Shared->Prop):(X.wish E).Ok:=
 ⟨ok.mod,ok.kind,ok.glob,ok.blt,ok.above,ok.inj,ok.has,ok.cab,ok.hd,ok.frames,ok.stk,ok.exf,ok.bs,ok.bsz,ok.noex,ok.exfs,ok.funs,ok.frf⟩
theorem Cx.Ok.unwish{X:Cx}{E:Value->Shared->Prop}(ok:(X.wish E).Ok):X.Ok:=
 ⟨ok.mod,ok.kind,ok.glob,ok.blt,ok.above,ok.inj,ok.has,ok.cab,ok.hd,ok.frames,ok.stk,ok.exf,ok.bs,ok.bsz,ok.noex,ok.exfs,ok.funs,ok.frf⟩
section
variable{X:Cx}{pins:List (Addr×Obj)}{σ:St}{H:Hp}{s:Shared}{E:Value->Shared->Prop}
theorem Inv.wish(I:Inv X pins σ H s)(E:Value->Shared->Prop):Inv (X.wish E) pins σ H s:=⟨I.ok.wish E,I.os,I.bare,I.base,I.loc,I.cell,I.free,I.freeC,I.pin,I.hok,I.len⟩
theorem Inv.unwish(I:Inv (X.wish E) pins σ H s):Inv X pins σ H s:=⟨I.ok.unwish,I.os,I.bare,I.base,I.loc,I.cell,I.free,I.freeC,I.pin,I.hok,I.len⟩
theorem SP.unwish{D:Ends}{f:Flow}{s':Shared}(h:SP (X.wish E) pins D f s'):SP X pins D f s':=by
 cases f with
 | next=>obtain⟨σ',H',I,q⟩:=h;exact⟨σ',H',I.unwish,q⟩
 | brk=>obtain⟨σ',H',I,q⟩:=h;exact⟨σ',H',I.unwish,q⟩
 | cont=>obtain⟨σ',H',I,q⟩:=h;exact⟨σ',H',I.unwish,q⟩
 | ret u=>obtain⟨v,σ',H',I,r,q⟩:=h;exact⟨v,σ',H',I.unwish,r,q⟩
theorem PSs.nox{st:List Stmt}{t:TS}(h:PSs X.nox st t):PSs X st t:=fun pins s σ H D I hw=>
 wpAny_mono (h pins s σ H D (I.wish _) hw) (fun _ _ q=>q.unwish) fun _ _ z=>False.elim z
end
section
variable{X:Cx}{st:Stmt}{rest:List Stmt}{t u:TS}{e:Expr}{te:TE}{pos:Pos}
def tNext:TS:=fun D σ H=>D.nx σ H
def tSeq(t u:TS):TS:=fun D σ H=>t {D with nx:=u D} σ H
theorem jG:PSs X [] tNext:=fun _ _ σ H _ I h=>wpAny_execs_nil ⟨σ,H,I,h⟩
theorem jc(h1:PS X st t)(h2:PSs X rest u):PSs X (st::rest) (tSeq t u):=by
 intro pins s σ H D I h;refine wpAny_execs_cons (thn (h1 pins s σ H {D with nx:=u D} I h) fun f s1 q=>?_);cases f with
 | next=>
  obtain⟨σ',H',I',q⟩:=q;exact h2 pins s1 σ' H' D I' q
 | ret v=>exact q
 | brk=>exact q
 | cont=>exact q
theorem jk(h1:PS X st t):PSs X [st] t:=by
 intro pins s σ H D I h;refine wpAny_execs_cons (thn (h1 pins s σ H D I h) fun f s1 q=>?_);cases f with
 | next=>exact wpAny_execs_nil q
 | ret v=>exact q
 | brk=>exact q
 | cont=>exact q
theorem Inv.quiet{pins:List (Addr×Obj)}{σ:St}{H:Hp}{s:Shared}(I:Inv X pins σ H s):interactive X.env=false:=by simp[interactive,I.ok.kind]
def tDrop(te:TE):TS:=fun D σ H=>te σ H fun _ H1=>D.nx σ H1
theorem j8(he:PE X e te)(hs:swapsWith e none pos.line X.env=pure false:=by rfl):PS X (.Expr e pos) (tDrop te):=by
 intro pins s σ H D I h;exact wpAny_Expr_any (thn (he pins s σ H _ I h) fun v s1 ⟨x,H1,I1,r1,q1⟩=>⟨σ,H1,I1,q1⟩) I.quiet hs
def tRet(te:TE):TS:=fun D σ H=>te σ H D.rt
theorem jC(he:PE X e te):PS X (.Return (some e) pos) (tRet te):=by
 intro pins s σ H D I h;exact wpAny_Return_some (thn (he pins s σ H _ I h) fun v s1 ⟨x,H1,I1,r1,q1⟩=>⟨x,σ,H1,I1,r1,q1⟩)
def tIfS(c:TT)(t u:TS):TS:=fun D σ H=>c σ H fun b H1=>if b=true then t D σ H1 else u D σ H1
theorem Jl{c:Expr}{a b:List Stmt}{tc:TT}(hc:PT X c tc)(ha:PSs X a t)(hb:PSs X b u):PS X (.If c a b pos) (tIfS tc t u):=by
 intro pins s σ H D I h;refine wpAny_If (thn (hc pins s σ H _ I h) fun d s1 ⟨H1,I1,q1⟩=>?_);cases d with
 | true=>exact ha pins s1 σ H1 D I1 q1
 | false=>exact hb pins s1 σ H1 D I1 q1
def tNever:TS:=fun _ _ _=>False
theorem Yd:PS X st tNever:=fun _ _ _ _ _ _ h=>h.elim
end
noncomputable abbrev TG:=V->St->Hp->(St->Hp->Prop)->Prop
noncomputable abbrev TGs:=List V->St->Hp->(St->Hp->Prop)->Prop
def PG(X:Cx)(target:Expr)(t:TG):Prop:=
 ∀(pins:List (Addr×Obj)) (s:Shared) (σ:St) (H:Hp) (v:V) (u:Value) (Q:St->Hp->Prop),Inv X pins σ H s->RelV v u->t v σ H Q->
  wpAny (model X.prog X.w) X.A (assign target X.env u) (fun _ s'=>∃σ' H',Inv X pins σ' H' s'/\Q σ' H') X.xe s
def PGs(X:Cx)(ts:List Expr)(t:TGs):Prop:=
 ∀(pins:List (Addr×Obj)) (s:Shared) (σ:St) (H:Hp) (vs:List V) (us:List Value) (Q:St->Hp->Prop),Inv X pins σ H s->Vals vs us->t vs σ H Q->
  wpAny (model X.prog X.w) X.A (assignInOrder ((assignEach ts X.env).map (·.2)) us) (fun _ s'=>∃σ' H',Inv X pins σ' H' s'/\Q σ' H') X.xe s
noncomputable abbrev TSet:=V->V->V->Hp->(Hp->Prop)->Prop
def PSet(X:Cx)(t:TSet):Prop:=
 ∀(pins:List (Addr×Obj)) (s:Shared) (σ:St) (H:Hp) (o i v:V) (ov iv u:Value) (Q:Hp->Prop),Inv X pins σ H s->RelV o ov->RelV i iv->RelV v u->t o i v H Q->
  wpAny (model X.prog X.w) X.A (setItem ov iv u) (fun _ s'=>∃H',Inv X pins σ H' s'/\Q H') X.xe s
noncomputable abbrev TIp:=V->V->Hp->VK->Prop
def PIp(X:Cx)(op:Operator)(t:TIp):Prop:=
 ∀(pins:List (Addr×Obj)) (s:Shared) (σ:St) (H:Hp) (x y:V) (v u:Value) (Q:VK),Inv X pins σ H s->RelV x v->RelV y u->t x y H Q->
  wpAny (model X.prog X.w) X.A (inplaceOp op v u) (EP X pins σ Q) X.xe s
section
variable{X:Cx}{pos:Pos}
def gName(i:Nat):TG:=fun v σ H Q=>Q (σ.set i (some v)) H
theorem jq{i:Nat}{x:Str}(hN:X.N.Nodup)(hi:X.N[i]?=some x)(hx:Loc X.env.scope x)(hf:X.fn x=true\/X.env.scope.names.lookup x=some .local:=by first | exact .inl rfl | exact .inr rfl | assumption):PG X (.Name x pos) (gName i):=by
 intro pins s σ H v u Q I r h;exact wpAny_assign_Name (Ks I hN hi hx r (fun s' I'=>⟨_,H,I',h⟩) hf)
def gNil:TGs:=fun vs σ H Q=>vs=[]/\Q σ H
def gCons(t:TG)(u:TGs):TGs:=fun vs σ H Q=>∃v r,vs=v::r/\t v σ H fun σ' H'=>u r σ' H' Q
theorem Jk:PGs X [] gNil:=by
 intro pins s σ H vs us Q I r h;obtain⟨e,h⟩:=h;subst e;cases r;exact assignInOrder_nil ⟨σ,H,I,h⟩
theorem jy{e:Expr}{es:List Expr}{t:TG}{u:TGs}(h1:PG X e t)(h2:PGs X es u)
  (hs:(assignEach (e::es) X.env).map (·.2)=assign e X.env::(assignEach es X.env).map (·.2):=by rfl):PGs X (e::es) (gCons t u):=by
 intro pins s σ H vs us Q I r h;obtain⟨v,vr,e1,h⟩:=h;subst e1;cases r with
 | cons r rr=>
  rw[hs];refine assignInOrder_cons (thn (h1 pins s σ H _ _ _ I r h) fun _ s1 ⟨σ1,H1,I1,q1⟩=>?_);exact h2 pins s1 σ1 H1 _ _ Q I1 rr q1
def gTup(K:Frg)(n:Nat)(t:TGs):TG:=fun v σ H Q=>∃a xs,v = .ref a/\SqT K H a xs/\xs.length=n/\t xs σ H Q
theorem qb{es:List Expr}{k:Nat}{t:TGs}{n:Nat}(hc:X.calm=true)(h:PGs X es t)
  (hn:(assignEach es X.env).length=n:=by rfl) (hst:(assignEach es X.env).findIdx? (·.1)=none:=by rfl):PG X (.Tuple es k pos) (gTup X.K n t):=by
 intro pins s σ H v u Q I r hw;obtain⟨a,xs,e1,hq,hl,hw⟩:=hw;subst e1;cases r;obtain⟨its,rv,ht,hz⟩:=I.tuple hq;refine assign_Tuple_tuple (I.ok.hd hc) ht (by simp[hn,<-hl,rv.length]) hst fun h' hx=>?_
 have I1:Inv X pins σ H {s with heap:=h'}:=I.kept (t':=s.toks) fun b o e=>hx b o (Nat.ne_of_lt (Heap.lt_size e)) e
 exact h pins _ σ H xs _ Q I1 (by simpa using rv) hw
def gSub(to ti:TE)(t:TSet):TG:=fun v σ H Q=>to σ H fun o H1=>ti σ H1 fun i H2=>t o i v H2 fun H3=>Q σ H3
theorem Xz{o i:Expr}{to ti:TE}{t:TSet}(ho:PE X o to)(hi:PE X i ti)(hs:PSet X t)
  (ha:∀v,assign (.Subscript o i pos) X.env v=(do
   let ov <-holding [v] (eval o X.env)
   let iv <-holding [v,ov] (eval i X.env)
   standAt pos
   holding [v,ov,iv] (setItem ov iv v)
   release [v,ov,iv] []):=by intro _;rfl):PG X (.Subscript o i pos) (gSub to ti t):=by
 intro pins s σ H v u Q I r h;rw[ha];refine wpAny_bind (wpAny_holding (thn (ho pins s σ H _ I h) fun ov s1 ⟨x,H1,I1,r1,q1⟩=>?_));refine wpAny_bind (wpAny_holding (thn (hi pins s1 σ H1 _ I1 q1) fun iv s2 ⟨y,H2,I2,r2,q2⟩=>?_));refine wpAny_bind (wpAny_standAt (wpAny_bind (wpAny_holding (thn (hs pins s2 σ H2 x y v ov iv u _ I2 r1 r2 r q2) fun _ s3 ⟨H3,I3,q3⟩=>?_))));exact wpAny_release ⟨σ,H3,I3,q3⟩
def tAsg(te:TE)(g:TG):TS:=fun D σ H=>te σ H fun x H1=>g x σ H1 D.nx
theorem Kk{tg e:Expr}{te:TE}{g:TG}(he:PE X e te)(hg:PG X tg g)(hs:swapsWithSole [tg] e pos.line X.env=pure false:=by rfl)(hw:swappedStores [tg] e X.env=pure none:=by rfl)
  (h1:(assignEach [tg] X.env).map (·.2)=[assign tg X.env]:=by rfl):PS X (.Assign [tg] e pos) (tAsg te g):=by
 intro pins s σ H D I h;refine wpAny_Assign_stores (thn (he pins s σ H _ I h) fun v s1 ⟨x,H1,I1,r1,q1⟩=>?_) hs hw;rw[h1];exact thn (hg pins s1 σ H1 x v _ I1 r1 q1) fun _ s2 q=>q
theorem jr{i:Nat}{x:Str}{e:Expr}{te:TE}{pos':Pos}(hN:X.N.Nodup)(hi:X.N[i]?=some x)(hx:Loc X.env.scope x)(he:PE X e te)(hs:swapsWith e (some (.Name x pos')) pos.line X.env=pure false:=by rfl)(hf:X.fn x=true\/X.env.scope.names.lookup x=some .local:=by first | exact .inl rfl | exact .inr rfl | assumption) :
  PS X (.Assign [.Name x pos'] e pos) (tAsg te (gName i)):=by
 intro pins s σ H D I h;refine wpAny_Assign_Name (thn (he pins s σ H _ I h) fun v s1 ⟨y,H1,I1,r1,q1⟩=>?_) hs;exact Ks I1 hN hi hx r1 (fun s2 I2=>⟨_,H1,I2,q1⟩) hf
def tAug(i:Nat)(te:TE)(ti:TIp):TS:=fun D σ H=>∃x,σ[i]?=some (some x)/\te σ H fun y H1=>ti x y H1 fun z H2=>D.nx (σ.set i (some z)) H2
theorem j4B{i:Nat}{x:Str}{e:Expr}{te:TE}{op:Operator}{ti:TIp}{pos':Pos}(hN:X.N.Nodup)(hi:X.N[i]?=some x)(hx:Loc X.env.scope x)(he:PE X e te)(ho:PIp X op ti)(hf:X.fn x=true\/X.env.scope.names.lookup x=some .local:=by first | exact .inl rfl | exact .inr rfl | assumption) :
  PS X (.AugAssign (.Name x pos') op e pos) (tAug i te ti):=by
 intro pins s σ H D I h;obtain⟨v,e1,h⟩:=h;obtain⟨m,hn,hl⟩:=I.loc;have vis:Vis X.env.scope x:=by rcases hx with k | k;exact .inl k;exact .inr (.inl k)
 obtain⟨u,r,l⟩:=hl i x v hi e1 vis;refine wpAny_AugAssign_Name ?_;have go:wpAny (model X.prog X.w) X.A (eval e X.env) (fun w s₂=>wpAny (model X.prog X.w) X.A (inplaceOp op u w) (fun r s₃=>wpAny (model X.prog X.w) X.A (storeName X.env x r) (fun _=>SP X pins D .next) X.xe s₃) X.xe s₂) X.xe s:=by
  refine thn (he pins s σ H _ I h) fun w s1 ⟨y,H1,I1,r1,q1⟩=>?_
  refine thn (ho pins s1 σ H1 v y u w _ I1 r r1 q1) fun z s2 ⟨zv,H2,I2,r2,q2⟩=>?_
  exact Ks I2 hN hi hx r2 (fun s3 I3=>⟨_,H2,I3,q2⟩) hf
 rcases l with⟨hk,hm⟩ | ⟨hk,c,hc,hcell⟩
 ·exact wpAny_loadName_local I.ok.kind hk hn hm go
 ·rcases hk with hk | hk
  ·exact wpAny_loadName_cell I.ok.kind hk hc hcell go
  ·rcases hx with k | k
   ·have:X.env.scope.names.lookup x=some .free:=hk;rw[k]at this;cases this
   ·have:X.env.scope.names.lookup x=some .free:=hk;rw[k]at this;cases this
noncomputable def ipI(f:Int->Int->Int):TIp:=fun x y H Q=>∃i j,x = .int i/\y = .int j/\Q (.int (f i j)) H
theorem j4e:PIp X .Add (ipI fun i j=>i+j):=by
 intro pins s σ H x y v u Q I r1 r2 h;obtain⟨i,j,e1,e2,q⟩:=h;subst e1;subst e2;obtain⟨t,rfl⟩:=r1;obtain⟨t',rfl⟩:=r2;exact iadd_int ⟨.int _,H,I.tok _,⟨_,rfl⟩,q⟩
end
section
variable{X:Cx}{pos:Pos}
def tWhile(c:TT)(tb:TS):TS:=fun D σ H=>∃W:Nat->St->Hp->Prop,(∃m,W m σ H)/\∀m σ H,W m σ H->
 c σ H fun b H1=>if b=true then∃N:St->Hp->Prop,(∀σ' H',N σ' H'->∃m',m'<m/\W m' σ' H')/\tb {D with nx:=N,ct:=N,bk:=D.nx} σ H1 else D.nx σ H1
theorem j25{c:Expr}{body:List Stmt}{tc:TT}{tb:TS}(hp:PassesOwn (model X.prog X.w) X.A X.env X.xe)(hc:PT X c tc)(hb:PSs X body tb):PS X (.While c body [] pos) (tWhile tc tb):=by
 intro pins s σ H D I h;obtain⟨W,⟨m0,w0⟩,turn⟩:=h;refine wpAny_While (codeAny_whileLoop (fun n s'=>∃σ' H',Inv X pins σ' H' s'/\W n σ' H') ?_ m0 ⟨σ,H,I,w0⟩);rintro n s1 ⟨σ1,H1,I1,w1⟩;refine wpAny_passesOwn hp (thn (hc pins s1 σ1 H1 _ I1 (turn n σ1 H1 w1)) fun b s2 ⟨H2,I2,q2⟩=>?_);cases b with
 | true=>
  obtain⟨N,hN,q2⟩:=q2;rw[if_pos rfl];refine wpAny_passesOwn hp (thn (hb pins s2 σ1 H2 _ I2 q2) fun f s3 q3=>?_);cases f with
  | next=>
   obtain⟨σ3,H3,I3,n3⟩:=q3;obtain⟨m',hm,w3⟩:=hN σ3 H3 n3;exact⟨m',hm,σ3,H3,I3,w3⟩
  | cont=>
   obtain⟨σ3,H3,I3,n3⟩:=q3;obtain⟨m',hm,w3⟩:=hN σ3 H3 n3;exact⟨m',hm,σ3,H3,I3,w3⟩
  | brk=>exact q3
  | ret v=>exact q3
 | false=>
  rw[if_neg Bool.false_ne_true];exact wpAny_execs_nil ⟨σ1,H2,I2,q2⟩
end
structure It where
 go:Nat->Hp->Prop
 yld:Nat->Hp->V->Hp->Prop
 stop:Nat->Hp->Prop
def FpOk(X:Cx)(pins:List (Addr×Obj))(H:Hp)(b:Addr):Prop:=
 H b=none/\b≠X.env.locals/\b∉X.fs/\(b∈X.ex\/X.s₀.heap.objs.size<=b)/\(∀x c,X.env.cells.lookup x=some c->c≠b)/\∀p∈X.pn++pins,p.1≠b
theorem Inv.fpOk{X:Cx}{pins:List (Addr×Obj)}{σ:St}{H H':Hp}{s:Shared}{b:Addr}(I:Inv X pins σ H s)(hb:s.heap.objs.size<=b)(hn:H' b=none):FpOk X pins H' b:=by
 refine⟨hn,Nat.ne_of_gt (Nat.lt_of_lt_of_le I.lt hb),I.nofs hb,.inr (Nat.le_trans I.sz hb),fun x c e z=>?_,fun p hp z=>?_⟩
 ·obtain⟨v,q⟩:=I.cell x c e;exact absurd (Nat.lt_of_lt_of_le q.lt (by rw[z];exact hb)) (Nat.lt_irrefl _)
 ·exact absurd (Nat.lt_of_lt_of_le (Heap.lt_size (I.pin p hp).1) (by rw[z];exact hb)) (Nat.lt_irrefl _)
structure Turn(P:Program)(w:World)(K:Frg)(tg:Expr)(J:It)(fp:List Addr)(it:Addr)(tn:Nat->Heap->Prop):Prop where
 mem:it∈fp
 obj:∀i h,tn i h->∀b∈fp,∃o,h.get? b=some o/\∀v,o.data≠.cell v
 keep:∀i h h',tn i h->(∀b∈fp,∀o,h.get? b=some o->h'.get? b=some o)->tn i h'
 item:∀(X:Cx),X.prog=P->X.w=w->X.K=K->X.calm=true->∀(i:Nat) (pins:List (Addr×Obj)) (s:Shared) (σ:St) (H:Hp) (E:Value->Shared->Prop),Inv X pins σ H s->(∀b∈fp,FpOk X pins H b)->tn i s.heap->J.go i H->
  wpAny (model P w) X.A (pyNext (.ref it)) (fun r s1=>∃u,r=some u/\
   wpAny (model P w) X.A (letOwnedTupleGo tg (.ref it) u) (fun _ s2=>∃x H',Inv X pins σ H' s2/\RelV x u/\J.yld i H x H'/\tn (i+1) s2.heap/\∀b∈fp,H' b=none) E s1) E s
 done:∀(X:Cx),X.prog=P->X.w=w->X.K=K->X.calm=true->∀(i:Nat) (pins:List (Addr×Obj)) (s:Shared) (σ:St) (H:Hp) (E:Value->Shared->Prop),Inv X pins σ H s->(∀b∈fp,FpOk X pins H b)->tn i s.heap->J.stop i H->
  wpAny (model P w) X.A (pyNext (.ref it)) (fun r s1=>r=none/\Inv X pins σ H s1) E s
 self:∀(A:Around) (i:Nat) (s:Shared) (Q:Value->Shared->Prop) (E:Value->Shared->Prop),tn i s.heap->Q (.ref it) s->wpAny (model P w) A (pyIter (.ref it)) Q E s
noncomputable abbrev TI:=St->Hp->(It->Hp->Prop)->Prop
def PIE(X:Cx)(pins:List (Addr×Obj))(σ:St)(tg:Expr)(R:It->Hp->Prop)(itv:Value)(s2:Shared):Prop:=
 ∃(it:Addr) (fp:List Addr) (tn:Nat->Heap->Prop) (J:It) (H':Hp),itv = .ref it/\Inv X pins σ H' s2/\Turn X.prog X.w X.K tg J fp it tn/\tn 0 s2.heap/\(∀b∈fp,FpOk X pins H' b)/\R J H'
def PI(X:Cx)(tg iter:Expr)(wi:TI):Prop:=
 ∀(pins:List (Addr×Obj)) (s:Shared) (σ:St) (H:Hp) (R:It->Hp->Prop),Inv X pins σ H s->wi σ H R->
  wpAny (model X.prog X.w) X.A (eval iter X.env) (fun v s1=>wpAny (model X.prog X.w) X.A (pyIter v) (PIE X pins σ tg R) X.xe s1) X.xe s
theorem XZ{M:Model}{A:Around}{E:Value->Shared->Prop}{s:Shared}{tg:Expr}{it:Addr}{u:Value}{o:Obj}{n:String}{vs:Array Value}{Q:Unit->Shared->Prop}(ho:s.heap.get? it=some o)(hc:o.cls = .type n)(hd:o.data = .fields vs)
    (hn:["enumerate","zip","dict_itemiterator","dict_reverseitemiterator","odict_iterator","itertools.zip_longest","itertools.pairwise"].contains n=false) (hQ:Q () s):wpAny M A (letOwnedTupleGo tg (.ref it) u) Q E s:=by
  unfold letOwnedTupleGo;cases tg<;>first
    | exact wpAny_pure hQ
    | (cases u<;>first
        | exact wpAny_pure hQ
        | (refine wpAny_bind (wpAny_load ho ?_)
           rw[hc,hd];show wpAny M A (if(["enumerate","zip","dict_itemiterator","dict_reverseitemiterator","odict_iterator","itertools.zip_longest","itertools.pairwise"].contains n&&vs[0]?==some (rawInt _))=true then _ else _) Q E s;rw[if_neg (by intro h;rw[hn,Bool.false_and]at h;cases h)];exact wpAny_pure hQ))
def Itl(K:Frg)(a:Addr):It:=
 ⟨fun i H=>∃xs x,SqL K H a xs/\xs[i]?=some x,fun i H x H'=>H'=H/\∀xs,SqL K H a xs->xs[i]?=some x,fun i H=>∃xs,SqL K H a xs/\xs.length<=i⟩
def Itt(K:Frg)(a:Addr):It:=
 ⟨fun i H=>∃xs x,SqT K H a xs/\xs[i]?=some x,fun i H x H'=>H'=H/\∀xs,SqT K H a xs->xs[i]?=some x,fun i H=>∃xs,SqT K H a xs/\xs.length<=i⟩
def Itr(lo:Int)(n:Nat):It:=⟨fun i _=>i<n,fun i H x H'=>H'=H/\x = .int (lo+i),fun i _=>n<=i⟩
theorem j19{P:Program}{w:World}{K:Frg}{tg:Expr}(a it:Addr):Turn P w K tg (Itl K a) [it] it (fun i h=>h.IsListIter it a i) where
 mem:=by simp
 obj:=fun i h st b hb=>by
  have e:b=it:=by simpa using hb
  subst e;obtain⟨o,e,c,d⟩:=st;exact⟨o,e,fun v z=>by rw[d]at z;cases z⟩
 keep:=fun i h h' st k=>st.at fun o e=>k it (by simp) o e
 item:=by
  intro X hP hw hK hc i pins s σ H E I hf st hg;subst hP hw hK;obtain⟨xs,x,hq,hx⟩:=hg;obtain⟨its,rv,p,hz⟩:=I.list hq;obtain⟨u,hu,ru⟩:=rv.get hx;obtain⟨f0,f1,f2,f3,f4,f5⟩:=hf it (by simp);refine wpAny_pyNext_list_item st p.isList (x:=u) (by simpa using hu) fun h' st' sb=>?_
  have I1:Inv X pins σ H {s with heap:=h'}:=I.turned (t':=s.toks) (fun b o hb e=>(sb.2 b hb).trans e) f0 f1 f3 f4 f5;obtain⟨o,e,c,d⟩:=id st';exact⟨u,rfl,XZ (s:={s with heap:=h'}) e c d (by decide) ⟨x,H,I1,ru,⟨rfl,fun ys hy=>by rw[I.list_inj hy hq];exact hx⟩,st',fun b hb=>(hf b hb).1⟩⟩
 done:=by
  intro X hP hw hK hc i pins s σ H E I hf st hg;subst hP hw hK;obtain⟨xs,hq,hx⟩:=hg;obtain⟨its,rv,p,hz⟩:=I.list hq;obtain⟨f0,f1,f2,f3,f4,f5⟩:=hf it (by simp);have hl:=rv.length;exact wpAny_pyNext_list_end (I.ok.hd hc) st p.isList (by simp;omega) fun h' eb=>⟨rfl,I.turned (t':=s.toks) (fun b o hb e=>eb b o hb e) f0 f1 f3 f4 f5⟩
 self:=fun _ _ _ _ _ st h=>wpAny_pyIter_listiter st h
theorem XJ{P:Program}{w:World}{K:Frg}{tg:Expr}(a it:Addr):Turn P w K tg (Itt K a) [it] it (fun i h=>h.IsTupleIter it a i) where
 mem:=by simp
 obj:=fun i h st b hb=>by
  have e:b=it:=by simpa using hb
  subst e;obtain⟨o,e,c,d⟩:=st;exact⟨o,e,fun v z=>by rw[d]at z;cases z⟩
 keep:=fun i h h' st k=>st.at fun o e=>k it (by simp) o e
 item:=by
  intro X hP hw hK hc i pins s σ H E I hf st hg;subst hP hw hK;obtain⟨xs,x,hq,hx⟩:=hg;obtain⟨its,rv,p,hz⟩:=I.tuple hq;obtain⟨u,hu,ru⟩:=rv.get hx;obtain⟨f0,f1,f2,f3,f4,f5⟩:=hf it (by simp);refine wpAny_pyNext_tuple_item st (show s.heap.IsTuple a its.toArray from p) (x:=u) (by simpa using hu) fun h' st' sb=>?_
  have I1:Inv X pins σ H {s with heap:=h'}:=I.turned (t':=s.toks) (fun b o hb e=>(sb.2 b hb).trans e) f0 f1 f3 f4 f5;obtain⟨o,e,c,d⟩:=id st';exact⟨u,rfl,XZ (s:={s with heap:=h'}) e c d (by decide) ⟨x,H,I1,ru,⟨rfl,fun ys hy=>by rw[I.tuple_inj hy hq];exact hx⟩,st',fun b hb=>(hf b hb).1⟩⟩
 done:=by
  intro X hP hw hK hc i pins s σ H E I hf st hg;subst hP hw hK;obtain⟨xs,hq,hx⟩:=hg;obtain⟨its,rv,p,hz⟩:=I.tuple hq;obtain⟨f0,f1,f2,f3,f4,f5⟩:=hf it (by simp);have hl:=rv.length;exact wpAny_pyNext_tuple_end (I.ok.hd hc) st (show s.heap.IsTuple a its.toArray from p) (by simp;omega) fun h' eb=>⟨rfl,I.turned (t':=s.toks) (fun b o hb e=>eb b o hb e) f0 f1 f3 f4 f5⟩
 self:=fun _ _ _ _ _ st h=>wpAny_pyIter_tupleiter st h
theorem XI{P:Program}{w:World}{K:Frg}{tg:Expr}(it:Addr)(lo:Int)(n:Nat):Turn P w K tg (Itr lo n) [it] it (fun i h=>IsRangeIter h it (lo+(i:Nat)*1) ((n:Int)-(i:Nat)) 1) where
 mem:=by simp
 obj:=fun i h st b hb=>by
  have e:b=it:=by simpa using hb
  subst e;exact⟨_,st,fun v z=>by
   have z':Data.fields _=Data.cell v:=z;cases z'⟩
 keep:=fun i h h' st k=>k it (by simp) _ st
 item:=by
  intro X hP hw hK hc i pins s σ H E I hf st hg;subst hP hw hK;obtain⟨f0,f1,f2,f3,f4,f5⟩:=hf it (by simp);have W:=Walks.range (prog:=X.prog) (w:=X.w) (I.ok.hd hc) it lo 1 n;refine W.item i s _ _ hg st fun v h' tk hv st' kk=>?_
  obtain⟨t,rfl⟩:=hv;have I1:Inv X pins σ H {s with heap:=h',toks:=tk}:=I.turned (fun b o hb e=>kk b o (by simpa using hb) e) f0 f1 f3 f4 f5;refine⟨_,rfl,XZ (s:={s with heap:=h',toks:=tk}) (n:="range_iterator") st' rfl rfl (by decide) ⟨.int (lo+i),H,I1,⟨t,?_⟩,⟨rfl,rfl⟩,st',fun b hb=>(hf b hb).1⟩⟩;rw[Int.mul_one]
 done:=by
  intro X hP hw hK hc i pins s σ H E I hf st hg;subst hP hw hK;obtain⟨f0,f1,f2,f3,f4,f5⟩:=hf it (by simp);exact wpAny_pyNext_range_end (I.ok.hd hc) st (by have:n<=i:=hg;omega) fun h' eb=>⟨rfl,I.turned (t':=s.toks) (fun b o hb e=>eb b o hb e) f0 f1 f3 f4 f5⟩
 self:=fun _ _ _ _ _ st h=>wpAny_pyIter_rangeiter st h
section
variable{X:Cx}{tg:Expr}
def iList(K:Frg)(tl:TE):TI:=fun σ H R=>tl σ H fun x H1=>∃a,x = .ref a/\(∃xs,SqL K H1 a xs)/\R (Itl K a) H1
def iTup(K:Frg)(tl:TE):TI:=fun σ H R=>tl σ H fun x H1=>∃a,x = .ref a/\(∃xs,SqT K H1 a xs)/\R (Itt K a) H1
theorem jP{l:Expr}{tl:TE}(hl:PE X l tl):PI X tg l (iList X.K tl):=by
 intro pins s σ H R I h;refine thn (hl pins s σ H _ I h) fun v s1 ⟨x,H1,I1,r1,q1⟩=>?_
 obtain⟨a,e,⟨xs,hq⟩,q⟩:=q1;subst e;cases r1;obtain⟨its,rv,p,hz⟩:=I1.list hq;refine wpAny_pyIter_list p.isList ?_;refine⟨s1.heap.objs.size,[s1.heap.objs.size],_,_,H1,rfl,I1.kept (t':=s1.toks) fun b o e=>Heap.get?_push_of_some _ e,j19 a _,⟨_,Heap.get?_push_size _ rfl,rfl,rfl⟩,fun b hb=>?_,q⟩;have e:b=s1.heap.objs.size:=by simpa using hb
 subst e;exact I1.fpOk (Nat.le_refl _) (I1.hok.fresh (Nat.le_refl _))
theorem XA{l:Expr}{tl:TE}(hl:PE X l tl):PI X tg l (iTup X.K tl):=by
 intro pins s σ H R I h;refine thn (hl pins s σ H _ I h) fun v s1 ⟨x,H1,I1,r1,q1⟩=>?_
 obtain⟨a,e,⟨xs,hq⟩,q⟩:=q1;subst e;cases r1;obtain⟨its,rv,p,hz⟩:=I1.tuple hq;refine wpAny_pyIter_tuple (show s1.heap.IsTuple a its.toArray from p) ?_;refine⟨s1.heap.objs.size,[s1.heap.objs.size],_,_,H1,rfl,I1.kept (t':=s1.toks) fun b o e=>Heap.get?_push_of_some _ e,XJ a _,⟨_,Heap.get?_push_size _ rfl,rfl,rfl⟩,fun b hb=>?_,q⟩;have e:b=s1.heap.objs.size:=by simpa using hb
 subst e;exact I1.fpOk (Nat.le_refl _) (I1.hok.fresh (Nat.le_refl _))
theorem j2d{pins:List (Addr×Obj)}{σ:St}{H:Hp}{s:Shared}{R:It->Hp->Prop}{E:Value->Shared->Prop}{lo hi:Int}{t u v:Tok}{tk:Nat}(I:Inv X pins σ H s)(h1 : -(2^62)<=lo)(h2:lo<2^62)(h3 : -(2^62)<=hi)(h4:hi<2^62)
  (q:R (Itr lo (hi-lo).toNat) H):wpAny (model X.prog X.w) X.A (pyIter (.ref s.heap.objs.size)) (PIE X pins σ tg R) E {s with heap:=s.heap.push {cls:=.type "range",data:=.fields #[.int lo t,.int hi u,.int 1 v]},toks:=tk}:=by
 refine wpAny_pyIter_range (IsRange.new ..) (small_one h1 h2 h3 h4) ?_;have I1:Inv X pins σ H {s with heap:=s.heap.push {cls:=.type "range",data:=.fields #[.int lo t,.int hi u,.int 1 v]},toks:=tk}:=I.kept fun b o e=>Heap.get?_push_of_some _ e
 refine⟨(s.heap.push {cls:=.type "range",data:=.fields #[.int lo t,.int hi u,.int 1 v]}).objs.size,[(s.heap.push {cls:=.type "range",data:=.fields #[.int lo t,.int hi u,.int 1 v]}).objs.size],_,_,H,rfl,
  I1.kept (t':=tk) fun b o e=>Heap.get?_push_of_some _ e,XI _ lo (hi-lo).toNat,?_,fun b hb=>?_,q⟩
 ·have e1:lo+((0:Nat):Int)*1=lo:=by simp
  have e2:(((hi-lo).toNat:Nat):Int)-((0:Nat):Int)=Builtin.Range.rangeSize lo hi 1:=by rw[rangeSize_one];split<;>omega
  show IsRangeIter _ _ (lo+((0:Nat):Int)*1) ((((hi-lo).toNat:Nat):Int)-((0:Nat):Int)) 1;rw[e1,e2];exact Heap.get?_push_size _ rfl
 ·have e:b=(s.heap.push {cls:=.type "range",data:=.fields #[.int lo t,.int hi u,.int 1 v]}).objs.size:=by simpa using hb
  subst e;exact I1.fpOk (Nat.le_refl _) (I1.hok.fresh (Nat.le_refl _))
def iRng1(ta:TA):TI:=fun σ H R=>ta σ H fun vs H1=>∃j:Int,vs=[.int j]/\-(2^62)<=j/\j<2^62/\R (Itr 0 j.toNat) H1
theorem qu{a:Expr}{ta:TA}{p pos:Pos}(hg:Gl X "range")(hm:X.mg "range"= none)(ha:PA X [a] ta)(hs:starEach [a] X.env=[(false,eval a X.env)]:=by rfl):PI X tg (.Call (.Name "range" p) [a] [] pos) (iRng1 ta):=by
 intro pins s σ H R I h;refine Call_ (yz I hg hm boot_range (PyProof.Rows.callWith_type1 (thn (ha pos pins s σ H _ I h) fun us s1 ⟨vs,H1,I1,r1,q1⟩=>?_) hs rfl));obtain⟨j,e,q1,q2,q⟩:=q1;subst e;cases r1 with
 | cons r rr=>
  cases rr;obtain⟨t,rfl⟩:=r;exact call_range_1 (j2d I1 (by omega) (by omega) q1 q2 (by simpa using q))
def tFor(wi:TI)(g:TG)(tb:TS):TS:=fun D σ H=>wi σ H fun J H1=>∃W:Nat->Nat->St->Hp->Prop,(∃m,W 0 m σ H1)/\∀i m σ H,W i m σ H->
 (J.stop i H/\D.nx σ H)\/(J.go i H/\∃N:St->Hp->Prop,(∀σ' H',N σ' H'->∃m',m'<m/\W (i+1) m' σ' H')/\∀x H',J.yld i H x H'->g x σ H' fun σ2 H2=>tb {D with nx:=N,ct:=N,bk:=D.nx} σ2 H2)
noncomputable def pinsAt(fp:List Addr)(h:Heap):List (Addr×Obj):=fp.filterMap fun b=>(h.get? b).map fun o=>(b,o)
theorem Zk{fp:List Addr}{h:Heap}{b:Addr}{o:Obj}(hb:b∈fp)(e:h.get? b=some o):(b,o)∈pinsAt fp h:=mem_filterMap.mpr ⟨b,hb,by rw[e];rfl⟩
theorem j0R{fp:List Addr}{h:Heap}{p:Addr×Obj}(hp:p∈pinsAt fp h):p.1∈fp/\h.get? p.1=some p.2:=by
 obtain⟨b,hb,e⟩:=mem_filterMap.mp hp;cases q:h.get? b with
 | none=>rw[q]at e;cases e
 | some o=>
  rw[q]at e;have e':(b,o)=p:=Option.some.inj e;subst e';exact⟨hb,q⟩
theorem Inv.pinned{pins:List (Addr×Obj)}{σ:St}{H:Hp}{s:Shared}{fp:List Addr}(I:Inv X pins σ H s)(hf:∀b∈fp,FpOk X pins H b)(ho:∀b∈fp,∃o,s.heap.get? b=some o/\∀v,o.data≠.cell v):Inv X (pins++pinsAt fp s.heap) σ H s:=
 I.pins_of fun p hp=>(mem_append.mp hp).elim (fun z=>I.pin p (mem_append_right _ z)) fun z=>by
  obtain⟨hb,e⟩:=j0R z;obtain⟨f0,f1,f2,_⟩:=hf p.1 hb;obtain⟨o,e',d⟩:=ho p.1 hb;rw[e]at e';cases e';exact⟨e,f0,f1,f2,d⟩
theorem Inv.unpinned{pins pl:List (Addr×Obj)}{σ:St}{H:Hp}{s:Shared}(I:Inv X (pins++pl) σ H s):Inv X pins σ H s:=I.pins_of fun p hp=>I.pin p (mem_append_right _ (mem_append_left _ hp))
theorem Jh{iter:Expr}{body:List Stmt}{wi:TI}{g:TG}{tb:TS}{pos:Pos}(hp:PassesOwn (model X.prog X.w) X.A X.env X.xe)(hc:X.calm=true)(hi:PI X tg iter wi)(hg:PG X tg g)(hb:PSs X body tb)
  (hs:∀x,foldedSetIterable iter X.env x=pure x:=by intro _;rfl):PS X (.For tg iter body [] pos) (tFor wi g tb):=by
 intro pins s σ H D I h;refine wpAny_For (thn (hi pins s σ H _ I h) fun v s1 h1=>thn h1 fun itv s2 h2=>?_) hs;obtain⟨it,fp,tn,J,H2,e,I2,T,st2,f2,W,⟨m0,w0⟩,turn⟩:=h2;subst e;have stat:∀{H':Hp},(∀b∈fp,H' b=none)->∀b∈fp,FpOk X pins H' b:=fun hn b hb=>⟨hn b hb,(f2 b hb).2⟩
 refine codeAny_forLoop_any (fun n s'=>∃i σ' H',Inv X pins σ' H' s'/\tn i s'.heap/\(∀b∈fp,H' b=none)/\W i n σ' H') ?_ m0 ⟨0,σ,H2,I2,st2,fun b hb=>(f2 b hb).1,w0⟩;rintro n s3 ⟨i,σ3,H3,I3,st3,fr3,w3⟩;rcases turn i n σ3 H3 w3 with⟨stop,qn⟩ | ⟨go,N,hN,step⟩
 ·refine wpAny_passesOwn hp (thn (T.done X rfl rfl rfl hc i pins s3 σ3 H3 X.xe I3 (stat fr3) st3 stop) fun r s4 ⟨hr,I4⟩=>?_);subst hr;exact wpAny_execs_nil ⟨σ3,H3,I4,qn⟩
 ·refine wpAny_passesOwn hp (thn (T.item X rfl rfl rfl hc i pins s3 σ3 H3 X.xe I3 (stat fr3) st3 go) fun r s4 ⟨u,hr,h4⟩=>?_);subst hr;refine wpAny_passesOwn hp (thn h4 fun _ s5 ⟨x,H5,I5,r5,y5,st5,fr5⟩=>?_);have I5':=I5.pinned (stat fr5) (T.obj _ _ st5);refine wpAny_passesOwn hp (thn (hg _ s5 σ3 H5 x u _ I5' r5 (step x H5 y5)) fun _ s6 ⟨σ6,H6,I6,q6⟩=>?_);refine wpAny_passesOwn hp (thn (hb _ s6 σ6 H6 _ I6 q6) fun f s7 q7=>?_);have again:∀{σ7:St} {H7:Hp},Inv X (pins++pinsAt fp s5.heap) σ7 H7 s7->N σ7 H7->∃m,m<n/\∃i σ' H',Inv X pins σ' H' s7/\tn i s7.heap/\(∀b∈fp,H' b=none)/\W i m σ' H':=fun {σ7 H7} I7 n7=>by
   obtain⟨m',hm,w7⟩:=hN σ7 H7 n7;refine⟨m',hm,i+1,σ7,H7,I7.unpinned,T.keep _ _ _ st5 fun b hb o e=>(I7.pin (b,o) (mem_append_right _ (mem_append_right _ (Zk hb e)))).1,fun b hb=>?_,w7⟩;obtain⟨o,e,d⟩:=T.obj _ _ st5 b hb;exact(I7.pin (b,o) (mem_append_right _ (mem_append_right _ (Zk hb e)))).2.1
  cases f with
  | next=>obtain⟨σ7,H7,I7,n7⟩:=q7;exact again I7 n7
  | cont=>obtain⟨σ7,H7,I7,n7⟩:=q7;exact again I7 n7
  | brk=>obtain⟨σ7,H7,I7,q7⟩:=q7;exact⟨σ7,H7,I7.unpinned,q7⟩
  | ret v=>obtain⟨x7,σ7,H7,I7,r7,q7⟩:=q7;exact⟨x7,σ7,H7,I7.unpinned,r7,q7⟩
end
theorem JI{K:Frg}{a:Addr}{xs:List V}{g:TG}{tb:TS}{D:Ends}{σ:St}{H:Hp}(Pv:Nat->St->Hp->Prop)(h0:Pv 0 σ H)(hl:∀i σ H,i<=xs.length->Pv i σ H->SqL K H a xs)
  (hs:∀i x σ H,xs[i]?=some x->Pv i σ H->g x σ H fun σ2 H2=>tb {D with nx:=Pv (i+1),ct:=Pv (i+1),bk:=D.nx} σ2 H2) (hd:∀σ H,Pv xs.length σ H->D.nx σ H) :
  ∃W:Nat->Nat->St->Hp->Prop,(∃m,W 0 m σ H)/\∀i m σ H,W i m σ H->
   ((Itl K a).stop i H/\D.nx σ H)\/((Itl K a).go i H/\∃N:St->Hp->Prop,(∀σ' H',N σ' H'->∃m',m'<m/\W (i+1) m' σ' H')/\∀x H',(Itl K a).yld i H x H'->g x σ H' fun σ2 H2=>tb {D with nx:=N,ct:=N,bk:=D.nx} σ2 H2):=by
 refine⟨fun i m σ H=>m=xs.length-i/\i<=xs.length/\Pv i σ H,⟨xs.length,by simp,Nat.zero_le _,h0⟩,?_⟩;rintro i m σ H ⟨rfl,hi,p⟩;have q:=hl i σ H hi p;by_cases hlt:i<xs.length
 ·refine .inr ⟨⟨xs,xs[i],q,by simp[hlt]⟩,Pv (i+1),fun σ' H' p'=>⟨xs.length-(i+1),by omega,rfl,hlt,p'⟩,fun x H' y=>?_⟩;obtain⟨e,y⟩:=y;subst e;exact hs i x σ _ (y xs q) p
 ·have e:i=xs.length:=by omega
  subst e;exact .inl ⟨⟨xs,q,Nat.le_refl _⟩,hd σ H p⟩
theorem zW{lo:Int}{n:Nat}{g:TG}{tb:TS}{D:Ends}{σ:St}{H:Hp}(Pv:Nat->St->Hp->Prop)(h0:Pv 0 σ H)
  (hs:∀i σ H,i<n->Pv i σ H->g (.int (lo+i)) σ H fun σ2 H2=>tb {D with nx:=Pv (i+1),ct:=Pv (i+1),bk:=D.nx} σ2 H2) (hd:∀σ H,Pv n σ H->D.nx σ H) :
  ∃W:Nat->Nat->St->Hp->Prop,(∃m,W 0 m σ H)/\∀i m σ H,W i m σ H->
   ((Itr lo n).stop i H/\D.nx σ H)\/((Itr lo n).go i H/\∃N:St->Hp->Prop,(∀σ' H',N σ' H'->∃m',m'<m/\W (i+1) m' σ' H')/\∀x H',(Itr lo n).yld i H x H'->g x σ H' fun σ2 H2=>tb {D with nx:=N,ct:=N,bk:=D.nx} σ2 H2):=by
 refine⟨fun i m σ H=>m=n-i/\i<=n/\Pv i σ H,⟨n,by simp,Nat.zero_le _,h0⟩,?_⟩;rintro i m σ H ⟨rfl,hi,p⟩;by_cases hlt:i<n
 ·refine .inr ⟨hlt,Pv (i+1),fun σ' H' p'=>⟨n-(i+1),by omega,rfl,hlt,p'⟩,fun x H' y=>?_⟩;obtain⟨e,y⟩:=y;subst e y;exact hs i σ _ hlt p
 ·have e:i=n:=by omega
  subst e;exact .inl ⟨Nat.le_refl _,hd σ H p⟩
noncomputable abbrev R2:=V->V->Hp->VK->Prop
def OpR(X:Cx)(f:Value->Value->Sem Value)(r:R2):Prop:=
 ∀(pins:List (Addr×Obj)) (s:Shared) (σ:St) (H:Hp) (x y:V) (v u:Value) (Q:VK),Inv X pins σ H s->RelV x v->RelV y u->r x y H Q->
  wpAny (model X.prog X.w) X.A (f v u) (EP X pins σ Q) X.xe s
def UnR(X:Cx)(f:Value->Sem Value)(r:V->Hp->VK->Prop):Prop:=
 ∀(pins:List (Addr×Obj)) (s:Shared) (σ:St) (H:Hp) (x:V) (v:Value) (Q:VK),Inv X pins σ H s->RelV x v->r x H Q->
  wpAny (model X.prog X.w) X.A (f v) (EP X pins σ Q) X.xe s
def CallR(X:Cx)(f:Value)(r:List V->Hp->VK->Prop):Prop:=
 ∀(pins:List (Addr×Obj)) (s:Shared) (σ:St) (H:Hp) (xs:List V) (us:List Value) (Q:VK),Inv X pins σ H s->Vals xs us->r xs H Q->
  wpAny (model X.prog X.w) X.A (call f us) (EP X pins σ Q) X.xe s
def TruR(X:Cx)(r:V->Hp->(Bool->Hp->Prop)->Prop):Prop:=
 ∀(pins:List (Addr×Obj)) (s:Shared) (σ:St) (H:Hp) (x:V) (v:Value) (Q:Bool->Hp->Prop),Inv X pins σ H s->RelV x v->r x H Q->
  wpAny (model X.prog X.w) X.A (truthy v) (TP X pins σ Q) X.xe s
def tOp(r:R2)(ta tb:TE):TE:=fun σ H Q=>ta σ H fun x H1=>tb σ H1 fun y H2=>r x y H2 Q
def tUn(r:V->Hp->VK->Prop)(ta:TE):TE:=fun σ H Q=>ta σ H fun x H1=>r x H1 Q
def rI(C:Int->Int->Prop)(g:Int->Int->V):R2:=fun x y H Q=>∃i j,x = .int i/\y = .int j/\C i j/\Q (g i j) H
def rI0(g:Int->Int->V):R2:=fun x y H Q=>∃i j,x = .int i/\y = .int j/\Q (g i j) H
noncomputable def rU(g:Int->V):V->Hp->VK->Prop:=fun x H Q=>∃i,x = .int i/\Q (g i) H
section
variable{X:Cx}{a b c:Expr}{ta tb tc:TE}{pos:Pos}
theorem binT(ha:PE X a ta)(hb:PE X b tb){pins:List (Addr×Obj)}{s:Shared}{σ:St}{H:Hp}{R:V->V->Hp->Prop}(I:Inv X pins σ H s)
  (h:ta σ H fun x H1=>tb σ H1 fun y H2=>R x y H2) {Q:Value->Shared->Prop} {f:Value->Value->Sem Value}
  (hf:∀v u s2 x y H2,Inv X pins σ H2 s2->RelV x v->RelV y u->R x y H2->wpAny (model X.prog X.w) X.A (f v u) Q X.xe s2) :
  wpAny (model X.prog X.w) X.A (eval a X.env) (fun v s₁=>wpAny (model X.prog X.w) X.A (eval b X.env) (fun u s₂=>wpAny (model X.prog X.w) X.A (f v u) Q X.xe s₂) X.xe s₁) X.xe s:=by
 refine thn (ha pins s σ H _ I h) fun v s1 ⟨x,H1,I1,r1,q1⟩=>?_
 refine thn (hb pins s1 σ H1 _ I1 q1) fun u s2 ⟨y,H2,I2,r2,q2⟩=>?_
 exact hf v u s2 x y H2 I2 r1 r2 q2
theorem ju{op:Operator}{r:R2}(ho:OpR X (binaryOp op) r)(ha:PE X a ta)(hb:PE X b tb):PE X (.BinOp a op b pos) (tOp r ta tb):=by
 intro pins s σ H Q I h;exact wpAny_BinOp (binT ha hb I h fun v u s2 x y H2 I2 rx ry q=>ho pins s2 σ H2 x y v u Q I2 rx ry q)
theorem ym{op:UnaryOp}{r:V->Hp->VK->Prop}(ho:UnR X (unaryOp op) r)(ha:PE X a ta):PE X (.UnaryOp op a pos) (tUn r ta):=by
 intro pins s σ H Q I h;exact UnaryOp_ (thn (ha pins s σ H _ I h) fun v s1 ⟨x,H1,I1,r1,q1⟩=>ho pins s1 σ H1 x v Q I1 r1 q1)
theorem opI{f:Value->Value->Sem Value}{C:Int->Int->Prop}{g:Int->Int->Int}
  (rule:∀(i j:Int) (t u:Tok) (s:Shared) (Q:Value->Shared->Prop) (E:Value->Shared->Prop),C i j->Q (.int (g i j) s.toks) {s with toks:=s.toks+1}->wpAny (model X.prog X.w) X.A (f (.int i t) (.int j u)) Q E s) :
  OpR X f (rI C fun i j=>.int (g i j)):=by
 intro pins s σ H x y v u Q I rx ry h;obtain⟨i,j,rfl,rfl,hc,q⟩:=h;obtain⟨t,rfl⟩:=rx;obtain⟨t',rfl⟩:=ry;exact rule i j t t' s _ _ hc ⟨.int (g i j),H,I.tok _,⟨_,rfl⟩,q⟩
theorem opI0{f:Value->Value->Sem Value}{g:Int->Int->Int}
  (rule:∀(i j:Int) (t u:Tok) (s:Shared) (Q:Value->Shared->Prop) (E:Value->Shared->Prop),Q (.int (g i j) s.toks) {s with toks:=s.toks+1}->wpAny (model X.prog X.w) X.A (f (.int i t) (.int j u)) Q E s) :
  OpR X f (rI0 fun i j=>.int (g i j)):=by
 intro pins s σ H x y v u Q I rx ry h;obtain⟨i,j,rfl,rfl,q⟩:=h;obtain⟨t,rfl⟩:=rx;obtain⟨t',rfl⟩:=ry;exact rule i j t t' s _ _ ⟨.int (g i j),H,I.tok _,⟨_,rfl⟩,q⟩
theorem opB0{f:Value->Value->Sem Value}{g:Int->Int->Bool}
  (rule:∀(i j:Int) (t u:Tok) (s:Shared) (Q:Value->Shared->Prop) (E:Value->Shared->Prop),Q (.bool (g i j)) s->wpAny (model X.prog X.w) X.A (f (.int i t) (.int j u)) Q E s) :
  OpR X f (rI0 fun i j=>.bl (g i j)):=by
 intro pins s σ H x y v u Q I rx ry h;obtain⟨i,j,rfl,rfl,q⟩:=h;obtain⟨t,rfl⟩:=rx;obtain⟨t',rfl⟩:=ry;exact rule i j t t' s _ _ ⟨.bl (g i j),H,I,rfl,q⟩
def CPow(i j:Int):Prop:=0<=j/\j<=1000000/\i.natAbs<2^64
def CMul(i j:Int):Prop:=(-(2^64)<i/\i<2^64)\/(-(2^64)<j/\j<2^64)
theorem CMul.ok{i j:Int}(h:CMul i j):IntMulOk i j:=by
 rcases h with⟨h1,h2⟩ | ⟨h1,h2⟩
 ·exact .of_left (intBits_le_64 h1 h2)
 ·exact .of_right (intBits_le_64 h1 h2)
theorem jY:OpR X (binaryOp .Add) (rI0 fun i j=>.int (i+j)):=opI0 fun _ _ _ _ _ _ _ q=>add_int q
theorem Qt:OpR X (binaryOp .Sub) (rI0 fun i j=>.int (i-j)):=opI0 fun _ _ _ _ _ _ _ q=>sub_int q
theorem qA:OpR X (binaryOp .Mod) (rI (fun _ j=>0<j) fun i j=>.int (i%j)):=opI fun i j _ _ _ _ _ hc q=>by
 have h1:(0:Int)<j:=hc;exact mod_int' (by omega) (by rw[Int.fmod_eq_emod_of_nonneg i (by omega)];exact q)
theorem Wv:OpR X (binaryOp .Pow) (rI CPow fun i j=>.int (i^j.toNat)):=opI fun _ _ _ _ _ _ _ hc q=>pow_int_small hc.1 hc.2.1 hc.2.2 q
theorem unI{f:Value->Sem Value}{g:Int->Int}
  (rule:∀(i:Int) (t:Tok) (s:Shared) (Q:Value->Shared->Prop) (E:Value->Shared->Prop),Q (.int (g i) s.toks) {s with toks:=s.toks+1}->wpAny (model X.prog X.w) X.A (f (.int i t)) Q E s) :
  UnR X f (rU fun i=>.int (g i)):=by
 intro pins s σ H x v Q I rx h;obtain⟨i,rfl,q⟩:=h;obtain⟨t,rfl⟩:=rx;exact rule i t s _ _ ⟨.int (g i),H,I.tok _,⟨_,rfl⟩,q⟩
theorem zT:UnR X (unaryOp .USub) (rU fun i=>.int (-i)):=unI fun _ _ _ _ _ q=>neg_int q
end
noncomputable def scal:V->V->Bool
 | .non,.non=>true | .non,.int _=>true | .int _,.non=>true | .non,.bl _=>true | .bl _,.non=>true | .non,.str _=>true | .str _,.non=>true
 | .int _,.int _=>true | .bl _,.bl _=>true | .str _,.str _=>true | .byt _,.byt _=>true
 | .int _,.str _=>true | .str _,.int _=>true | .bl _,.str _=>true | .str _,.bl _=>true
 | _,_=>false
def rEq:R2:=fun x y H Q=>scal x y=true/\Q (.bl (decide (x=y))) H
theorem j2V{i j:Int}:decide (V.int i=V.int j)=(i==j):=by
 rw[Bool.eq_iff_iff];simp
theorem j4b{i j:Bool}:decide (V.bl i=V.bl j)=(i==j):=by
 rw[Bool.eq_iff_iff];simp
theorem j2W{i j:Str}:decide (V.str i=V.str j)=(i==j):=by
 rw[Bool.eq_iff_iff];simp
theorem j2U{i j:Array UInt8}:decide (V.byt i=V.byt j)=(i.toList==j.toList):=by
 rw[Bool.eq_iff_iff];cases i;cases j;simp
section
variable{X:Cx}{a b c:Expr}{ta tb tc:TE}{pos:Pos}
theorem qz{pins:List (Addr×Obj)}{σ:St}{H:Hp}{s:Shared}{Q:VK}{k k':Bool}(I:Inv X pins σ H s)(q:Q (.bl k) H)(e:k=k'):EP X pins σ Q (.bool k') s:=by
 subst e;exact⟨.bl k,H,I,rfl,q⟩
theorem J0:OpR X (compareOp .Eq) rEq:=by
 intro pins s σ H x y v u Q I rx ry h;obtain⟨hs,q⟩:=h;cases x with
 | non=>
  cases rx;cases y with
  | non=>cases ry;exact PySem.EqNone.eq_none_none (qz I q (by simp))
  | bl j=>cases ry;exact PySem.EqNone.eq_none_bool (qz I q (by simp))
  | int j=>obtain⟨t',rfl⟩:=ry;exact PySem.EqNone.eq_none_int (qz I q (by simp))
  | str j=>obtain⟨t',rfl⟩:=ry;exact PySem.EqNone.eq_none_str (qz I q (by simp))
  | _=>exact absurd (show false=true from hs) Bool.false_ne_true
 | bl i=>
  cases rx;cases y with
  | non=>cases ry;exact PySem.EqNone.eq_bool_none (qz I q (by simp))
  | bl j=>cases ry;exact eq_bool (qz I q j4b)
  | str j=>obtain⟨t',rfl⟩:=ry;exact PySem.EqMixed.eq_bool_str (qz I q (by simp))
  | _=>exact absurd (show false=true from hs) Bool.false_ne_true
 | int i=>
  obtain⟨t,rfl⟩:=rx;cases y with
  | non=>cases ry;exact PySem.EqNone.eq_int_none (qz I q (by simp))
  | int j=>obtain⟨t',rfl⟩:=ry;exact eq_int (qz I q j2V)
  | str j=>obtain⟨t',rfl⟩:=ry;exact PySem.EqMixed.eq_int_str (qz I q (by simp))
  | _=>exact absurd (show false=true from hs) Bool.false_ne_true
 | str i=>
  obtain⟨t,rfl⟩:=rx;cases y with
  | non=>cases ry;exact PySem.EqNone.eq_str_none (qz I q (by simp))
  | bl j=>cases ry;exact PySem.EqMixed.eq_str_bool (qz I q (by simp))
  | int j=>obtain⟨t',rfl⟩:=ry;exact PySem.EqMixed.eq_str_int (qz I q (by simp))
  | str j=>obtain⟨t',rfl⟩:=ry;exact eq_str (qz I q j2W)
  | _=>exact absurd (show false=true from hs) Bool.false_ne_true
 | byt i=>
  obtain⟨t,rfl⟩:=rx;cases y with
  | byt j=>obtain⟨t',rfl⟩:=ry;exact PySem.W.eq_bytes (qz I q j2U)
  | _=>exact absurd (show false=true from hs) Bool.false_ne_true
 | _=>cases y<;>exact absurd (show false=true from hs) Bool.false_ne_true
theorem wp:OpR X (compareOp .Lt) (rI0 fun i j=>.bl (decide (i<j))):=opB0 fun _ _ _ _ _ _ _ q=>lt_int q
theorem j04:OpR X (compareOp .LtE) (rI0 fun i j=>.bl (decide (i<=j))):=opB0 fun _ _ _ _ _ _ _ q=>le_int q
theorem yk:OpR X (compareOp .Gt) (rI0 fun i j=>.bl (decide (j<i))):=opB0 fun _ _ _ _ _ _ _ q=>gt_int q
theorem j50:OpR X (compareOp .GtE) (rI0 fun i j=>.bl (decide (j<=i))):=opB0 fun _ _ _ _ _ _ _ q=>ge_int q
theorem j1W:OpR X (compareOp .Is) (fun x y H Q=>y = .non/\Q (.bl (decide (x = .non))) H):=by
 intro pins s σ H x y v u Q I rx ry h;obtain⟨rfl,q⟩:=h;cases ry;refine is_none_gen (qz I q ?_);cases x<;>first
  | (cases rx;rfl)
  | (obtain⟨t,rfl⟩:=rx;rfl)
theorem Z7:OpR X (compareOp .IsNot) (fun x y H Q=>y = .non/\Q (.bl (!decide (x = .non))) H):=by
 intro pins s σ H x y v u Q I rx ry h;obtain⟨rfl,q⟩:=h;cases ry;refine isnot_none_gen (qz I q ?_);cases x<;>first
  | (cases rx;rfl)
  | (obtain⟨t,rfl⟩:=rx;rfl)
theorem nomark(b:Expr){op:CmpOp}(h:op≠.In:=by decide)(h2:op≠.NotIn:=by decide):behindInMarks op b=false:=by
 have e1:(op==CmpOp.In)=false:=by cases op<;>first | rfl | exact absurd rfl h
 have e2:(op==CmpOp.NotIn)=false:=by cases op<;>first | rfl | exact absurd rfl h2
 cases b<;>simp[behindInMarks,e1,e2]
theorem ko{op:CmpOp}{r:R2}(ho:OpR X (compareOp op) r)(ha:PE X a ta)(hb:PE X b tb)(hm:behindInMarks op b=false):PE X (.Compare a [op] [b] pos) (tOp r ta tb):=by
 intro pins s σ H Q I h;exact wpAny_Compare1 (binT ha hb I h fun v u s2 x y H2 I2 rx ry q=>ho pins s2 σ H2 x y v u Q I2 rx ry q) hm
def tTest(t:TE):TT:=fun σ H Q=>t σ H fun x H'=>∃k,x = .bl k/\Q k H'
theorem jw{op:CmpOp}{r:R2}(ho:OpR X (compareOp op) r)(ha:PE X a ta)(hb:PE X b tb)(hm:behindInMarks op b=false):PT X (.Compare a [op] [b] pos) (tTest (tOp r ta tb)):=by
 intro pins s σ H Q I h;refine wpAny_isTrue_Compare1 (thn (ha pins s σ H _ I h) fun v s1 ⟨x,H1,I1,r1,q1⟩=>thn (hb pins s1 σ H1 _ I1 q1) fun u s2 ⟨y,H2,I2,r2,q2⟩=>
  thn (ho pins s2 σ H2 x y v u _ I2 r1 r2 q2) fun c s3 ⟨z,H3,I3,r3,k,e,q3⟩=>?_) hm
 subst e;cases r3;exact wpAny_truthy_bool ⟨H3,I3,q3⟩
def tChain(r r':R2)(ta tb tc:TE):TE:=fun σ H Q=>ta σ H fun x H1=>tb σ H1 fun y H2=>r x y H2 fun z H3=>∃k,z = .bl k/\
 (if k=true then tc σ H3 fun w' H4=>r' y w' H4 Q else Q (.bl false) H3)
theorem j21{op op':CmpOp}{r r':R2}(ho:OpR X (compareOp op) r)(ho':OpR X (compareOp op') r')(ha:PE X a ta)(hb:PE X b tb)(hc:PE X c tc)
  (hm:lastMarks [op,op'] [b,c]=false:=by with_unfolding_all rfl):PE X (.Compare a [op,op'] [b,c] pos) (tChain r r' ta tb tc):=by
 intro pins s σ H Q I h;refine Compare_chain (thn (ha pins s σ H _ I h) fun v s1 ⟨x,H1,I1,r1,q1⟩=>chain_link (thn (hb pins s1 σ H1 _ I1 q1) fun u s2 ⟨y,H2,I2,r2,q2⟩=>
  thn (ho pins s2 σ H2 x y v u _ I2 r1 r2 q2) fun d s3 ⟨z,H3,I3,r3,k,e,q3⟩=>?_)) hm
 subst e;cases r3;refine wpAny_truthy_bool ?_;cases k with
 | false=>exact ite_ff ⟨.bl false,H3,I3,rfl,q3⟩
 | true=>exact ite_tt (chain_last (thn (hc pins s3 σ H3 _ I3 q3) fun w' s4 ⟨z',H4,I4,r4,q4⟩=>ho' pins s4 σ H4 y z' u w' Q I4 r2 r4 q4))
theorem j26{op op':CmpOp}{r r':R2}(ho:OpR X (compareOp op) r)(ho':OpR X (compareOp op') r')(ha:PE X a ta)(hb:PE X b tb)(hc:PE X c tc)
  (hm:lastMarks [op,op'] [b,c]=false:=by with_unfolding_all rfl):PT X (.Compare a [op,op'] [b,c] pos) (tTest (tChain r r' ta tb tc)):=by
 intro pins s σ H Q I h;refine isTrue_chain (thn (ha pins s σ H _ I h) fun v s1 ⟨x,H1,I1,r1,q1⟩=>test_link (thn (hb pins s1 σ H1 _ I1 q1) fun u s2 ⟨y,H2,I2,r2,q2⟩=>
  thn (ho pins s2 σ H2 x y v u _ I2 r1 r2 q2) fun d s3 ⟨z,H3,I3,r3,k,e,q3⟩=>?_)) hm
 subst e;cases r3;refine wpAny_truthy_bool ?_;cases k with
 | false=>
  obtain⟨k',e',q'⟩:=q3;cases e';exact ite_ff ⟨H3,I3,q'⟩
 | true=>
  refine ite_tt (test_last (thn (hc pins s3 σ H3 _ I3 q3) fun w' s4 ⟨z',H4,I4,r4,q4⟩=>thn (ho' pins s4 σ H4 y z' u w' _ I4 r2 r4 q4) fun d' s5 ⟨z2,H5,I5,r5,k2,e2,q5⟩=>?_));subst e2;cases r5;exact wpAny_truthy_bool ⟨H5,I5,q5⟩
def TruV(K:Frg)(x:V)(H:Hp)(k:Bool):Prop:=
 match x with
 | .non=>k=false
 | .bl b=>k=b
 | .int i=>k=(i != 0)
 | .str y=>y.length<=sizeLine/\k=((y.length:Int) != 0)
 | .byt y=>y.size<=sizeLine/\k=((y.size:Int) != 0)
 | .ref p=>(∃xs,SqL K H p xs/\k = !xs.isEmpty)\/(∃xs,SqT K H p xs/\k = !xs.isEmpty)\/∃kvs,H p=some (.dK kvs)/\k = !kvs.isEmpty
 | _=>False
theorem Xm{κ:Type}{kvs:List (κ×V)}{vs:List (κ×Value)}(r:KV kvs vs):(!vs.isEmpty) = !kvs.isEmpty:=by
 cases r<;>rfl
theorem kR{xs:List V}{its:List Value}(r:Vals xs its):(!its.toArray.isEmpty) = !xs.isEmpty:=by
 cases r<;>simp
theorem line63:(sizeLine:Nat)<2^63:=by rw[sizeLine_eq];decide
theorem j2A:TruR X (fun x H Q=>∃k,TruV X.K x H k/\Q k H):=by
 intro pins s σ H x v Q I rx h;obtain⟨k,e,q⟩:=h;have hl:=line63;have hs:sizeLine=16777216:=sizeLine_eq;cases x with
 | non=>
  cases rx;have e':k=false:=e;subst e';exact truthy_none ⟨H,I,q⟩
 | bl b=>
  cases rx;have e':k=b:=e;subst e';exact wpAny_truthy_bool ⟨H,I,q⟩
 | int i=>
  obtain⟨t,rfl⟩:=rx;have e':k=(i != 0):=e;subst e';exact PySem.P.truthy_int ⟨H,I,q⟩
 | str y=>
  obtain⟨t,rfl⟩:=rx;obtain⟨hy,e'⟩:y.length<=sizeLine/\k=((y.length:Int) != 0):=e;subst e';exact PySem.P.truthy_str (by omega) ⟨H,I.tok _,q⟩
 | byt y=>
  obtain⟨t,rfl⟩:=rx;obtain⟨hy,e'⟩:y.size<=sizeLine/\k=((y.size:Int) != 0):=e;subst e';exact PySem.W.truthy_bytes (by omega) ⟨H,I.tok _,q⟩
 | ref p=>
  cases rx;have e':(∃xs,SqL X.K H p xs/\k = !xs.isEmpty)\/(∃xs,SqT X.K H p xs/\k = !xs.isEmpty)\/∃kvs,H p=some (.dK kvs)/\k = !kvs.isEmpty:=e;rcases e' with⟨xs,hx,e'⟩ | ⟨xs,hx,e'⟩ | ⟨kvs,hx,e'⟩
  ·subst e';obtain⟨its,r,pl,hz⟩:=I.list hx;have hlen:=r.length;exact wpAny_truthy_list pl.isList (by simp only[size_toArray];omega) ⟨H,I.tok _,by rw[kR r];exact q⟩
  ·subst e';obtain⟨its,r,pl,hz⟩:=I.tuple hx;have hlen:=r.length;exact truthy_tuple pl (by simp only[size_toArray];omega) ⟨H,I.tok _,by rw[kR r];exact q⟩
  ·subst e';obtain⟨hz,hS,vs,r,m⟩:kvs.length<=sizeLine/\(p==sysModules)=false/\∃vs,KV kvs vs/\s.heap.DictOf (mixKind X.prog X.w) p vs:=I.hok p _ hx;have hlen:kvs.length=vs.length:=Paired.length r;exact wpAny_truthy_dict hS m (by omega) ⟨H,I.tok _,by rw[Xm r];exact q⟩
 | _=>exact(show False from e).elim
theorem j28(ha:PE X a ta)(he:∀whole,isTrue a X.env whole=(do let v <-whole;standAt a.pos;holding [v] (truthy v))) :
  PT X a (fun σ H Q=>ta σ H fun x H'=>∃k,TruV X.K x H' k/\Q k H'):=by
 intro pins s σ H Q I h;exact isTrue_plain (thn (ha pins s σ H _ I h) fun v s1 ⟨x,H1,I1,r1,q1⟩=>j2A pins s1 σ H1 x v Q I1 r1 q1) (he _)
theorem JO:OpR X (binaryOp .Add) (fun x y H Q=>∃i j,x = .str i/\y = .str j/\i.length+j.length<=sizeLine/\Q (.str (i++j)) H):=by
 intro pins s σ H x y v u Q I rx ry h;obtain⟨i,j,rfl,rfl,hz,q⟩:=h;obtain⟨t,rfl⟩:=rx;obtain⟨t',rfl⟩:=ry;exact add_str (fun t' tk=>⟨.str (i++j),H,I.tok _,⟨_,rfl⟩,q⟩) hz
theorem vals1{x:V}{us:List Value}(r:Vals [x] us):∃u,us=[u]/\RelV x u:=by
 cases r with
 | cons r1 r2=>cases r2;exact⟨_,rfl,r1⟩
theorem vals2{x y:V}{us:List Value}(r:Vals [x,y] us):∃u w',us=[u,w']/\RelV x u/\RelV y w':=by
 cases r with
 | cons r1 r2=>
  cases r2 with
  | cons r3 r4=>cases r4;exact⟨_,_,rfl,r1,r3⟩
theorem WY:CallR X (.builtin "abs") (fun xs H Q=>∃i,xs=[.int i]/\Q (.int (if i<0 then -i else i)) H):=by
 intro pins s σ H xs us Q I r h;obtain⟨i,rfl,q⟩:=h;obtain⟨u,rfl,t,rfl⟩:=vals1 r;exact call_abs_int fun u tk=>⟨.int (if i<0 then -i else i),H,I.tok _,⟨_,rfl⟩,q⟩
theorem Z3(hc:X.calm=true):CallR X (.builtin "min") (fun xs H Q=>∃i j,xs=[.int i,.int j]/\Q (.int (if j<i then j else i)) H):=by
 intro pins s σ H xs us Q I r h;obtain⟨i,j,rfl,q⟩:=h;obtain⟨u,w',rfl,⟨t,rfl⟩,⟨t',rfl⟩⟩:=vals2 r;refine min_two_ints (I.ok.hd hc) fun h' tk k=>⟨_,H,I.kept k,?_,q⟩
 by_cases hj:j<i
 ·rw[if_pos hj,if_pos hj];exact⟨_,rfl⟩
 ·rw[if_neg hj,if_neg hj];exact⟨_,rfl⟩
def LenV(K:Frg)(x:V)(H:Hp)(n:Nat):Prop:=
 match x with
 | .str y=>y.length<=sizeLine/\n=y.length
 | .byt y=>y.size<=sizeLine/\n=y.size
 | .ref p=>(∃xs,SqL K H p xs/\n=xs.length)\/∃xs,SqT K H p xs/\n=xs.length
 | _=>False
theorem Jg:CallR X (.builtin "len") (fun xs H Q=>∃x n,xs=[x]/\LenV X.K x H n/\Q (.int n) H):=by
 intro pins s σ H xs us Q I r h;obtain⟨x,n,rfl,e,q⟩:=h;obtain⟨u,rfl,rx⟩:=vals1 r;have hl:=line63;have hs:sizeLine=16777216:=sizeLine_eq;cases x with
 | str y=>
  obtain⟨t,rfl⟩:=rx;obtain⟨hy,e'⟩:y.length<=sizeLine/\n=y.length:=e;subst e';exact len_str (by omega) ⟨.int _,H,I.tok _,⟨_,rfl⟩,q⟩
 | byt y=>
  obtain⟨t,rfl⟩:=rx;obtain⟨hy,e'⟩:y.size<=sizeLine/\n=y.size:=e;subst e';exact PySem.W.len_bytes (by omega) ⟨.int _,H,I.tok _,⟨_,rfl⟩,q⟩
 | ref p=>
  cases rx;have e':(∃xs,SqL X.K H p xs/\n=xs.length)\/∃xs,SqT X.K H p xs/\n=xs.length:=e;rcases e' with⟨xs,hx,e'⟩ | ⟨xs,hx,e'⟩
  ·subst e';obtain⟨its,r',pl,hz⟩:=I.list hx;have hlen:=r'.length;exact Calls.call_len_list pl.isList (by simp only[size_toArray];omega) ⟨.int xs.length,H,I.tok _,⟨_,by simp only[size_toArray];rw[hlen]⟩,q⟩
  ·subst e';obtain⟨its,r',pl,hz⟩:=I.tuple hx;have hlen:=r'.length;exact len_tuple pl (by simp only[size_toArray];omega) ⟨.int xs.length,H,I.tok _,⟨_,by simp only[size_toArray];rw[hlen]⟩,q⟩
 | _=>exact(show False from e).elim
end
structure ObjM(h:Heap)(x dx C:Addr)(mA:Str->Option Value):Prop where
 obj:h.get? x=some (PySem.W.instObj C dx)
 ns:h.Ns1 dx mA
 ne:dx≠x
theorem j0G{h:Heap}{dx:Addr}{mA:Str->Option Value}(n:h.Ns1 dx mA):∃od,h.get? dx=some od/\∀name,PySem.W.lookIn name od=some (mA name):=by
 obtain⟨o,es,ep,ho,hd,hk,_,hm⟩:=n;refine⟨o,ho,fun name=>?_⟩;have e:=hm name;unfold nsFind findBy at e;rw[<-Array.find?_toList]at e;unfold PySem.W.lookIn;rw[hd];dsimp only;split
 ·rename_i y q;rw[q]at e;exact congrArg some e
 ·rename_i q;rw[q]at e;have a:es.toList.any (·.refKey)=false:=by
   rw[List.any_eq_false];intro y hy;obtain⟨z,t,hkey⟩:=hk y (Array.mem_toList_iff.mp hy);simp[DictEntry.refKey,hkey]
  have a':¬es.toList.any (·.refKey)=true:=by rw[a];exact Bool.false_ne_true
  rw[if_neg a'];exact congrArg some e
theorem ObjM.look{h:Heap}{x dx C:Addr}{mA:Str->Option Value}(I:ObjM h x dx C mA):∃od,PySem.W.InstAt h x (PySem.W.instObj C dx) C (some od)/\∀name,PySem.W.lookIn name od=some (mA name):=
 let ⟨od,ho,hl⟩:=j0G I.ns
 ⟨od,⟨I.obj,rfl,rfl,ho⟩,hl⟩
section
variable{prog:Program}{w:World}{A:Around}{E:Value->Shared->Prop}{s:Shared}{K:Frg}{x dx C f:Addr}{mA:Str->Option Value}{name:Str}{v:Value}
theorem j35{expr:Bool}{Q:Value->Shared->Prop}(X:K.In s.heap)(I:ObjM s.heap x dx C mA)(hg:PySem.W.plainGet K C name=true)(hh:PySem.W.hasDictIn K C=true)
  (ha:PySem.W.findIn K (.ref C) name=some none) (hv:mA name=some v) (hv':PySem.W.handedIn v=true) (h:Q v {s with toks:=s.toks+1}) :
  wpAny (model prog w) A (getAttr (.ref x) name expr) Q E s:=by
 obtain⟨od,J,hl⟩:=I.look;exact PySem.W.get_value X J (PySem.W.plainGet_of hg).1 (PySem.W.findObj_own hh ha rfl (by rw[hl,hv])) hv' h
theorem j1C{pl:Sem Bool}{Q:Value×List Value->Shared->Prop}(X:K.In s.heap)(I:ObjM s.heap x dx C mA)(hg:PySem.W.plainGet K C name=true)
  (hf:PySem.W.findIn K (.ref C) name=some (some (.ref f))) (ht:PySem.W.isFn K (.ref f)=true) (hv:mA name=none) (h:Q (.ref f,[.ref x]) s) :
  wpAny (model prog w) A (getMethod (.ref x) name pl) Q E s:=by
 obtain⟨od,J,hl⟩:=I.look;exact PySem.W.method_fn X J (PySem.W.plainGet_of hg).1 (PySem.W.plainGet_of hg).2 hf (beq_iff_eq.mp ht) (by show(PySem.W.lookIn name od).map (·.isSome)=some false;rw[hl,hv];rfl) h
theorem j3J{ns:List Str}{Q:Unit->Shared->Prop}(X:K.In s.heap)(I:ObjM s.heap x dx C mA)
  (hs:PySem.W.findIn K (.ref C) "__setattr__"= some (some (.builtin "object.__setattr__"))) (hp:PySem.W.plainOver K C=true) (ht:PySem.W.takerIn K C name=some none) (hh:PySem.W.hasDictIn K C=true)
  (hw:PySem.Within mA ns) (hsz:ns.length<=sizeLine)
  (h:∀h',ObjM h' x dx C (fun y=>if y=name then some v else mA y)->Heap.SameBut dx s.heap h'->Q () {s with heap:=h',toks:=s.toks+2}) :
  wpAny (model prog w) A (setAttr (.ref x) name v) Q E s:=by
 obtain⟨od,J,hl⟩:=I.look;refine PySem.W.set_plain X J hs (PySem.W.osa_open (s:={s with toks:=s.toks+1}) (r:=none) X J hp ht fun b=>?_);obtain⟨cd,hc,hd'⟩:=PySem.W.any_some hh;have hx:s.heap.get? x=some ⟨.ref C,some dx,.plain,#[]⟩:=I.obj;refine wpAny_bind (wpAny_pure (wpAny_bind (wpAny_bind (wpAny_loadPart hx (wpAny_bind (PySem.W.Looks.here (s:={s with toks:=s.toks+1}) (PySem.W.looks_clsIn X hc) ?_))))));rw[hd'];refine wpAny_pure (a:=some dx) (wpAny_bind (wpAny_pure (wpAny_bind ?_)));refine wpAny_nsSet1 (s:={s with toks:=s.toks+1}) I.ns fun h' hn2 hs2=>?_
 obtain⟨oD,esD,epD,hoD,hdD,hcD⟩:=hn2.count (PySem.Within.cons name v hw);refine wpAny_bind (wpAny_lookBehind hoD (by rw[hdD];exact pastItsLine_dict (Nat.le_trans hcD (by rw[length_cons];omega))) ?_);exact wpAny_pure (h _ ⟨(hs2.2 _ (Ne.symm I.ne)).trans I.obj,hn2,I.ne⟩ hs2)
theorem j1K{R:Result->Shared->Prop}{vs:List Value}{kw:List (Str×Value)}(X:K.In s.heap)(hm:PySem.W.makesIn K C=true)
  (hi:PySem.W.findIn K (.ref C) "__init__"= some (some (.ref f))) (hf:PySem.W.typeIn K (.ref f)=some (.type "function"))
  (h:codeAny (model prog w) (A.under (.builtin "type.__call__" ⟨.ref C::vs,kw⟩)) (.call (.ref f) ⟨.ref (s.heap.objs.size+1)::vs,kw⟩) (PySem.W.InitBack (s.heap.objs.size+1) R)
   {s with heap:=(s.heap.push PySem.W.emptyDict).push (PySem.W.instObj C s.heap.objs.size)}) :
  codeAny (model prog w) A (.call (.ref C) ⟨vs,kw⟩) R s:=by
 obtain⟨hh,g,d,t,os⟩:=s;exact PySem.W.make_core (PySem.W.makes_of X hm) (PySem.W.looks_findIn X hi) (fun self=>PySem.W.bind_fn X self hf) (.inl rfl) h
end
noncomputable def putF(f:Str)(v:V):List (Str×V)->List (Str×V)
 | []=>[(f,v)]
 | (g,x)::r=>if g=f then(g,v)::r else(g,x)::putF f v r
theorem zE(f g:Str)(v:V):∀fs:List (Str×V),(putF f v fs).lookup g=if g=f then some v else fs.lookup g
 | []=>by
  show List.lookup g [(f,v)]=_;by_cases h:g=f
  ·have hb:(g==f)=true:=beq_iff_eq.mpr h;simp only[List.lookup,hb,if_pos h]
  ·have hb:(g==f)=false:=beq_eq_false_iff_ne.mpr h;simp only[List.lookup,hb,if_neg h]
 | (k,x)::r=>by
  have ih:=zE f g v r;rw[show putF f v ((k,x)::r)=(if k=f then(k,v)::r else(k,x)::putF f v r)from rfl];by_cases hk:k=f
  ·rw[if_pos hk];by_cases h:g=k
   ·have hb:(g==k)=true:=beq_iff_eq.mpr h;simp only[List.lookup,hb,if_pos (h.trans hk)]
   ·have hb:(g==k)=false:=beq_eq_false_iff_ne.mpr h;simp only[List.lookup,hb,if_neg (fun e:g=f=>h (e.trans hk.symm))]
  ·rw[if_neg hk];by_cases h:g=k
   ·have hb:(g==k)=true:=beq_iff_eq.mpr h;simp only[List.lookup,hb,if_neg (fun e:g=f=>hk (h.symm.trans e))]
   ·have hb:(g==k)=false:=beq_eq_false_iff_ne.mpr h;simp only[List.lookup,hb];exact ih
theorem YC(f:Str)(v:V):∀fs:List (Str×V),f∈(putF f v fs).map (·.1)/\∀g,g∈fs.map (·.1)->g∈(putF f v fs).map (·.1)
 | []=>⟨by simp[putF],fun g h=>by simp at h⟩
 | (k,x)::r=>by
  obtain⟨i1,i2⟩:=YC f v r;rw[show putF f v ((k,x)::r)=(if k=f then(k,v)::r else(k,x)::putF f v r)from rfl];by_cases hk:k=f
  ·rw[if_pos hk];subst hk;exact⟨by simp,fun g h=>by simpa using h⟩
  ·rw[if_neg hk];refine⟨?_,fun g h=>?_⟩
   ·rw[map_cons];exact mem_cons_of_mem _ i1
   ·rw[map_cons]at h|-;rcases mem_cons.mp h with e | e
    ·exact mem_cons.mpr (.inl e)
    ·exact mem_cons_of_mem _ (i2 g e)
theorem Y0(f:Str)(v:V):∀fs:List (Str×V),(putF f v fs).length<=fs.length+1
 | []=>by simp[putF]
 | (k,x)::r=>by
  have ih:=Y0 f v r;rw[show putF f v ((k,x)::r)=(if k=f then(k,v)::r else(k,x)::putF f v r)from rfl];by_cases hk:k=f
  ·rw[if_pos hk,length_cons,length_cons];omega
  ·rw[if_neg hk,length_cons,length_cons];omega
theorem RelO.some_of{v:V}{o:Option Value}(r:RelO (some v) o):∃u,o=some u/\RelV v u:=by
 cases o with
 | none=>exact(show False from r).elim
 | some u=>exact⟨u,rfl,r⟩
theorem RelO.none_of{o:Option Value}(r:RelO none o):o=none:=by
 cases o with
 | none=>rfl
 | some u=>exact(show False from r).elim
theorem j0x{v:V}{u:Value}(r:RelV v u):PySem.W.handedIn u=true:=by
 cases v with
 | non=>cases(show u=Value.none from r);rfl
 | bl b=>cases(show u=Value.bool b from r);rfl
 | int i=>obtain⟨t,e⟩:=(show∃t,u=Value.int i t from r);cases e;rfl
 | str x=>obtain⟨t,e⟩:=(show∃t,u=Value.str x t from r);cases e;rfl
 | byt b=>obtain⟨t,e⟩:=(show∃t,u=Value.bytes b t from r);cases e;rfl
 | flt b=>obtain⟨t,e⟩:=(show∃t,u=Value.float b t from r);cases e;rfl
 | ref a=>cases(show u=Value.ref a from r);rfl
 | ty n=>cases(show u=Value.type n from r);rfl
section
variable{P:Program}{w:World}{H H':Hp}{h h':Heap}{a C dx:Addr}{fs fs':List (Str×V)}
theorem kj(hok:HOk P w H h)(e:H a=some (.ins C dx fs)):∃mA,ObjM h a dx C mA/\(∀f,RelO (fs.lookup f) (mA f))/\PySem.Within mA (fs.map (·.1))/\fs.length<=1000/\H dx=some (.own a):=by
 obtain⟨d,z,ne,ob,mA,n,r,q⟩:=(show ObjOk P w H h a (.ins C dx fs)from hok a _ e)
 exact⟨mA,⟨ob,n,ne⟩,r,q,z,d⟩
end
structure Cls(K:Frg)(C:Addr):Prop where
 pg:PySem.W.plainGet K C Str.empty=true
 hd:PySem.W.hasDictIn K C=true
 po:PySem.W.plainOver K C=true
 sa:PySem.W.findIn K (.ref C) "__setattr__"= some (some (.builtin "object.__setattr__"))
theorem Cls.get{K:Frg}{C:Addr}(c:Cls K C)(f:Str):PySem.W.plainGet K C f=true:=c.pg
def NoAttr(K:Frg)(C:Addr)(f:Str):Prop:=PySem.W.findIn K (.ref C) f=some none
theorem NoAttr.taker{K:Frg}{C:Addr}{f:Str}(n:NoAttr K C f):PySem.W.takerIn K C f=some none:=by
 unfold PySem.W.takerIn;rw[show PySem.W.findIn K (.ref C) f=some none from n];rfl
structure Meth(K:Frg)(C:Addr)(m:Str)(f:Addr):Prop where
 at_:PySem.W.findIn K (.ref C) m=some (some (.ref f))
 fn:PySem.W.isFn K (.ref f)=true
 kp:PySem.W.keepIn K (.ref f)=true
section
variable{X:Cx}{pins:List (Addr×Obj)}{σ:St}{H:Hp}{s:Shared}{a C dx:Addr}{fs:List (Str×V)}{f:Str}{v:V}{A:Around}{E:Value->Shared->Prop}
theorem Xj{b:Bool}{Q:Value->Shared->Prop}(I:Inv X pins σ H s)(e:H a=some (.ins C dx fs))(c:Cls X.K C)(n:NoAttr X.K C f)(l:fs.lookup f=some v)
  (h:∀u s',Inv X pins σ H s'->RelV v u->Q u s'):wpAny (model X.prog X.w) A (getAttr (.ref a) f b) Q E s:=by
 obtain⟨mA,O,r,_,_,_⟩:=kj I.hok e;obtain⟨u,hu,ru⟩:=RelO.some_of (v:=v) (o:=mA f) (by rw[<-l];exact r f);exact j35 I.kIn O (c.get f) c.hd n hu (j0x ru) (h u _ (I.tok _) ru)
theorem Xk{m:Str}{g:Addr}{pl:Sem Bool}{Q:Value×List Value->Shared->Prop}(I:Inv X pins σ H s)(e:H a=some (.ins C dx fs))(c:Cls X.K C)(k:Meth X.K C m g)(l:fs.lookup m=none)
  (h:Q (.ref g,[.ref a]) s):wpAny (model X.prog X.w) A (getMethod (.ref a) m pl) Q E s:=by
 obtain⟨mA,O,r,_,_,_⟩:=kj I.hok e;have hn:mA m=none:=RelO.none_of (by rw[<-l];exact r m);exact j1C I.kIn O (c.get m) k.at_ k.fn hn h
theorem XG{y:V}{u:Value}{Q:Unit->Shared->Prop}(I:Inv X pins σ H s)(e:H a=some (.ins C dx fs))(c:Cls X.K C)(n:NoAttr X.K C f)(hl:fs.length<1000)(ry:RelV y u)
  (h:∀s',Inv X pins σ (upd H a (.ins C dx (putF f y fs))) s'->Q () s'):wpAny (model X.prog X.w) A (setAttr (.ref a) f u) Q E s:=by
 obtain⟨mA,O,r,wi,_,ho⟩:=kj I.hok e;have hz:(fs.map (·.1)).length<=sizeLine:=by rw[length_map,sizeLine_eq];omega
 refine j3J I.kIn O c.sa c.po n.taker c.hd wi hz fun h' O' sb=>h _ ?_
 have hd:∃o,h'.get? dx=some o:=let ⟨o,_,_,e',_⟩:=O'.ns;⟨o,e'⟩;refine I.write (x:=a) (e:=dx) (by rw[e];exact True.intro) (.inr ho) (fun b q hb z=>(sb.2 b hb).trans z) hd ?_;refine⟨by rw[jh O.ne];exact ho,?_,O.ne,O'.obj,_,O'.ns,fun g=>?_,fun g hg=>?_⟩
 ·have:=Y0 f y fs;omega
 ·show RelO ((putF f y fs).lookup g) (if g=f then some u else mA g);rw[zE];by_cases q:g=f
  ·rw[if_pos q,if_pos q];exact ry
  ·rw[if_neg q,if_neg q];exact r g
 ·by_cases q:g=f
  ·rw[q];exact(YC f y fs).1
  ·refine(YC f y fs).2 g (wi g fun z=>hg ?_);show(if g=f then some u else mA g)=none;rw[if_neg q];exact z
theorem Inv.made(I:Inv X pins σ H s):Inv X pins σ (upd (upd H s.heap.objs.size (.own (s.heap.objs.size+1))) (s.heap.objs.size+1) (.ins C s.heap.objs.size []))
  {s with heap:=(s.heap.push PySem.W.emptyDict).push (PySem.W.instObj C s.heap.objs.size)}:=by
 have e1:(s.heap.push PySem.W.emptyDict).get? s.heap.objs.size=some PySem.W.emptyDict:=Heap.get?_push_size s.heap rfl;have e2:((s.heap.push PySem.W.emptyDict).push (PySem.W.instObj C s.heap.objs.size)).get? (s.heap.objs.size+1)=some (PySem.W.instObj C s.heap.objs.size):=by
  have:=Heap.get?_push_size (s.heap.push PySem.W.emptyDict) (o:=PySem.W.instObj C s.heap.objs.size) rfl
  rwa [Heap.size_push]at this
 have e3:(s.heap.push PySem.W.emptyDict).Ns s.heap.objs.size (fun _=>none):=⟨PySem.W.emptyDict,#[],_,e1,rfl,(fun e he=>absurd he (by simp)),fun _=>rfl⟩
 have I1:=I.laid (a:=s.heap.objs.size) (o:=.own (s.heap.objs.size+1)) (h':=s.heap.push PySem.W.emptyDict) (t':=s.toks) (fun b u q=>Heap.get?_push_of_some _ q) (Nat.le_refl _) ⟨_,e1⟩;refine I1.laid (a:=s.heap.objs.size+1) (o:=.ins C s.heap.objs.size []) (t':=s.toks) (fun b u q=>Heap.get?_push_of_some _ q) (Nat.le_of_eq (Heap.size_push _ _)) ?_;have ne:s.heap.objs.size≠s.heap.objs.size+1:=Nat.ne_of_lt (Nat.lt_succ_self _);refine⟨by rw[jh ne,jA],Nat.zero_le _,ne,e2,fun _=>none,(Heap.Ns1.of_empty e3).at fun o q=>Heap.get?_push_of_some _ q,fun _=>True.intro,fun y hy=>absurd rfl hy⟩
theorem j2T{prog:Program}{w:World}{env:Env}{e:Expr}{f:Str}{pos:Pos}{s:Shared}{Q:Value->Shared->Prop}(hb:attributeBase e f env (eval e env)=eval e env)
  (h:wpAny (model prog w) A (eval e env) (fun o s₁=>wpAny (model prog w) A (getAttr o f true) Q E s₁) E s):wpAny (model prog w) A (eval (.Attribute e f pos) env) Q E s:=
 Attribute_any_ h (by rw[arm_eval_Attribute,hb])
end
def tFld(K:Frg)(ta:TE)(f:Str):TE:=fun σ H Q=>ta σ H fun x H1=>∃a C dx fs v,x = .ref a/\H1 a=some (.ins C dx fs)/\Cls K C/\NoAttr K C f/\fs.lookup f=some v/\Q v H1
def sFld(K:Frg)(ta tv:TE)(f:Str):TS:=fun D σ H=>tv σ H fun y H1=>ta σ H1 fun x H2=>∃a C dx fs,x = .ref a/\H2 a=some (.ins C dx fs)/\Cls K C/\NoAttr K C f/\fs.length<1000/\
 D.nx σ (upd H2 a (.ins C dx (putF f y fs)))
section
variable{X:Cx}{o e value:Expr}{f:Str}{pos pos' tpos:Pos}{ta tv:TE}
theorem JB(he:PE X e ta)(hb:attributeBase e f X.env (eval e X.env)=eval e X.env):PE X (.Attribute e f pos) (tFld X.K ta f):=by
 intro pins s σ H Q I h;refine j2T hb (thn (he pins s σ H _ I h) fun u s1 ⟨x,H1,I1,rx,a,C,dx,fs,v,ex,ea,c,n,l,q⟩=>?_);subst ex;obtain rfl:u=Value.ref a:=rx;exact Xj I1 ea c n l fun u' s2 I2 ru=>⟨v,H1,I2,ru,q⟩
theorem zu(ha:PE X o ta)(hv:PE X value tv)(hs:swapsWith value (some (.Attribute o f pos')) pos.line X.env=pure false):PS X (.Assign [.Attribute o f pos'] value pos) (sFld X.K ta tv f):=by
 intro pins s σ H D I h;refine plainObj_wpAny_Assign_Attribute (thn (hv pins s σ H _ I h) fun u s1 ⟨y,H1,I1,ry,q⟩=>thn (ha pins s1 σ H1 _ I1 q) fun ov s2 ⟨x,H2,I2,rx,a,C,dx,fs,ex,ea,c,n,l,q2⟩=>?_) hs;subst ex;obtain rfl:ov=Value.ref a:=rx;exact XG I2 ea c n l ry fun s3 I3=>⟨σ,_,I3,q2⟩
end
section
variable{X:Cx}{pins:List (Addr×Obj)}{σ:St}{H:Hp}{s:Shared}{A:Around}{E:Value->Shared->Prop}{Q:Value->Shared->Prop}{c:Value}{b:Bool}
inductive TyOf(K:Frg)(H:Hp):V->Value->Prop where
 | non:TyOf K H .non (.type "NoneType")
 | bl (x:Bool):TyOf K H (.bl x) (.type "bool")
 | int (i:Int):TyOf K H (.int i) (.type "int")
 | str (x:Str):TyOf K H (.str x) (.type "str")
 | flt (x:UInt64):TyOf K H (.flt x) (.type "float")
 | lst {a:Addr} {xs:List V} (e:H a=some (.lst xs)):TyOf K H (.ref a) (.type "list")
 | frz {a:Addr} {o:Obj} {xs:List V} (e:H a=some (.frz o (.lst xs))):TyOf K H (.ref a) (.type "list")
 | tup {a:Addr} {xs:List V} (e:H a=some (.tup xs)):TyOf K H (.ref a) (.type "tuple")
 | dK {a:Addr} {kvs:List (Key×V)} (e:H a=some (.dK kvs)):TyOf K H (.ref a) (.type "dict")
 | dT {a:Addr} {kvs:List (List Key×V)} (e:H a=some (.dT kvs)):TyOf K H (.ref a) (.type "dict")
 | ins {a C dx:Addr} {fs:List (Str×V)} (e:H a=some (.ins C dx fs)) (cl:Cls K C) (ha:PySem.W.findIn K (.ref C) "__class__"= some (some (.builtin "object.__class__")))
   (hn:PySem.W.specialIn K (.builtin "object.__class__") "__get__"= some (some (.builtin "getset_descriptor.__get__"))) (htk:PySem.W.takesIn K (.builtin "object.__class__")=some true)
   (hm:PySem.W.mroIn K C (.type "object")=some true):TyOf K H (.ref a) (.ref C)
theorem j0A{x:V}{u t:Value}(I:Inv X pins σ H s)(rx:RelV x u)(ty:TyOf X.K H x t)(e:PySem.W.kitOne X.K t c=some b)(h:∀tk,Q (.bool b) {s with toks:=tk}) :
  wpAny (model X.prog X.w) A (call (.builtin "isinstance") [u,c]) Q E s:=by
 cases ty with
 | non=>cases(show u=Value.none from rx);exact PySem.W.kia_one PySem.W.kitx_none I.kIn True.intro e (fun z=>nomatch z) h
 | bl y=>cases(show u=Value.bool y from rx);exact PySem.W.kia_one PySem.W.kitx_bool I.kIn True.intro e (fun z=>nomatch z) h
 | int i=>obtain⟨t,q⟩:=(show∃t,u=Value.int i t from rx);cases q;exact PySem.W.kia_one PySem.W.kitx_int I.kIn True.intro e (fun z=>nomatch z) h
 | str y=>obtain⟨t,q⟩:=(show∃t,u=Value.str y t from rx);cases q;exact PySem.W.kia_one PySem.W.kitx_str I.kIn True.intro e (fun z=>nomatch z) h
 | flt y=>obtain⟨t,q⟩:=(show∃t,u=Value.float y t from rx);cases q;exact PySem.W.kia_one PySem.W.kitx_float I.kIn True.intro e (fun z=>nomatch z) h
 | @lst a xs ea=>
  cases(show u=Value.ref a from rx);obtain⟨_,_,n,_,h1⟩:=(show ObjOk X.prog X.w H s.heap a (.lst xs)from I.hok a _ ea)
  exact PySem.W.kia_one PySem.W.kitx_list I.kIn ⟨_,h1,rfl⟩ e (fun z=>nomatch z) h
 | @frz a ob xs ea=>
  cases(show u=Value.ref a from rx);obtain⟨_,_,_,n,_,h1⟩:=(show ObjOk X.prog X.w H s.heap a (.frz ob (.lst xs))from I.hok a _ ea)
  exact PySem.W.kia_one PySem.W.kitx_list I.kIn ⟨_,h1,rfl⟩ e (fun z=>nomatch z) h
 | @tup a xs ea=>
  cases(show u=Value.ref a from rx);obtain⟨_,_,_,p⟩:=(show ObjOk X.prog X.w H s.heap a (.tup xs)from I.hok a _ ea)
  obtain⟨o,h1,h2,_⟩:=p;exact PySem.W.kia_one PySem.W.kitx_tuple I.kIn ⟨o,h1,h2⟩ e (fun z=>nomatch z) h
 | @dK a kvs ea=>
  cases(show u=Value.ref a from rx);obtain⟨_,_,vs,_,p⟩:=(show ObjOk X.prog X.w H s.heap a (.dK kvs)from I.hok a _ ea)
  obtain⟨o,es,ep,h1,h2,_⟩:=p;exact PySem.W.kia_one PySem.W.kitx_dict I.kIn ⟨o,h1,h2.1⟩ e (fun z=>nomatch z) h
 | @dT a kvs ea=>
  cases(show u=Value.ref a from rx);obtain⟨_,_,xs,_,o,es,ep,h1,h2,_⟩:=(show ObjOk X.prog X.w H s.heap a (.dT kvs)from I.hok a _ ea)
  exact PySem.W.kia_one PySem.W.kitx_dict I.kIn ⟨o,h1,h2.1⟩ e (fun z=>nomatch z) h
 | @ins a C dx fs ea cl ha hn htk hm=>
  cases(show u=Value.ref a from rx);obtain⟨mA,O,_⟩:=kj I.hok ea;obtain⟨od,J,_⟩:=O.look;exact PySem.W.kia_one (PySem.W.kitx_own (cl.get _) cl.hd ha hn htk hm) I.kIn J e (fun z=>nomatch z) h
end
structure Room(k:Nat)(A:Around):Prop where
 hd:A.handled=none
 dp:A.depth+3*k+5<recursionLimit
 un:A.units+16*k+200<cLine
theorem Room.mono{j k:Nat}{A:Around}(r:Room k A)(h:j<=k):Room j A:=⟨r.hd,by have:=r.dp;omega,by have:=r.un;omega⟩
theorem Room.deeper{k:Nat}{A:Around}(r:Room (k+1) A)(env:Env):Room k (A.deeper env):=
 ⟨r.hd,by have:=r.dp;show A.depth+1+3*k+5<_;omega,by have:=r.un;show A.units+3+16*k+200<_;omega⟩
theorem Xs{A:Around}{C:Addr}{us:List Value}{kw:List (Str×Value)}:(A.under (.builtin "type.__call__" ⟨.ref C::us,kw⟩)).depth=A.depth+1:=by
 first | rfl | simp[Around.under,Code.weight,Code.isCreation,Code.isGuard,Code.isCaller,Code.frames,Code.isFrame,guardIds]
theorem Xt{A:Around}{C:Addr}{us:List Value}{kw:List (Str×Value)}:(A.under (.builtin "type.__call__" ⟨.ref C::us,kw⟩)).units=A.units+1:=by
 first | rfl | simp[Around.under,Code.cUnits,Code.frames,Code.isFrame]
theorem Room.make{k:Nat}{A:Around}(r:Room (k+1) A)(C:Addr)(us:List Value)(kw:List (Str×Value)):Room k (A.under (.builtin "type.__call__" ⟨.ref C::us,kw⟩)):=
 ⟨r.hd,by have:=r.dp;rw[Xs];omega,by have:=r.un;rw[Xt];omega⟩
theorem Room.depth{k:Nat}{A:Around}(r:Room k A):A.depth<recursionLimit:=by have:=r.dp;omega
theorem Room.units{k:Nat}{A:Around}(r:Room k A):A.units+64<cLine:=by have:=r.un;omega
def tNil:TA:=fun _ H Q=>Q [] H
def tCons(ta:TE)(tr:TA):TA:=fun σ H Q=>ta σ H fun x H1=>tr σ H1 fun xs H2=>Q (x::xs) H2
section
variable{X:Cx}{e:Expr}{es:List Expr}{te:TE}{t:TA}{pos:Pos}
theorem jd:PA X [] tNil:=fun _ _ _ _ H Q I h=>Calls.spliced_nil ⟨[],H,I,.nil,h⟩
theorem jb(ha:PE X e te)(hr:PA X es t)(hs:starEach (e::es) X.env=(false,eval e X.env)::starEach es X.env:=by rfl):PA X (e::es) (tCons te t):=by
 intro pos pins s σ H Q I h;rw[hs];show wpAny _ _ (spliced ((false,eval e X.env)::backTo pos (starEach es X.env))) _ _ s;refine Calls.spliced_cons (thn (ha pins s σ H _ I h) fun u s1 ⟨x,H1,I1,r1,q1⟩=>?_);exact thn (hr pos pins s1 σ H1 _ I1 q1) fun us s2 ⟨xs,H2,I2,r2,q2⟩=>⟨x::xs,H2,I2,.cons r1 r2,q2⟩
def tTup(t:TA):TE:=fun σ H Q=>t σ H fun xs H1=>xs.length<=sizeLine/\∀p,H1 p=none->Q (.ref p) (upd H1 p (.tup xs))
def tLst(t:TA):TE:=fun σ H Q=>t σ H fun xs H1=>xs.length<=sizeLine/\∀p,H1 p=none->Q (.ref p) (upd H1 p (.lst xs))
theorem jI{x1}(h:PA X es t):PE X (.Tuple es x1 pos) (tTup t):=by
 intro pins s σ H Q I hq;refine wpAny_Tuple_spliced (thn (h pos pins s σ H _ I hq) fun us s1 ⟨xs,H1,I1,r,z,q⟩=>⟨by rw[<-r.length];exact z,?_⟩);have hf:H1 s1.heap.objs.size=none:=I1.hok.fresh (Nat.le_refl _);refine⟨.ref s1.heap.objs.size,upd H1 s1.heap.objs.size (.tup xs),I1.laid (t':=s1.toks) (fun b u e=>Heap.get?_push_of_some _ e) (Nat.le_refl _) ?_,rfl,q _ hf⟩;exact⟨z,us,r,⟨_,Heap.get?_push_size _ rfl,rfl,_,rfl⟩⟩
theorem jR(h:PA X es t):PE X (.List es pos) (tLst t):=by
 intro pins s σ H Q I hq;refine wpAny_List_spliced (thn (h pos pins s σ H _ I hq) fun us s1 ⟨xs,H1,I1,r,z,q⟩=>⟨by rw[<-r.length];exact z,?_⟩);have hf:H1 s1.heap.objs.size=none:=I1.hok.fresh (Nat.le_refl _);refine⟨.ref s1.heap.objs.size,upd H1 s1.heap.objs.size (.lst xs),I1.laid (t':=s1.toks) (fun b u e=>Heap.get?_push_of_some _ e) (Nat.le_refl _) ?_,rfl,q _ hf⟩;exact⟨z,us,0,r,Heap.get?_push_size _ rfl⟩
end
noncomputable abbrev Sp:=List V->Hp->VK->XK->Prop
noncomputable abbrev CXT:=List Env->Hp->Shared->XK->Value->Shared->Prop
structure Env0(P:Program)(w:World)(K:Frg)(mg:Str->Option Value)(base:Heap)(A:Around)(outer:List Env)(s:Shared)(H:Hp):Prop where
 frames:A.frames=some outer
 mod:Mod K mg base
 bs:∀b o,base.get? b=some o->s.heap.get? b=some o/\H b=none
 bsz:base.objs.size<=s.heap.objs.size
 funs:s.heap.FunFrames base outer
 frf:∀b∈frs outer,H b=none
 hok:HOk P w H s.heap
 bare:AllBare s.gens
def CE(outer:List Env)(P:Program)(w:World)(H:Hp)(s:Shared)(Q:VK)(u:Value)(s':Shared):Prop:=
 ∃v H',s'.os=s.os/\AllBare s'.gens/\Un (frs outer) [] H H' s.heap s'.heap/\HOk P w H' s'.heap/\RelV v u/\Q v H'
def CR(CX:CXT)(outer:List Env)(P:Program)(w:World)(H:Hp)(s:Shared)(Q:VK)(E:XK)(r:Result)(s':Shared):Prop:=
 match r with
 | .ok (.ret u)=>CE outer P w H s Q u s'
 | .ok _=>False
 | .error e=>CX outer H s E e s'
structure FnOk(P:Program)(w:World)(K:Frg)(mg:Str->Option Value)(base:Heap)(CX:CXT)(k:Nat)(f:Addr)(fd:FuncData)(ps:List Str)(sp:Sp):Prop where
 len:∀vs H Q E,sp vs H Q E->vs.length=ps.length
 run:∀(A:Around) (outer:List Env) (s:Shared) (H:Hp) (args:Args) (us:List Value) (vs:List V) (Q:VK) (E:XK),Room k A->Env0 P w K mg base A outer s H->BindsTo s fd args (ps.zip us)->Vals vs us->sp vs H Q E->
  codeAny (model P w) A (.call (.ref f) args) (CR CX outer P w H s Q E) s
theorem FnOk.mono{P:Program}{w:World}{K:Frg}{mg:Str->Option Value}{base:Heap}{CX:CXT}{j k:Nat}{f:Addr}{fd:FuncData}{ps:List Str}{sp:Sp}(F:FnOk P w K mg base CX j f fd ps sp)(h:j<=k) :
  FnOk P w K mg base CX k f fd ps sp:=⟨F.len,fun A outer s H args us vs Q E hr=>F.run A outer s H args us vs Q E (hr.mono h)⟩
theorem Env0.make{P:Program}{w:World}{K:Frg}{mg:Str->Option Value}{base:Heap}{A:Around}{outer:List Env}{s:Shared}{H:Hp}(e:Env0 P w K mg base A outer s H)(C:Addr)(us:List Value)(kw:List (Str×Value)) :
  Env0 P w K mg base (A.under (.builtin "type.__call__" ⟨.ref C::us,kw⟩)) outer s H:=⟨by first | exact e.frames | (simpa [Around.under,Code.envs,Code.isFrame,pushEnvs]using e.frames),e.mod,e.bs,e.bsz,e.funs,e.frf,e.hok,e.bare⟩
section
variable{X:Cx}{pins:List (Addr×Obj)}{σ:St}{H:Hp}{s s':Shared}
theorem Inv.env0(I:Inv X pins σ H s):Env0 X.prog X.w X.K X.mg X.base X.A X.stack s H:=
 ⟨I.ok.frames,I.ok.mod,I.bs,Nat.le_trans I.ok.bsz I.sz,I.stack,I.stkFree,I.hok,I.bare⟩
theorem Inv.after{Q:VK}{u:Value}(I:Inv X pins σ H s)(h:CE X.stack X.prog X.w H s Q u s'):EP X pins σ Q u s':=by
 obtain⟨v,H',os,bare,un,hok,r,q⟩:=h;obtain⟨hh,g,d,t,os'⟩:=s';obtain rfl:os'=s.os:=os;exact⟨v,H',I.call (h':=hh) (g':=g) (d':=d) (t':=t) (ch:=[]) un hok bare (fun b z=>absurd z (by simp)),r,q⟩
end
def tCall(sp:Sp)(dvs:List V)(E:XK)(t:TA):TE:=fun σ H Q=>t σ H fun vs H1=>sp (vs++dvs) H1 Q E
def tMeth(C:Addr)(m:Str)(sp:Sp)(dvs:List V)(E:XK)(ta:TE)(t:TA):TE:=fun σ H Q=>ta σ H fun x H1=>∃a dx fs,x = .ref a/\H1 a=some (.ins C dx fs)/\fs.lookup m=none/\
 t σ H1 fun vs H2=>sp (x::(vs++dvs)) H2 Q E
def tMake(C:Addr)(sp:Sp)(dvs:List V)(E:XK)(t:TA):TE:=fun σ H Q=>t σ H fun vs H1=>∀x dx,H1 x=none->H1 dx=none->dx≠x->
 sp (.ref x::(vs++dvs)) (upd (upd H1 dx (.own x)) x (.ins C dx [])) (fun v H2=>v = .non/\Q (.ref x) H2) E
def Binds(K:Frg)(fd:FuncData)(ps:List Str)(ds:List Value):Prop:=
 ∀(s:Shared) (us:List Value),K.In s.heap->(us++ds).length=ps.length->BindsTo s fd ⟨us,[]⟩ (ps.zip (us++ds))
theorem Binds.all{K:Frg}{fd:FuncData}{ps:List Str}(h:∀us:List Value,us.length=ps.length->bindArgs fd ⟨us,[]⟩=pure (ps.zip us)):Binds K fd ps []:=fun s us _ hl=>by
 rw[append_nil]at hl|-;exact .of_eq (h us hl)
def Passes(CX:CXT)(X:Cx)(E:XK):Prop:=∀(pins:List (Addr×Obj)) (σ:St) (H:Hp) (s:Shared) (e:Value) (s':Shared),Inv X pins σ H s->CX X.stack H s E e s'->X.xe e s'
section
variable{X:Cx}{CX:CXT}{k:Nat}{f C:Addr}{fd:FuncData}{ps:List Str}{sp:Sp}{dvs:List V}{ds:List Value}{E:XK}{x m:Str}{p pos apos:Pos}{e o:Expr}{es:List Expr}{ta:TE}{t:TA}
theorem j2k{pins:List (Addr×Obj)}{σ:St}{H:Hp}{s:Shared}{Q:VK}{us:List Value}{vs:List V}(F:FnOk X.prog X.w X.K X.mg X.base CX k f fd ps sp)(hr:Room k X.A)(hb:Binds X.K fd ps ds)(hd:Vals dvs ds)(hx:Passes CX X E)
  (I:Inv X pins σ H s) (r:Vals vs us) (h:sp (vs++dvs) H Q E):wpAny (model X.prog X.w) X.A (call (.ref f) us) (EP X pins σ Q) X.xe s:=by
 have r2:Vals (vs++dvs) (us++ds):=r.append hd;have hl:(us++ds).length=ps.length:=by rw[<-r2.length];exact F.len _ _ _ _ h
 refine wpAny_call (codeAny_mono (F.run X.A X.stack s H ⟨us,[]⟩ (us++ds) (vs++dvs) Q E hr I.env0 (hb s us I.kIn hl) r2 h) fun r s' hq=>?_);cases r with
 | error e=>exact hx pins σ H s e s' I hq
 | ok fl=>
  cases fl with
  | ret u=>exact I.after hq
  | next=>exact False.elim hq
  | brk=>exact False.elim hq
  | cont=>exact False.elim hq
theorem jt(F:FnOk X.prog X.w X.K X.mg X.base CX k f fd ps sp)(hr:Room k X.A)(hg:Gl X x)(hm:X.mg x=some (.ref f))(hk:PySem.W.keepIn X.K (.ref f)=true)(hb:Binds X.K fd ps ds)(hd:Vals dvs ds)(hx:Passes CX X E)
  (ha:PA X (e::es) t) (hdb:(x==("__debug__" : Str))=false:=by decide) (he:starEach (e::es) X.env=(false,eval e X.env)::starEach es X.env:=by rfl) (hpl:(backTo pos (starEach es X.env)).any (·.1)=false:=by rfl) :
  PE X (.Call (.Name x p) (e::es) [] pos) (tCall sp dvs E t):=by
 intro pins s σ H Q I h;refine wpAny_Call_Name_kw (wX I hg hm ?_ hdb);refine PySem.W.callWith_K (h₀:=X.base) I.ok.mod.kin hk (thn (ha pos pins s σ H _ I h) fun us s1 ⟨vs,H1,I1,r,q⟩=>⟨I1.kIn,?_⟩) he hpl;exact j2k F hr hb hd hx I1 r q
theorem Wx{pl:Sem Bool}(he:PE X o ta)(c:Cls X.K C)(hm:Meth X.K C m f)(F:FnOk X.prog X.w X.K X.mg X.base CX k f fd ps sp)(hr:Room k X.A)(hb:Binds X.K fd ps ds)(hd:Vals dvs ds)(hx:Passes CX X E)(ha:PA X (e::es) t)
  (hst:starEach (e::es) X.env=(false,eval e X.env)::starEach es X.env:=by rfl) (hpl:(backTo pos (starEach es X.env)).any (·.1)=false:=by rfl)
  (ht:eval (.Call (.Attribute o m apos) (e::es) [] pos) X.env=(do
   let ov <-eval o X.env
   standAt apos.atName
   let (f,first) <-holding [ov] (getMethod ov m pl)
   callWith pos f first (backTo pos (starEach (e::es) X.env)) (backToKw pos (keywordEach [] X.env))):=by rfl) :
  PE X (.Call (.Attribute o m apos) (e::es) [] pos) (tMeth C m sp dvs E ta t):=by
 intro pins s σ H Q I h;refine PySem.W.methodCall_KW (pl:=pl) (thn (he pins s σ H _ I h) fun u s1 ⟨x,H1,I1,rx,a,dx,fs,ex,ea,l,q⟩=>?_) ht;subst ex;obtain rfl:u=Value.ref a:=rx;refine Xk I1 ea c hm l ?_;refine PySem.W.callWith_K (first:=[.ref a]) (h₀:=X.base) I.ok.mod.kin hm.kp (thn (ha pos pins s1 σ H1 _ I1 q) fun us s2 ⟨vs,H2,I2,r,q2⟩=>⟨I2.kIn,?_⟩) hst hpl;exact j2k (us:=.ref a::us) (vs:=.ref a::vs) F hr hb hd hx I2 (.cons rfl r) q2
structure Mk(K:Frg)(C f:Addr):Prop where
 makes:PySem.W.makesIn K C=true
 init:PySem.W.findIn K (.ref C) "__init__"= some (some (.ref f))
 fn:PySem.W.isFn K (.ref f)=true
 kp:PySem.W.keepIn K (.ref C)=true
theorem j2l{pins:List (Addr×Obj)}{σ:St}{H:Hp}{s:Shared}{Q:VK}{us:List Value}{vs:List V}(M:Mk X.K C f)(F:FnOk X.prog X.w X.K X.mg X.base CX k f fd ps sp)(hr:Room (k+1) X.A)(hb:Binds X.K fd ps ds)(hd:Vals dvs ds)
  (hx:Passes CX X E) (I:Inv X pins σ H s) (r:Vals vs us)
  (h:∀x dx,H x=none->H dx=none->dx≠x->sp (.ref x::(vs++dvs)) (upd (upd H dx (.own x)) x (.ins C dx [])) (fun v H2=>v = .non/\Q (.ref x) H2) E) :
  wpAny (model X.prog X.w) X.A (call (.ref C) us) (EP X pins σ Q) X.xe s:=by
 have hq:=h (s.heap.objs.size+1) s.heap.objs.size (I.hok.fresh (Nat.le_succ _)) (I.hok.fresh (Nat.le_refl _)) (Nat.ne_of_lt (Nat.lt_succ_self _));have I2:=Inv.made (C:=C) I;have r2:Vals (V.ref (s.heap.objs.size+1)::(vs++dvs)) (Value.ref (s.heap.objs.size+1)::(us++ds)):=.cons rfl (r.append hd);have hl:(Value.ref (s.heap.objs.size+1)::us++ds).length=ps.length:=by
  have e:=r2.length;rw[F.len _ _ _ _ hq]at e;exact e.symm
 refine wpAny_call (j1K (f:=f) I.kIn M.makes M.init (beq_iff_eq.mp M.fn) (codeAny_mono (F.run _ X.stack _ _ ⟨Value.ref (s.heap.objs.size+1)::us,[]⟩ (Value.ref (s.heap.objs.size+1)::(us++ds)) _ _ E (hr.make C us [])
  (I2.env0.make C us []) (hb _ (Value.ref (s.heap.objs.size+1)::us) I2.kIn hl) r2 hq) fun r s' hq'=>?_))
 cases r with
 | error e=>exact hx pins σ _ _ e s' I2 hq'
 | ok fl=>
  cases fl with
  | ret u=>
   obtain⟨v,H',I3,rv,ev,q3⟩:=I2.after hq';subst ev;exact⟨rv,⟨V.ref (s.heap.objs.size+1),H',I3,rfl,q3⟩⟩
  | next=>exact False.elim hq'
  | brk=>exact False.elim hq'
  | cont=>exact False.elim hq'
theorem j08(M:Mk X.K C f)(F:FnOk X.prog X.w X.K X.mg X.base CX k f fd ps sp)(hr:Room (k+1) X.A)(hg:Gl X x)(hm:X.mg x=some (.ref C))(hb:Binds X.K fd ps ds)(hd:Vals dvs ds)(hx:Passes CX X E)
  (ha:PA X (e::es) t) (hdb:(x==("__debug__" : Str))=false:=by decide) (he:starEach (e::es) X.env=(false,eval e X.env)::starEach es X.env:=by rfl) (hpl:(backTo pos (starEach es X.env)).any (·.1)=false:=by rfl) :
  PE X (.Call (.Name x p) (e::es) [] pos) (tMake C sp dvs E t):=by
 intro pins s σ H Q I h;refine wpAny_Call_Name_kw (wX I hg hm ?_ hdb);refine PySem.W.callWith_K (h₀:=X.base) I.ok.mod.kin M.kp (thn (ha pos pins s σ H _ I h) fun us s1 ⟨vs,H1,I1,r,q⟩=>⟨I1.kIn,?_⟩) he hpl;exact j2l M F hr hb hd hx I1 r q
end
section
variable{X:Cx}{CX:CXT}{k:Nat}{f C:Addr}{fd:FuncData}{ps ks:List Str}{sp:Sp}{E:XK}{x m:Str}{p pos apos kpos:Pos}{e o:Expr}{es:List Expr}{kws:List Keyword}{te ta:TE}{t tk:TA}{nm:Option Str}
variable{g:List Value->List Value->List Value}{gV:List V->List V->List V}
end
structure FnScope(N P:List Str)(sc:Scope):Prop where
 kind:sc.kind = .function
 co:sc.isCoroutine=false
 gen:sc.isGenerator=false
 nd:N.Nodup
 pre:N.take P.length=P
 par:∀x∈P,sc.names.lookup x=some .local\/sc.names.lookup x=some .cell
 nofree:∀y∈sc.names,y.2≠.free
theorem KN{kindOf:Str->Option NameKind}{x:Str}:∀{binds:List (Str×Value)} {m:Str->Option Value},(∀v,(x,v)∉binds)->bindL kindOf binds m x=m x
 | [],_,_=>rfl
 | (n,v)::r,m,h=>by
  unfold bindL;rw[KN fun w hw=>h w (mem_cons_of_mem _ hw)];split
  ·have:x≠n:=by rintro rfl;exact h v mem_cons_self
   simp[this]
  ·rfl
theorem KL{kindOf:Str->Option NameKind}{x:Str}:∀{binds:List (Str×Value)} {m:Str->Option Value},(∀v,(x,v)∉binds)->bindC kindOf binds m x=m x
 | [],_,_=>rfl
 | (n,v)::r,m,h=>by
  unfold bindC;rw[KL fun w hw=>h w (mem_cons_of_mem _ hw)];split
  ·rfl
  ·have:x≠n:=by rintro rfl;exact h v mem_cons_self
   simp[this]
theorem KM{kindOf:Str->Option NameKind}{x:Str}{v:Value}:∀{P:List Str} {vs:List Value} {i:Nat} {m:Str->Option Value},P.Nodup->P[i]?=some x->vs[i]?=some v->kindOf x=some .local->
  bindL kindOf (P.zip vs) m x=some v
 | [],_,_,_,_,h,_,_=>by simp at h
 | _::_,[],_,_,_,_,h,_=>by simp at h
 | p::P,w::vs,0,m,nd,h1,h2,hk=>by
  simp at h1 h2;subst h1;subst h2;show bindL kindOf ((p,w)::P.zip vs) m p=_;unfold bindL;rw[KN fun v hv=>(nodup_cons.mp nd).1 (of_mem_zip hv).1,if_pos hk];simp
 | p::P,w::vs,i+1,m,nd,h1,h2,hk=>by
  show bindL kindOf ((p,w)::P.zip vs) m x=_;unfold bindL;exact KM (i:=i) (nodup_cons.mp nd).2 (by simpa using h1) (by simpa using h2) hk
theorem KK{kindOf:Str->Option NameKind}{x:Str}{v:Value}:∀{P:List Str} {vs:List Value} {i:Nat} {m:Str->Option Value},P.Nodup->P[i]?=some x->vs[i]?=some v->kindOf x≠some .local->
  bindC kindOf (P.zip vs) m x=some v
 | [],_,_,_,_,h,_,_=>by simp at h
 | _::_,[],_,_,_,_,h,_=>by simp at h
 | p::P,w::vs,0,m,nd,h1,h2,hk=>by
  simp at h1 h2;subst h1;subst h2;show bindC kindOf ((p,w)::P.zip vs) m p=_;unfold bindC;rw[KL fun v hv=>(nodup_cons.mp nd).1 (of_mem_zip hv).1,if_neg hk];simp
 | p::P,w::vs,i+1,m,nd,h1,h2,hk=>by
  show bindC kindOf ((p,w)::P.zip vs) m x=_;unfold bindC;exact KK (i:=i) (nodup_cons.mp nd).2 (by simpa using h1) (by simpa using h2) hk
noncomputable def start(N:List Str)(vs:List V):St:=vs.map some++List.replicate (N.length-vs.length) none
noncomputable def cxOf(CX:CXT)(P:Program)(w:World)(K:Frg)(mg:Str->Option Value)(base:Heap)(N:List Str)(qual:Str)(scope:Scope)(f:Addr)(cd:Value)(A:Around)(outer:List Env)(s:Shared)(H:Hp)(E:XK):Cx where
 prog:=P
 w:=w
 K:=K
 mg:=mg
 base:=base
 A:=A.deeper (envOfC qual scope s.heap.objs.size f cd)
 N:=N
 s₀:=s
 H₀:=H
 env:=envOfC qual scope s.heap.objs.size f cd
 outer:=outer
 stack:=envOfC qual scope s.heap.objs.size f cd::outer
 ex:=[]
 calm:=true
 fn:=fun _=>true
 pn:=[]
 xe:=fun e s'=>wpAny (model P w) (A.deeper (envOfC qual scope s.heap.objs.size f cd)) (leaving (envOfC qual scope s.heap.objs.size f cd) e) (fun _ s''=>CX outer H s E e s'') (fun e' s''=>CX outer H s E e' s'') s'
theorem W0{sc:Scope}{n:Nat}{x:Str}(h:sc.names.lookup x=some .cell):∃c,(cellsFrom n sc.names []).lookup x=some c:=by
 have q:=PySem.W.cellsFrom_some sc.names n [] (.inl h);exact Option.isSome_iff_exists.mp q
theorem j0z{CX:CXT}{P:Program}{w:World}{K:Frg}{mg:Str->Option Value}{base:Heap}{N ps:List Str}{qual:Str}{scope:Scope}{f:Addr}{cd:Value}{A:Around}{outer:List Env}{s s1:Shared}{H:Hp}{E:XK}{us:List Value}{vs:List V}
  (S:FnScope N ps scope) (hd:A.handled=none) (e0:Env0 P w K mg base A outer s H) (hl:vs.length=ps.length) (r:Vals vs us)
  (x:InCallC s s.heap.objs.size (bindL (envOfC qual scope s.heap.objs.size f cd).kindOf (ps.zip us) fun _=>none) (cellsFrom (s.heap.objs.size+1) scope.names []) (bindC (envOfC qual scope s.heap.objs.size f cd).kindOf (ps.zip us) fun _=>none) s1) :
  Inv (cxOf CX P w K mg base N qual scope f cd A outer s H E) [] (start N vs) H s1:=by
 have hpl:ps.length<=N.length:=by have:=congrArg List.length S.pre;rw[length_take]at this;omega
 obtain⟨h1,tk,rfl,hk⟩:=x.done;have noA:∀b:Addr,b∉(cxOf CX P w K mg base N qual scope f cd A outer s H E).ex:=fun b z=>absurd (show b∈([]:List Addr)from z) (by simp)
 refine⟨⟨e0.mod,S.kind,rfl,rfl,Nat.le_refl _,fun y z c h1 h2=>?_,fun y hy=>?_,fun y c _ h=>?_,fun _=>hd,Around.frames_deeper e0.frames,.inr ⟨rfl,rfl⟩,fun b z=>absurd z (noA b),e0.bs,e0.bsz,fun b _ _=>noA b,fun b z=>absurd z (noA b),e0.funs,e0.frf⟩,
  rfl,e0.bare,Un.kept hk,⟨_,x.toInCall.ns,fun i y v h1 h2 h3=>?_⟩,fun y c h=>⟨_,x.cell y c h⟩,e0.hok.fresh (Nat.le_refl _),fun y c h=>?_,fun p hp=>absurd (show p∈([]:List (Addr×Obj))from hp) (by simp),e0.hok.kept hk,?_⟩
 ·exact name_of_addr x.apart (PySem.mem_of_lookup h1) (PySem.mem_of_lookup h2)
 ·have hy:scope.names.lookup y=some .cell\/scope.names.lookup y=some .free:=hy;rcases hy with hy | hy
  ·exact W0 hy
  ·exact absurd rfl (S.nofree _ (PySem.mem_of_lookup hy))
 ·exact Nat.le_of_lt (x.above y c (PySem.mem_of_lookup h))
 ·have hi:i<vs.length:=by
   unfold start at h2;by_cases hi:i<vs.length
   ·exact hi
   ·rw[List.getElem?_append_right (by simpa using hi)]at h2;rw[List.getElem?_replicate]at h2;split at h2<;>cases h2
  have ha:vs[i]?=some v:=by
   unfold start at h2;rw[List.getElem?_append_left (by simpa using hi),List.getElem?_map]at h2;cases e:vs[i]? with
   | none=>rw[e]at h2;cases h2
   | some a=>rw[e]at h2;cases h2;rfl
  obtain⟨u,hu,rv⟩:=r.get ha;have hp:ps[i]?=some y:=by
   rw[<-S.pre,List.getElem?_take_of_lt (by omega)];exact h1
  have ndP:ps.Nodup:=by rw[<-S.pre];exact S.nd.sublist (List.take_sublist _ _)
  refine⟨u,rv,?_⟩;rcases S.par y (List.mem_of_getElem? hp)with k | k
  ·exact .inl ⟨k,KM ndP hp hu k⟩
  ·obtain⟨c,e⟩:=W0 (n:=s.heap.objs.size+1) k;refine .inr ⟨.inl k,c,e,?_⟩;have q:=x.cell y c e;rw[KK ndP hp hu (by show scope.names.lookup y≠_;rw[k];decide)]at q;exact q
 ·exact e0.hok.fresh (Nat.le_of_lt (x.above y c (PySem.mem_of_lookup h)))
 ·unfold start;show _=N.length;rw[List.length_append,length_map,length_replicate];omega
theorem j4U{CX:CXT}{P:Program}{w:World}{K:Frg}{mg:Str->Option Value}{base:Heap}{k:Nat}{f:Addr}{name qual:Str}{params:Arguments}{body:List Stmt}{scope:Scope}{dV kV doc pm cdv ct oc:Value}{an od:Option Addr}
  {osl:Array (Option Value)} {N ps:List Str} {sp:Sp} (lk:K.lookup f=some ⟨oc,od,.func (PySem.W.fnOf name qual params body scope dV kV doc pm an cdv ct),osl⟩) (hcd:PySem.W.codeIn K cdv qual=true) (S:FnScope N ps scope)
  (len:∀vs H Q E,sp vs H Q E->vs.length=ps.length)
  (hbody:∀(A:Around) (outer:List Env) (s:Shared) (H:Hp) (vs:List V) (Q:VK) (E:XK),Room k (A.deeper (envOfC qual scope s.heap.objs.size f cdv))->sp vs H Q E->
   ∃t,PSs (cxOf CX P w K mg base N qual scope f cdv A outer s H E) body t/\t {nx:=fun _ H'=>Q .non H',rt:=Q} (start N vs) H) :
  FnOk P w K mg base CX (k+1) f (PySem.W.fnOf name qual params body scope dV kV doc pm an cdv ct) ps sp:=by
 refine⟨len,fun A outer s H args us vs Q E hr e0 hb r hsp=>?_⟩;have hl:=len _ _ _ _ hsp;have KX:K.In s.heap:=e0.mod.kin.keeps fun b o e=>(e0.bs b o e).1
 have lim:s.heap.NoLimit:=e0.mod.nolimit.keeps fun b o e=>(e0.bs b o e).1
 have hkind:∀y∈ps.zip us,scope.names.lookup y.1=some .local\/(scope.names.lookup y.1=some .cell/\((cellsFrom (s.heap.objs.size+1) scope.names []).lookup y.1).isSome=true):=fun⟨n,v⟩ hy=>by
  rcases S.par n (of_mem_zip hy).1 with q | q
  ·exact .inl q
  ·exact .inr ⟨q,PySem.W.cellsFrom_some _ _ _ (.inl q)⟩
 refine codeAny_call_function hr.depth (KX _ _ lk) rfl S.co S.gen rfl (PySem.W.codeRec_of KX hcd) (hb _ _ _ _ ?_);refine wpAny_newFunctionEnv_cells S.kind hkind fun env he s1 x=>?_
 subst he;refine⟨lim.keeps x.toInCall.keep,codeAny_func ?_⟩;obtain⟨t,ht,hq⟩:=hbody A outer s H vs Q E (hr.deeper _) hsp;have I:Inv (cxOf CX P w K mg base N qual scope f cdv A outer s H E) [] (start N vs) H s1:=j0z S hr.hd e0 hl r x;refine wpAny_mono (ht [] s1 (start N vs) H _ I hq) (fun fl s' hs=>?_) fun e s' hs=>hs
 have fin:∀{σ':St} {H':Hp} {v:V} {u:Value},Inv (cxOf CX P w K mg base N qual scope f cdv A outer s H E) [] σ' H' s'->RelV v u->Q v H'->CE outer P w H s Q u s':=
  fun {σ' H' v u} J rv q=>⟨v,H',J.os,J.bare,J.base,J.hok,rv,q⟩
 cases fl with
 | ret u=>
  obtain⟨v,σ',H',J,rv,q⟩:=hs;exact fin J rv q
 | next=>
  obtain⟨σ',H',J,q⟩:=hs;exact fin (v:=V.non) (u:=Value.none) J rfl q
 | brk=>
  obtain⟨_,_,_,q⟩:=hs;exact False.elim q
 | cont=>
  obtain⟨_,_,_,q⟩:=hs;exact False.elim q
section
variable{X:Cx}{x:Str}{p pos:Pos}{e:Expr}{es:List Expr}{t:TA}{id T:String}{r:List V->Hp->VK->Prop}
def tCB(r:List V->Hp->VK->Prop)(t:TA):TE:=fun σ H Q=>t σ H fun vs H1=>r vs H1 Q
theorem jH(hc:CallR X (.builtin id) r)(hg:Gl X x)(hm:X.mg x=none)(hv:bootBuiltins x=some (.builtin id))(ha:PA X (e::es) t)(hn:x≠"__name__":=by decide)(hdb:(x==("__debug__" : Str))=false:=by decide)
  (he:starEach (e::es) X.env=(false,eval e X.env)::starEach es X.env:=by rfl) (hpl:(backTo pos (starEach es X.env)).any (·.1)=false:=by rfl):PE X (.Call (.Name x p) (e::es) [] pos) (tCB r t):=by
 intro pins s σ H Q I h;refine wpAny_Call_Name_kw (yz I hg hm hv ?_ hn hdb);exact PyProof.Rows.callWith_builtin1 (thn (ha pos pins s σ H _ I h) fun us s1 ⟨vs,H1,I1,r1,q1⟩=>hc pins s1 σ H1 vs us Q I1 r1 q1) he hpl
theorem Qc(hc:CallR X (.type T) r)(hg:Gl X x)(hm:X.mg x=none)(hv:bootBuiltins x=some (.type T))(ha:PA X (e::es) t)(hn:x≠"__name__":=by decide)(hdb:(x==("__debug__" : Str))=false:=by decide)
  (he:starEach (e::es) X.env=(false,eval e X.env)::starEach es X.env:=by rfl) (hpl:(backTo pos (starEach es X.env)).any (·.1)=false:=by rfl):PE X (.Call (.Name x p) (e::es) [] pos) (tCB r t):=by
 intro pins s σ H Q I h;refine wpAny_Call_Name_kw (yz I hg hm hv ?_ hn hdb);exact PyProof.Rows.callWith_type1 (thn (ha pos pins s σ H _ I h) fun us s1 ⟨vs,H1,I1,r1,q1⟩=>hc pins s1 σ H1 vs us Q I1 r1 q1) he hpl
end
end L2
namespace HT
open PySem PyProof.Rows
section
open PySem.SeqAt
open PySem.AutoSeq1 (wpAny_loadPart')
open PySem.MeetsSeq PySem.MeetsSeq2 PySem.MeetsSeq3
end
section
variable{prog:Program}{w:World}{A:Around}{E:Value->Shared->Prop}{s:Shared}
noncomputable def sIx(n d:Nat):Option Int->Nat
 | none=>d
 | some v=>if v<0 then(v+(n:Int)).toNat else min v.toNat n
theorem j2m(n d:Nat):sIx n d none=d:=rfl
theorem j3G(n d k:Nat):sIx n d (some (k:Int))=min k n:=by
 show(if(k:Int)<0 then((k:Int)+(n:Int)).toNat else min (k:Int).toNat n)=min k n;rw[if_neg (by omega),Int.toNat_natCast]
theorem j4G(n d:Nat)(hd:d<=n)(o:Option Int):sIx n d o<=n:=by
 cases o with
 | none=>exact hd
 | some v=>
  show(if v<0 then(v+(n:Int)).toNat else min v.toNat n)<=n;by_cases hv:v<0
  ·rw[if_pos hv];omega
  ·rw[if_neg hv];exact Nat.min_le_right _ _
theorem wP(v:Int)(n d:Nat):(if v<0 then max (v+(n:Int)) 0 else min v (n:Int))=((sIx n d (some v):Nat):Int):=by
 show(if v<0 then max (v+(n:Int)) 0 else min v (n:Int))=(((if v<0 then(v+(n:Int)).toNat else min v.toNat n):Nat):Int)
 by_cases hv:v<0
 ·simp only[if_pos hv];omega
 ·simp only[if_neg hv];omega
theorem xW(lo hi:Option Int)(n:Nat):Builtin.Slice.sliceAdjust lo hi 1 (n:Int)=(((sIx n 0 lo:Nat):Int),((sIx n n hi:Nat):Int)):=by
 have h1:¬((1:Int)<0):=by omega
 unfold Builtin.Slice.sliceAdjust;simp only[h1,if_false];refine Prod.ext ?_ ?_
 ·cases lo with
  | none=>rfl
  | some v=>exact wP v n 0
 ·cases hi with
  | none=>rfl
  | some v=>exact wP v n n
theorem XB(i j:Nat):Builtin.Slice.slicePlaces (i:Int) (j:Int) 1=j-i:=by
 unfold Builtin.Slice.slicePlaces;have h1:(1:Int)>0:=by omega
 simp only[h1,if_true,Int.ediv_one];split<;>omega
theorem slicePart_{v:Value}{o:Option Int}{Q:Option Int->Shared->Prop}(p:IsPart v o)(h:Q o s):wpAny (model prog w) A (Builtin.Slice.slicePartIndex v) Q E s:=by
 cases p with
 | none=>exact slicePart_none h
 | int i t=>exact slicePart_int h
theorem YJ{sl:Addr}{vl vu:Value}{lo hi:Option Int}{n:Nat}{Q:Int×Int×Nat->Shared->Prop}(hs:s.heap.IsSliceOf sl vl vu .none)(pl:IsPart vl lo)(pu:IsPart vu hi)
  (h:Q (((sIx n 0 lo:Nat):Int),1,sIx n n hi-sIx n 0 lo) s):wpAny (model prog w) A (Builtin.Slice.sliceApplied (.ref sl) (pure (n:Int))) Q E s:=by
 obtain⟨os,hos,hcs,hds⟩:=id hs;unfold Builtin.Slice.sliceApplied Builtin.Slice.sliceFields;refine wpAny_bind (wpAny_bind (wpAny_field hos hds (x:=vl) rfl (wpAny_bind (wpAny_field hos hds (x:=vu) rfl (wpAny_bind (wpAny_field hos hds (x:=.none) rfl (wpAny_pure ?_)))))));refine wpAny_bind (slicePart_none ?_);show wpAny _ _ (if((1:Int)==0)=true then _ else _) _ _ s;rw[if_neg (by decide)];refine wpAny_bind (slicePart_ pl (wpAny_bind (slicePart_ pu (wpAny_bind (wpAny_pure ?_)))));show wpAny _ _ (match Builtin.Slice.sliceAdjust lo hi 1 (n:Int)with | (lo,hi)=>pure (lo,(1:Int),Builtin.Slice.slicePlaces lo hi 1)) _ _ s;rw[xW lo hi n];show wpAny _ _ (pure (((sIx n 0 lo:Nat):Int),(1:Int),Builtin.Slice.slicePlaces ((sIx n 0 lo:Nat):Int) ((sIx n n hi:Nat):Int) 1)) _ _ s;rw[XB];exact wpAny_pure h
theorem j24(xs:Array Value)(i k:Nat):((List.range k).filterMap fun(m:Nat)=>xs[((i:Int)+(m:Int)*1).toNat]?).toArray=((xs.toList.drop i).take k).toArray:=by
 have e:(fun(m:Nat)=>xs[((i:Int)+(m:Int)*1).toNat]?)=fun m=>xs[i+m]?:=by
  funext m;have:((i:Int)+(m:Int)*1).toNat=i+m:=by omega
  rw[this]
 rw[e];have:=pick_run xs i k;rw[List.filterMap_map]at this;have e2:((fun x=>xs[x]?)∘fun x=>i+x)=fun m=>xs[i+m]?:=rfl
 rw[e2]at this;rw[this]
theorem yU{t sl:Addr}{items:Array Value}{vl vu:Value}{lo hi:Option Int}{Q:Value->Shared->Prop}(ht:IsTup s.heap t items)(hs:s.heap.IsSliceOf sl vl vu .none)(pl:IsPart vl lo)(pu:IsPart vu hi)
  (hw:¬(sIx items.size 0 lo=0/\sIx items.size items.size hi=items.size))
  (h:Q (.ref s.heap.objs.size) {s with heap:=s.heap.push {cls:=.type "tuple",data:=.seq ((items.toList.drop (sIx items.size 0 lo)).take (sIx items.size items.size hi-sIx items.size 0 lo)).toArray}})
  (hsz:items.size<=sizeLine):wpAny (model prog w) A (getItem (.ref t) (.ref sl)) Q E s:=by
 have htake:sizeOk (.seq ((items.toList.drop (sIx items.size 0 lo)).take (sIx items.size items.size hi-sIx items.size 0 lo)).toArray):=by
  show((items.toList.drop (sIx items.size 0 lo)).take (sIx items.size items.size hi-sIx items.size 0 lo)).toArray.size<=sizeLine;rw[size_toArray,length_take,length_drop,Array.length_toList];omega
 have hj:sIx items.size items.size hi<=items.size:=j4G _ _ (Nat.le_refl _) hi;obtain⟨os,hos,hcs,hds⟩:=id hs;have hTs:s.TypeIs (.ref sl) "slice":=⟨os,hos,hcs⟩
 unfold getItem
 try with_reducible refine wpAny_holding ?_
 first | refine wpAny_bind (wpAny_pure ?_) | skip
 refine wpAny_bind (wpAny_sequenceKey ht.typeIs (by decide) ?_);refine wpAny_bind (wpAny_callSpecial?_slot (name:=Str.ofString "__getitem__") ht.typeIs PyProof.Rows.slot_tuple_getitem
  (wpAny_call_entry PyProof.Rows.slot_tuple_getitem ht.typeIs entry_tuple_getitem ?_ (args_tuple_getitem _ _)))
 show wpAny _ _ (Builtin.Tuple.tupleItemsOf (.ref t) >>= _) _ _ s;refine wpAny_bind (tupleItemsOf_ ht ?_);refine wpAny_bind (wpAny_typeOf hTs ?_);rw[if_pos (by decide)];refine wpAny_bind (YJ hs pl pu ?_);have hno:¬((((sIx items.size 0 lo:Nat):Int)==0&&(1:Int)==1&&(sIx items.size items.size hi-sIx items.size 0 lo)==items.size)=true):=by
  intro q;rw[Bool.and_eq_true,Bool.and_eq_true]at q;have q1:((sIx items.size 0 lo:Nat):Int)=0:=eq_of_beq q.1.1;have q2:sIx items.size items.size hi-sIx items.size 0 lo=items.size:=eq_of_beq q.2;exact hw ⟨by omega,by omega⟩
 show wpAny _ _ (if(((sIx items.size 0 lo:Nat):Int)==0&&(1:Int)==1&&(sIx items.size items.size hi-sIx items.size 0 lo)==items.size)=true then _ else _) _ _ s;rw[if_neg hno,j24]
 first
  | exact wpAny_bind (m:=Builtin.Tuple.tupleExact _) (wpAny_newObj_type (wpAny_pure ⟨_,rfl,wpAny_pure h⟩) htake)
  | exact wpAny_bind (m:=Builtin.Tuple.tupleExact _) (wpAny_newObj_type (wpAny_bind (wpAny_pure (wpAny_pure ⟨_,rfl,wpAny_pure h⟩))) htake)
  | exact wpAny_bind (wpAny_bind (m:=Builtin.Tuple.tupleExact _) (wpAny_newObj_type (wpAny_pure (wpAny_pure ⟨_,rfl,wpAny_pure h⟩)) htake))
  | exact wpAny_bind (wpAny_bind (m:=Builtin.Tuple.tupleExact _) (wpAny_newObj_type (wpAny_pure ⟨_,rfl,wpAny_pure h⟩) htake))
end
end HT
namespace L2
open PySem PySem.Spec PyProof.Rows
noncomputable abbrev TO:=St->Hp->(Option Int->Hp->Prop)->Prop
def PO(X:Cx)(e:Option Expr)(t:TO):Prop:=
 ∀(pins:List (Addr×Obj)) (s:Shared) (σ:St) (H:Hp) (Q:Option Int->Hp->Prop),Inv X pins σ H s->t σ H Q->
  wpAny (model X.prog X.w) X.A (evalPart e X.env) (fun u s'=>∃o H',Inv X pins σ H' s'/\IsPart u o/\Q o H') X.xe s
def tNoPart:TO:=fun _ H Q=>Q none H
def tPart(t:TE):TO:=fun σ H Q=>t σ H fun x H1=>∃i,x = .int i/\Q (some i) H1
theorem intsAre_of{ns:List Int}:∀{us:List Value},Vals (ns.map V.int) us->IntsAre us ns:=by
 induction ns with
 | nil=>intro us r;rw[map_nil]at r;cases r;exact .nil
 | cons n ns ih=>
  intro us r;rw[map_cons]at r;cases r with
  | cons r1 r2=>
   obtain⟨t,e⟩:=r1;subst e;exact .cons n t (ih r2)
section
variable{X:Cx}{e:Expr}{te:TE}{lo hi:Option Expr}{tl th:TO}{pos p2:Pos}
theorem Z8:PO X none tNoPart:=by
 intro pins s σ H Q I h;rw[evalPart_none];exact wpAny_pure ⟨none,H,I,.none,h⟩
theorem Zo(h:PE X e te):PO X (some e) (tPart te):=by
 intro pins s σ H Q I hw;rw[evalPart_some];refine thn (h pins s σ H _ I hw) fun u s1 ⟨x,H1,I1,r1,q1⟩=>?_
 obtain⟨i,rfl,q⟩:=q1;obtain⟨t,rfl⟩:=r1;exact⟨some i,H1,I1,.int i t,q⟩
def SlR(X:Cx)(r:V->Option Int->Option Int->Hp->VK->Prop):Prop:=
 ∀(pins:List (Addr×Obj)) (s:Shared) (σ:St) (H:Hp) (x:V) (v vl vu:Value) (lo hi:Option Int) (sl:Addr) (Q:VK),Inv X pins σ H s->RelV x v->s.heap.IsSliceOf sl vl vu .none->IsPart vl lo->IsPart vu hi->r x lo hi H Q->
  ∃T id,typeLookup (.type T) "__getitem__"= pure (some (.builtin id))/\s.TypeIs v T/\wpAny (model X.prog X.w) X.A (getItem v (.ref sl)) (EP X pins σ Q) X.xe s
def tSl(r:V->Option Int->Option Int->Hp->VK->Prop)(te:TE)(tl th:TO):TE:=fun σ H Q=>te σ H fun x H1=>tl σ H1 fun l H2=>th σ H2 fun u H3=>r x l u H3 Q
theorem zY{r:V->Option Int->Option Int->Hp->VK->Prop}(hr:SlR X r)(he:PE X e te)(hl:PO X lo tl)(hu:PO X hi th):PE X (.Subscript e (.Slice lo hi none p2) pos) (tSl r te tl th):=by
 intro pins s σ H Q I h;refine Subscript_ (thn (he pins s σ H _ I h) fun v s1 ⟨x,H1,I1,r1,q1⟩=>?_);refine wpAny_Slice (thn (hl pins s1 σ H1 _ I1 q1) fun vl s2 ⟨l,H2,I2,pl,q2⟩=>thn (hu pins s2 σ H2 _ I2 q2) fun vu s3 ⟨u,H3,I3,pu,q3⟩=>?_);rw[evalPart_none];refine wpAny_pure ?_;have I4:Inv X pins σ H3 {s3 with heap:=s3.heap.push {cls:=.type "slice",data:=.fields #[vl,vu,.none]}}:=I3.kept (t':=s3.toks) fun b ob q=>Heap.get?_push_of_some _ q
 obtain⟨T,id,hT,ht,hg⟩:=hr pins {s3 with heap:=s3.heap.push {cls:=.type "slice",data:=.fields #[vl,vu,.none]}} σ H3 x v vl vu l u s3.heap.objs.size Q I4 r1 (Heap.IsSliceOf.new ..) pl pu q3;show wpAny (model X.prog X.w) X.A (subscriptTail e (.Slice lo hi none p2) v (.ref s3.heap.objs.size)) (EP X pins σ Q) X.xe {s3 with heap:=s3.heap.push {cls:=.type "slice",data:=.fields #[vl,vu,.none]}};exact tail_any (ops:=[.ref s3.heap.objs.size,v]) ht hT hg (by with_unfolding_all rfl)
noncomputable def cutV(xs:List V)(lo hi:Option Int):List V:=(xs.drop (HT.sIx xs.length 0 lo)).take (HT.sIx xs.length xs.length hi-HT.sIx xs.length 0 lo)
theorem ZK(xs:List V)(lo hi:Option Int):(cutV xs lo hi).length<=xs.length:=by
 unfold cutV;rw[length_take,length_drop];omega
noncomputable def rSlT(K:Frg):V->Option Int->Option Int->Hp->VK->Prop:=fun x lo hi H Q=>∃a xs,x = .ref a/\SqT K H a xs/\
 ¬(HT.sIx xs.length 0 lo=0/\HT.sIx xs.length xs.length hi=xs.length)/\∀p,H p=none->Q (.ref p) (upd H p (.tup (cutV xs lo hi)))
theorem j4H:SlR X (rSlT X.K):=by
 intro pins s σ H x v vl vu lo hi sl Q I rx hs pl pu h;obtain⟨a,xs,rfl,hx,hw,q⟩:=h;cases rx;obtain⟨its,r,ht,hz⟩:=I.tuple hx;have hlen:its.toArray.size=xs.length:=by rw[size_toArray];exact r.length.symm
 refine⟨"tuple",_,PyProof.Rows.slot_tuple_getitem.lookup,ht.typeIs,?_⟩;refine HT.yU ht hs pl pu (by rw[hlen];exact hw) ?_ (by rw[hlen];exact hz);rw[hlen];refine⟨.ref s.heap.objs.size,_,I.laid (t':=s.toks) (o:=.tup (cutV xs lo hi)) (fun b ob q=>Heap.get?_push_of_some _ q) (Nat.le_refl _) ?_,rfl,q _ (I.hok.fresh (Nat.le_refl _))⟩;exact⟨Nat.le_trans (ZK xs lo hi) hz,_,(r.drop (HT.sIx xs.length 0 lo)).take (HT.sIx xs.length xs.length hi-HT.sIx xs.length 0 lo),IsTup.new _ _⟩
end
noncomputable def ixN(n:Nat)(i:Int):Option Nat:=if 0<=i then(if i<n then some i.toNat else none)else if -(n:Int)<=i then some (i+n).toNat else none
noncomputable def atI{α:Type}(xs:List α)(i:Int):Option α:=(ixN xs.length i).bind fun j=>xs[j]?
theorem X2{n:Nat}{i:Int}{j:Nat}(h:ixN n i=some j):seqIndex? i n=some j/\j<n/\-(n:Int)<=i/\i<n:=by
 unfold ixN at h;by_cases h0:0<=i
 ·rw[if_pos h0]at h;by_cases h1:i<n
  ·rw[if_pos h1]at h;have e:i.toNat=j:=Option.some.inj h;exact⟨by rw[seqIndex_of h0 h1,e],by omega,by omega,h1⟩
  ·rw[if_neg h1]at h;cases h
 ·rw[if_neg h0]at h;by_cases h1 : -(n:Int)<=i
  ·rw[if_pos h1]at h;have e:(i+n).toNat=j:=Option.some.inj h;exact⟨by rw[seqIndex_neg (by omega) h1,e],by omega,h1,by omega⟩
  ·rw[if_neg h1]at h;cases h
theorem wH{α:Type}{xs:List α}{i:Int}{v:α}(h:atI xs i=some v):∃j,seqIndex? i xs.length=some j/\xs[j]?=some v/\j<xs.length/\-(xs.length:Int)<=i/\i<xs.length:=by
 unfold atI at h;cases e:ixN xs.length i with
 | none=>rw[e]at h;cases h
 | some j=>
  rw[e]at h;obtain⟨h1,h2,h3,h4⟩:=X2 e;exact⟨j,h1,h,h2,h3,h4⟩
theorem jD{α:Type}{xs:List α}{j:Nat}{v:α}(h:xs[j]?=some v):atI xs (j:Int)=some v:=by
 have hj:j<xs.length:=(List.getElem?_eq_some_iff.mp h).1;have e:ixN xs.length (j:Int)=some j:=by
  unfold ixN;rw[if_pos (by omega),if_pos (by omega)];simp
 unfold atI;rw[e];exact h
theorem j1f{α:Type}(xs:List α)(v:α):atI (xs++[v]) (-1)=some v:=by
 have hl:(xs++[v]).length=xs.length+1:=by simp
 have e:ixN (xs++[v]).length (-1)=some xs.length:=by
  unfold ixN;rw[hl,if_neg (by decide),if_pos (by omega)];congr 1;omega
 unfold atI;rw[e];show(xs++[v])[xs.length]?=some v;simp
def PlainIx(b:Expr):Prop:=∀o i,subscripted b false o i=operate [o,i] (getItem o i)
def IxR(X:Cx)(r:R2):Prop:=
 ∀(value slice:Expr) (pins:List (Addr×Obj)) (s:Shared) (σ:St) (H:Hp) (x y:V) (v u:Value) (Q:VK),Inv X pins σ H s->RelV x v->RelV y u->r x y H Q->
  subscripted slice false v u=operate [v,u] (getItem v u)->wpAny (model X.prog X.w) X.A (subscriptTail value slice v u) (EP X pins σ Q) X.xe s
def MtR(X:Cx)(id:String)(r:V->List V->Hp->VK->Prop):Prop:=
 ∀(pins:List (Addr×Obj)) (s:Shared) (σ:St) (H:Hp) (x:V) (xs:List V) (v:Value) (us:List Value) (Q:VK),Inv X pins σ H s->RelV x v->Vals xs us->r x xs H Q->
  wpAny (model X.prog X.w) X.A (call (.builtin id) (v::us)) (EP X pins σ Q) X.xe s
section
variable{X:Cx}{a b:Expr}{ta tb:TE}{pos:Pos}
theorem jm{r:R2}(hr:IxR X r)(ha:PE X a ta)(hb:PE X b tb)(hs:PlainIx b:=by exact fun _ _=>rfl):PE X (.Subscript a b pos) (tOp r ta tb):=by
 intro pins s σ H Q I h;exact Subscript_ (binT ha hb I h fun v u s2 x y H2 I2 rx ry q=>hr a b pins s2 σ H2 x y v u Q I2 rx ry q (hs _ _))
def rIxL(K:Frg):R2:=fun x y H Q=>∃p xs i v,x = .ref p/\y = .int i/\SqL K H p xs/\atI xs i=some v/\Q v H
def rIxT(K:Frg):R2:=fun x y H Q=>∃p xs i v,x = .ref p/\y = .int i/\SqT K H p xs/\atI xs i=some v/\Q v H
def rIxS:R2:=fun x y H Q=>∃z i c,x = .str z/\y = .int i/\z.length<=sizeLine/\atI z.cps.toList i=some c/\Q (.str ⟨#[c]⟩) H
theorem jx:IxR X (rIxL X.K):=by
 intro value slice pins s σ H x y v u Q I rx ry h hs;obtain⟨p,xs,i,z,rfl,rfl,hq,he,q⟩:=h;cases rx;obtain⟨t,rfl⟩:=ry;obtain⟨its,r,pl,hz⟩:=I.list hq;obtain⟨j,h1,h2,h3,h4,h5⟩:=wH he;obtain⟨w,ew,rw'⟩:=r.get h2;have hl:=r.length;have hn:=line63;have fin:EP X pins σ Q w s:=⟨z,H,I,rw',q⟩
 by_cases h0:0<=i
 ·have hj:i.toNat=j:=by
   rw[seqIndex_of h0 h5]at h1;exact Option.some.inj h1
  exact item_listR pl.isList h0 (by omega) (by rw[hj];simpa using ew) fin hs
 ·have hj:(i+(its.toArray.size:Int)).toNat=j:=by
   rw[seqIndex_neg (by omega) h4]at h1;rw[size_toArray,<-hl];exact Option.some.inj h1
  exact subscriptTail_builtinR (x:=w) pl.isList.typeIs slot_list_getitem.lookup
   (wpAny_getItem_list_neg (Q:=fun r s'=>r=w/\EP X pins σ Q r s') pl.isList (by omega) (by rw[size_toArray]<;>omega) (by omega) (by rw[hj];simpa using ew) ⟨rfl,fin⟩) hs
theorem jv:IxR X (rIxT X.K):=by
 intro value slice pins s σ H x y v u Q I rx ry h hs;obtain⟨p,xs,i,z,rfl,rfl,hq,he,q⟩:=h;cases rx;obtain⟨t,rfl⟩:=ry;obtain⟨its,r,pl,hz⟩:=I.tuple hq;obtain⟨j,h1,h2,h3,h4,h5⟩:=wH he;obtain⟨w,ew,rw'⟩:=r.get h2;have hl:=r.length;have hn:=line63;have fin:EP X pins σ Q w s:=⟨z,H,I,rw',q⟩
 exact subscriptTail_builtinR (x:=w) pl.typeIs slot_tuple_getitem.lookup
  (getItem_tuple (j:=j) (Q:=fun r s'=>r=w/\EP X pins σ Q r s') pl (by omega) (by omega) (by rw[size_toArray,<-hl];exact h1) (by simpa using ew) ⟨rfl,fin⟩) hs
theorem j4g:IxR X rIxS:=by
 intro value slice pins s σ H x y v u Q I rx ry h hs;obtain⟨z,i,c,rfl,rfl,hz,he,q⟩:=h;obtain⟨t,rfl⟩:=rx;obtain⟨t',rfl⟩:=ry;obtain⟨j,h1,h2,h3,h4,h5⟩:=wH he;have hl:z.cps.toList.length=z.length:=by simp[Str.length]
 rw[hl]at h1 h4 h5;have hn:=line63;exact tail_any (typeIs_str s z t) slot_str_getitem.lookup (getItem_str (c:=c) (by
  have e1:decide (i < -(2^63:Int))=false:=decide_eq_false (by omega);have e2:decide (i>=2^63)=false:=decide_eq_false (by omega);rw[e1,e2,Bool.or_false]) (by rw[h1];simpa using h2) ⟨.str ⟨#[c]⟩,H,I.tok _,⟨_,rfl⟩,q⟩) hs
theorem Xu(its:List Value)(n j:Nat)(u:Value):Obj.mapSeq (·.setIfInBounds j u) {cls:=.type "list",data:=.seq its.toArray n}={cls:=.type "list",data:=.seq (its.set j u).toArray n}:=by
 simp[Obj.mapSeq]
theorem Inv.lst{pins:List (Addr×Obj)}{σ:St}{H:Hp}{s:Shared}{p:Addr}{xs:List V}(I:Inv X pins σ H s)(h:H p=some (.lst xs)) :
  ∃(its:List Value) (n:Nat),Vals xs its/\s.heap.get? p=some {cls:=.type "list",data:=.seq its.toArray n}/\xs.length<=sizeLine:=by
 obtain⟨z,its,n,r,e⟩:=I.hok p _ h;exact⟨its,n,r,e,z⟩
theorem Inv.lstUpd{pins:List (Addr×Obj)}{σ:St}{H:Hp}{s:Shared}{p:Addr}{xs ys:List V}{its its':List Value}{n n':Nat}{f:Obj->Obj}(I:Inv X pins σ H s)(h:H p=some (.lst xs))
  (ho:s.heap.get? p=some {cls:=.type "list",data:=.seq its.toArray n}) (hf:f {cls:=.type "list",data:=.seq its.toArray n}={cls:=.type "list",data:=.seq its'.toArray n'}) (r:Vals ys its') (hz:ys.length<=sizeLine) (t:Nat) :
  Inv X pins σ (upd H p (.lst ys)) {s with heap:=s.heap.update p f,toks:=t}:=by
 have e:(s.heap.update p f).get? p=some {cls:=.type "list",data:=.seq its'.toArray n'}:=by
  rw[Heap.get?_update_self f ho (by rw[hf]<;>rfl),hf]
 refine I.write (x:=p) (e:=p) (by rw[h];trivial) (.inl rfl) (fun b u hb q=>(Heap.get?_update_other _ _ (Ne.symm hb)).trans q) ⟨_,e⟩ ?_;exact⟨hz,its',n',r,e⟩
noncomputable def rSetL:V->V->V->Hp->(Hp->Prop)->Prop:=fun o i v H Q=>∃p xs k j,o = .ref p/\i = .int k/\H p=some (.lst xs)/\ixN xs.length k=some j/\Q (upd H p (.lst (xs.set j v)))
theorem set_list:PSet X rSetL:=by
 intro pins s σ H o i v ov iv u Q I ro ri rv h;obtain⟨p,xs,k,j,rfl,rfl,hp,hj,q⟩:=h;cases ro;obtain⟨t,rfl⟩:=ri;obtain⟨its,n,r,ho,hz⟩:=I.lst hp;obtain⟨h1,h2,h3,h4⟩:=X2 hj;have hl:=r.length;have hn:=line63;have I':Inv X pins σ (upd H p (.lst (xs.set j v))) {s with heap:=s.heap.update p (Obj.mapSeq (·.setIfInBounds j u))}:=
  I.lstUpd hp ho (Xu its n j u) (r.set rv j) (by rw[length_set];exact hz) s.toks
 by_cases h0:0<=k
 ·have hk:k.toNat=j:=by
   rw[seqIndex_of h0 h4]at h1;exact Option.some.inj h1
  exact PySem.W.ki_setAt ho h0 (by omega) (by rw[size_toArray,<-hl];exact h4) (by rw[hk];exact⟨_,I',q⟩)
 ·have hk:(k+(its.toArray.size:Int)).toNat=j:=by
   rw[seqIndex_neg (by omega) h3]at h1;rw[size_toArray,<-hl];exact Option.some.inj h1
  exact PySem.W.ki_setBack ho (by omega) (by rw[size_toArray,<-hl];exact h3) (by omega) (by rw[hk];exact⟨_,I',q⟩)
theorem WG(lo hi:Option Int)(n:Nat):(sliceBounds lo hi none n).1=((HT.sIx n 0 lo:Nat):Int)/\(sliceBounds lo hi none n).2.1=((HT.sIx n n hi:Nat):Int)/\(sliceBounds lo hi none n).2.2=1:=by
 refine⟨?_,?_,rfl⟩
 ·cases lo with
  | none=>simp[sliceBounds,HT.sIx]
  | some i=>
   simp only[sliceBounds,HT.sIx,Option.getD_none,show(1:Int)>0 by decide,if_true];by_cases h:i<0
   ·simp only[h,if_true]<;>omega
   ·simp only[h,if_false]<;>omega
 ·cases hi with
  | none=>simp[sliceBounds,HT.sIx]
  | some i=>
   simp only[sliceBounds,HT.sIx,Option.getD_none,show(1:Int)>0 by decide,if_true];by_cases h:i<0
   ·simp only[h,if_true]<;>omega
   ·simp only[h,if_false]<;>omega
theorem KI(its:List Value)(lo hi:Option Int):slicePick its.toArray lo hi none=((its.drop (HT.sIx its.length 0 lo)).take (HT.sIx its.length its.length hi-HT.sIx its.length 0 lo)).toArray:=by
 obtain⟨h1,h2,h3⟩:=WG lo hi its.toArray.size;unfold slicePick;rw[h1,h2,h3];simp only[sliceRange_one,pick_run,size_toArray]<;>rfl
noncomputable def rSlL(K:Frg):V->Option Int->Option Int->Hp->VK->Prop:=fun x lo hi H Q=>∃a xs,x = .ref a/\SqL K H a xs/\∀p,H p=none->Q (.ref p) (upd H p (.lst (cutV xs lo hi)))
theorem WF:SlR X (rSlL X.K):=by
 intro pins s σ H x v vl vu lo hi sl Q I rx hs pl pu h;obtain⟨a,xs,rfl,hx,q⟩:=h;cases rx;obtain⟨its,r,ht,hz⟩:=I.list hx;have hlen:=r.length;refine⟨"list",_,slot_list_getitem.lookup,ht.isList.typeIs,?_⟩;refine wpAny_getItem_list_slice ht.isList hs pl pu .none (by simp) ?_ (by rw[size_toArray]<;>omega);rw[KI,<-hlen];refine⟨.ref s.heap.objs.size,_,I.laid (t':=s.toks) (o:=.lst (cutV xs lo hi)) (fun b ob q=>Heap.get?_push_of_some _ q) (Nat.le_refl _) ?_,rfl,q _ (I.hok.fresh (Nat.le_refl _))⟩;exact⟨Nat.le_trans (ZK xs lo hi) hz,_,0,(r.drop (HT.sIx xs.length 0 lo)).take (HT.sIx xs.length xs.length hi-HT.sIx xs.length 0 lo),Heap.get?_push_size _ rfl⟩
noncomputable def flatV:V->Bool
 | .non=>true
 | .bl _=>true
 | .int _=>true
 | .str _=>true
 | _=>false
noncomputable def eqV:V->V->Bool
 | .non,.non=>true
 | .bl a,.bl b=>a==b
 | .bl a,.int b=>(if a then 1 else 0)==b
 | .int a,.bl b=>a==(if b then 1 else 0)
 | .int a,.int b=>a==b
 | .str a,.str b=>a==b
 | _,_=>false
theorem j4c{A:Around}{s:Shared}{y x:V}{u v:Value}(ry:RelV y u)(rx:RelV x v)(fy:flatV y=true)(fx:flatV x=true):SeqAt.EqAt A s u v (eqV y x):=by
 cases y with
 | non=>
  cases ry;cases x with
  | non=>cases rx;exact SeqAt.EqAt.same _
  | bl b=>cases rx;exact SeqAt.EqAt.none_bool b
  | int b=>obtain⟨t,rfl⟩:=rx;exact SeqAt.EqAt.none_int b t
  | str b=>obtain⟨t,rfl⟩:=rx;exact SeqAt.EqAt.none_str b t
  | _=>exact absurd (show false=true from fx) Bool.false_ne_true
 | bl a=>
  cases ry;cases x with
  | non=>cases rx;exact SeqAt.EqAt.bool_none a
  | bl b=>cases rx;exact SeqAt.EqAt.bool_bool a b
  | int b=>obtain⟨t,rfl⟩:=rx;exact SeqAt.EqAt.bool_int a b t
  | str b=>obtain⟨t,rfl⟩:=rx;exact SeqAt.EqAt.bool_str a b t
  | _=>exact absurd (show false=true from fx) Bool.false_ne_true
 | int a=>
  obtain⟨t',rfl⟩:=ry;cases x with
  | non=>cases rx;exact SeqAt.EqAt.int_none a t'
  | bl b=>cases rx;exact SeqAt.EqAt.int_bool a t' b
  | int b=>obtain⟨t,rfl⟩:=rx;exact SeqAt.EqAt.int_int a t' b t
  | str b=>obtain⟨t,rfl⟩:=rx;exact SeqAt.EqAt.int_str a t' b t
  | _=>exact absurd (show false=true from fx) Bool.false_ne_true
 | str a=>
  obtain⟨t',rfl⟩:=ry;cases x with
  | non=>cases rx;exact SeqAt.EqAt.str_none a t'
  | bl b=>cases rx;exact SeqAt.EqAt.str_bool a t' b
  | int b=>obtain⟨t,rfl⟩:=rx;exact SeqAt.EqAt.str_int a t' b t
  | str b=>obtain⟨t,rfl⟩:=rx;exact SeqAt.EqAt.str_str a t' b t
  | _=>exact absurd (show false=true from fx) Bool.false_ne_true
 | _=>exact absurd (show false=true from fy) Bool.false_ne_true
noncomputable def eqU(x:V)(u:Value):Bool:=match u with
 | .none=>eqV .non x
 | .bool b=>eqV (.bl b) x
 | .int i _=>eqV (.int i) x
 | .str z _=>eqV (.str z) x
 | _=>false
theorem j1s{x y:V}{u:Value}(r:RelV y u)(f:flatV y=true):eqU x u=eqV y x:=by
 cases y with
 | non=>cases r;rfl
 | bl b=>cases r;rfl
 | int i=>obtain⟨t,rfl⟩:=r;rfl
 | str z=>obtain⟨t,rfl⟩:=r;rfl
 | _=>exact absurd (show false=true from f) Bool.false_ne_true
theorem yP{x:V}:∀{xs:List V} {us:List Value},Vals xs us->xs.all flatV=true->us.any (eqU x)=xs.any fun y=>eqV y x
 | _,_,.nil,_=>rfl
 | y::xs,u::us,.cons r t,f=>by
  rw[all_cons,Bool.and_eq_true]at f;rw[any_cons,any_cons,j1s r f.1,yP t f.2]
theorem ZQ{A:Around}{s:Shared}{x:V}{v:Value}(rx:RelV x v)(fx:flatV x=true):∀{xs:List V} {us:List Value},Vals xs us->xs.all flatV=true->∀u∈us,SeqAt.EqAt A s u v (eqU x u)
 | _,_,.nil,_=>fun u hu=>by cases hu
 | y::xs,u::us,.cons r t,f=>fun u' hu=>by
  rw[all_cons,Bool.and_eq_true]at f;rcases mem_cons.mp hu with rfl | hu
  ·rw[j1s r f.1];exact j4c r rx f.1 fx
  ·exact ZQ rx fx t f.2 u' hu
noncomputable def inV(x:V)(xs:List V):Bool:=xs.any fun y=>eqV y x
def rIn(K:Frg)(neg:Bool):R2:=fun x y H Q=>∃p xs,y = .ref p/\(SqL K H p xs\/SqT K H p xs)/\flatV x=true/\xs.all flatV=true/\Q (.bl (if neg then !inV x xs else inV x xs)) H
theorem j0T:OpR X (compareOp .In) (rIn X.K false):=by
 intro pins s σ H x y v u Q I rx ry h;obtain⟨p,xs,rfl,hq,fx,fs,q⟩:=h;cases ry;rcases hq with hq | hq
 ·obtain⟨its,r,pl,hz⟩:=I.list hq;refine SeqAt.in_listAt (eqU x) pl.isList (fun w hw=>ZQ rx fx r fs w (by simpa using hw)) ⟨.bl _,H,I,rfl,?_⟩;rw[show its.toArray.any (eqU x)=its.any (eqU x) by simp,yP r fs];exact q
 ·obtain⟨its,r,pl,hz⟩:=I.tuple hq;refine SeqAt.in_tupleAt (eqU x) pl (fun w hw=>ZQ rx fx r fs w (by simpa using hw)) ⟨.bl _,H,I,rfl,?_⟩;rw[show its.toArray.any (eqU x)=its.any (eqU x) by simp,yP r fs];exact q
theorem Wu:OpR X (compareOp .NotIn) (rIn X.K true):=by
 intro pins s σ H x y v u Q I rx ry h;obtain⟨p,xs,rfl,hq,fx,fs,q⟩:=h;cases ry;rcases hq with hq | hq
 ·obtain⟨its,r,pl,hz⟩:=I.list hq;refine SeqAt.notIn_listAt (eqU x) pl.isList (fun w hw=>ZQ rx fx r fs w (by simpa using hw)) ⟨.bl _,H,I,rfl,?_⟩;rw[show its.toArray.any (eqU x)=its.any (eqU x) by simp,yP r fs];exact q
 ·obtain⟨its,r,pl,hz⟩:=I.tuple hq;refine SeqAt.notIn_tupleAt (eqU x) pl (fun w hw=>ZQ rx fx r fs w (by simpa using hw)) ⟨.bl _,H,I,rfl,?_⟩;rw[show its.toArray.any (eqU x)=its.any (eqU x) by simp,yP r fs];exact q
theorem wM:CallR X (.type "list") (fun xs H Q=>∃p ys,xs=[.ref p]/\(SqL X.K H p ys\/SqT X.K H p ys)/\∀l,H l=none->Q (.ref l) (upd H l (.lst ys))):=by
 intro pins s σ H xs us Q I r h;obtain⟨p,ys,rfl,hq,q⟩:=h;obtain⟨u,rfl,rx⟩:=vals1 r;cases rx;have fin:∀(its:List Value),Vals ys its->ys.length<=sizeLine->∀(h':Heap) (c':Nat),(∀b o',s.heap.get? b=some o'->h'.get? b=some o')->
   h'.get? s.heap.objs.size=some {cls:=.type "list",dict:=none,data:=.seq its.toArray c',slots:=#[]}->EP X pins σ Q (.ref s.heap.objs.size) {s with heap:=h'}:=fun its r' hz h' c' kp e=>
  ⟨.ref s.heap.objs.size,_,I.laid (t':=s.toks) kp (Nat.le_refl _) (show ObjOk X.prog X.w _ h' _ (.lst ys)from⟨hz,its,c',r',e⟩),rfl,q _ (I.hok.fresh (Nat.le_refl _))⟩
 rcases hq with hq | hq
 ·obtain⟨its,r',pl,hz⟩:=I.list hq;have hlen:=r'.length;obtain⟨o,ho,hc,n,hd⟩:=pl.isList;exact call_list_seq p (.inl rfl) ho hc hd (fun h' c' kp e=>fin its r' hz h' c' kp e) (by simp only[size_toArray]<;>omega)
 ·obtain⟨its,r',pl,hz⟩:=I.tuple hq;have hlen:=r'.length;obtain⟨o,ho,hc,n,hd⟩:=pl;exact call_list_seq p (.inr rfl) ho hc hd (fun h' c' kp e=>fin its r' hz h' c' kp e) (by simp only[size_toArray]<;>omega)
theorem zN:CallR X (.type "tuple") (fun xs H Q=>∃p ys,xs=[.ref p]/\((SqL X.K H p ys/\∀l,H l=none->Q (.ref l) (upd H l (.tup ys)))\/(SqT X.K H p ys/\Q (.ref p) H))):=by
 intro pins s σ H xs us Q I r h;obtain⟨p,ys,rfl,h⟩:=h;obtain⟨u,rfl,rx⟩:=vals1 r;cases rx;rcases h with⟨hq,q⟩ | ⟨hq,q⟩
 ·obtain⟨its,r',pl,hz⟩:=I.list hq;have hlen:=r'.length;refine call_tuple_list pl.isList (fun h' kp=>?_) (by simp only[size_toArray]<;>omega);have I1:Inv X pins σ H {s with heap:=h'}:=I.kept (t':=s.toks) kp;have I2:Inv X pins σ (upd H h'.objs.size (.tup ys)) {s with heap:=h'.push {cls:=.type "tuple",data:=.seq its.toArray}}:=
   I1.laid (t':=s.toks) (fun b o e=>Heap.get?_push_of_some _ e) (Nat.le_refl _) (show ObjOk X.prog X.w _ _ _ (.tup ys)from⟨hz,its,r',IsTup.new _ _⟩)
  exact⟨.ref h'.objs.size,_,I2,rfl,q _ (I1.hok.fresh (Nat.le_refl _))⟩
 ·obtain⟨its,r',pl,hz⟩:=I.tuple hq;exact call_tuple_same pl ⟨.ref p,H,I,rfl,q⟩
def tyV(K:Frg)(T:String)(x:V)(H:Hp):Prop:=match x with
 | .str _=>T = "str"
 | .int _=>T = "int"
 | .ref p=>(T = "list"/\∃xs,SqL K H p xs)\/(T = "tuple"/\∃o,K.lookup p=some o/\o.cls = .type "tuple"/\o.dict=none)\/
   (T = "dict"/\((∃kvs,H p=some (.dK kvs))\/∃kvs,H p=some (.dT kvs)))\/(T = "set"/\∃S n,H p=some (.set S n))
 | _=>False
theorem j2G{pins:List (Addr×Obj)}{σ:St}{H:Hp}{s:Shared}{T:String}{x:V}{v:Value}(I:Inv X pins σ H s)(r:RelV x v)(ty:tyV X.K T x H) :
  s.TypeIs v T/\∀a,v = .ref a->∃ob,s.heap.get? a=some ob/\ob.dict=none:=by
 cases x with
 | str z=>
  obtain⟨t,rfl⟩:=r;cases(show T = "str" from ty);exact⟨typeIs_str s z t,fun _ e=>nomatch e⟩
 | int i=>
  obtain⟨t,rfl⟩:=r;cases(show T = "int" from ty);exact⟨typeIs_int s i t,fun _ e=>nomatch e⟩
 | ref p=>
  cases r;rcases ty with⟨rfl,xs,hq⟩ | ⟨rfl,o,hk,hc,hd⟩ | ⟨rfl,hk⟩ | ⟨rfl,S,n,hk⟩
  ·obtain⟨its,_,pl,_⟩:=I.list hq;refine⟨pl.isList.typeIs,fun a e=>?_⟩;cases e;obtain⟨o,n,e,c,hd,_⟩:=pl;exact⟨o,e,hd⟩
  ·refine⟨⟨o,I.kIn p o hk,hc⟩,fun a e=>?_⟩;cases e;exact⟨o,I.kIn _ o hk,hd⟩
  ·have z:∃o,s.heap.get? p=some o/\o.ExactDict:=by
    rcases hk with⟨kvs,hk⟩ | ⟨kvs,hk⟩
    ·obtain⟨_,_,_,_,o,_,_,e,ex,_⟩:=I.hok p _ hk;exact⟨o,e,ex⟩
    ·obtain⟨_,_,_,_,o,_,_,e,ex,_⟩:=I.hok p _ hk;exact⟨o,e,ex⟩
   obtain⟨o,e,ex⟩:=z;refine⟨⟨o,e,ex.1⟩,fun a e2=>?_⟩;cases e2;exact⟨o,e,ex.2.1⟩
  ·obtain⟨o,_,_,_,e,ex,_⟩:=I.hok p _ hk;refine⟨⟨o,e,ex.1⟩,fun a e2=>?_⟩;cases e2;exact⟨o,e,ex.2.1⟩
 | _=>exact False.elim ty
def tBM0(K:Frg)(T:String)(r:V->List V->Hp->VK->Prop)(to:TE):TE:=fun σ H Q=>to σ H fun x H1=>tyV K T x H1/\r x [] H1 Q
def tBM(K:Frg)(T:String)(r:V->List V->Hp->VK->Prop)(to:TE)(t:TA):TE:=fun σ H Q=>to σ H fun x H1=>tyV K T x H1/\t σ H1 fun xs H2=>r x xs H2 Q
variable{o e:Expr}{es:List Expr}{to:TE}{t:TA}{name:Str}{apos cpos:Pos}{T id:String}{r:V->List V->Hp->VK->Prop}
theorem j20(pa:PlainAttrs T)(slot:Slot T name id)(hty:typeOf (.builtin id)=pure (.type "method_descriptor"))(hm:MtR X id r)(ho:PE X o to)
  (hbase:attributeBase o name X.env (eval o X.env)=eval o X.env:=by rfl) (hline:(apos.endLine==cpos.line)=true:=by rfl):PE X (.Call (.Attribute o name apos) [] [] cpos) (tBM0 X.K T r to):=by
 intro pins s σ H Q I h;refine wpAny_Call_method0_late hbase hline (thn (ho pins s σ H _ I h) fun v s1 ⟨x,H1,I1,r1,ty,q1⟩=>?_);obtain⟨h1,h2⟩:=j2G I1 r1 ty;exact⟨T,id,pa,slot,hty,h1,h2,Calls.callWith_builtin rfl (PySem.evalArgs_none (hm pins s1 σ H1 x [] v [] Q I1 r1 .nil q1))⟩
theorem qI(pa:PlainAttrs T)(slot:Slot T name id)(hty:typeOf (.builtin id)=pure (.type "method_descriptor"))(hm:MtR X id r)(ho:PE X o to)(ha:PA X (e::es) t)
  (hbase:attributeBase o name X.env (eval o X.env)=eval o X.env:=by rfl)
  (hfew:((backTo cpos (starEach (e::es) X.env)).all (fun x=>!x.1)&&(backToKw cpos (keywordEach [] X.env)).all (fun x=>x.1.isSome)
   && decide ((e::es).length+([]:List Keyword).length+(if([]:List Keyword).isEmpty then 0 else 1)<30))=true:=by rfl)
  (hline:(apos.endLine==cpos.line)=true:=by rfl) (hs:starEach (e::es) X.env=(false,eval e X.env)::starEach es X.env:=by rfl) (hplain:(backTo cpos (starEach es X.env)).any (·.1)=false:=by rfl) :
  PE X (.Call (.Attribute o name apos) (e::es) [] cpos) (tBM X.K T r to t):=by
 intro pins s σ H Q I h;refine wpAny_Call_method_late hbase hfew hline rfl (thn (ho pins s σ H _ I h) fun v s1 ⟨x,H1,I1,r1,ty,q1⟩=>?_);obtain⟨h1,h2⟩:=j2G I1 r1 ty;refine⟨T,id,pa,slot,hty,h1,h2,?_⟩;have hA:=ha cpos pins s1 σ H1 _ I1 q1;rw[hs]at hA|-;refine Calls.callWith_builtin (by show(false||(backTo cpos (starEach es X.env)).any (·.1))=false;rw[hplain]<;>rfl) (Calls.evalArgs_plain ?_);exact thn hA fun us s2 ⟨vs,H2,I2,r2,q2⟩=>hm pins s2 σ H2 x vs v us Q I2 r1 r2 q2
end
def MtM(X:Cx)(id:String)(r:V->List V->Hp->VK->Prop):Prop:=
 ∀(pins:List (Addr×Obj)) (s:Shared) (σ:St) (H:Hp) (x:V) (xs:List V) (v:Value) (us:List Value) (Q:VK),Inv X pins σ H s->RelV x v->Vals xs us->r x xs H Q->
  wpAny (model X.prog X.w) X.A (call (.builtin id) (v::us)) (EP X pins σ Q) X.xe s
theorem Vals.one:∀{x:V} {us:List Value},Vals [x] us->∃u,us=[u]/\RelV x u
 | _,_,.cons r .nil=>⟨_,rfl,r⟩
theorem Vals.zero:∀{us:List Value},Vals [] us->us=[]
 | _,.nil=>rfl
theorem Vals.dropLast{xs:List V}{us:List Value}(h:Vals xs us):Vals xs.dropLast us.dropLast:=by
 induction h with
 | nil=>exact .nil
 | cons r t ih=>
  cases t with
  | nil=>exact .nil
  | cons q t'=>exact .cons r ih
theorem Xh{α:Type}(l:List α):l.eraseIdx (l.length-1)=l.dropLast:=by
 induction l with
 | nil=>rfl
 | cons a r ih=>
  cases r with
  | nil=>rfl
  | cons b r=>
   have e:(a::b::r).length-1=((b::r).length-1)+1:=by
    have h1:(a::b::r).length=r.length+2:=rfl;have h2:(b::r).length=r.length+1:=rfl;omega
   rw[e,List.eraseIdx_cons_succ,ih]
   all_goals rfl
section
variable{X:Cx}{pins:List (Addr×Obj)}{σ:St}{H:Hp}{s:Shared}{l b:Addr}{xs ys zs:List V}
theorem Inv.lset{its its':List Value}{n:Nat}{f:Array Value->Array Value}{t':Nat}(I:Inv X pins σ H s)(hH:H l=some (.lst xs))
  (e:s.heap.get? l=some {cls:=.type "list",data:=.seq its.toArray n}) (hf:f its.toArray=its'.toArray) (hv:Vals ys its') (hz:ys.length<=sizeLine) :
  Inv X pins σ (upd H l (.lst ys)) {s with heap:=s.heap.update l (Obj.mapSeq f),toks:=t'}:=by
 have q:=PySem.IsL.update e f;rw[hf]at q;refine I.write (x:=l) (e:=l) (by rw[hH];exact trivial) (.inl rfl) (fun b' u hb hu=>(Heap.get?_update_other s.heap (Obj.mapSeq f) (Ne.symm hb)).trans hu) ⟨_,q⟩ ?_;exact⟨hz,its',_,hv,q⟩
theorem Inv.lnew{its:List Value}{t':Nat}(I:Inv X pins σ H s)(hv:Vals ys its)(hz:ys.length<=sizeLine) :
  Inv X pins σ (upd H s.heap.objs.size (.lst ys)) {s with heap:=s.heap.push {cls:=.type "list",data:=.seq its.toArray},toks:=t'}:=
 I.laid (fun _ _ q=>Heap.get?_push_of_some _ q) (Nat.le_refl _) ⟨hz,its,0,hv,Heap.get?_push_size _ rfl⟩
theorem Inv.fresh(I:Inv X pins σ H s):H s.heap.objs.size=none:=I.hok.fresh (Nat.le_refl _)
theorem Inv.lstM(I:Inv X pins σ H s)(hH:H l=some (.lst xs)):xs.length<=sizeLine/\∃(its:List Value) (n:Nat),Vals xs its/\xs.length=its.length/\s.heap.get? l=some {cls:=.type "list",data:=.seq its.toArray n}:=by
 obtain⟨z,its,n,r,e⟩:=I.hok l _ hH;exact⟨z,its,n,r,r.length,e⟩
theorem notLongL{n:Nat}(h:n<=sizeLine):Builtin.List.listTooLong n=false:=by
 unfold Builtin.List.listTooLong;exact decide_eq_false (by omega)
end
section
variable{X:Cx}
noncomputable def rAppend:V->List V->Hp->VK->Prop:=fun x vs H Q=>∃l xs y,x = .ref l/\vs=[y]/\H l=some (.lst xs)/\xs.length<sizeLine/\Q .non (upd H l (.lst (xs++[y])))
theorem jS:MtM X "list.append" rAppend:=by
 intro pins s σ H x vs v us Q I rx rv h;obtain⟨l,xs,y,rfl,rfl,hH,hz,q⟩:=h;cases rx;obtain⟨u,rfl,ru⟩:=rv.one;obtain⟨z,its,n,r,hl,e⟩:=I.lstM hH;refine call_meets F.slot_list_append ⟨_,e,rfl⟩ F.entry_list_append (F.args_list_append_2 _ _) (PySem.list_append l its.toArray n u (by rw[size_toArray];omega)) ⟨e,?_⟩;refine⟨.non,_,I.lset (its':=its++[u]) hH e (by simp) (r.append (.cons ru .nil)) ?_,rfl,q⟩;rw[List.length_append,length_singleton];omega
noncomputable def rExtend:V->List V->Hp->VK->Prop:=fun x vs H Q=>∃l b xs zs,x = .ref l/\vs=[.ref b]/\H l=some (.lst xs)/\H b=some (.lst zs)/\xs.length+zs.length<=sizeLine/\Q .non (upd H l (.lst (xs++zs)))
theorem j0M:MtM X "list.extend" rExtend:=by
 intro pins s σ H x vs v us Q I rx rv h;obtain⟨l,b,xs,zs,rfl,rfl,hH,hB,hz,q⟩:=h;cases rx;obtain⟨u,rfl,ru⟩:=rv.one;cases ru;obtain⟨z,its,n,r,hl,e⟩:=I.lstM hH;obtain⟨z2,its2,n2,r2,hl2,e2⟩:=I.lstM hB;have hsz:its.toArray.size+its2.toArray.size<=sizeLine:=by rw[size_toArray,size_toArray];omega
 have hlong:¬(!its.toArray.isEmpty&&Builtin.List.listTooLong (its.toArray.size+its2.toArray.size))=true:=by
  rw[notLongL hsz,Bool.and_false];exact Bool.false_ne_true
 refine call_meets F.slot_list_extend ⟨_,e,rfl⟩ F.entry_list_extend (F.args_list_extend_2 _ _)
  (AutoSeq1.list_extend_list_list_0 l its.toArray n b its2.toArray n2 hlong (by rw[size_toArray];omega) (by omega)) ⟨e,e2,?_⟩
 refine⟨.non,_,I.lset (its':=its++its2) hH e (by simp) (r.append r2) ?_,rfl,q⟩;rw[List.length_append];omega
noncomputable def rPop:V->List V->Hp->VK->Prop:=fun x vs H Q=>∃l xs y,x = .ref l/\vs=[]/\H l=some (.lst xs)/\xs[xs.length-1]?=some y/\Q y (upd H l (.lst xs.dropLast))
theorem j4r:MtM X "list.pop" rPop:=by
 intro pins s σ H x vs v us Q I rx rv h;obtain⟨l,xs,y,rfl,rfl,hH,hy,q⟩:=h;cases rx;have hus:=rv.zero;subst hus;obtain⟨z,its,n,r,hl,e⟩:=I.lstM hH;obtain⟨u,hu,ru⟩:=r.get hy;have hy':its.toArray[its.toArray.size-1]?=some u:=by
  show its.toArray[its.length-1]?=some u;rw[<-Array.getElem?_toList,<-hl];exact hu
 refine call_meets F.slot_list_pop ⟨_,e,rfl⟩ F.entry_list_pop (F.args_list_pop_1 _) (MeetsSeq.list_pop_last l its.toArray n u hy' (by rw[size_toArray];omega)) ⟨e,?_⟩;refine⟨y,_,I.lset (its':=its.dropLast) hH e ?_ r.dropLast ?_,ru,q⟩
 ·show its.toArray.eraseIdxIfInBounds (its.toArray.size-1)=its.dropLast.toArray;rw[size_toArray,List.eraseIdxIfInBounds_toArray,Xh]
 ·rw[List.length_dropLast];omega
def rCat:R2:=fun x y H Q=>∃l b xs zs,x = .ref l/\y = .ref b/\H l=some (.lst xs)/\H b=some (.lst zs)/\xs.length+zs.length<=sizeLine/\∀p,H p=none->Q (.ref p) (upd H p (.lst (xs++zs)))
theorem Kh:OpR X (binaryOp .Add) rCat:=by
 intro pins s σ H x y v u Q I rx ry h;obtain⟨l,b,xs,zs,rfl,rfl,hH,hB,hz,q⟩:=h;cases rx;cases ry;obtain⟨z,its,n,r,hl,e⟩:=I.lstM hH;obtain⟨z2,its2,n2,r2,hl2,e2⟩:=I.lstM hB;refine PySem.P.add_list e e2 ?_ (by rw[size_toArray,size_toArray];omega);have ea:its.toArray++its2.toArray=(its++its2).toArray:=by simp
 rw[ea];exact⟨.ref _,_,I.lnew (t':=s.toks) (r.append r2) (by rw[List.length_append];omega),rfl,q _ I.fresh⟩
end
section
variable{prog:Program}{w:World}{A:Around}{E:Value->Shared->Prop}{s:Shared}
end
section
variable{X:Cx}
end
end L2
namespace Att
open PySem PySem.W PySem.Calls PyProof.Rows
theorem Y9{P:Params}{h:Heap}:∀(ns:List Int) (vs:List Value),WellAll P h vs (ns.map WData.int)->IntsAre vs ns:=by
 intro ns
 induction ns with
 | nil=>
  intro vs w;rw[map_nil]at w;cases w;exact .nil
 | cons n ns ih=>
  intro vs w;rw[map_cons]at w;cases w with
  | cons a b=>
   cases a;exact .cons _ _ (ih _ b)
theorem j11{l:OpenLaw}{n:Nat}(hn:l.most=some n){P:Params}{h:Heap}{args:List WData}{vals:List Value}
  (hpre:l.row.toRowW.claim.pre args=true) (hwl:WellAll P h vals args) :
  ∃a vs ns,vals=[Value.ref a]/\args=[WData.list (ns.map WData.int)]/\h.get? a=some {cls:=.type "list",data:=.seq vs.toArray}/\IntsAre vs ns/\ns.length<=n:=by
 have hsh:WShape.hasAll [] args [.list .int]=true:=(pre_splitW hpre).1;have hc:l.pre.holds [] {args:=args}=true:=(pre_splitW hpre).2;obtain⟨d,r,rfl,h1,h2⟩:=hasAllW_cons hsh;obtain rfl:=hasAllW_nil h2;obtain⟨xs,rfl,h3⟩:=hasW_list h1;obtain⟨ns,rfl⟩:=items_int h3;have hlen:ns.length<=n:=by
  unfold OpenLaw.pre at hc;have h4:(WTm.not (.lt (.lit (.int (n:Int))) (.len (.arg 0)))).holds [] {args:=[.list (ns.map .int)]}=true:=by
   have h4:=(holds_andW hc).1;rw[hn]at h4;exact h4
  have h5:=condW_of h4 (w_not (w_lt w_lit (w_len_list (w_arg rfl))));rw[length_map]at h5;refine Nat.le_of_not_lt fun q=>?_
  have q':(n:Int)<((ns.length:Nat):Int):=by omega
  first
   | (rw[decide_eq_true q']at h5;exact absurd h5 (by decide))
   | (simp at h5;omega)
 cases hwl with
 | cons w1 w2=>
  cases w2;cases w1 with
  | list ho hall=>exact⟨_,_,ns,rfl,rfl,ho,Y9 ns _ hall,hlen⟩
theorem j0V(l:OpenLaw)(args:List WData):l.row.toRowW.claim.post args (.bool true) args=true:=
 postW_of (r:=l.row.toRowW) (X:=(true==true))
  (show WShape.has [] (.bool true) .bool=true by first | rfl | decide | simp[WShape.has,WShape.arms,WShape.armsAll])
  (show(WTm.eq .res (.lit (.bool true))).value [] {args:=args,res:=some (.bool true),after:=args}=some (.bool (true==true))from w_eq_bool (w_res rfl) w_lit) rfl
section
variable{prog:Program}{w:World}{A:Around}{E:Value->Shared->Prop}{s:Shared}{K:Frag}
end
end Att
namespace L2
open PySem PySem.Spec PyProof.Rows
theorem wz:∀{vs:List Value} {ns:List Int},IntsAre vs ns->Vals (ns.map V.int) vs
 | _,_,.nil=>.nil
 | _,_,.cons n t h=>.cons ⟨t,rfl⟩ (wz h)
def Only(H:Hp):Prop:=∀b,H b=none\/∃o xs,H b=some (.frz o (.lst xs))
theorem j1H{P:Program}{w:World}{K:Frg}{mg mb:Str->Option Value}{CX:CXT}{k:Nat}{fa a:Addr}{fd:FuncData}{x:Str}{sp:Sp}{s₁:Shared}{vs:List Value}{ns:List Int}
  (KX:K.In s₁.heap) (hns:s₁.heap.Ns mainGlobals mg) (hb:s₁.heap.Ns builtinsNs mb) (hbb:∀x:Str,x≠"__name__"->mb x=bootBuiltins x) (hlim:s₁.heap.NoLimit) (hg:s₁.gens = #[])
  (ha:s₁.heap.get? a=some {cls:=.type "list",data:=.seq vs.toArray}) (hi:IntsAre vs ns) (hl:ns.length<=sizeLine) (hr:Room k callerA)
  (F:∀base:Heap,K.In base->base.Ns mainGlobals mg->FnOk P w K mg base CX k fa fd [x] sp) (hbind:∀(s:Shared) (u:Value),BindsTo s fd ⟨[u],[]⟩ [(x,u)])
  (hsp:∀H:Hp,Only H->SqL K H a (ns.map V.int)->sp [.ref a] H (fun v _=>v = .bl true) fun _ _ _=>False)
  (hCX:∀H e s',CX [] H s₁ (fun _ _ _=>False) e s'->False) :
  codeAny (model P w) callerA (.call (.ref fa) ⟨[.ref a],[]⟩) (fun r s'=>r = .ok (.ret (.bool true))/\OldK s₁.heap s'.heap/\s'.os=s₁.os/\AllBare s'.gens) s₁:=by
 have rv:=wz hi;have lenV:=hi.length;have core:∀H:Hp,Only H->SqL K H a (ns.map V.int)->HOk P w H s₁.heap->(∀b,H b≠none->b=a)->(H a≠none->K.lookup a=none)->
   codeAny (model P w) callerA (.call (.ref fa) ⟨[.ref a],[]⟩) (fun r s'=>r = .ok (.ret (.bool true))/\OldK s₁.heap s'.heap/\s'.os=s₁.os/\AllBare s'.gens) s₁:=by
  intro H hO hS hok hA hK;have base_of:∀{b:Addr} {o:Obj},s₁.heap.get? b=some o->H b=none->(hidT s₁.heap H).get? b=some o:=fun e n=>j1E e n
  have noA:∀{b:Addr} {o:Obj} {es:Array DictEntry} {ep:Nat},s₁.heap.get? b=some o->o.data = .dict es ep->H b=none:=fun {b o es ep} e d=>by
   cases q:H b with
   | none=>rfl
   | some u=>
    have e':b=a:=hA b (by rw[q];simp);subst e';rw[ha]at e;cases e;have d':Data.seq vs.toArray _=Data.dict es ep:=d;cases d'
  have nsK:∀{b:Addr} {m:Str->Option Value},s₁.heap.Ns b m->(hidT s₁.heap H).Ns b m:=fun {b m} ⟨o,es,ep,e,d,r⟩=>⟨o,es,ep,base_of e (noA e d),d,r⟩
  have hKb:K.In (hidT s₁.heap H):=fun b o e=>base_of (KX b o e) (by
   cases q:H b with
   | none=>rfl
   | some u=>
    have e':b=a:=hA b (by rw[q];simp);subst e';rw[hK (by rw[q];simp)]at e;cases e)
  have hM:Mod K mg (hidT s₁.heap H):=⟨hKb,nsK hns,⟨mb,nsK hb,hbb⟩,let ⟨mc,h1,h2⟩:=hlim;⟨mc,nsK h1,h2⟩⟩
  have e0:Env0 P w K mg (hidT s₁.heap H) callerA [] s₁ H:=⟨rfl,hM,fun b o e=>j3q e,Nat.le_of_eq (j0y _ _),trivial,fun b hb=>absurd (show b∈([]:List Addr)from hb) (by simp),hok,.of_eq hg⟩
  refine codeAny_mono ((F _ hKb (nsK hns)).run callerA [] s₁ H ⟨[.ref a],[]⟩ [.ref a] [.ref a] _ _ hr e0 (hbind s₁ (.ref a)) (.cons rfl .nil) (hsp H hO hS)) fun r s' h=>?_
  cases r with
  | error e=>exact(hCX H e s' h).elim
  | ok fl=>
   cases fl with
   | next=>exact False.elim h
   | brk=>exact False.elim h
   | cont=>exact False.elim h
   | ret u=>
    obtain⟨v,H',os,bare,un,hok',r',q⟩:=h;have q':v = .bl true:=q;subst q';obtain rfl:u=Value.bool true:=r';refine⟨rfl,OldK.of_keep fun b o e=>?_,os,bare⟩;cases q:H b with
    | none=>exact un.keep b o e q (by intro z;exact absurd (show b∈([]:List Addr)from z) (by simp)) (by simp)
    | some u=>
     rcases hO b with z | ⟨ob,xs,z⟩
     ·rw[q]at z;cases z
     ·have z2:=un.frzs b ob _ z;obtain⟨e1,_⟩:=hok b _ z;obtain⟨e2,_⟩:=hok' b _ z2;rw[e]at e1;cases e1;exact e2
 cases hk:K.lookup a with
 | some o=>
  have e:=KX a o hk;rw[ha]at e;cases e;refine core (fun _=>none) (fun _=>.inl rfl) (.inr ⟨_,vs.toArray,_,hk,rfl,rfl,rfl,by rw[size_toArray,lenV];exact hl,by simpa using rv⟩) (fun b u z=>by have z':(none:Option HO)=some u:=z;cases z') (fun b z=>absurd rfl z) fun z=>absurd rfl z
 | none=>
  refine core (fun b=>if b=a then some (.frz {cls:=.type "list",data:=.seq vs.toArray} (.lst (ns.map V.int)))else none) (fun b=>?_) (.inl (.inr ⟨{cls:=.type "list",data:=.seq vs.toArray},if_pos rfl⟩)) (fun b u z=>?_) (fun b z=>?_) fun _=>hk
  ·by_cases hb:b=a
   ·exact .inr ⟨_,_,if_pos hb⟩
   ·exact .inl (if_neg hb)
  ·by_cases hb:b=a
   ·have z':=(if_pos hb).symm.trans z;cases z';subst hb;exact⟨ha,by rw[length_map];exact hl,vs,_,rv,ha⟩
   ·have z':=(if_neg hb).symm.trans z;cases z'
  ·by_cases hb:b=a
   ·exact hb
   ·exact absurd (if_neg hb) z
noncomputable abbrev KOf{K:Frg}{h:Heap}(_:K.In h):Frg:=K
noncomputable def inClass(s:Stmt)(j:Nat):Stmt:=match s with
 | .ClassDef _ _ _ body _ _ _ _ _ _ _=>body.getD j (.Pass ⟨0,0,0,0⟩)
 | _=>.Pass ⟨0,0,0,0⟩
noncomputable def defArgs(s:Stmt):Arguments:=match s with
 | .FunctionDef _ a _ _ _ _ _ _ _ _=>a
 | _=>{posonlyargs:=[],args:=[],vararg:=none,kwonlyargs:=[],kw_defaults:=[],kwarg:=none,defaults:=[]}
noncomputable def defBody(s:Stmt):List Stmt:=match s with
 | .FunctionDef _ _ b _ _ _ _ _ _ _=>b
 | _=>[]
noncomputable def defScope(s:Stmt):Scope:=match s with
 | .FunctionDef _ _ _ _ _ _ sc _ _ _=>sc
 | _=>{kind:=.function,names:=[],isGenerator:=false,isCoroutine:=false}
noncomputable abbrev CX0:CXT:=fun _ _ _ _ _ _=>False
noncomputable abbrev E0:XK:=fun _ _ _=>False
theorem pass0{X:Cx}:Passes CX0 X E0:=fun _ _ _ _ _ _ _ h=>h.elim
structure Fun(K:Frg)(x qual:Str)(st:Stmt)(f:Addr)(fd:FuncData):Prop where
 ex:∃(oc:Value) (od:Option Addr) (kV doc pm:Value) (an:Option Addr) (cdv ct:Value) (osl:Array (Option Value)),
  fd=PySem.W.fnOf x qual (defArgs st) (defBody st) (defScope st) .none kV doc pm an cdv ct/\K.lookup f=some ⟨oc,od,.func fd,osl⟩/\PySem.W.codeIn K cdv qual=true
 kp:PySem.W.keepIn K (.ref f)=true
section
variable{P:Program}{w:World}{K:Frg}{mg:Str->Option Value}{base:Heap}
theorem Fun.ok{x qual:Str}{st:Stmt}{f:Addr}{fd:FuncData}{N ps:List Str}{k:Nat}{sp:Sp}(F:Fun K x qual st f fd)(S:FnScope N ps (defScope st))(len:∀vs H Q E,sp vs H Q E->vs.length=ps.length)
  (hbody:∀(cdv:Value) (A:Around) (outer:List Env) (s:Shared) (H:Hp) (vs:List V) (Q:VK) (E:XK),Room k (A.deeper (envOfC qual (defScope st) s.heap.objs.size f cdv))->sp vs H Q E->
   ∃t,PSs (cxOf CX0 P w K mg base N qual (defScope st) f cdv A outer s H E).nox (defBody st) t/\t {nx:=fun _ H'=>Q .non H',rt:=Q} (start N vs) H):FnOk P w K mg base CX0 (k+1) f fd ps sp:=by
 obtain⟨oc,od,kV,doc,pm,an,cdv,ct,osl,rfl,lk,hcd⟩:=F.ex;refine j4U lk hcd S len fun A outer s H vs Q E hr hsp=>?_
 obtain⟨t,h,q⟩:=hbody cdv A outer s H vs Q E hr hsp;exact⟨t,h.nox,q⟩
theorem Fun.binds{x qual:Str}{st:Stmt}{f:Addr}{fd:FuncData}{ps:List Str}(F:Fun K x qual st f fd)
  (h:∀(kV doc pm:Value) (an:Option Addr) (cdv ct:Value) (us:List Value),us.length=ps.length->bindArgs (PySem.W.fnOf x qual (defArgs st) (defBody st) (defScope st) .none kV doc pm an cdv ct) ⟨us,[]⟩=pure (ps.zip us)):Binds K fd ps []:=by
 obtain⟨oc,od,kV,doc,pm,an,cdv,ct,osl,rfl,lk,hcd⟩:=F.ex;exact .all (h kV doc pm an cdv ct)
theorem jK{x qual:Str}{st:Stmt}{f:Addr}{oc:Value}{od an:Option Addr}{osl:Array (Option Value)}{kV doc pm cdv ct:Value}(l:K.lookup f=some ⟨oc,od,.func (PySem.W.fnOf x qual (defArgs st) (defBody st) (defScope st) .none kV doc pm an cdv ct),osl⟩)
  (c:PySem.W.codeIn K cdv qual=true) (k:PySem.W.keepIn K (.ref f)=true):Fun K x qual st f (PySem.W.fnOf x qual (defArgs st) (defBody st) (defScope st) .none kV doc pm an cdv ct):=⟨⟨oc,od,kV,doc,pm,an,cdv,ct,osl,rfl,l,c⟩,k⟩
end
theorem zX{A:Around}{k:Nat}(hr:Room k A):A.units+1<cLine:=Nat.lt_of_le_of_lt (Nat.add_le_add_left (by decide:1<=64) _) hr.units
section
variable{X:Cx}
theorem pv(i:Nat){x:Str}{pos:Pos}(hN:X.N[i]?=some x:=by rfl)(hv:Vis X.env.scope x:=by first | exact Or.inl rfl | exact Or.inr (Or.inl rfl) | exact Or.inr (Or.inr rfl))(hd:(x==("__debug__" : Str))=false:=by decide)
  (hcd:(x==("__classdict__" : Str))=false:=by decide):PE X (.Name x pos) (tVar i):=j4A hN hv hd hcd
end
theorem iteF{A B:Prop}(h:B):if false=true then A else B:=by
 rw[if_neg Bool.false_ne_true];exact h
theorem iteT{A B:Prop}(h:A):if true=true then A else B:=by
 rw[if_pos rfl];exact h
def Same(H H':Hp):Prop:=∀b o,H b=some o->H' b=some o
theorem Same.refl(H:Hp):Same H H:=fun _ _ h=>h
theorem Same.trans{H H1 H2:Hp}(a:Same H H1)(b:Same H1 H2):Same H H2:=fun c o h=>b c o (a c o h)
theorem Same.seq{K:Frg}{H H':Hp}{a:Addr}{xs:List V}(e:Same H H')(h:SqL K H a xs):SqL K H' a xs:=by
 rcases h with(h | ⟨o,h⟩) | h
 ·exact .inl (.inl (e _ _ h))
 ·exact .inl (.inr ⟨o,e _ _ h⟩)
 ·exact .inr h
section
variable{κ:Type}[DecidableEq κ]
noncomputable def valV(kvs:List (κ×V))(k:κ):Option V:=(kvs.find? fun kv=>decide (kv.1=k)).map (·.2)
noncomputable def putK(kvs:List (κ×V))(k:κ)(v:V):List (κ×V):=
 if(kvs.any fun kv=>decide (kv.1=k))=true then kvs.map (fun kv=>if kv.1=k then(kv.1,v)else kv)else kvs++[(k,v)]
theorem qo{p:κ×V}{r:List (κ×V)}{k:κ}(e:p.1=k):valV (p::r) k=some p.2:=by simp[valV,List.find?_cons,e]
theorem qm{p:κ×V}{r:List (κ×V)}{k:κ}(e:¬p.1=k):valV (p::r) k=valV r k:=by simp[valV,List.find?_cons,e]
theorem Q0(k:κ):∀kvs:List (κ×V),(kvs.any fun kv=>decide (kv.1=k))=(valV kvs k).isSome
 | []=>rfl
 | p::r=>by
  rw[any_cons];by_cases e:p.1=k
  ·simp only[qo e,decide_eq_true e,Bool.true_or,Option.isSome_some]
  ·rw[qm e,decide_eq_false e,Bool.false_or];exact Q0 k r
theorem xO(k j:κ)(y:V):∀kvs:List (κ×V),valV (kvs.map fun kv=>if kv.1=k then(kv.1,y)else kv) j=(valV kvs j).map fun x=>if j=k then y else x
 | []=>rfl
 | p::r=>by
  have ih:=xO k j y r;rw[map_cons];by_cases h:p.1=k
  ·rw[if_pos h];by_cases e:p.1=j
   ·rw[qo (p:=(p.1,y)) e,qo e,Option.map_some,if_pos (e.symm.trans h)]
   ·rw[qm (p:=(p.1,y)) e,qm e,ih]
  ·rw[if_neg h];by_cases e:p.1=j
   ·rw[qo (p:=p) e,qo e,Option.map_some,if_neg (fun z=>h (e.trans z))]
   ·rw[qm (p:=p) e,qm e,ih]
theorem wx(k j:κ)(y:V):∀kvs:List (κ×V),valV kvs k=none->valV (kvs++[(k,y)]) j=if j=k then some y else valV kvs j
 | [],_=>by
  by_cases e:k=j
  ·rw[if_pos e.symm];exact qo (p:=(k,y)) e
  ·rw[if_neg (fun z=>e z.symm)];exact qm (p:=(k,y)) e
 | p::r,hn=>by
  rw[List.cons_append];have hk:¬p.1=k:=fun z=>by rw[qo z]at hn;cases hn
  rw[qm hk]at hn;have ih:=wx k j y r hn;by_cases e:p.1=j
  ·rw[qo e,qo e,if_neg (fun z=>hk (e.trans z))]
  ·rw[qm e,qm e,ih]
theorem Ku(kvs:List (κ×V))(k j:κ)(y:V):valV (putK kvs k y) j=if j=k then some y else valV kvs j:=by
 unfold putK;by_cases a:(kvs.any fun kv=>decide (kv.1=k))=true
 ·rw[if_pos a,xO];rw[Q0]at a;by_cases e:j=k
  ·obtain⟨x,hx⟩:=Option.isSome_iff_exists.mp a;rw[if_pos e,e,hx,Option.map_some,if_pos rfl]
  ·rw[if_neg e];cases valV kvs j with
   | none=>rfl
   | some x=>rw[Option.map_some,if_neg e]
 ·rw[if_neg a];refine wx k j y kvs ?_;rw[Q0]at a;cases q:valV kvs k with
  | none=>rfl
  | some x=>rw[q]at a;exact(a rfl).elim
theorem ZP(kvs:List (κ×V))(k:κ)(v:V):(putK kvs k v).length<=kvs.length+1:=by
 unfold putK;split
 ·rw[length_map];omega
 ·rw[List.length_append,length_cons,length_nil];omega
theorem Kl{kvs:List (κ×V)}{k:κ}(v:V)(h:valV kvs k=none):putK kvs k v=kvs++[(k,v)]:=by
 unfold putK;rw[Q0,h];exact if_neg (by decide)
theorem RelO.isSome_eq{o:Option V}{u:Option Value}(r:RelO o u):o.isSome=u.isSome:=by
 cases o with
 | none=>cases u with
  | none=>rfl
  | some _=>exact(show False from r).elim
 | some _=>cases u with
  | none=>exact(show False from r).elim
  | some _=>rfl
theorem RelO.getD{o:Option V}{u:Option Value}{d:V}{d':Value}(r:RelO o u)(rd:RelV d d'):RelV (o.getD d) (u.getD d'):=by
 cases o with
 | none=>cases u with
  | none=>exact rd
  | some _=>exact(show False from r).elim
 | some _=>cases u with
  | none=>exact(show False from r).elim
  | some _=>exact r
theorem KV.val{kvs:List (κ×V)}{vs:List (κ×Value)}(r:KV kvs vs)(k:κ):RelO (valV kvs k) (valueAt vs k):=by
 unfold KV at r
 induction r with
 | nil=>exact True.intro
 | @cons p q ps qs h t ih=>
  obtain⟨h1,h2⟩:=h;by_cases e:p.1=k
  ·have e':q.1=k:=h1.symm.trans e;have b:valueAt (q::qs) k=some q.2:=by simp[valueAt,List.find?_cons,e']
   rw[qo e,b];exact h2
  ·have e':¬q.1=k:=fun z=>e (h1.trans z)
   have b:valueAt (q::qs) k=valueAt qs k:=by simp[valueAt,List.find?_cons,e']
   rw[qm e,b];exact ih
theorem KV.any{kvs:List (κ×V)}{vs:List (κ×Value)}(r:KV kvs vs)(k:κ):(kvs.any fun kv=>decide (kv.1=k))=vs.any fun kv=>decide (kv.1=k):=by
 unfold KV at r
 induction r with
 | nil=>rfl
 | cons h t ih=>rw[any_cons,any_cons,ih,h.1]
theorem KV.repl{kvs:List (κ×V)}{vs:List (κ×Value)}(r:KV kvs vs)(k:κ){y:V}{u:Value}(ry:RelV y u) :
  KV (kvs.map fun kv=>if kv.1=k then(kv.1,y)else kv) (vs.map fun kv=>if kv.1=k then(kv.1,u)else kv):=by
 unfold KV at r|-
 induction r with
 | nil=>exact .nil
 | @cons p q ps qs h t ih=>
  rw[map_cons,map_cons];refine .cons ?_ ih;obtain⟨h1,h2⟩:=h;by_cases e:p.1=k
  ·rw[if_pos e,if_pos (h1.symm.trans e)];exact⟨h1,ry⟩
  ·rw[if_neg e,if_neg (fun z=>e (h1.trans z))];exact⟨h1,h2⟩
theorem KV.put{kvs:List (κ×V)}{vs:List (κ×Value)}(r:KV kvs vs)(k:κ){y:V}{u:Value}(ry:RelV y u):KV (putK kvs k y) (stored vs k u):=by
 unfold putK stored;rw[r.any k];by_cases e:(vs.any fun kv=>decide (kv.1=k))=true
 ·rw[if_pos e,if_pos e];exact r.repl k ry
 ·rw[if_neg e,if_neg e];exact Paired.snoc r ⟨rfl,ry⟩
theorem KV.keys{kvs:List (κ×V)}{vs:List (κ×Value)}(r:KV kvs vs):kvs.map (·.1)=vs.map (·.1):=by
 unfold KV at r
 induction r with
 | nil=>rfl
 | cons h t ih=>rw[map_cons,map_cons,ih,h.1]
theorem KV.length{kvs:List (κ×V)}{vs:List (κ×Value)}(r:KV kvs vs):kvs.length=vs.length:=Paired.length r
end
theorem X6{P:Program}{w:World}{k:Key}{u:Value}(r:RelV (kV k) u):(mixKind P w).is k u=true:=by
 cases k with
 | inl i=>obtain⟨t,e⟩:=(show∃t,u=Value.int i t from r);subst e;exact xq P w i t
 | inr x=>obtain⟨t,e⟩:=(show∃t,u=Value.str x t from r);subst e;exact xr P w x t
theorem K6{P:Program}{w:World}:∀{ks:List Key} {us:List Value},Vals (ks.map kV) us->ItemsAre (mixKind P w) ks us
 | [],_,r=>by rw[map_nil]at r;cases r;exact .nil
 | k::ks,_,r=>by
  rw[map_cons]at r;cases r with
  | cons h t=>exact .cons (X6 h) (K6 t)
noncomputable abbrev KT(H:Hp):List (List Key×V)->List (List Key×Addr×Value)->Prop:=Paired fun p q=>p.1=q.1/\H q.2.1=some (.tup (p.1.map kV))/\RelV p.2 q.2.2
theorem KT.val{H:Hp}{kvs:List (List Key×V)}{xs:List (List Key×Addr×Value)}(r:KT H kvs xs)(k:List Key):RelO (valV kvs k) ((atKey xs k).map (·.2)):=by
 induction r with
 | nil=>exact True.intro
 | @cons p q ps qs h t ih=>
  obtain⟨h1,_,h2⟩:=h;by_cases e:p.1=k
  ·have e':q.1=k:=h1.symm.trans e;have b:atKey (q::qs) k=some q.2:=by simp[atKey,List.find?_cons,e']
   rw[qo e,b];exact h2
  ·have e':¬q.1=k:=fun z=>e (h1.trans z)
   have b:atKey (q::qs) k=atKey qs k:=by simp[atKey,List.find?_cons,e']
   rw[qm e,b];exact ih
theorem KT.repl{H:Hp}{kvs:List (List Key×V)}{xs:List (List Key×Addr×Value)}(r:KT H kvs xs)(k:List Key){y:V}{u:Value}(ry:RelV y u) :
  KT H (kvs.map fun kv=>if kv.1=k then(kv.1,y)else kv) (xs.map (putAt k u)):=by
 induction r with
 | nil=>exact .nil
 | @cons p q ps qs h t ih=>
  rw[map_cons,map_cons];refine .cons ?_ ih;obtain⟨h1,h2,h3⟩:=h;unfold putAt;by_cases e:p.1=k
  ·rw[if_pos e,if_pos (h1.symm.trans e)];exact⟨h1,h2,ry⟩
  ·rw[if_neg e,if_neg (fun z=>e (h1.trans z))];exact⟨h1,h2,h3⟩
theorem KT.put{H:Hp}{kvs:List (List Key×V)}{xs:List (List Key×Addr×Value)}(r:KT H kvs xs)(k:List Key){b:Addr}{y:V}{u:Value}(hb:H b=some (.tup (k.map kV)))(ry:RelV y u) :
  KT H (putK kvs k y) (storedH xs k b u):=by
 have e:(kvs.any fun kv=>decide (kv.1=k))=(atKey xs k).isSome:=by
  rw[Q0,(r.val k).isSome_eq,Option.isSome_map]
 unfold putK storedH;rw[e];by_cases q:(atKey xs k).isSome=true
 ·rw[if_pos q,if_pos q];exact r.repl k ry
 ·rw[if_neg q,if_neg q];exact Paired.snoc r ⟨rfl,hb,ry⟩
theorem KT.keeps{H H':Hp}{kvs:List (List Key×V)}{xs:List (List Key×Addr×Value)}(r:KT H kvs xs)(ht:∀b ys,H b=some (.tup ys)->H' b=some (.tup ys)):KT H' kvs xs:=
 Paired.mapP r fun _ _ z=>⟨z.1,ht _ _ z.2.1,z.2.2⟩
section
variable{P:Program}{w:World}{H:Hp}{h:Heap}{a:Addr}
theorem j42{u:HO}(ok:HOk P w H h)(e:Rd H a u):ObjOk P w H h a u:=e.ok ok
theorem W3{kvs:List (Key×V)}(ok:HOk P w H h)(e:Rd H a (.dK kvs)):kvs.length<=sizeLine/\(a==sysModules)=false/\∃vs,KV kvs vs/\h.DictOf (mixKind P w) a vs:=
 show ObjOk P w H h a (.dK kvs)from j42 ok e
theorem KW{kvs:List (Key×V)}(ok:HOk P w H h)(e:H a=some (.dK kvs)):kvs.length<=sizeLine/\(a==sysModules)=false/\∃vs,KV kvs vs/\h.DictOf (mixKind P w) a vs:=W3 ok (.inl e)
theorem wV{ks:List Key}(ok:HOk P w H h)(e:H a=some (.tup (ks.map kV))):(tupleKind (mixKind P w)).is h ks a:=by
 obtain⟨_,its,r,o,h1,h2,n,h3⟩:=(show ObjOk P w H h a (.tup (ks.map kV))from ok a _ e)
 exact⟨o,its.toArray,n,h1,h2,h3,by simpa using K6 r⟩
theorem W5{kvs:List (List Key×V)}(ok:HOk P w H h)(e:Rd H a (.dT kvs)):kvs.length<=sizeLine/\(a==sysModules)=false/\
  ∃xs,KT H kvs xs/\h.DictOfH (tupleKind (mixKind P w)) a xs:=by
 obtain⟨z,y,xs,r,o,es,ep,h1,h2,h3,h4,h5⟩:=(show ObjOk P w H h a (.dT kvs)from j42 ok e)
 refine⟨z,y,xs,r,o,es,ep,h1,h2,h3,h4,fun x hx=>?_,h5⟩;have all:∀{l:List (List Key×V)} {m:List (List Key×Addr×Value)},KT H l m->∀x∈m,(tupleKind (mixKind P w)).is h x.1 x.2.1:=by
  intro l m q
  induction q with
  | nil=>intro x hx;exact nomatch hx
  | @cons p q ps qs hq t ih=>
   intro x hx;rcases mem_cons.mp hx with e | hx
   ·subst e;exact wV ok (by rw[<-hq.1];exact hq.2.1)
   ·exact ih x hx
 exact all r x hx
theorem j4R{kvs:List (List Key×V)}(ok:HOk P w H h)(e:H a=some (.dT kvs)):kvs.length<=sizeLine/\(a==sysModules)=false/\
  ∃xs,KT H kvs xs/\h.DictOfH (tupleKind (mixKind P w)) a xs:=W5 ok (.inl e)
end
def DGet(H:Hp)(a:Addr)(y:V)(r:Option V):Prop:=
 (∃kvs k,Rd H a (.dK kvs)/\y=kV k/\r=valV kvs k)\/∃kvs k b,Rd H a (.dT kvs)/\y = .ref b/\H b=some (.tup (k.map kV))/\r=valV kvs k
def DPut(H:Hp)(a:Addr)(y v:V)(H':Hp):Prop:=
 (∃kvs k,H a=some (.dK kvs)/\y=kV k/\kvs.length<sizeLine/\H'=upd H a (.dK (putK kvs k v)))\/
 ∃kvs k b,H a=some (.dT kvs)/\y = .ref b/\H b=some (.tup (k.map kV))/\kvs.length<sizeLine/\H'=upd H a (.dT (putK kvs k v))
theorem DGet.k{H:Hp}{a:Addr}{kvs:List (Key×V)}{k:Key}(e:H a=some (.dK kvs)):DGet H a (kV k) (valV kvs k):=.inl ⟨kvs,k,.inl e,rfl,rfl⟩
theorem DPut.k{H:Hp}{a:Addr}{kvs:List (Key×V)}{k:Key}{v:V}(e:H a=some (.dK kvs))(hl:kvs.length<sizeLine):DPut H a (kV k) v (upd H a (.dK (putK kvs k v))):=.inl ⟨kvs,k,e,rfl,hl,rfl⟩
section
variable{X:Cx}{pins:List (Addr×Obj)}{σ:St}{H:Hp}{s:Shared}{a:Addr}{y v:V}{u r:Value}{o:Option V}{A:Around}{E:Value->Shared->Prop}
theorem Inv.big(I:Inv X pins σ H s):sysModules<s.heap.objs.size:=by
 have h:mainGlobals<s.heap.objs.size:=(I.mod.glob.keeps I.bk).lt;exact Nat.lt_trans (by decide) h
theorem j0s{Q:Value->Shared->Prop}(hu:A.units+1<cLine)(I:Inv X pins σ H s)(g:DGet H a y (some v))(ry:RelV y u)(h:∀w' s',Inv X pins σ H s'->RelV v w'->Q w' s') :
  wpAny (model X.prog X.w) A (getItem (.ref a) u) Q E s:=by
 rcases g with⟨kvs,k,e,ey,l⟩ | ⟨kvs,k,b,e,ey,eb,l⟩
 ·subst ey;obtain⟨z,hd,vs,rel,dd⟩:=W3 I.hok e;obtain⟨w',hw,rw'⟩:=RelO.some_of (v:=v) (o:=valueAt vs k) (by rw[l];exact rel.val k);exact wpAny_getItem_of (X6 ry) dd.mapOf hw (h w' _ (I.tok _) rw')
 ·subst ey;cases(show u=Value.ref b from ry);obtain⟨z,hd,xs,rel,dd⟩:=W5 I.hok e;obtain⟨w',hw,rw'⟩:=RelO.some_of (v:=v) (o:=(atKey xs k).map (·.2)) (by rw[l];exact rel.val k);obtain⟨p,hp,hp2⟩:=Option.map_eq_some_iff.mp hw;refine wpAny_getItem_heap (tupleKind_room_in1 hu) (wV I.hok eb) dd hp ?_;rw[hp2];exact h w' _ (I.tok _) rw'
theorem wQ{h':Heap}{t':Nat}{ob:HO}(I:Inv X pins σ H s)(mu:Mut (H a))(hs:Heap.SameBut a s.heap h')(he:∃q,h'.get? a=some q)(new:ObjOk X.prog X.w (upd H a ob) h' a ob) :
  Inv X pins σ (upd H a ob) {s with heap:=h',toks:=t'}:=
 I.write (x:=a) (e:=a) mu (.inl rfl) (fun b q hb z=>(hs.2 b hb).trans z) he new
theorem wR{P:Program}{w:World}{H':Hp}{h':Heap}{kvs:List (Key×V)}{vs:List (Key×Value)}(z:kvs.length<=sizeLine)(hd:(a==sysModules)=false)(rel:KV kvs vs)(dd:h'.DictOf (mixKind P w) a vs) :
  ObjOk P w H' h' a (.dK kvs):=⟨z,hd,vs,rel,dd⟩
theorem j0t{H':Hp}{Q:Unit->Shared->Prop}(hu:A.units+1<cLine)(I:Inv X pins σ H s)(g:DPut H a y v H')(ry:RelV y u)(rv:RelV v r)(h:∀s',Inv X pins σ H' s'->Q () s') :
  wpAny (model X.prog X.w) A (setItem (.ref a) u r) Q E s:=by
 rcases g with⟨kvs,k,e,ey,l,eH⟩ | ⟨kvs,k,b,e,ey,eb,l,eH⟩
 ·subst ey eH;obtain⟨z,hd,vs,rel,dd⟩:=KW I.hok e;have hz:vs.length<=sizeLine:=by rw[<-rel.length];exact z
  have hl:(putK kvs k v).length<=sizeLine:=by have:=ZP kvs k v;omega
  refine wpAny_setItem_pairs (hsz:=hz) (X6 ry) dd fun h' dd' hs=>h _ ?_
  have he:∃q,h'.get? a=some q:=let ⟨q,_,_,hq,_⟩:=dd';⟨q,hq⟩;exact wQ I (by rw[e];exact True.intro) hs he (wR hl hd (rel.put k rv) dd')
 ·subst ey eH;cases(show u=Value.ref b from ry);obtain⟨z,hd,xs,rel,dd⟩:=j4R I.hok e;have hz:xs.length<=sizeLine:=by rw[<-Paired.length rel];exact z
  have hl:(putK kvs k v).length<=sizeLine:=by have:=ZP kvs k v;omega
  refine wpAny_setItem_heap (hsz:=hz) (tupleKind_room_in1 hu) (wV I.hok eb) dd fun h' dd' hs=>h _ ?_
  obtain⟨q,es,ep,hq,h2,h3,h4,_,h5⟩:=dd';refine wQ I (by rw[e];exact True.intro) hs ⟨q,hq⟩ ⟨hl,hd,_,(rel.put k eb rv).keeps fun c ys ec=>?_,q,es,ep,hq,h2,h3,h4,h5⟩;rw[jh (Q5 ec e (fun z=>nomatch z))];exact ec
end
section
variable{X:Cx}{pins:List (Addr×Obj)}{σ:St}{H:Hp}{s:Shared}{a:Addr}{kvs:List (Key×V)}{k:Key}{u:Value}{A:Around}{E:Value->Shared->Prop}
end
def NoSl(i:Expr):Prop:=∀ov iv,subscripted i false ov iv=operate [ov,iv] (getItem ov iv)
theorem j3N{prog:Program}{w:World}{A:Around}{E:Value->Shared->Prop}{s:Shared}{env:Env}{value slice:Expr}{pos:Pos}{T id:String}{Q:Value->Shared->Prop}
  (hl:typeLookup (.type T) "__getitem__"= pure (some (.builtin id))) (hs:NoSl slice)
  (h:wpAny (model prog w) A (eval value env) (fun o s₁=>wpAny (model prog w) A (eval slice env) (fun i s₂=>s₂.TypeIs o T/\wpAny (model prog w) A (getItem o i) Q E s₂) E s₁) E s) :
  wpAny (model prog w) A (eval (.Subscript value slice pos) env) Q E s:=by
 refine Subscript_ (wpAny_mono h (fun o s₁ h₁=>wpAny_mono h₁ (fun i s₂ h₂=>?_) fun _ _ x=>x) fun _ _ x=>x);obtain⟨hT,h₂⟩:=h₂;unfold subscriptTail;refine wpAny_bind ?_;rw[getitemInPython_of_ne hT.not_modules];refine wpAny_bind (wpAny_specialOf hT hl ?_);have fin:wpAny (model prog w) A (subscripted slice false o i) (fun r s₃=>wpAny (model prog w) A (letTemporaryGo value o r >>= fun _=>pure r) Q E s₃) E s₂:=by
  rw[hs o i];exact wpAny_operating (wpAny_mono h₂ (fun r s₃ h₃=>wpAny_bind (wpAny_letTemporaryGo (wpAny_pure h₃))) fun _ _ x=>x)
 first
  | exact wpAny_pure (wpAny_bind fin)
  | exact wpAny_bind (wpAny_pure (wpAny_bind fin))
  | exact wpAny_bind fin
theorem W2{X:Cx}{pins:List (Addr×Obj)}{σ:St}{H:Hp}{s:Shared}{a:Addr}{y:V}{o:Option V}(I:Inv X pins σ H s)(g:DGet H a y o):s.TypeIs (.ref a) "dict":=by
 rcases g with⟨kvs,k,e,_,_⟩ | ⟨kvs,k,b,e,_,_,_⟩
 ·obtain⟨_,_,vs,_,dd⟩:=W3 I.hok e;exact dd.typeIs
 ·obtain⟨_,_,xs,_,dd⟩:=W5 I.hok e;exact dd.typeIs
def tDGet(td ty:TE):TE:=fun σ H Q=>td σ H fun x H1=>ty σ H1 fun y H2=>∃a v,x = .ref a/\DGet H2 a y (some v)/\Q v H2
def sDPut(td ty tv:TE):TS:=fun D σ H=>tv σ H fun v H1=>td σ H1 fun x H2=>ty σ H2 fun y H3=>∃a H4,x = .ref a/\DPut H3 a y v H4/\D.nx σ H4
section
variable{X:Cx}{o i e value:Expr}{pos pos' tpos:Pos}{td ty tv:TE}
theorem Zn(hu:X.A.units+1<cLine)(ho:PE X o td)(hi:PE X i ty)(hs:NoSl i:=by exact fun _ _=>rfl):PE X (.Subscript o i pos) (tDGet td ty):=by
 intro pins s σ H Q I h;refine j3N PySem.F.slot_dict_getitem.lookup hs (thn (ho pins s σ H _ I h) fun u s1 ⟨x,H1,I1,rx,q1⟩=>thn (hi pins s1 σ H1 _ I1 q1) fun iv s2 ⟨y,H2,I2,ry,a,v,ex,g,q2⟩=>?_);subst ex;obtain rfl:u=Value.ref a:=rx;exact⟨W2 I2 g,j0s hu I2 g ry fun w' s3 I3 rw'=>⟨v,H2,I3,rw',q2⟩⟩
theorem kq(hu:X.A.units+1<cLine)(ho:PE X o td)(hi:PE X i ty)(hv:PE X value tv)(hs:swapsWith value (some (.Subscript o i pos')) pos.line X.env=pure false) :
  PS X (.Assign [.Subscript o i pos'] value pos) (sDPut td ty tv):=by
 intro pins s σ H D I h;refine wpAny_Assign_Subscript (thn (hv pins s σ H _ I h) fun r s1 ⟨v,H1,I1,rv,q1⟩=>thn (ho pins s1 σ H1 _ I1 q1) fun u s2 ⟨x,H2,I2,rx,q2⟩=>thn (hi pins s2 σ H2 _ I2 q2) fun iv s3 ⟨y,H3,I3,ry,a,H4,ex,g,q3⟩=>?_) hs;subst ex;obtain rfl:u=Value.ref a:=rx;exact j0t hu I3 g ry rv fun s4 I4=>⟨σ,H4,I4,q3⟩
end
theorem j1o{P:Program}{w:World}{H:Hp}(h:Heap)(hb:sysModules<h.objs.size):ObjOk P w H (h.push {cls:=.type "dict",data:=.dict #[]}) h.objs.size (.dK []):=
 ⟨Nat.zero_le _,beq_eq_false_iff_ne.mpr (Ne.symm (Nat.ne_of_lt hb)),[],.nil,Heap.DictOf.new h⟩
def tDNewK:TE:=fun _ H Q=>∀p,H p=none->Q (.ref p) (upd H p (.dK []))
section
variable{X:Cx}{pos:Pos}
theorem Kj:PE X (.Dict [] [] pos) tDNewK:=fun pins s σ H Q I h=>
 wpAny_Dict_empty ⟨.ref s.heap.objs.size,_,I.laid (a:=s.heap.objs.size) (o:=.dK []) (t':=s.toks) (fun _ _ q=>Heap.get?_push_of_some _ q) (Nat.le_refl _) (j1o s.heap I.big),rfl,h _ (I.hok.fresh (Nat.le_refl _))⟩
end
noncomputable def mergeK(kvs more:List (Key×V)):List (Key×V):=more.foldl (fun acc kv=>putK acc kv.1 kv.2) kvs
theorem KV.merge:∀{more:List (Key×V)} {rs:List (Key×Value)} {kvs:List (Key×V)} {vs:List (Key×Value)},KV more rs->KV kvs vs->KV (mergeK kvs more) (merged vs rs):=by
 intro more rs kvs vs r;unfold KV at r
 induction r generalizing kvs vs with
 | nil=>intro q;exact q
 | @cons p q ps qs h t ih=>
  intro r0;have e:KV (putK kvs p.1 p.2) (stored vs q.1 q.2):=by
   have:=r0.put p.1 h.2;rw[<-h.1];exact this
  exact ih e
theorem QC:∀(more kvs:List (Key×V)),(mergeK kvs more).length<=kvs.length+more.length
 | [],kvs=>by show kvs.length<=kvs.length+0;omega
 | p::r,kvs=>by
  have h1:=QC r (putK kvs p.1 p.2);have h2:=ZP kvs p.1 p.2;show(mergeK (putK kvs p.1 p.2) r).length<=_;rw[length_cons];omega
structure M1(X:Cx)(o:Expr)(m:Str)(apos:Pos)(e:Expr)(cpos:Pos):Prop where
 base:attributeBase o m X.env (eval o X.env)=eval o X.env
 few:((backTo cpos (starEach [e] X.env)).all (fun x=>!x.1)&&(backToKw cpos (keywordEach [] X.env)).all (fun x=>x.1.isSome)
  && decide (([e]:List Expr).length+([]:List Keyword).length+(if([]:List Keyword).isEmpty then 0 else 1)<30))=true
 line:(apos.endLine==cpos.line)=true
 trees:backTo cpos (starEach [e] X.env)=[(false,eval e X.env)]
def IsD(H:Hp)(a:Addr):Prop:=(∃kvs,Rd H a (.dK kvs))\/∃kvs,Rd H a (.dT kvs)
theorem j4f{X:Cx}{pins:List (Addr×Obj)}{σ:St}{H:Hp}{s:Shared}{a:Addr}(I:Inv X pins σ H s)(d:IsD H a) :
  s.TypeIs (.ref a) "dict"/\(∀b,Value.ref a = .ref b->∃ob,s.heap.get? b=some ob/\ob.dict=none)/\(a==sysModules)=false:=by
 rcases d with⟨kvs,e⟩ | ⟨kvs,e⟩
 ·obtain⟨_,hd,vs,_,dd⟩:=W3 I.hok e;refine⟨dd.typeIs,fun b q=>?_,hd⟩;cases q;obtain⟨ob,_,_,h1,h2,_⟩:=dd;exact⟨ob,h1,h2.2.1⟩
 ·obtain⟨_,hd,xs,_,dd⟩:=W5 I.hok e;refine⟨dd.typeIs,fun b q=>?_,hd⟩;cases q;obtain⟨ob,_,_,h1,h2,_⟩:=dd;exact⟨ob,h1,h2.2.1⟩
section
variable{X:Cx}{pins:List (Addr×Obj)}{σ:St}{H:Hp}{s:Shared}{a:Addr}{y d:V}{u r:Value}{o:Option V}{A:Around}{E:Value->Shared->Prop}
theorem j4a{Q:Value->Shared->Prop}(hu:A.units+1<cLine)(I:Inv X pins σ H s)(g:DGet H a y o)(ry:RelV y u)(h:∀w' s',Inv X pins σ H s'->RelV (o.getD .non) w'->Q w' s') :
  wpAny (model X.prog X.w) A (call (.builtin "dict.get") [.ref a,u]) Q E s:=by
 rcases g with⟨kvs,k,e,ey,l⟩ | ⟨kvs,k,b,e,ey,eb,l⟩
 ·subst ey;obtain⟨z,hd,vs,rel,dd⟩:=W3 I.hok e;refine call_meetsIn PySem.F.slot_dict_get dd.typeIs PySem.F.entry_dict_get (PySem.F.args_dict_get_2 _ _) (meets_dict_get (mixKind X.prog X.w) a (X6 ry) hd) ⟨_,dd.mapOf,h _ _ (I.tok _) ?_⟩;rw[l];exact(rel.val k).getD rfl
 ·subst ey;cases(show u=Value.ref b from ry);obtain⟨z,hd,xs,rel,dd⟩:=W5 I.hok e;refine call_meetsIn PySem.F.slot_dict_get dd.typeIs PySem.F.entry_dict_get (PySem.F.args_dict_get_2 _ _) (meetsH_dict_get (tupleKind (mixKind X.prog X.w)) a b hd) ⟨tupleKind_room_in1 hu,k,xs,wV I.hok eb,dd,h _ _ (I.tok _) ?_⟩;rw[l];exact(rel.val k).getD rfl
end
def tDGet1(td ty:TE):TE:=fun σ H Q=>td σ H fun x H1=>∃a,x = .ref a/\IsD H1 a/\ty σ H1 fun y H2=>∃o,DGet H2 a y o/\Q (o.getD .non) H2
section
variable{X:Cx}{o e f:Expr}{apos cpos:Pos}{td ty tx:TE}
theorem j22(hu:X.A.units+1<cLine)(ho:PE X o td)(he:PE X e ty)(m:M1 X o "get" apos e cpos):PE X (.Call (.Attribute o "get" apos) [e] [] cpos) (tDGet1 td ty):=by
 intro pins s σ H Q I h;refine wpAny_Call_method m.base m.few m.line PySem.F.plainAttrs_dict PySem.F.slot_dict_get PySem.F.type_dict_get (thn (ho pins s σ H _ I h) fun u s1 ⟨x,H1,I1,rx,a,ex,d,q1⟩=>?_);subst ex;obtain rfl:u=Value.ref a:=rx;obtain⟨t1,t2,_⟩:=j4f I1 d;refine⟨t1,t2,?_⟩;rw[m.trees];refine Calls.callWith_builtin rfl (Calls.evalArgs_plain (Calls.spliced_cons (thn (he pins s1 σ H1 _ I1 q1) fun iv s2 ⟨y,H2,I2,ry,ov,g,q2⟩=>Calls.spliced_nil ?_)));exact j4a hu I2 g ry fun w' s3 I3 rw'=>⟨_,H2,I3,rw',q2⟩
end
section
variable{X:Cx}{pins:List (Addr×Obj)}{σ:St}{H:Hp}{s:Shared}{a:Addr}{kvs:List (Key×V)}{A:Around}{E:Value->Shared->Prop}
end
section
variable{X:Cx}{pins:List (Addr×Obj)}{σ:St}{H:Hp}{s:Shared}{a:Addr}{y:V}{u:Value}{A:Around}{E:Value->Shared->Prop}
end
section
variable{X:Cx}
end
section
variable{κ:Type}[DecidableEq κ]
theorem xR{kvs:List (κ×V)}{k:κ}(h:valV kvs k=none):¬k∈kvs.map (·.1):=by
 intro m;obtain⟨p,hp,e⟩:=mem_map.mp m;have q:(kvs.any fun kv=>decide (kv.1=k))=true:=any_eq_true.mpr ⟨p,hp,decide_eq_true e⟩;rw[Q0,h]at q;exact absurd q (by simp)
theorem j0i{kvs:List (κ×V)}{k:κ}{v:V}(h:valV kvs k=some v):k∈kvs.map (·.1):=by
 have q:(kvs.any fun kv=>decide (kv.1=k))=true:=by
  rw[Q0,h]
  all_goals rfl
 obtain⟨p,hp,e⟩:=any_eq_true.mp q;exact mem_map.mpr ⟨p,hp,of_decide_eq_true e⟩
theorem j03:∀{l:List κ} {k:κ},l.Nodup->¬k∈l->(l++[k]).Nodup
 | [],k,_,_=>by simp
 | a::r,k,h,hk=>by
  obtain⟨h1,h2⟩:=nodup_cons.mp h;show(a::(r++[k])).Nodup;refine nodup_cons.mpr ⟨fun m=>?_,j03 h2 fun m=>hk (mem_cons.mpr (Or.inr m))⟩;rcases mem_append.mp m with q | q
  ·exact h1 q
  ·exact hk (mem_cons.mpr (Or.inl (mem_singleton.mp q).symm))
theorem j3k{kvs:List (κ×V)}{k:κ}(v:V)(hn:(kvs.map (·.1)).Nodup)(h:valV kvs k=none):((putK kvs k v).map (·.1)).Nodup:=by
 rw[Kl v h,map_append];exact j03 hn (xR h)
end
theorem compLoopT{prog:Program}{w:World}{A:Around}{R:Result->Shared->Prop}{s:Shared}{elt target iter:Expr}{ifs:List Expr}{scope:Scope}{pos:Pos}{it acc:Value}{env:Env}(I:Nat->Shared->Prop)
  (turn:∀n s,I n s->wpAny (model prog w) A (pyNext it) (fun r s₁=>match r with
   | none=>R (.ok .next) s₁
   | some v=>wpAny (model prog w) A (letOwnedTupleGo target it v) (fun _ s₂=>wpAny (model prog w) A (assign target env v) (fun _ s₃=>
     wpAny (model prog w) A (forIn ifs true fun c r=>if r=true then do let ok <-isTrue c env (eval c env);pure (ForInStep.yield ok)else pure (ForInStep.yield r)) (fun ok s₄=>
      if ok=true then wpAny (model prog w) A (eval elt env) (fun x s₅=>
       wpAny (model prog w) A (call (.builtin "list.append") [acc,x]) (fun _ s₆=>∃m,m<n/\I m s₆) (fun _ _=>False) s₅) (fun _ _=>False) s₄
      else∃m,m<n/\I m s₄) (fun _ _=>False) s₃) (fun _ _=>False) s₂) (fun _ _=>False) s₁) (fun _ _=>False) s)
  (n:Nat) (h:I n s) :
  codeAny (model prog w) A (.compLoop (.ListComp elt [⟨target,iter,ifs,0⟩] scope pos) 0 it acc env) R s:=by
 refine codeAny_loop rfl I (fun n s hI=>?_) n h;show wpAny _ A ((compTurn (.ListComp elt [⟨target,iter,ifs,0⟩] scope pos) 0 it acc env).onRaise (fun x=>do noteFrame x env;theTreesLotGoes x)) _ _ s;refine wpAny_noted ?_;rw[compTurn_list];refine wpAny_bind (wpAny_standAt (wpAny_bind (wpAny_mono (turn n s hI) (fun r s₁ h₁=>?_) fun _ _ h'=>h'.elim)));cases r with
 | none=>exact wpAny_pure h₁
 | some v=>
  refine wpAny_bind (wpAny_mono h₁ (fun _ s₂ h₂=>?_) fun _ _ h'=>h'.elim);refine wpAny_bind (wpAny_mono h₂ (fun _ s₃ h₃=>wpAny_bind (wpAny_mono h₃ (fun ok s₄ h₄=>?_) fun _ _ h'=>h'.elim)) fun _ _ h'=>h'.elim);cases ok with
  | false=>exact wpAny_pure ⟨rfl,h₄⟩
  | true=>
   exact wpAny_bind (wpAny_bind (wpAny_mono h₄ (fun x s₅ h₅=>wpAny_bind (wpAny_mono h₅ (fun _ s₆ h₆=>wpAny_pure (wpAny_pure ⟨rfl,h₆⟩)) fun _ _ h'=>h'.elim)) fun _ _ h'=>h'.elim))
def PF(X:Cx)(ifs:List Expr)(t:TT):Prop:=
 ∀(pins:List (Addr×Obj)) (s:Shared) (σ:St) (H:Hp) (Q:Bool->Hp->Prop),Inv X pins σ H s->t σ H Q->
  wpAny (model X.prog X.w) X.A (forIn ifs true fun c r=>if r=true then do let ok <-isTrue c X.env (eval c X.env);pure (ForInStep.yield ok)else pure (ForInStep.yield r)) (TP X pins σ Q) X.xe s
def tYes:TT:=fun _ H Q=>Q true H
theorem qB{X:Cx}:PF X [] tYes:=fun _ _ _ H _ I h=>wpAny_tests_nil ⟨H,I,h⟩
theorem ZR{X:Cx}{c:Expr}{t:TT}(hc:PT X c t):PF X [c] t:=fun pins s σ H Q I h=>wpAny_tests_one (hc pins s σ H Q I h)
noncomputable def closL(env:Env):List (Str×NameKind)->List (Str×Addr)->List (Str×Addr)
 | [],acc=>acc
 | (n,k)::r,acc=>closL env r (if k == .free then(n,(env.cells.lookup n).getD 0)::acc else acc)
theorem yS{scope:Scope}{env:Env}(h:∀y∈scope.names,y.2 = .free->∃c,env.cells.lookup y.1=some c):closureFor scope env=pure (closL env scope.names []):=by
 have go:∀(names:List (Str×NameKind)) (acc:List (Str×Addr)),(∀y∈names,y.2 = .free->∃c,env.cells.lookup y.1=some c)->
   (forIn (m:=Sem) names acc fun x r=>(match x with | (name,kind)=>if(kind == .free)=true then do let a <-cellOf env name;pure (ForInStep.yield ((name,a)::r))else pure (ForInStep.yield r)))=pure (closL env names acc):=by
  intro names
  induction names with
  | nil=>intro acc _;rfl
  | cons y r ih=>
   obtain⟨n,k⟩:=y;intro acc hh;rw[List.forIn_cons];cases hk:(k==NameKind.free)with
   | true=>
    have hk':k = .free:=by simpa using hk
    obtain⟨c,hc⟩:=hh (n,k) mem_cons_self hk';have ec:cellOf env n=pure c:=by unfold cellOf;rw[hc]
    simp only[hk,if_true,ec,pure_bind,closL,hc,Option.getD_some];exact ih _ fun y hy=>hh y (mem_cons_of_mem _ hy)
   | false=>
    simp only[hk,Bool.false_eq_true,if_false,pure_bind,closL];exact ih _ fun y hy=>hh y (mem_cons_of_mem _ hy)
 have g:=go scope.names [] h;unfold closureFor;simp only[g,pure_bind]
theorem KU{env:Env}:∀(names:List (Str×NameKind)) (acc:List (Str×Addr)),(∀y∈names,y.2 = .free->∃c,env.cells.lookup y.1=some c)->(∀x c,acc.lookup x=some c->env.cells.lookup x=some c)->
  ∀x c,(closL env names acc).lookup x=some c->env.cells.lookup x=some c
 | [],_,_,ha,x,c,h=>ha x c h
 | (n,k)::r,acc,hh,ha,x,c,h=>by
  refine KU r _ (fun y hy=>hh y (mem_cons_of_mem _ hy)) (fun x c e=>?_) x c h;cases hk:(k==NameKind.free)with
  | false=>rw[hk]at e;exact ha x c e
  | true=>
   rw[hk]at e;have hk':k = .free:=by simpa using hk
   obtain⟨c',hc⟩:=hh (n,k) mem_cons_self hk';simp only[if_true,hc,Option.getD_some]at e;rw[lookup_cons]at e;cases hx:(x==n)with
   | true=>
    rw[hx]at e;have:x=n:=by simpa using hx
    rw[this,hc];exact e
   | false=>rw[hx]at e;exact ha x c e
theorem KS{env:Env}:∀(names:List (Str×NameKind)) (acc:List (Str×Addr)) (x:Str),(∃c,acc.lookup x=some c)->∃c,(closL env names acc).lookup x=some c
 | [],_,_,h=>h
 | (n,k)::r,acc,x,h=>by
  refine KS r _ x ?_;cases hk:(k==NameKind.free)with
  | false=>exact h
  | true=>
   simp only[if_true];rw[lookup_cons];cases hx:(x==n)with
   | true=>exact⟨_,rfl⟩
   | false=>exact h
theorem Yr{env:Env}:∀(names:List (Str×NameKind)) (acc:List (Str×Addr)) (x:Str),(x,NameKind.free)∈names->∃c,(closL env names acc).lookup x=some c
 | [],_,_,h=>by simp at h
 | (n,k)::r,acc,x,h=>by
  rcases mem_cons.mp h with e | h
  ·cases e;refine KS r _ _ ?_;simp
  ·exact Yr r _ x h
theorem zq{env:Env}:∀{names:List (Str×NameKind)} {x:Str} {k:NameKind},(names.map fun(n,k)=>if(k==NameKind.free&&env.scope.kind == .function&&env.kindOf n==some .cell)then(n,NameKind.cell)else(n,k)).lookup x=some k->
  ∃k',(x,k')∈names/\names.lookup x=some k'/\(k'=k\/(k' = .free/\k = .cell))
 | [],_,_,h=>by simp at h
 | (n,k₀)::r,x,k,h=>by
  have ih:=@zq env r x k;rw[map_cons]at h;dsimp only at h;cases hx:x==n with
  | true=>
   have e:x=n:=by simpa using hx
   subst e;refine⟨k₀,mem_cons_self,by simp,?_⟩;by_cases hc:(k₀==NameKind.free&&env.scope.kind == .function&&env.kindOf x==some .cell)=true
   ·rw[if_pos hc]at h;simp only[lookup_cons,beq_self_eq_true]at h;simp only[Bool.and_eq_true,beq_iff_eq]at hc;exact .inr ⟨hc.1.1,(Option.some.inj h).symm⟩
   ·rw[if_neg hc]at h;simp only[lookup_cons,beq_self_eq_true]at h;exact .inl (Option.some.inj h)
  | false=>
   have h':(r.map fun(n,k)=>if(k==NameKind.free&&env.scope.kind == .function&&env.kindOf n==some .cell)then(n,NameKind.cell)else(n,k)).lookup x=some k:=by
    by_cases hc:(k₀==NameKind.free&&env.scope.kind == .function&&env.kindOf n==some .cell)=true
    ·rw[if_pos hc]at h;simpa only[lookup_cons,hx]using h
    ·rw[if_neg hc]at h;simpa only[lookup_cons,hx]using h
   obtain⟨k',h1,h2,h3⟩:=ih h';exact⟨k',mem_cons_of_mem _ h1,by simpa only[lookup_cons,hx]using h2,h3⟩
theorem Yq:∀(names:List (Str×NameKind)) (n:Nat) (acc:List (Str×Addr)) (x:Str) (c:Addr),(cellsFrom n names acc).lookup x=some c->n<=c\/acc.lookup x=some c
 | [],_,_,_,_,h=>.inr h
 | (y,k)::r,n,acc,x,c,h=>by
  unfold cellsFrom at h;split at h
  ·rcases Yq r (n+1) _ x c h with q | q
   ·exact .inl (by omega)
   ·rw[lookup_cons]at q;cases hx:x==y with
    | true=>rw[hx]at q;cases q;exact .inl (Nat.le_refl _)
    | false=>rw[hx]at q;exact .inr q
  ·exact Yq r n acc x c h
theorem Xd:∀(names:List (Str×NameKind)) (n:Nat) (acc:List (Str×Addr)),(∀x c,acc.lookup x=some c->c<n)->(∀x y c,acc.lookup x=some c->acc.lookup y=some c->x=y)->
  ∀x y c,(cellsFrom n names acc).lookup x=some c->(cellsFrom n names acc).lookup y=some c->x=y
 | [],_,_,_,hi,x,y,c,h1,h2=>hi x y c h1 h2
 | (z,k)::r,n,acc,hb,hi,x,y,c,h1,h2=>by
  unfold cellsFrom at h1 h2;split at h1
  ·rename_i hk;rw[if_pos hk]at h2;refine Xd r (n+1) _ (fun x c e=>?_) (fun x y c e1 e2=>?_) x y c h1 h2
   ·rw[lookup_cons]at e;cases hx:x==z with
    | true=>rw[hx]at e;cases e;exact Nat.lt_succ_self _
    | false=>rw[hx]at e;exact Nat.lt_succ_of_lt (hb x c e)
   ·rw[lookup_cons]at e1 e2;cases hx:x==z with
    | true=>
     rw[hx]at e1;cases e1;cases hy:y==z with
     | true=>rw[beq_iff_eq.mp hx,beq_iff_eq.mp hy]
     | false=>rw[hy]at e2;exact absurd (hb y n e2) (Nat.lt_irrefl _)
    | false=>
     rw[hx]at e1;cases hy:y==z with
     | true=>rw[hy]at e2;cases e2;exact absurd (hb x n e1) (Nat.lt_irrefl _)
     | false=>rw[hy]at e2;exact hi x y c e1 e2
  ·rename_i hk;rw[if_neg hk]at h2;exact Xd r n acc hb hi x y c h1 h2
theorem wO:∀(names:List (Str×NameKind)) (n:Nat) (acc:List (Str×Addr)) (x:Str),(∃c,acc.lookup x=some c)->∃c,(cellsFrom n names acc).lookup x=some c
 | [],_,_,_,h=>h
 | (y,k)::r,n,acc,x,h=>by
  unfold cellsFrom;split
  ·refine wO r (n+1) _ x ?_;rw[lookup_cons];cases hx:x==y with
   | true=>exact⟨_,rfl⟩
   | false=>exact h
  ·exact wO r n acc x h
theorem Xc:∀(names:List (Str×NameKind)) (n:Nat) (acc:List (Str×Addr)) (x:Str),(x,NameKind.cell)∈names->∃c,(cellsFrom n names acc).lookup x=some c
 | [],_,_,_,h=>by simp at h
 | (y,k)::r,n,acc,x,h=>by
  unfold cellsFrom;rcases mem_cons.mp h with e | h
  ·cases e;simp only[beq_self_eq_true,if_true];exact wO r _ _ _ (by simp)
  ·split
   ·exact Xc r _ _ x h
   ·exact Xc r _ _ x h
theorem Xf:∀(names:List (Str×NameKind)) (n:Nat) (acc:List (Str×Addr)) (x:Str),(x,NameKind.cell)∉names->(cellsFrom n names acc).lookup x=acc.lookup x
 | [],_,_,_,_=>rfl
 | (y,k)::r,n,acc,x,h=>by
  have hr:(x,NameKind.cell)∉r:=fun q=>h (mem_cons_of_mem _ q)
  unfold cellsFrom;split
  ·rename_i hk;rw[Xf r _ _ x hr,lookup_cons];cases hx:x==y with
   | true=>rw[beq_iff_eq.mp hx,beq_iff_eq.mp hk]at h;exact absurd mem_cons_self h
   | false=>rfl
  ·exact Xf r n acc x hr
theorem Xe:∀(names:List (Str×NameKind)) (n₀ n:Nat) (acc:List (Str×Addr)) (x:Str) (c:Addr),n₀<=n->((x,NameKind.cell)∈names\/∀c,acc.lookup x=some c->n₀<=c)->(cellsFrom n names acc).lookup x=some c->n₀<=c
 | [],_,_,_,_,c,_,h,e=>h.elim (fun z=>by simp at z) fun z=>z c e
 | (y,k)::r,n₀,n,acc,x,c,hn,h,e=>by
  unfold cellsFrom at e;split at e
  ·refine Xe r n₀ (n+1) _ x c (by omega) ?_ e;rcases h with h | h
   ·rcases mem_cons.mp h with q | q
    ·cases q;exact .inr fun c q=>by rw[lookup_cons,beq_self_eq_true]at q;cases q;exact hn
    ·exact .inl q
   ·refine .inr fun c q=>?_
    rw[lookup_cons]at q;cases hx:x==y with
    | true=>rw[hx]at q;cases q;exact hn
    | false=>rw[hx]at q;exact h c q
  ·rename_i hk;refine Xe r n₀ n acc x c hn ?_ e;rcases h with h | h
   ·rcases mem_cons.mp h with q | q
    ·cases q;exact absurd rfl hk
    ·exact .inl q
   ·exact .inr h
theorem kG:∀(names:List (Str×NameKind)) (h:Heap) (acc:List (Str×Addr)) (x:Str) (c:Addr),(cellsFrom h.objs.size names acc).lookup x=some c->acc.lookup x=some c\/(pushCells h names).IsCell c none
 | [],_,_,_,_,e=>.inl e
 | (y,k)::r,h,acc,x,c,e=>by
  unfold cellsFrom at e;unfold pushCells;split
  ·rename_i hk;rw[if_pos hk]at e;rw[<-Heap.size_push h {cls:=.type "cell",data:=.cell none}]at e;rcases kG r _ _ x c e with q | q
   ·rw[lookup_cons]at q;cases hx:x==y with
    | true=>
     rw[hx]at q;cases q;exact .inr ⟨_,pushCells_keeps _ _ _ _ (Heap.get?_push_size _ rfl),rfl⟩
    | false=>rw[hx]at q;exact .inl q
   ·exact .inr q
  ·rename_i hk;rw[if_neg hk]at e;exact kG r h acc x c e
theorem envC{M:Model}{A:Around}{E:Value->Shared->Prop}{s:Shared}{scope:Scope}{globals:Addr}{cl:List (Str×Addr)}{qual:Str}{env:Env}{Q:Env->Shared->Prop}
  (h:Q (newEnv scope s.heap.objs.size globals (cellsFrom (s.heap.objs.size+1) scope.names cl) qual none .none (some env) builtinsNs) {s with heap:=pushCells (s.heap.push {cls:=.type "dict",data:=.dict #[]}) scope.names}) :
  wpAny M A (newFunctionEnv scope globals cl [] qual none .none (some env)) Q E s:=by
 simp only[newFunctionEnv,Option.isSome_some,if_true];refine wpAny_bind (wpAny_alloc ?_);refine wpAny_bind (wpAny_layCells _ (fun name kind cells=>by cases hkc:kind==NameKind.cell<;>simp[hkc]) _ _ _ _ ?_);rw[show({s with heap:=s.heap.push {cls:=.type "dict",data:=.dict #[]}}:Shared).heap.objs.size=s.heap.objs.size+1 from Heap.size_push ..];rw[List.forIn_nil];exact wpAny_bind (wpAny_pure (wpAny_pure h))
noncomputable def blk(X:Cx)(scope:Scope)(ow:List Str)(ci:List Nat)(C:Addr)(s₀:Shared)(H₀:Hp)(ex:List Addr)(pn:List (Addr×Obj)):Cx:=
 {X with N:=ow++ci.map fun j=>X.N.getD j "",s₀:=s₀,H₀:=H₀,env:=compEnvC scope (cellsFrom (C+1) scope.names (closL X.env scope.names [])) C X.env,outer:=X.stack,stack:=X.stack,ex:=ex,fn:=fun x=>scope.names.lookup x==some .cell,pn:=pn,xe:=fun _ _=>False}
structure CompScope(X:Cx)(scope:Scope)(ow:List Str)(ci:List Nat):Prop where
 kind:scope.kind = .function
 cell:∀y∈scope.names,y.2 = .cell->scope.names.lookup y.1=some .cell
 names:∀y∈scope.names,y.2 = .local->scope.names.lookup y.1=some .local
 free:∀y∈scope.names,y.2 = .free->X.env.kindOf y.1=some .cell\/X.env.kindOf y.1=some .free
 ix:∀j∈ci,j<X.N.length/\scope.names.lookup (X.N.getD j "")=some .free
noncomputable def compOk(fsc:Scope)(N:List Str)(scope:Scope)(ci:List Nat):Bool:=
 scope.kind == .function&&scope.names.all (fun y=>y.2 != .cell||scope.names.lookup y.1==some .cell)&&scope.names.all (fun y=>y.2 != .local||scope.names.lookup y.1==some .local) &&
 scope.names.all (fun y=>y.2 != .free||fsc.names.lookup y.1==some .cell||fsc.names.lookup y.1==some .free)&&ci.all (fun j=>decide (j<N.length)&&scope.names.lookup (N.getD j "")==some .free)
theorem CompScope.of{X:Cx}{scope:Scope}{ow:List Str}{ci:List Nat}(fsc:Scope)(N:List Str)(e1:X.env.scope=fsc)(e2:X.N=N)(h:compOk fsc N scope ci=true):CompScope X scope ow ci:=by
 subst e1 e2;unfold compOk at h;simp only[Bool.and_eq_true,all_eq_true,Bool.or_eq_true,bne_iff_ne,ne_eq,beq_iff_eq,decide_eq_true_eq]at h;obtain⟨⟨⟨⟨h1,h2⟩,h3⟩,h4⟩,h5⟩:=h;refine⟨h1,fun y hy e=>(h2 y hy).resolve_left fun z=>z e,fun y hy e=>?_,fun y hy e=>?_,fun j hj=>h5 j hj⟩
 ·rcases h3 y hy with z | z
  ·exact absurd e z
  ·exact z
 ·rcases h4 y hy with(z | z) | z
  ·exact absurd e z
  ·exact .inl z
  ·exact .inr z
theorem Ja{X:Cx}{scope:Scope}{ow:List Str}{ci:List Nat}{C:Addr}{s₀:Shared}{H₀:Hp}{ex:List Addr}{pn:List (Addr×Obj)}(N:List Str)(e:X.N=N)(h:(ow++ci.map fun j=>N.getD j "").Nodup):(blk X scope ow ci C s₀ H₀ ex pn).N.Nodup:=by
 subst e;exact h
theorem kU{env:Env}:∀{names:List (Str×NameKind)} {x:Str},(names.lookup x=some .cell\/names.lookup x=some .free)->
  (names.map fun(n,k)=>if(k==NameKind.free&&env.scope.kind == .function&&env.kindOf n==some .cell)then(n,NameKind.cell)else(n,k)).lookup x=some .cell\/
  (names.map fun(n,k)=>if(k==NameKind.free&&env.scope.kind == .function&&env.kindOf n==some .cell)then(n,NameKind.cell)else(n,k)).lookup x=some .free
 | [],_,h=>by simp at h
 | (n,k)::r,x,h=>by
  have ih:=@kU env r x;rw[map_cons];dsimp only;cases hx:x==n with
  | true=>
   simp only[lookup_cons,hx]at h;by_cases hc:(k==NameKind.free&&env.scope.kind == .function&&env.kindOf n==some .cell)=true
   ·rw[if_pos hc];exact .inl (by simp only[lookup_cons,hx])
   ·rw[if_neg hc];simp only[lookup_cons,hx];exact h
  | false=>
   simp only[lookup_cons,hx]at h;by_cases hc:(k==NameKind.free&&env.scope.kind == .function&&env.kindOf n==some .cell)=true
   ·rw[if_pos hc];simp only[lookup_cons,hx];exact ih h
   ·rw[if_neg hc];simp only[lookup_cons,hx];exact ih h
theorem CompScope.ofB{X:Cx}{scope₀ scope:Scope}{ow₀ ow:List Str}{ci₀ ci:List Nat}{C:Addr}{s₀:Shared}{H₀:Hp}{ex:List Addr}{pn:List (Addr×Obj)}(N:List Str)(e:(blk X scope₀ ow₀ ci₀ C s₀ H₀ ex pn).N=N)
  (h:compOk scope₀ N scope ci=true):CompScope (blk X scope₀ ow₀ ci₀ C s₀ H₀ ex pn) scope ow ci:=by
 unfold compOk at h;simp only[Bool.and_eq_true,all_eq_true,Bool.or_eq_true,bne_iff_ne,ne_eq,beq_iff_eq,decide_eq_true_eq]at h;obtain⟨⟨⟨⟨h1,h2⟩,h3⟩,h4⟩,h5⟩:=h;refine⟨h1,fun y hy e=>(h2 y hy).resolve_left fun z=>z e,fun y hy e=>(h3 y hy).resolve_left fun z=>z e,fun y hy q=>?_,fun j hj=>by rw[e];exact h5 j hj⟩;refine kU ?_;rcases h4 y hy with(z | z) | z
 ·exact absurd q z
 ·exact .inl z
 ·exact .inr z
noncomputable def capAt(σ:St)(j:Nat):Option V:=match σ[j]? with | some o=>o | none=>none
noncomputable def capS(n:Nat)(ci:List Nat)(σ:St):St:=List.replicate n none++ci.map (capAt σ)
def tComp(wi:TI)(n:Nat)(ci:List Nat)(g:TG)(tf:TT)(te:TE):TE:=fun σ H Q=>wi σ H fun J H1=>∃W:Nat->Nat->List V->Hp->Prop,(∃m,W 0 m [] H1)/\∀i m ys H,W i m ys H->
 (J.stop i H/\ys.length<=sizeLine/\∀p,H p=none->Q (.ref p) (upd H p (.lst ys)))\/
 (J.go i H/\∃N:List V->Hp->Prop,(∀ys' H',N ys' H'->∃m',m'<m/\W (i+1) m' ys' H')/\∀x H',J.yld i H x H'->g x (capS n ci σ) H' fun σ2 H2=>tf σ2 H2 fun b H3=>
  if b=true then te σ2 H3 fun v H4=>ys.length<sizeLine/\N (ys++[v]) H4 else N ys H3)
section
variable{X:Cx}{pins:List (Addr×Obj)}{σ:St}{H:Hp}{s:Shared}{elt iter tg:Expr}{ifs:List Expr}{scope:Scope}{pos:Pos}{ow:List Str}{ci:List Nat}{g:TG}{tf:TT}{te:TE}
theorem CompScope.cells(S:CompScope X scope ow ci)(ok:X.Ok):∀y∈scope.names,y.2 = .free->∃c,X.env.cells.lookup y.1=some c:=fun y hy e=>ok.has y.1 (S.free y hy e)
theorem CompScope.sub(S:CompScope X scope ow ci)(ok:X.Ok):∀x c,(closL X.env scope.names []).lookup x=some c->X.env.cells.lookup x=some c:=
 KU scope.names [] (S.cells ok) fun _ _ e=>by simp at e
theorem CompScope.cel(S:CompScope X scope ow ci)(ok:X.Ok){C:Addr}{x:Str}{c:Addr}(h:(cellsFrom (C+1) scope.names (closL X.env scope.names [])).lookup x=some c):C+1<=c\/X.env.cells.lookup x=some c:=
 (Yq _ _ _ _ _ h).imp id (S.sub ok x c)
theorem j46(S:CompScope X scope ow ci)(I:Inv X pins σ H s){C:Addr}{ex:List Addr}{pn:List (Addr×Obj)}(hC:s.heap.objs.size<=C)
  (hex:∀b∈ex,b<s.heap.objs.size/\FpOk X pins H b):(blk X scope ow ci C s H ex pn).Ok where
 mod:=I.ok.mod
 kind:=S.kind
 glob:=I.ok.glob
 blt:=I.ok.blt
 above:=hC
 inj:=Xd scope.names (C+1) _ (fun x c e=>by
   obtain⟨v,q⟩:=I.cell x c (S.sub I.ok x c e);exact Nat.lt_succ_of_le (Nat.le_of_lt (Nat.lt_of_lt_of_le q.lt hC))) fun x y c h1 h2=>I.ok.inj x y c (S.sub I.ok x c h1) (S.sub I.ok y c h2)
 has:=fun x h=>by
  have h':∃k,(relabel scope X.env).names.lookup x=some k/\(k = .cell\/k = .free):=by
   rcases h with h | h
   ·exact⟨_,h,.inl rfl⟩
   ·exact⟨_,h,.inr rfl⟩
  obtain⟨k,hl,hk⟩:=h';obtain⟨k',hm,_,e⟩:=zq (env:=X.env) hl;have hf:k' = .cell\/k' = .free:=by
   rcases e with e | ⟨e,_⟩
   ·subst e;exact hk
   ·exact .inr e
  rcases hf with hf | hf
  ·subst hf;exact Xc scope.names _ _ x hm
  ·subst hf;exact wO scope.names _ _ x (Yr scope.names [] x hm)
 cab:=fun x c h e=>Nat.le_trans (Nat.le_trans hC (Nat.le_succ _)) (Xe scope.names (C+1) (C+1) _ x c (Nat.le_refl _) (.inl (PySem.mem_of_lookup (beq_iff_eq.mp h))) e)
 hd:=I.ok.hd
 frames:=I.ok.frames
 stk:=.inl rfl
 exf:=fun b hb=>⟨Nat.ne_of_lt (Nat.lt_of_lt_of_le (hex b hb).1 hC),fun x c e=>(S.cel I.ok e).elim (fun q z=>Nat.lt_irrefl _ (Nat.lt_of_lt_of_le (z▸(hex b hb).1) (Nat.le_trans hC (Nat.le_trans (Nat.le_succ _) q)))) fun q=>(hex b hb).2.2.2.2.2.1 x c q⟩
 bs:=I.bs
 bsz:=Nat.le_trans I.ok.bsz I.sz
 noex:=fun b o e hb=>by
  obtain⟨_,_,_,h3,_⟩:=(hex b hb).2;rcases h3 with z | z
  ·exact I.ok.noex b o e z
  ·exact absurd (Nat.lt_of_lt_of_le (Heap.lt_size e) (Nat.le_trans I.ok.bsz z)) (Nat.lt_irrefl _)
 exfs:=fun b hb z=>by
  obtain⟨_,h1,h2,_⟩:=(hex b hb).2;rcases mem_cons.mp (I.stkSub b z)with e | e
  ·exact h1 e
  ·exact h2 e
 funs:=I.stack
 frf:=I.stkFree
theorem j0o(S:CompScope X scope ow ci)(I:Inv X pins σ H s){C:Addr}{ex:List Addr}{h₁:Heap}{t₁:Nat}{m₀:Str->Option Value}(hC:s.heap.objs.size<=C)
  (hex:∀b∈ex,b<s.heap.objs.size/\FpOk X pins H b) (hn:h₁.Ns C m₀) (k:∀b o,s.heap.get? b=some o->h₁.get? b=some o)
  (hnew:∀x c,(cellsFrom (C+1) scope.names (closL X.env scope.names [])).lookup x=some c->(closL X.env scope.names []).lookup x=some c\/h₁.IsCell c none) :
  Inv (blk X scope ow ci C s H ex (X.pn++pins)) [] (capS ow.length ci σ) H {s with heap:=h₁,toks:=t₁}:=by
 have ok:=j46 (pn:=X.pn++pins) S I hC hex;refine⟨ok,rfl,I.bare,Un.kept k,⟨m₀,hn,fun i x v e1 e2 e3=>?_⟩,fun x c e=>?_,I.hok.fresh hC,fun x c e=>(S.cel I.ok e).elim (fun q=>I.hok.fresh (Nat.le_trans hC (Nat.le_trans (Nat.le_succ _) q))) (I.freeC x c),fun p hp=>?_,I.hok.kept k,?_⟩
 ·have e1':(ow++ci.map fun j=>X.N.getD j "")[i]?=some x:=e1;unfold capS at e2;by_cases hi:i<ow.length
  ·rw[List.getElem?_append_left (by simpa using hi),List.getElem?_replicate,if_pos hi]at e2;cases e2
  ·rw[List.getElem?_append_right (by simpa using hi),List.getElem?_map,length_replicate]at e2;rw[List.getElem?_append_right (by omega),List.getElem?_map]at e1';cases hj:ci[i-ow.length]? with
   | none=>rw[hj]at e2;cases e2
   | some j=>
    rw[hj]at e1' e2;obtain⟨hl,hf⟩:=S.ix j (List.mem_of_getElem? hj);have ex':X.N.getD j ""= x:=Option.some.inj e1';have eN:X.N[j]?=some x:=by
     rw[<-ex',getD_eq_getElem?_getD,List.getElem?_eq_getElem hl];rfl
    have ev:σ[j]?=some (some v):=by
     have e2':capAt σ j=some v:=Option.some.inj e2;unfold capAt at e2';cases q:σ[j]? with
     | none=>rw[q]at e2';cases e2'
     | some o=>rw[q]at e2';rw[show o=some v from e2']
    rw[ex']at hf;have hmem:(x,NameKind.free)∈scope.names:=PySem.mem_of_lookup hf;have hk:=S.free _ hmem rfl;obtain⟨m,_,hl'⟩:=I.loc;have vis:Vis X.env.scope x:=by
     rcases hk with q | q
     ·exact .inr (.inl q)
     ·exact .inr (.inr q)
    obtain⟨u,r,lk⟩:=hl' j x v eN ev vis;refine⟨u,r,.inr ⟨?_,?_⟩⟩
    ·rcases e3 with q | q | q
     ·obtain⟨k',_,h2,h3⟩:=zq (env:=X.env) q;rw[hf]at h2;cases h2;rcases h3 with h3 | ⟨_,h3⟩<;>cases h3
     ·exact .inl q
     ·exact .inr q
    ·rcases lk with⟨q,_⟩ | ⟨_,c,hc,hcell⟩
     ·have q':X.env.kindOf x=some .local:=q;rcases hk with z | z<;>(rw[z]at q';cases q')
     ·obtain⟨c',hc'⟩:=Yr (env:=X.env) scope.names [] x hmem;have e:=S.sub I.ok x c' hc';rw[hc]at e;cases e;refine⟨c,?_,hcell.keeps k⟩;show(cellsFrom (C+1) scope.names (closL X.env scope.names [])).lookup x=some c;rw[Xf scope.names _ _ x fun z=>?_]
      ·exact hc'
      ·have:=S.cell _ z rfl;rw[hf]at this;cases this
 ·rcases hnew x c e with q | q
  ·obtain⟨v,q⟩:=I.cell x c (S.sub I.ok x c q);exact⟨v,q.keeps k⟩
  ·exact⟨_,q⟩
 ·have hp':p∈X.pn++pins:=by
   rcases mem_append.mp hp with z | z
   ·exact z
   ·cases z
  obtain⟨e,n,ne,nf,d⟩:=I.pin p hp';refine⟨k _ _ e,n,Nat.ne_of_lt (Nat.lt_of_lt_of_le (Heap.lt_size e) hC),fun z=>?_,d⟩;rcases mem_cons.mp (I.stkSub p.1 z)with q | q
  ·exact ne q
  ·exact nf q
 ·show(capS ow.length ci σ).length=(ow++ci.map fun j=>X.N.getD j "").length;simp[capS]
theorem Inv.forget{σ':St}(I:Inv X pins σ' H s)(n:Nat)(ci:List Nat)(σ:St)(hl:(capS n ci σ).length=X.N.length)(h:∀i v,n<=i->(capS n ci σ)[i]?=some (some v)->σ'[i]?=some (some v)):Inv X pins (capS n ci σ) H s:=
 I.weak (by rw[hl,I.len]) fun i v e=>by
  by_cases hi:n<=i
  ·exact h i v hi e
  ·unfold capS at e;rw[List.getElem?_append_left (by simpa using hi),List.getElem?_replicate,if_pos (by omega)]at e;cases e
def GKeeps(n:Nat)(g:TG):Prop:=∀x σ H (Q:St->Hp->Prop),g x σ H Q->g x σ H fun σ2 H2=>(∀(i:Nat) v,n<=i->σ[i]?=some (some v)->σ2[i]?=some (some v))/\Q σ2 H2
theorem Jf{n i:Nat}(h:i<n):GKeeps n (gName i):=fun x σ H Q q=>⟨fun j v hj e=>by rw[List.getElem?_set_ne (by omega)];exact e,q⟩
theorem kh{K:Frg}{n i j:Nat}(hi:i<n)(hj:j<n):GKeeps n (gTup K 2 (gCons (gName i) (gCons (gName j) gNil))):=fun x σ H Q q=>by
 obtain⟨a,xs,e1,e2,e3,v,r,e4,v',r',e5,e6,q⟩:=q;refine⟨a,xs,e1,e2,e3,v,r,e4,v',r',e5,e6,fun k u hk e=>?_,q⟩;rw[List.getElem?_set_ne (by omega),List.getElem?_set_ne (by omega)];exact e
theorem kH{E:Value->Shared->Prop}{J:It}{fp:List Addr}{it:Addr}{tn:Nat->Heap->Prop}{RR:Value->Addr->Result->Shared->Prop}(hc:X.calm=true)(S:CompScope X scope ow ci)(hk:GKeeps ow.length g)
  (hb:∀C s₀ H₀ ex pn,PG (blk X scope ow ci C s₀ H₀ ex pn) tg g/\PF (blk X scope ow ci C s₀ H₀ ex pn) ifs tf/\PE (blk X scope ow ci C s₀ H₀ ex pn) elt te)
  (I:Inv X pins σ H s) (T:Turn X.prog X.w X.K tg J fp it tn) (st:tn 0 s.heap) (hf:∀b∈fp,FpOk X pins H b) (Z:List V->Hp->Prop)
  (W:Nat->Nat->List V->Hp->Prop) (w0:∃m,W 0 m [] H)
  (turn:∀i m ys H,W i m ys H->(J.stop i H/\ys.length<=sizeLine/\Z ys H)\/
   (J.go i H/\∃N:List V->Hp->Prop,(∀ys' H',N ys' H'->∃m',m'<m/\W (i+1) m' ys' H')/\∀x H',J.yld i H x H'->g x (capS ow.length ci σ) H' fun σ2 H2=>tf σ2 H2 fun b H3=>
    if b=true then te σ2 H3 fun v H4=>ys.length<sizeLine/\N (ys++[v]) H4 else N ys H3))
  (fin:∀D C s' H' m ys,Inv X pins σ (upd H' D (.lst ys)) s'->H' D=none->Z ys H'->s'.heap.Ns C m->s.heap.objs.size<=C->C≠D->H' C=none->RR (.ref D) C (.ok .next) s') :
  wpAny (model X.prog X.w) X.A (newList []) (fun acc s₃=>wpAny (model X.prog X.w) X.A (newFunctionEnv scope X.env.globals (closL X.env scope.names []) [] X.env.qual none .none (some X.env)) (fun cenv s₄=>
   codeAny (model X.prog X.w) X.A (.compStart (.ListComp elt [⟨tg,iter,ifs,0⟩] scope pos) 0 (.ref it) acc {cenv with scope:=relabel scope X.env}) (RR acc cenv.locals) s₄) E s₃) E s:=by
 refine wpAny_newObj_type (envC ?_);dsimp only;generalize hs3:({s with heap:=s.heap.push {cls:=.type "list",dict:=none,data:=.seq ([]:List Value).toArray}}:Shared)=s3;have e3:s3.heap=s.heap.push {cls:=.type "list",dict:=none,data:=.seq ([]:List Value).toArray}:=by rw[<-hs3]
 rw[<-e3];generalize hh1:pushCells (s3.heap.push {cls:=.type "dict",data:=.dict #[]}) scope.names=h₁;have k3:∀b o,s.heap.get? b=some o->s3.heap.get? b=some o:=fun b o e=>by rw[e3];exact Heap.get?_push_of_some _ e
 have hsz:s3.heap.objs.size=s.heap.objs.size+1:=by rw[e3,Heap.size_push]
 have I3:Inv X pins σ H s3:=by rw[<-hs3];exact I.kept (t':=s.toks) fun b o e=>Heap.get?_push_of_some _ e
 have hD3:s3.heap.get? s.heap.objs.size=some {cls:=.type "list",dict:=none,data:=.seq ([]:List Value).toArray}:=by rw[e3];exact Heap.get?_push_size _ rfl
 generalize hDD:s.heap.objs.size=D at *;generalize hCC:s3.heap.objs.size=C at *;have hDC:D<C:=by omega
 have hHD:H D=none:=I.hok.fresh (Nat.le_of_eq hDD);have fpD:FpOk X pins H D:=I.fpOk (Nat.le_of_eq hDD) hHD;have ltD:∀(b:Addr) o,s.heap.get? b=some o->b<D:=fun b o e=>by rw[<-hDD];exact Heap.lt_size e
 have ltC:∀(b:Addr) o,s3.heap.get? b=some o->b<C:=fun b o e=>by rw[<-hCC];exact Heap.lt_size e
 have hflt:∀b∈fp,b<D:=fun b hb=>by
  obtain⟨o,e,_⟩:=T.obj 0 _ st b hb;exact ltD b o e
 have hex:∀b∈D::fp,b<s3.heap.objs.size/\FpOk X pins H b:=fun b hb=>by
  rw[hCC];rcases mem_cons.mp hb with rfl | hb
  ·exact⟨hDC,fpD⟩
  ·exact⟨Nat.lt_trans (hflt b hb) hDC,hf b hb⟩
 have kk:∀b o,s3.heap.get? b=some o->h₁.get? b=some o:=fun b o e=>by rw[<-hh1];exact pushCells_keeps _ _ b o (Heap.get?_push_of_some _ e)
 have hns₁:h₁.Ns C fun _=>none:=by rw[<-hh1,<-hCC];exact(Heap.Ns.new s3.heap (.type "dict")).keeps (pushCells_keeps _ _)
 have hnew:∀x c,(cellsFrom (C+1) scope.names (closL X.env scope.names [])).lookup x=some c->(closL X.env scope.names []).lookup x=some c\/h₁.IsCell c none:=fun x c e=>by
  rw[<-hh1];refine kG scope.names _ _ x c ?_;rw[Heap.size_push,hCC];exact e
 obtain⟨hg,hfl,he⟩:=hb C s3 H (D::fp) (X.pn++pins);generalize hY:blk X scope ow ci C s3 H (D::fp) (X.pn++pins)=Y at hg hfl he;have Yprog:Y.prog=X.prog:=by rw[<-hY];rfl
 have Yw:Y.w=X.w:=by rw[<-hY];rfl
 have YK:Y.K=X.K:=by rw[<-hY];rfl
 have YA:Y.A=X.A:=by rw[<-hY];rfl
 have Yc:Y.calm=true:=by rw[<-hY];exact hc
 have Yenv:Y.env=compEnvC scope (cellsFrom (C+1) scope.names (closL X.env scope.names [])) C X.env:=by rw[<-hY];rfl
 have Yxe:Y.xe=fun _ _=>False:=by rw[<-hY];rfl
 have Yfs:Y.fs=frs X.stack:=by rw[<-hY];rfl
 have Yex:Y.ex=D::fp:=by rw[<-hY];rfl
 have Ypn:Y.pn=X.pn++pins:=by rw[<-hY];rfl
 have Ys:Y.s₀=s3:=by rw[<-hY];rfl
 have YH:Y.H₀=H:=by rw[<-hY];rfl
 have YN:(capS ow.length ci σ).length=Y.N.length:=by rw[<-hY];show(capS ow.length ci σ).length=(ow++ci.map fun j=>X.N.getD j "").length;simp[capS]
 have own:∀b∈D::fp,b≠Y.env.locals/\b∉Y.fs/\b∈Y.ex/\(∀x c,Y.env.cells.lookup x=some c->c≠b)/\∀p∈Y.pn,p.1≠b:=fun b hb=>by
  obtain⟨h0,h1,h2,h3,h4,h5⟩:=(hex b hb).2;refine⟨by rw[Yenv];exact Nat.ne_of_lt (hCC▸(hex b hb).1),fun z=>?_,by rw[Yex];exact hb,fun x c e=>?_,by rw[Ypn];exact h5⟩
  ·rw[Yfs]at z;rcases mem_cons.mp (I.stkSub b z)with q | q
   ·exact h1 q
   ·exact h2 q
  ·rw[Yenv]at e;rcases S.cel I.ok e with q | q
   ·exact fun z=>Nat.lt_irrefl _ (Nat.lt_of_lt_of_le (hCC▸(hex b hb).1) (Nat.le_trans (Nat.le_succ _) (z▸q)))
   ·exact h4 x c q
 have nDf:D∉fp:=fun z=>Nat.lt_irrefl _ (hflt D z)
 have loop:∀s4:Shared,Inv Y [] (capS ow.length ci σ) H s4->tn 0 s4.heap->s4.heap.PlainList D #[]->
   codeAny (model X.prog X.w) X.A (.compLoop (.ListComp elt [⟨tg,iter,ifs,0⟩] scope pos) 0 (.ref it) (.ref D) (compEnvC scope (cellsFrom (C+1) scope.names (closL X.env scope.names [])) C X.env)) (RR (.ref D) C) s4:=by
  intro s4 J4 st4 pl4;obtain⟨m0,w0⟩:=w0;refine compLoopT (fun n s'=>∃i ys its H',Inv Y [] (capS ow.length ci σ) H' s'/\tn i s'.heap/\(∀b∈fp,H' b=none)/\H' D=none/\s'.heap.PlainList D its/\Vals ys its.toList/\W i n ys H') ?_ m0
   ⟨0,[],#[],H,J4,st4,fun b hb=>(hf b hb).1,hHD,pl4,.nil,w0⟩
  rintro n s5 ⟨i,ys,its,H5,J5,st5,fr5,hD5,⟨pn5,pl5⟩,va5,w5⟩;have vl:ys.length=its.size:=by have:=va5.length;simpa using this
  have pinD:∀{H':Hp} {s':Shared} {σ':St},Inv Y [] σ' H' s'->H' D=none->∀{o:Obj},s'.heap.get? D=some o->(∀v,o.data≠.cell v)->Inv Y [(D,o)] σ' H' s':=fun {H' s' σ'} K hD o e d=>
   K.pins_of fun p hp=>by
    have ep:p=(D,o):=by simpa using hp
    subst ep;obtain⟨a1,a2,_⟩:=own D mem_cons_self;exact⟨e,hD,a1,a2,d⟩
  have P5:=pinD J5 hD5 pl5 (fun v z=>by cases z);have fpk:∀{H':Hp},(∀b∈fp,H' b=none)->∀{o:Obj},∀b∈fp,FpOk Y [(D,o)] H' b:=fun {H'} hn {o} b hb=>by
   obtain⟨a1,a2,a3,a4,a5⟩:=own b (mem_cons_of_mem _ hb);refine⟨hn b hb,a1,a2,.inl a3,a4,fun p hp=>?_⟩;rcases mem_append.mp hp with q | q
   ·exact a5 p q
   ·have ep:p=(D,o):=by simpa using q
    subst ep;exact fun z=>nDf (by have z':D=b:=z;rw[z'];exact hb)
  rcases turn i n ys H5 w5 with⟨stop,hsz5,z5⟩ | ⟨go,NN,hNN,step⟩
  ·have d:=T.done Y Yprog Yw YK Yc i [(D,_)] s5 _ H5 (fun _ _=>False) P5 (fpk fr5) st5 stop;rw[YA]at d;refine thn d fun r s6 ⟨hr,J6⟩=>?_
   subst hr;have D6:=(J6.pin (D,_) (mem_append_right _ mem_cons_self)).1;obtain⟨mC,hnC,_⟩:=J6.loc;rw[Yenv]at hnC;have hnC':s6.heap.Ns C mC:=hnC;have hC6:H5 C=none:=by have:=J6.free;rw[Yenv]at this;exact this
   refine fin D C s6 H5 mC ys ?_ hD5 z5 hnC' (Nat.le_of_lt hDC) (Nat.ne_of_gt hDC) hC6;have B:=J6.base;rw[Yfs,Yex,YH,Ys]at B;have low:∀b o,s.heap.get? b=some o->b≠D/\b≠C:=fun b o e=>⟨Nat.ne_of_lt (ltD b o e),Nat.ne_of_lt (Nat.lt_trans (ltD b o e) hDC)⟩
   have nex:∀b o,s.heap.get? b=some o->b∉fp->b∉D::fp:=fun b o e hb z=>by
    rcases mem_cons.mp z with q | q
    ·exact(low b o e).1 q
    ·exact hb q
   have uN:Un (frs X.stack) fp H (upd H5 D (.lst ys)) s.heap s6.heap:=by
    refine⟨fun b o e n hb hx=>B.keep b o (k3 b o e) n hb (nex b o e hx),fun b o e n hb hx=>B.slot b o (k3 b o e) n hb (nex b o e hx),fun b o e n hx=>?_,fun b o e hx=>B.there b o (k3 b o e) (nex b o e hx),fun b xs q=>?_,fun b o u q=>?_,fun b ps q=>?_⟩
    ·rw[jh (low b o e).1];exact B.free b o (k3 b o e) n (nex b o e hx)
    ·rw[jh (jg (B.tups b xs q) hD5)];exact B.tups b xs q
    ·rw[jh (jg (B.frzs b o u q) hD5)];exact B.frzs b o u q
    ·obtain⟨mo,q'⟩:=B.tbls b ps q;exact⟨mo,by rw[jh (jg q' hD5)];exact q'⟩
   have hok6:HOk X.prog X.w H5 s6.heap:=by rw[<-Yprog,<-Yw];exact J6.hok
   have hokN:HOk X.prog X.w (upd H5 D (.lst ys)) s6.heap:=fun b u e=>by
    by_cases hbD:b=D
    ·subst hbD;rw[jA]at e;cases e;exact⟨hsz5,its.toList,_,va5,by simpa using D6⟩
    ·rw[jh hbD]at e;exact(hok6 b u e).stay (fun c v _ q=>q) (fun c q=>by rw[jh (jg q hD5)];exact q) fun c xs q=>by rw[jh (jg q hD5)];exact q
   refine I.call' (by rw[J6.os,Ys,<-hs3]) uN hokN J6.bare fun b hb=>?_
   obtain⟨h0,h1,h2,h3,h4,h5⟩:=hf b hb;exact⟨h3,h1,h4,h5⟩
  ·have d:=T.item Y Yprog Yw YK Yc i [(D,_)] s5 _ H5 (fun _ _=>False) P5 (fpk fr5) st5 go;rw[YA]at d;refine thn d fun r s6 ⟨u,hr,h6⟩=>?_
   subst hr;refine thn h6 fun _ s7 ⟨x,H7,J7,r7,y7,st7,fr7⟩=>?_
   have J7':=J7.pinned (fpk fr7) (T.obj _ _ st7);have h8:=hg _ s7 _ H7 x u _ J7' r7 (hk _ _ _ _ (step x H7 y7));rw[Yprog,Yw,YA,Yenv,Yxe]at h8;refine thn h8 fun _ s8 ⟨σ8,H8,J8,ks8,q8⟩=>?_
   have h9:=hfl _ s8 σ8 H8 _ J8 q8;rw[Yprog,Yw,YA,Yenv,Yxe]at h9;refine thn h9 fun b s9 ⟨H9,J9,q9⟩=>?_
   have back:∀{H':Hp} {s':Shared},Inv Y ([(D,({cls:=.type "list",data:=.seq its pn5}:Obj))]++pinsAt fp s7.heap) σ8 H' s'->Inv Y [] (capS ow.length ci σ) H' s'/\tn (i+1) s'.heap/\(∀b∈fp,H' b=none)/\H' D=none/\s'.heap.get? D=some {cls:=.type "list",data:=.seq its pn5}:=fun {H' s'} K=>by
    have pD:=K.pin (D,_) (mem_append_right _ (mem_append_left _ mem_cons_self));refine⟨(K.pins_of (pins':=[]) (by simp)).forget _ _ _ YN (fun j v hj e=>ks8 j v hj e),T.keep _ _ _ st7 fun b hb o e=>(K.pin (b,o) (mem_append_right _ (mem_append_right _ (Zk hb e)))).1,fun b hb=>?_,pD.2.1,pD.1⟩;obtain⟨o,e,_⟩:=T.obj _ _ st7 b hb;exact(K.pin (b,o) (mem_append_right _ (mem_append_right _ (Zk hb e)))).2.1
   cases b with
   | false=>
    rw[if_neg Bool.false_ne_true]at q9|-;obtain⟨m',hm,w9⟩:=hNN _ _ q9;obtain⟨K9,st9,fr9,hD9,e9⟩:=back J9;exact⟨m',hm,i+1,ys,its,H9,K9,st9,fr9,hD9,⟨_,e9⟩,va5,w9⟩
   | true=>
    rw[if_pos rfl]at q9|-;have h10:=he _ s9 σ8 H9 _ J9 q9;rw[Yprog,Yw,YA,Yenv,Yxe]at h10;refine thn h10 fun z s10 ⟨v,H10,J10,r10,hlt,n10⟩=>?_
    obtain⟨m',hm,w10⟩:=hNN _ _ n10;obtain⟨K10,st10,fr10,hD10,e10⟩:=back J10;refine wpAny_list_append_plain (hsz:=by rw[<-vl];exact Nat.le_of_lt hlt) ⟨_,e10⟩ fun h11 pl11 hs11=>?_
    obtain⟨a1,a2,a3,a4,a5⟩:=own D mem_cons_self;have K11:Inv Y [] (capS ow.length ci σ) H10 {s10 with heap:=h11}:=K10.turned (t':=s10.toks) (fun b o hb e=>(hs11.2 b hb).trans e) hD10 a1 (.inl a3) a4 (fun p hp=>a5 p (by simpa using hp));refine⟨m',hm,i+1,ys++[v],its.push z,H10,K11,T.keep _ _ _ st10 fun b hb o e=>(hs11.2 b (fun q=>nDf (q▸hb))).trans e,fr10,hD10,pl11,?_,w10⟩;rw[Array.toList_push];exact va5.append (.cons r10 .nil)
 have J4:Inv Y [] (capS ow.length ci σ) H {s3 with heap:=h₁}:=by
  rw[<-hY];exact j0o (t₁:=s3.toks) S I3 (Nat.le_of_eq hCC) hex hns₁ kk hnew
 have st4:tn 0 h₁:=T.keep _ _ _ st fun b _ o e=>kk b o (k3 b o e)
 have pl4:h₁.PlainList D #[]:=⟨_,kk _ _ hD3⟩
 have L:=loop _ J4 st4 pl4;subst hs3;exact codeAny_compStart_list L (T.self _ 0 _ _ _ st4 L)
variable{wi:TI}
theorem Jj(hc:X.calm=true)(S:CompScope X scope ow ci)(hk:GKeeps ow.length g)(hi:PI X tg iter wi)
  (hb:∀C s₀ H₀ ex pn,PG (blk X scope ow ci C s₀ H₀ ex pn) tg g/\PF (blk X scope ow ci C s₀ H₀ ex pn) ifs tf/\PE (blk X scope ow ci C s₀ H₀ ex pn) elt te)
  (hs:∀x,foldedSetIterable iter X.env x=pure x:=by intro _;rfl):PE X (.ListComp elt [⟨tg,iter,ifs,0⟩] scope pos) (tComp wi ow.length ci g tf te):=by
 intro pins s σ H Q I h;rw[eval_ListComp];refine wpAny_comprehension_free (use:=none) rfl hs (yS (S.cells I.ok)) S.kind S.names (thn (hi pins s σ H _ I h) fun v s1 h1=>thn h1 fun itv s2 h2=>?_);obtain⟨it,fp,tn,J,H2,e,I2,T,st2,f2,W,w0,turn⟩:=h2;subst e;refine kH (RR:=fun acc C=>compPost (model X.prog X.w) X.A X.xe none (EP X pins σ Q) acc C) hc S hk hb I2 T st2 f2 (fun ys H=>∀p,H p=none->Q (.ref p) (upd H p (.lst ys))) W w0 turn fun D C s' H' m ys K hD z hn hC hCD hC0=>?_
 refine⟨m,hn,fun h' hs'=>⟨.ref D,upd H' D (.lst ys),?_,rfl,z D hD⟩⟩;obtain⟨f0,f1,f2',f3,f4,f5⟩:=I2.fpOk (H':=upd H' D (.lst ys)) hC (by rw[jh hCD];exact hC0);exact K.turned (t':=s'.toks) (fun b o hb e=>(hs'.2 b hb).trans e) f0 f1 f3 f4 f5
theorem Ye{i:Nat}{x:Str}{px spos:Pos}(hc:X.calm=true)(S:CompScope X scope ow ci)(hk:GKeeps ow.length g)(hN:X.N.Nodup)(hx1:X.N[i]?=some x)(hx:Loc X.env.scope x)(hi:PI X tg iter wi)
  (hb:∀C s₀ H₀ ex pn,PG (blk X scope ow ci C s₀ H₀ ex pn) tg g/\PF (blk X scope ow ci C s₀ H₀ ex pn) ifs tf/\PE (blk X scope ow ci C s₀ H₀ ex pn) elt te)
  (hsw:swapsWith (.ListComp elt [⟨tg,iter,ifs,0⟩] scope pos) (some (.Name x px)) spos.line X.env=pure true:=by rfl)
  (hf:X.fn x=true\/X.env.scope.names.lookup x=some .local:=by first | exact .inl rfl | exact .inr rfl | assumption)
  (hs:∀x,foldedSetIterable iter X.env x=pure x:=by intro _;rfl):PS X (.Assign [.Name x px] (.ListComp elt [⟨tg,iter,ifs,0⟩] scope pos) spos) (tAsg (tComp wi ow.length ci g tf te) (gName i)):=by
 intro pins s σ H D I h;rw[exec_Assign_Name_used _ _ _ _ hsw];refine wpAny_bind (wpAny_standAt (wpAny_bind ?_));show wpAny _ X.A (do let _ <-comprehension (.ListComp elt [⟨tg,iter,ifs,0⟩] scope pos) scope X.env _ (newList []) false (eval iter X.env) (some (assign (.Name x px) X.env))) _ _ s;refine wpAny_bind (wpAny_mono (wpAny_comprehension_free (use:=some (assign (.Name x px) X.env)) (Q:=fun _ s'=>SP X pins D .next s') rfl hs (yS (S.cells I.ok)) S.kind S.names
  (thn (hi pins s σ H _ I h) fun v s1 h1=>thn h1 fun itv s2 h2=>?_)) (fun _ s' hq=>wpAny_pure (wpAny_pure hq)) fun _ _ e=>e)
 obtain⟨it,fp,tn,J,H2,e,I2,T,st2,f2,W,w0,turn⟩:=h2;subst e;refine kH (RR:=fun acc C=>compPost (model X.prog X.w) X.A X.xe (some (assign (.Name x px) X.env)) (fun _ s'=>SP X pins D .next s') acc C) hc S hk hb I2 T st2 f2
  (fun ys H=>∀p,H p=none->gName i (.ref p) σ (upd H p (.lst ys)) D.nx) W w0 turn fun P C s' H' m ys K hD z hn hC hCD hC0=>?_
 obtain⟨f0,f1,f2',f3,f4,f5⟩:=I2.fpOk (H':=upd H' P (.lst ys)) hC (by rw[jh hCD];exact hC0);show wpAny _ X.A (assign (.Name x px) X.env (.ref P)) _ _ s';refine wpAny_assign_Name (wu K hN hx1 hx (v:=.ref P) rfl (fun s3 K3 ⟨a,hs3,ha⟩=>⟨m,hn.sameBut hs3 ?_,fun h' hs'=>?_⟩) hf)
 ·rcases ha with q | q
  ·rw[q];exact f1
  ·exact fun z=>f4 x a q z.symm
 ·exact⟨_,_,K3.turned (t':=s3.toks) (fun b o hb e=>(hs'.2 b hb).trans e) f0 f1 f3 f4 f5,z P hD⟩
theorem zk{lo:Int}{n k:Nat}{ci:List Nat}{g:TG}{tf:TT}{te:TE}{σ:St}{H:Hp}{Z:Addr->List V->Hp->Prop}(Pv:Nat->List V->Hp->Prop)(h0:Pv 0 [] H)
  (hs:∀i ys H,i<n->Pv i ys H->g (.int (lo+i)) (capS k ci σ) H fun σ2 H2=>tf σ2 H2 fun b H3=>if b=true then te σ2 H3 fun v H4=>ys.length<sizeLine/\Pv (i+1) (ys++[v]) H4 else Pv (i+1) ys H3)
  (hd:∀ys H,Pv n ys H->ys.length<=sizeLine/\∀p,H p=none->Z p ys H) :
  ∃W:Nat->Nat->List V->Hp->Prop,(∃m,W 0 m [] H)/\∀i m ys H,W i m ys H->
   ((Itr lo n).stop i H/\ys.length<=sizeLine/\∀p,H p=none->Z p ys H)\/
   ((Itr lo n).go i H/\∃N:List V->Hp->Prop,(∀ys' H',N ys' H'->∃m',m'<m/\W (i+1) m' ys' H')/\∀x H',(Itr lo n).yld i H x H'->g x (capS k ci σ) H' fun σ2 H2=>tf σ2 H2 fun b H3=>
    if b=true then te σ2 H3 fun v H4=>ys.length<sizeLine/\N (ys++[v]) H4 else N ys H3):=by
 refine⟨fun i m ys H=>m=n-i/\i<=n/\Pv i ys H,⟨n,by simp,Nat.zero_le _,h0⟩,?_⟩;rintro i m ys H ⟨rfl,hi,p⟩;by_cases hlt:i<n
 ·refine .inr ⟨hlt,Pv (i+1),fun ys' H' p'=>⟨n-(i+1),by omega,rfl,hlt,p'⟩,fun x H' y=>?_⟩;obtain⟨e,y⟩:=y;subst e y;exact hs i ys _ hlt p
 ·have e:i=n:=by omega
  subst e;exact .inl ⟨Nat.le_refl _,hd ys H p⟩
theorem Je{K:Frg}{a:Addr}{xs:List V}{k:Nat}{ci:List Nat}{g:TG}{tf:TT}{te:TE}{σ:St}{H:Hp}{Z:Addr->List V->Hp->Prop}(Pv:Nat->List V->Hp->Prop)(h0:Pv 0 [] H)(hl:∀i ys H,i<=xs.length->Pv i ys H->SqL K H a xs)
  (hs:∀i x ys H,xs[i]?=some x->Pv i ys H->g x (capS k ci σ) H fun σ2 H2=>tf σ2 H2 fun b H3=>if b=true then te σ2 H3 fun v H4=>ys.length<sizeLine/\Pv (i+1) (ys++[v]) H4 else Pv (i+1) ys H3)
  (hd:∀ys H,Pv xs.length ys H->ys.length<=sizeLine/\∀p,H p=none->Z p ys H) :
  ∃W:Nat->Nat->List V->Hp->Prop,(∃m,W 0 m [] H)/\∀i m ys H,W i m ys H->
   ((Itl K a).stop i H/\ys.length<=sizeLine/\∀p,H p=none->Z p ys H)\/
   ((Itl K a).go i H/\∃N:List V->Hp->Prop,(∀ys' H',N ys' H'->∃m',m'<m/\W (i+1) m' ys' H')/\∀x H',(Itl K a).yld i H x H'->g x (capS k ci σ) H' fun σ2 H2=>tf σ2 H2 fun b H3=>
    if b=true then te σ2 H3 fun v H4=>ys.length<sizeLine/\N (ys++[v]) H4 else N ys H3):=by
 refine⟨fun i m ys H=>m=xs.length-i/\i<=xs.length/\Pv i ys H,⟨xs.length,by simp,Nat.zero_le _,h0⟩,?_⟩;rintro i m ys H ⟨rfl,hi,p⟩;have q:=hl i ys H hi p;by_cases hlt:i<xs.length
 ·refine .inr ⟨⟨xs,xs[i],q,by simp[hlt]⟩,Pv (i+1),fun ys' H' p'=>⟨xs.length-(i+1),by omega,rfl,hlt,p'⟩,fun x H' y=>?_⟩;obtain⟨e,y⟩:=y;subst e;exact hs i x ys _ (y xs q) p
 ·have e:i=xs.length:=by omega
  subst e;exact .inl ⟨⟨xs,q,Nat.le_refl _⟩,hd ys H p⟩
end
theorem j09:(10:Nat)^250<2^831:=by decide +kernel
theorem WX{x:Int}(h1 : -10^250<=x)(h2:x<=10^250):Builtin.Int.intBits x<=1048576:=by
 refine Nat.le_trans (PySem.intBits_le_iff.mpr ?_:Builtin.Int.intBits x<=831) (by decide);have:x.natAbs<=10^250:=by omega
 exact Nat.lt_of_le_of_lt this j09
theorem mulOk{x y:Int}(h1 : -10^250<=x)(h2:x<=10^250)(h3 : -10^250<=y)(h4:y<=10^250):IntMulOk x y:=.of_bits (WX h1 h2) (WX h3 h4)
section
variable{X:Cx}
theorem qy:OpR X (binaryOp .Mult) (rI IntMulOk fun i j=>.int (i*j)):=opI fun _ _ _ _ _ _ _ hc q=>mul_int q hc
def CDivB(_ j:Int):Prop:=0<j/\j<=10^250
theorem cdivB{i j:Int}(h1:0<j)(h2:j<=10^250):CDivB i j:=⟨h1,h2⟩
theorem ql:OpR X (binaryOp .FloorDiv) (rI CDivB fun i j=>.int (i/j)):=opI fun i j _ _ _ _ _ hc q=>by
 have h1:(0:Int)<j:=hc.1;have h2:j<=10^250:=hc.2;refine floordiv_int (by omega) ?_ (.inl (PyProof.noPylong_of_log2 ?_))
 ·rw[Int.fdiv_eq_ediv_of_nonneg _ (by omega)];exact q
 ·have e:j.natAbs<=10^250:=by omega
  have g:j.natAbs.log2<831:=(Nat.log2_lt (by omega)).mpr (Nat.lt_of_le_of_lt e j09);omega
theorem WZ:CallR X (.builtin "isinstance") (fun xs H Q=>∃x T t b,xs=[x,.ty T]/\TyOf X.K H x t/\PySem.W.kitOne X.K t (.type T)=some b/\Q (.bl b) H):=by
 intro pins s σ H xs us Q I r h;obtain⟨x,T,t,b,rfl,ty,e,q⟩:=h;obtain⟨u,w',rfl,rx,rT⟩:=vals2 r;cases(show w'=Value.type T from rT);exact j0A I rx ty e fun tk=>⟨.bl b,H,I.tok _,rfl,q⟩
theorem j15{prog:Program}{w:World}{A:Around}{E:Value->Shared->Prop}{s:Shared}{l:Addr}{xs:Array (Int×Tok)}{Q:Value->Shared->Prop}(hh:A.handled=none)(hl:s.heap.IsList l (intItems xs))
  (h:∀h' tk t',(∀b o,s.heap.get? b=some o->h'.get? b=some o)->Q (.int (preSum (numAt xs) xs.size) t') {s with heap:=h',toks:=tk}) :
  wpAny (model prog w) A (call (.builtin "sum") [.ref l]) Q E s:=by
 obtain⟨o,ho,hc,n,hd⟩:=id hl;have hne:l≠s.heap.objs.size:=Nat.ne_of_lt (Heap.lt_size ho);have hsz:(intItems xs).size=xs.size:=by simp[intItems]
 have W:=(Walks.list (prog:=prog) (w:=w) (A:=A.in1) hh s.heap.objs.size l hne (intItems xs)).toS;rw[hsz]at W;refine call_sum_walkAnyS (wpAny_pyIter_list hl ?_);refine⟨s.heap.objs.size,_,_,_,_,_,_,numAt xs,rfl,W,⟨⟨_,Heap.get?_push_size _ rfl,rfl,rfl⟩,hl.at fun o e=>Heap.get?_push_of_some _ e⟩,fun b hb=>?_,fun i v hP=>intItems_at hP,fun s' t' hm=>?_⟩
 ·rcases mem_cons.mp hb with rfl | hb
  ·exact Heap.lt_size (Heap.get?_push_size _ rfl)
  ·obtain rfl:=mem_singleton.mp hb;exact Heap.lt_size (Heap.get?_push_of_some _ ho)
 ·obtain⟨h',g',d',tk',os'⟩:=s';have e1:g'=s.gens:=hm.gens;have e2:d'=s.drawn:=hm.drawn;have e3:os'=s.os:=hm.os;subst e1 e2 e3;exact h h' tk' t' fun b o e=>hm.heap b o (fun hb=>absurd (Heap.lt_size e) ((mem_singleton.mp hb)▸Nat.lt_irrefl _)) (Heap.get?_push_of_some _ e)
theorem KR(hc:X.calm=true):CallR X (.builtin "sum") (fun xs H Q=>∃(p:Addr) (ns:List Int),xs=[.ref p]/\SqL X.K H p (ns.map V.int)/\Q (.int ns.sum) H):=by
 intro pins s σ H xs us Q I r h;obtain⟨p,ns,rfl,hx,q⟩:=h;obtain⟨u,rfl,rx⟩:=vals1 r;cases rx;obtain⟨its,r',pl,hz⟩:=I.list hx;have hi:IntsAre its ns:=intsAre_of r';obtain⟨ys,hy⟩:=hi.allInts.items;have hn:numsOf its.toArray.toList=ns:=by rw[show its.toArray.toList=its from rfl,hi.numsOf]
 have hl:=pl.isList;rw[hy]at hl hn;rw[nums_intItems]at hn;refine j15 (I.ok.hd hc) hl fun h' tk t' hk=>?_
 rw[preSum_eq,List.take_of_length_le (by simp),hn];exact⟨.int ns.sum,H,I.kept hk,⟨_,rfl⟩,q⟩
end
end L2
namespace Att
open PySem PySem.W PySem.Calls PyProof.Rows
theorem YZ:∀(ns:List Int) (x:Int),x∈ns->Builtin.Int.intBits x<=WData.weightAll (ns.map WData.int)
 | [],_,h=>by cases h
 | n::r,x,h=>by
  show _<=WData.weight (.int n)+1+WData.weightAll (r.map WData.int);rcases mem_cons.mp h with e | h
  ·subst e;have e:Builtin.Int.intBits x=WData.weight (.int x):=by
    unfold Builtin.Int.intBits WData.weight;rfl
   omega
  ·have:=YZ r x h;omega
theorem wI{l:OpenLaw}{n:Nat}{q:Program}{loose:List Str}{XP:(Str->Option Value)->Heap->Prop}{YP:World->Heap->Prop}{d:DefRec}
  (hn:l.most=some n) (hdf:d.params.defaults=[])
  (call:∀(w:World) (s₀ s₁:Shared) (mg mb:Str->Option Value) (fa:Addr) (o:Obj) (pm cd doc:Value) (a:Addr) (vs:List Value) (ns:List Int),
   Ground q loose [] XP w s₀ mg mb s₁.heap->YP w s₁.heap->
   s₁.heap.get? fa=some o->o.data = .func (docDef d.name d.params d.body d.scope pm cd doc)->s₁.heap.CodeRec cd d.name->mg d.name=some (.ref fa)->
   s₁.heap.get? a=some {cls:=.type "list",data:=.seq vs.toArray}->IntsAre vs ns->ns.length<=n->(∀x∈ns,Builtin.Int.intBits x<=1048576)->s₁.gens = #[]->
   codeAny (model l.prog w) callerA (.call (.ref fa) ⟨[.ref a],[]⟩) (fun r s'=>r = .ok (.ret (.bool true))/\OldK s₁.heap s'.heap/\s'.os=s₁.os/\AllBare s'.gens) s₁) :
  WalkO q loose XP YP l.row.toRowW d [] (fun f vs=>PySem.call f vs):=by
 intro w s₀ s₁ mg mb G Y fa o pm cd doc dV kV ho hd hcd hD hmg hg args vals as hpre hlay hrd hwl hlo;obtain rfl:dV = .none:=Dflts.none hD hdf;obtain rfl:kV = .none:=Dflts.noKw hD;obtain⟨a,vs,ns,rfl,rfl,hobj,hints,hlen⟩:=j11 hn hpre hwl;have hbits:∀x∈ns,Builtin.Int.intBits x<=1048576:=by
  have hw:(WData.list (ns.map WData.int)).weight<=2^20:=(layableW_iff.mp (layW_cons hlay).1).2.2;intro x hx;exact Nat.le_trans (YZ ns x hx) hw
 refine enter_call (codeAny_mono (call w s₀ s₁ mg mb fa o pm cd doc a vs ns G Y ho (fd_plain hd) hcd hmg hobj hints hlen hbits hg) fun r s' hq=>?_);obtain⟨rfl,h2,h3,h4⟩:=hq;exact⟨.inl ⟨.bool true,.bool true,[],rfl,fun _=>rfl,.bool true,j0V l _,fun _=>⟨List.Pairwise.nil,fun _ hm=>(nomatch hm)⟩⟩,h2,h3,h4⟩
end Att
namespace L2
open PySem PySem.Spec PyProof.Rows
theorem j2L{l:PySem.W.OpenLaw}{n k:Nat}{q:Program}{loose:List Str}{XP:(Str->Option Value)->Heap->Prop}{YP:World->Heap->Prop}{d:DefRec}{K:Params->Frg}{CX:CXT}{sp:Frg->Sp}{x:Str}
  (hn:l.most=some n) (hn2:n<=sizeLine) (hdf:d.params.defaults=[]) (hr:Room k callerA)
  (hY:∀(w:World) (h:Heap),YP w h->(K w.params).In h)
  (F:∀(w:World) (mg:Str->Option Value) (fa:Addr) (h:Heap),(K w.params).In h->h.Ns mainGlobals mg->mg d.name=some (.ref fa)->
   ∃fd:FuncData,(∀(s:Shared) (u:Value),BindsTo s fd ⟨[u],[]⟩ [(x,u)])/\
    ∀base:Heap,(K w.params).In base->base.Ns mainGlobals mg->FnOk l.prog w (K w.params) mg base CX k fa fd [x] (sp (K w.params)))
  (hsp:∀(K:Frg) (H:Hp) (a:Addr) (ns:List Int),ns.length<=n->(∀x∈ns,Builtin.Int.intBits x<=1048576)->Only H->SqL K H a (ns.map V.int)->sp K [.ref a] H (fun v _=>v = .bl true) fun _ _ _=>False)
  (hCX:∀(H:Hp) (s:Shared) (e:Value) (s':Shared),CX [] H s (fun _ _ _=>False) e s'->False) :
  PySem.W.WalkO q loose XP YP l.row.toRowW d [] (fun f vs=>PySem.call f vs):=by
 refine Att.wI hn hdf fun w s₀ s₁ mg mb fa o pm cd doc a vs ns G Y ho hd hcd hmg hobj hints hlen hbits hg=>?_
 have KX:=hY w _ Y;obtain⟨fd,hb,hF⟩:=F w mg fa _ KX G.T.g hmg;exact j1H KX G.T.g G.T.b G.T.builtins G.T.nolimit hg hobj hints (Nat.le_trans hlen hn2) hr hF hb (fun H hO hS=>hsp _ H a ns hlen hbits hO hS) fun H e s'=>hCX H s₁ e s'
section
variable{P:Program}{w:World}{K:Frg}{mg:Str->Option Value}{base:Heap}
end
theorem SP.nx{X:Cx}{pins:List (Addr×Obj)}{D:Ends}{R:St->Hp->Prop}(hR:∀σ' H',R σ' H'->D.nx σ' H'){f:Flow}{s:Shared}(h:SP X pins {D with nx:=R} f s):SP X pins D f s:=by
 cases f with
 | next=>obtain⟨σ',H',I,q⟩:=h;exact⟨σ',H',I,hR _ _ q⟩
 | brk=>exact h
 | cont=>exact h
 | ret u=>exact h
def tIfJ(c:TT)(t u:TS):TS:=fun D σ H=>∃R:St->Hp->Prop,(∀σ' H',R σ' H'->D.nx σ' H')/\tIfS c t u {D with nx:=R} σ H
theorem zw{X:Cx}{pos:Pos}{t u:TS}{c:Expr}{a b:List Stmt}{tc:TT}(hc:PT X c tc)(ha:PSs X a t)(hb:PSs X b u):PS X (.If c a b pos) (tIfJ tc t u):=by
 intro pins s σ H D I h;obtain⟨R,hR,h⟩:=h;exact thn (Jl hc ha hb pins s σ H _ I h) fun f s' q=>q.nx hR
open PySem
theorem qw:bootBuiltins "len"= some (.builtin "len"):=by decide +kernel
theorem j1k:bootBuiltins "max"= some (.builtin "max"):=by decide +kernel
theorem kE:bootBuiltins "min"= some (.builtin "min"):=by decide +kernel
theorem j1l:bootBuiltins "sum"= some (.builtin "sum"):=by decide +kernel
theorem yi:bootBuiltins "isinstance"= some (.builtin "isinstance"):=by decide +kernel
theorem j1j:bootBuiltins "abs"= some (.builtin "abs"):=by decide +kernel
theorem j0p:bootBuiltins "sorted"= some (.builtin "sorted"):=by decide +kernel
theorem XS:bootBuiltins "list"= some (.type "list"):=by decide +kernel
theorem ZJ:bootBuiltins "tuple"= some (.type "tuple"):=by decide +kernel
theorem wJ:bootBuiltins "dict"= some (.type "dict"):=by decide +kernel
theorem wK:bootBuiltins "enumerate"= some (.type "enumerate"):=by decide +kernel
theorem j47:bootBuiltins "zip"= some (.type "zip"):=by decide +kernel
theorem j1F(K:Frg)(t:Value)(h:(t==t)=true):PySem.W.kitOne K t t=some true:=by unfold PySem.W.kitOne;rw[if_pos h]
theorem yj{K:Frg}:PySem.W.kitOne K (.type "tuple") (.type "tuple")=some true:=j1F K _ (by decide +kernel)
section
variable{X:Cx}{tg:Expr}
theorem j2r:SlR X (fun x lo hi H Q=>∃z,x = .str z/\z.length<=sizeLine/\Q (.str (Txt.slice z lo hi)) H):=by
 intro pins s σ H x v vl vu lo hi sl Q I rx hs pl pu h;obtain⟨z,rfl,hz,q⟩:=h;obtain⟨t,rfl⟩:=rx;refine⟨"str",_,F.slot_str_getitem.lookup,typeIs_str _ _ _,?_⟩;have fin:∀(lo hi:Option Int),Q (.str (Txt.slice z lo hi)) H->∀t' k,EP X pins σ Q (.str (Txt.slice z lo hi) t') {s with toks:=k}:=fun lo hi q t' k=>⟨.str _,H,I.tok _,⟨_,rfl⟩,q⟩
 cases pl with
 | none=>
  cases pu with
  | none=>exact wpAny_getItem_str_slice (l:=none) (u:=none) (st:=none) hs rfl (post_val_or_str ⟨Nat.le_trans (Txt.slice_le z _ _) hz,fin _ _ q⟩)
  | int j uj=>exact wpAny_getItem_str_slice (l:=none) (u:=some (j,uj)) (st:=none) hs rfl (post_val_or_str ⟨Nat.le_trans (Txt.slice_le z _ _) hz,fin _ _ q⟩)
 | int i ui=>
  cases pu with
  | none=>exact wpAny_getItem_str_slice (l:=some (i,ui)) (u:=none) (st:=none) hs rfl (post_val_or_str ⟨Nat.le_trans (Txt.slice_le z _ _) hz,fin _ _ q⟩)
  | int j uj=>exact wpAny_getItem_str_slice (l:=some (i,ui)) (u:=some (j,uj)) (st:=none) hs rfl (post_val_or_str ⟨Nat.le_trans (Txt.slice_le z _ _) hz,fin _ _ q⟩)
theorem rd_str{z:Str}{R:Str->Prop}(h:R z):∃z',V.str z = .str z'/\R z':=⟨z,rfl,h⟩
end
section
variable{X:Cx}{K:Frg}
theorem JU(e:X.K=K):IxR X (rIxL K):=by subst e;exact jx
theorem JA(e:X.K=K):IxR X (rIxT K):=by subst e;exact jv
theorem KP(e:X.K=K):CallR X (.builtin "len") (fun xs H Q=>∃x n,xs=[x]/\LenV K x H n/\Q (.int n) H):=by subst e;exact Jg
theorem Zm(e:X.K=K):OpR X (compareOp .In) (rIn K false):=by subst e;exact j0T
theorem KH(e:X.K=K):OpR X (compareOp .NotIn) (rIn K true):=by subst e;exact Wu
end
mutual
inductive DV(H:Hp):V->PyData->Prop
 | non:DV H .non .none
 | bl (b:Bool):DV H (.bl b) (.bool b)
 | int (i:Int):DV H (.int i) (.int i)
 | str (x:Str):DV H (.str x) (.str x)
 | lst {a:Addr} {xs:List V} {ds:List PyData}:H a=some (.lst xs)->DVs H xs ds->DV H (.ref a) (.list ds)
 | tup {a:Addr} {xs:List V} {ds:List PyData}:H a=some (.tup xs)->DVs H xs ds->DV H (.ref a) (.tuple ds)
inductive DVs(H:Hp):List V->List PyData->Prop
 | nil:DVs H [] []
 | cons {x:V} {d:PyData} {xs:List V} {ds:List PyData}:DV H x d->DVs H xs ds->DVs H (x::xs) (d::ds)
end
section
variable{X:Cx}
mutual
theorem zo{pins:List (Addr×Obj)}{s:Shared}{σ:St}{H:Hp}(I:Inv X pins σ H s):∀{v:V} {d:PyData} {u:Value},DV H v d->RelV v u->∃as,Reads s.heap u d as
 | _,_,_,.non,r=>⟨_,by cases r;exact Reads.none⟩
 | _,_,_,.bl b,r=>⟨_,by cases r;exact Reads.bool b⟩
 | _,_,_,.int i,r=>by obtain⟨t,rfl⟩:=r;exact⟨_,Reads.int i t⟩
 | _,_,_,.str x,r=>by obtain⟨t,rfl⟩:=r;exact⟨_,Reads.str x t⟩
 | _,_,_,.lst e q,r=>by
  cases r;obtain⟨_,its,c,rv,he⟩:=I.hok _ _ e;obtain⟨as,ra⟩:=Yt I q rv;exact⟨_,reads_list_at he rfl rfl (by simpa using ra)⟩
 | _,_,_,.tup e q,r=>by
  cases r;obtain⟨its,rv,pl,_⟩:=I.tuple (SqT.of e);obtain⟨o,ho,hc,n,hd⟩:=pl;obtain⟨as,ra⟩:=Yt I q rv;exact⟨_,reads_tuple_at ho hc hd (by simpa using ra)⟩
theorem Yt{pins:List (Addr×Obj)}{s:Shared}{σ:St}{H:Hp}(I:Inv X pins σ H s):∀{vs:List V} {ds:List PyData} {us:List Value},DVs H vs ds->Vals vs us->∃as,ReadsAll s.heap us ds as
 | _,_,_,.nil,r=>by cases r;exact⟨_,ReadsAll.nil⟩
 | _,_,_,.cons a q,r=>by
  cases r with
  | cons r1 r2=>
   obtain⟨as,ra⟩:=zo I a r1;obtain⟨bs,rb⟩:=Yt I q r2;exact⟨_,ReadsAll.cons ra rb⟩
end
theorem j1V(hu:X.A.units+64<cLine):OpR X (compareOp .Eq) (fun x y H Q=>∃d e,DV H x d/\DV H y e/\SeqAt.shaped d=true/\SeqAt.shaped e=true/\Q (.bl (PyData.eqv d e)) H):=by
 intro pins s σ H x y v u Q I rx ry h;obtain⟨d,e,hd,he,sd,se,q⟩:=h;obtain⟨as,ra⟩:=zo I hd rx;obtain⟨bs,rb⟩:=zo I he ry;exact eq_dataH ra rb sd se hu ⟨.bl _,H,I,rfl,q⟩
theorem Xy(hu:X.A.units+64<cLine):OpR X (compareOp .NotEq) (fun x y H Q=>∃d e,DV H x d/\DV H y e/\SeqAt.shaped d=true/\SeqAt.shaped e=true/\Q (.bl (!PyData.eqv d e)) H):=by
 intro pins s σ H x y v u Q I rx ry h;obtain⟨d,e,hd,he,sd,se,q⟩:=h;obtain⟨as,ra⟩:=zo I hd rx;obtain⟨bs,rb⟩:=zo I he ry;exact ne_dataH ra rb sd se hu ⟨.bl _,H,I,rfl,q⟩
theorem KQ(hc:X.calm=true):CallR X (.builtin "max") (fun xs H Q=>∃(p:Addr) (ns:List Int),xs=[.ref p]/\SqL X.K H p (ns.map V.int)/\0<ns.length/\∀m∈ns,(∀a∈ns,a<=m)->Q (.int m) H):=by
 intro pins s σ H xs us Q I r h;obtain⟨p,ns,rfl,hx,hne,q⟩:=h;obtain⟨u,rfl,rx⟩:=vals1 r;cases rx;obtain⟨its,r',pl,_⟩:=I.list hx;have hi:=intsAre_of r';have hl:=pl.isList;obtain⟨xs,e⟩:=hi.allInts.items;have hns:ns=xs.toList.map (·.1):=by rw[<-hi.numsOf,<-nums_intItems,<-e]
 have hsz:0<xs.size:=by
  have h3:=hne;rw[hns,length_map,Array.length_toList]at h3;exact h3
 rw[e]at hl;refine max_intList (I.ok.hd hc) hl hsz fun v h' tk hv hk=>?_
 obtain⟨t,rfl⟩:=intItems_at hv;obtain⟨h1,h2⟩:=argBest_gt (numAt xs) (xs.size-1);refine⟨.int _,H,I.kept (t':=tk) hk,⟨_,rfl⟩,q _ ?_ fun a ha=>?_⟩
 ·rw[hns,numAt_eq];exact getD_mem (by rw[length_map,Array.length_toList];omega)
 ·rw[hns]at ha;obtain⟨j,hj,rfl⟩:=mem_getD ha;rw[length_map,Array.length_toList]at hj;rw[<-numAt_eq];exact h2 j (by omega)
end
section
variable{σ:St}{H:Hp}{Q:VK}
theorem rd_dget{td ty:TE}(h:td σ H fun x H1=>ty σ H1 fun y H2=>∃a v,x = .ref a/\DGet H2 a y (some v)/\Q v H2):tDGet td ty σ H Q:=h
end
def TabK(K:Frg)(a:Addr)(D:List (Str×PyProof.Rows.KTD.Dat)):Prop:=PyProof.Rows.KTD.tabLook (PyProof.Rows.KTD.datLooks fun b=>K.lookup b) (fun b=>K.lookup b) a D=true
section
variable{X:Cx}
theorem j4x:OpR X (compareOp .In) (fun x y H Q=>∃a k D,x = .str k/\y = .ref a/\TabK X.K a D/\Q (.bl (PyProof.Rows.KTD.inKeys k D)) H):=by
 intro pins s σ H x y v u Q I rx ry h;obtain⟨a,k,D,rfl,rfl,T,q⟩:=h;obtain⟨t,rfl⟩:=rx;cases ry;exact PyProof.Rows.KTD.in_text (h₀:=s.heap) ⟨PySem.W.kt_text_in I.kIn T,fun _ _ e=>e⟩ ⟨.bl _,H,I.tok _,rfl,q⟩
end
theorem kI{K:Frg}{a:Addr}{xs:List V}{k:Nat}{ci:List Nat}{g:TG}{tf:TT}{te:TE}{σ:St}{H:Hp}{Z:Addr->List V->Hp->Prop}(Pv:Nat->List V->Hp->Prop)(h0:Pv 0 [] H)(hl:∀i ys H,i<=xs.length->Pv i ys H->SqT K H a xs)
  (hs:∀i x ys H,xs[i]?=some x->Pv i ys H->g x (capS k ci σ) H fun σ2 H2=>tf σ2 H2 fun b H3=>if b=true then te σ2 H3 fun v H4=>ys.length<sizeLine/\Pv (i+1) (ys++[v]) H4 else Pv (i+1) ys H3)
  (hd:∀ys H,Pv xs.length ys H->ys.length<=sizeLine/\∀p,H p=none->Z p ys H) :
  ∃W:Nat->Nat->List V->Hp->Prop,(∃m,W 0 m [] H)/\∀i m ys H,W i m ys H->
   ((Itt K a).stop i H/\ys.length<=sizeLine/\∀p,H p=none->Z p ys H)\/
   ((Itt K a).go i H/\∃N:List V->Hp->Prop,(∀ys' H',N ys' H'->∃m',m'<m/\W (i+1) m' ys' H')/\∀x H',(Itt K a).yld i H x H'->g x (capS k ci σ) H' fun σ2 H2=>tf σ2 H2 fun b H3=>
    if b=true then te σ2 H3 fun v H4=>ys.length<sizeLine/\N (ys++[v]) H4 else N ys H3):=by
 refine⟨fun i m ys H=>m=xs.length-i/\i<=xs.length/\Pv i ys H,⟨xs.length,by simp,Nat.zero_le _,h0⟩,?_⟩;rintro i m ys H ⟨rfl,hi,p⟩;have q:=hl i ys H hi p;by_cases hlt:i<xs.length
 ·refine .inr ⟨⟨xs,xs[i],q,by simp[hlt]⟩,Pv (i+1),fun ys' H' p'=>⟨xs.length-(i+1),by omega,rfl,hlt,p'⟩,fun x H' y=>?_⟩;obtain⟨e,y⟩:=y;subst e;exact hs i x ys _ (y xs q) p
 ·have e:i=xs.length:=by omega
  subst e;exact .inl ⟨⟨xs,q,Nat.le_refl _⟩,hd ys H p⟩
theorem rd_iTup{K:Frg}{te:TE}{σ:St}{H:Hp}{R:It->Hp->Prop}(h:te σ H fun x H1=>∃a,x = .ref a/\(∃xs,SqT K H1 a xs)/\R (Itt K a) H1):iTup K te σ H R:=h
theorem qT{K:Frg}{i j:Nat}{a:Addr}{x y:V}{σ:St}{H:Hp}{R:St->Hp->Prop}(e:SqT K H a [x,y])(h:gName i x σ H fun σ' H'=>gName j y σ' H' R):gTup K 2 (gCons (gName i) (gCons (gName j) gNil)) (.ref a) σ H R:=
 ⟨a,[x,y],rfl,e,rfl,x,[y],rfl,y,[],rfl,rfl,h⟩
theorem rd_sub{to ti:TE}{t:TSet}{v:V}{σ:St}{H:Hp}{R:St->Hp->Prop}(h:to σ H fun o H1=>ti σ H1 fun i H2=>t o i v H2 fun H3=>R σ H3):gSub to ti t v σ H R:=h
theorem rd_dnew{σ:St}{H:Hp}{Q:VK}(h:∀p,H p=none->Q (.ref p) (upd H p (.dK []))):tDNewK σ H Q:=h
theorem rd_dput{td ty tv:TE}{σ:St}{H:Hp}{D:Ends}(h:tv σ H fun v H1=>td σ H1 fun x H2=>ty σ H2 fun y H3=>∃a H4,x = .ref a/\DPut H3 a y v H4/\D.nx σ H4):sDPut td ty tv D σ H:=h
theorem rd_bm0{K:Frg}{T:String}{r:V->List V->Hp->VK->Prop}{to:TE}{σ:St}{H:Hp}{Q:VK}(h:to σ H fun x H1=>tyV K T x H1/\r x [] H1 Q):tBM0 K T r to σ H Q:=h
section
variable{X:Cx}{pins:List (Addr×Obj)}{σ:St}{H:Hp}{s:Shared}{h':Heap}
theorem Inv.turnedL{t':Nat}{ch:List Addr}(I:Inv X pins σ H s)(hf:∀b∈ch,FpOk X pins H b)(k:∀b o,b∉ch->s.heap.get? b=some o->h'.get? b=some o):Inv X pins σ H {s with heap:=h',toks:=t'}:=by
 have nit:∀b u,H b=some u->b∉ch:=fun b u e z=>by rw[(hf b z).1]at e;cases e
 refine I.step (g':=s.gens) (d':=s.drawn) (ch:=ch) (fun b hb=>?_) (fun b o _ _ hc e _=>k b o hc e) (fun b o _ _ hc e _=>⟨o.slots,k b o hc e⟩) (fun _ _ _ _ n=>n)
  (fun b o hc e=>⟨o,k b o hc e⟩) (fun _ _ e=>e) (fun _ _ _ e=>e) (fun b ps e=>⟨#[],by rw[e];simp⟩) (fun m hm=>?_) (fun b u e=>?_) I.bare
 ·obtain⟨_,f1,_,f3,f4,f5⟩:=hf b hb;exact⟨f3,f1,f4,f5⟩
 ·obtain⟨o,es,ep,ho,r⟩:=hm;exact⟨o,es,ep,k _ o (fun z=>(hf _ z).2.1 rfl) ho,r⟩
 ·refine(I.hok b u e).stay (fun c v hc q=>k c v ?_ q) (fun _ q=>q) fun _ _ q=>q
  rcases hc with z | z
  ·rw[z];exact nit b u e
  ·exact nit c _ z
theorem Inv.pair{t':Nat}{ch:List Addr}{x y:V}{u v:Value}(I:Inv X pins σ H s)(hf:∀b∈ch,FpOk X pins H b)(hl:∀b∈ch,b<s.heap.objs.size)(rx:RelV x u)(ry:RelV y v)
  (hT:h'.get? s.heap.objs.size=some {cls:=.type "tuple",data:=.seq #[u,v]}) (k:∀b o,b∉ch->s.heap.get? b=some o->h'.get? b=some o) :
  Inv X pins σ (upd H s.heap.objs.size (.tup [x,y])) {s with heap:=h',toks:=t'}/\∀b∈ch,FpOk X pins (upd H s.heap.objs.size (.tup [x,y])) b:=by
 have f:∀b∈ch,FpOk X pins (upd H s.heap.objs.size (.tup [x,y])) b:=fun b hb=>⟨(jh (Nat.ne_of_lt (hl b hb))).trans (hf b hb).1,(hf b hb).2⟩
 have I1:Inv X pins σ (upd H s.heap.objs.size (.tup [x,y])) {s with heap:=s.heap.push {cls:=.type "tuple",data:=.seq #[u,v]},toks:=t'}:=
  I.laid (t':=t') (fun b o e=>Heap.get?_push_of_some _ e) (Nat.le_refl _) (show ObjOk X.prog X.w _ _ _ (.tup [x,y])from⟨(by show 2<=sizeLine;decide),[u,v],.cons rx (.cons ry .nil),IsTup.new _ _⟩)
 refine⟨I1.turnedL (h':=h') (t':=t') f fun b o hb e=>?_,f⟩;rcases Heap.get?_push_cases e with⟨rfl,rfl⟩ | e
 ·exact hT
 ·exact k b o hb e
end
def Ite(K:Frg)(a:Addr):It:=
 ⟨fun i H=>∃xs x,SqL K H a xs/\xs[i]?=some x,fun i H x H'=>∃T v,x = .ref T/\H T=none/\H'=upd H T (.tup [.int i,v])/\∀xs,SqL K H a xs->xs[i]?=some v,fun i H=>∃xs,SqL K H a xs/\xs.length<=i⟩
theorem j18{P:Program}{w:World}{K:Frg}{elts:List Expr}{k:Nat}{pos:Pos}(a e it:Addr)(hne:e≠it) :
  Turn P w K (.Tuple elts k pos) (Ite K a) [e,it] e (fun i h=>(∃old,IsEnum h e it ((i:Nat):Int) old)/\h.IsListIter it a i) where
 mem:=by simp
 obj:=fun i h st b hb=>by
  rcases(by simpa using hb:b=e\/b=it)with rfl | rfl
  ·obtain⟨old,he⟩:=st.1;exact⟨_,he,fun v z=>by cases z⟩
  ·obtain⟨o,e,c,d⟩:=st.2;exact⟨o,e,fun v z=>by rw[d]at z;cases z⟩
 keep:=fun i h h' st k=>⟨let ⟨old,he⟩:=st.1;⟨old,k e (by simp) _ he⟩,st.2.at fun o q=>k it (by simp) o q⟩
 item:=by
  intro X hP hw hK hc i pins s σ H E I hf st hg;subst hP hw hK;obtain⟨xs,x,hq,hx⟩:=hg;obtain⟨its,rv,p,hz⟩:=I.list hq;obtain⟨u,hu,ru⟩:=rv.get hx;obtain⟨⟨old,he⟩,hit⟩:=st;have le:e<s.heap.objs.size:=Heap.lt_size he;have li:it<s.heap.objs.size:=by obtain⟨o,q,_⟩:=id hit;exact Heap.lt_size q
  refine wpAny_pyNext_enum_item he hit p.isList (x:=u) (by simpa using hu) hne fun h' ho hit' hT hsz hk=>?_
  obtain⟨I1,f1⟩:=I.pair (t':=s.toks+1) (ch:=[e,it]) (x:=.int i) (y:=x) hf (fun b hb=>by rcases(by simpa using hb:b=e\/b=it)with rfl | rfl<;>assumption) ⟨s.toks,rfl⟩ ru hT
   (fun b o hb q=>hk b o (fun z=>hb (by simp[z])) (fun z=>hb (by simp[z])) q)
  refine⟨_,rfl,wpAny_letOwnedTupleGo_enum ho fun h2 he2 sb=>?_⟩;have I2:=I1.turnedL (h':=h2) (t':=s.toks+1) (ch:=[e,it]) f1 fun b o hb q=>(sb.2 b fun z=>hb (by simp[z])).trans q
  exact⟨.ref s.heap.objs.size,_,I2,rfl,⟨_,x,rfl,I.hok.fresh (Nat.le_refl _),rfl,fun ys hy=>by rw[I.list_inj hy hq];exact hx⟩,
   ⟨⟨u,by simpa using he2⟩,hit'.at fun o q=>(sb.2 it hne.symm).trans q⟩,fun b hb=>(f1 b hb).1⟩
 done:=by
  intro X hP hw hK hc i pins s σ H E I hf st hg;subst hP hw hK;obtain⟨xs,hq,hx⟩:=hg;obtain⟨its,rv,p,hz⟩:=I.list hq;obtain⟨⟨old,he⟩,hit⟩:=st;have hl:=rv.length;exact wpAny_pyNext_enum_end (I.ok.hd hc) he hit p.isList (by simp;omega) fun h' eb=>⟨rfl,I.turnedL (t':=s.toks) (ch:=[e,it]) hf fun b o hb q=>eb b o (fun z=>hb (by simp[z])) q⟩
 self:=fun _ _ _ _ _ st h=>let ⟨_,he⟩:=st.1;wpAny_pyIter_enum he h
def iEnum(K:Frg)(ta:TA):TI:=fun σ H R=>ta σ H fun vs H1=>∃a xs,vs=[.ref a]/\SqL K H1 a xs/\R (Ite K a) H1
theorem Yb{X:Cx}{a:Expr}{ta:TA}{elts:List Expr}{k:Nat}{p pos pos':Pos}(hg:Gl X "enumerate")(hm:X.mg "enumerate"= none)(ha:PA X [a] ta)(hs:starEach [a] X.env=[(false,eval a X.env)]:=by rfl) :
  PI X (.Tuple elts k pos') (.Call (.Name "enumerate" p) [a] [] pos) (iEnum X.K ta):=by
 intro pins s σ H R I h;refine Call_ (yz I hg hm wK (PyProof.Rows.callWith_type1 (thn (ha pos pins s σ H _ I h) fun us s1 ⟨vs,H1,I1,r1,q1⟩=>?_) hs rfl));obtain⟨b,xs,rfl,hq,q⟩:=q1;obtain⟨u,rfl,ru⟩:=vals1 r1;cases ru;obtain⟨its,rv,p,hz⟩:=I1.list hq;refine call_enumerate_list p.isList fun h' he hit hsz hk=>?_
 refine wpAny_pyIter_enum he ?_;refine⟨s1.heap.objs.size+1,[s1.heap.objs.size+1,s1.heap.objs.size],_,_,H1,rfl,I1.kept (t':=s1.toks) hk,j18 b _ _ (Nat.succ_ne_self _),⟨⟨_,by simpa using he⟩,hit⟩,fun c hc=>?_,q⟩;rcases(by simpa using hc:c=s1.heap.objs.size+1\/c=s1.heap.objs.size)with rfl | rfl
 ·exact I1.fpOk (Nat.le_succ _) (I1.hok.fresh (Nat.le_succ _))
 ·exact I1.fpOk (Nat.le_refl _) (I1.hok.fresh (Nat.le_refl _))
theorem ZO{K:Frg}{a:Addr}{xs:List V}{g:TG}{tb:TS}{D:Ends}{σ:St}{H:Hp}(Pv:Nat->St->Hp->Prop)(h0:Pv 0 σ H)(hl:∀i σ H,i<=xs.length->Pv i σ H->SqL K H a xs)
  (hs:∀i v σ H T H',xs[i]?=some v->Pv i σ H->Same H H'->H' T=some (.tup [.int i,v])->g (.ref T) σ H' fun σ2 H2=>tb {D with nx:=Pv (i+1),ct:=Pv (i+1),bk:=D.nx} σ2 H2) (hd:∀σ H,Pv xs.length σ H->D.nx σ H) :
  ∃W:Nat->Nat->St->Hp->Prop,(∃m,W 0 m σ H)/\∀i m σ H,W i m σ H->
   ((Ite K a).stop i H/\D.nx σ H)\/((Ite K a).go i H/\∃N:St->Hp->Prop,(∀σ' H',N σ' H'->∃m',m'<m/\W (i+1) m' σ' H')/\∀x H',(Ite K a).yld i H x H'->g x σ H' fun σ2 H2=>tb {D with nx:=N,ct:=N,bk:=D.nx} σ2 H2):=by
 refine⟨fun i m σ H=>m=xs.length-i/\i<=xs.length/\Pv i σ H,⟨xs.length,by simp,Nat.zero_le _,h0⟩,?_⟩;rintro i m σ H ⟨rfl,hi,p⟩;have q:=hl i σ H hi p;by_cases hlt:i<xs.length
 ·refine .inr ⟨⟨xs,xs[i],q,by simp[hlt]⟩,Pv (i+1),fun σ' H' p'=>⟨xs.length-(i+1),by omega,rfl,hlt,p'⟩,fun x H' y=>?_⟩;obtain⟨T,v,rfl,hT,e,y⟩:=y;exact hs i v σ H T H' (y xs q) p (fun b o h=>by rw[e,jh (jg h hT)];exact h) (by rw[e];exact jA)
 ·have e:i=xs.length:=by omega
  subst e;exact .inl ⟨⟨xs,q,Nat.le_refl _⟩,hd σ H p⟩
theorem rd_iEnum{K:Frg}{ta:TA}{σ:St}{H:Hp}{R:It->Hp->Prop}(h:ta σ H fun vs H1=>∃a xs,vs=[.ref a]/\SqL K H1 a xs/\R (Ite K a) H1):iEnum K ta σ H R:=h
def Itz(K:Frg)(a b:Addr):It:=
 ⟨fun i H=>∃xs x ys y,SqL K H a xs/\xs[i]?=some x/\SqL K H b ys/\ys[i]?=some y,
  fun i H x H'=>∃T u v,x = .ref T/\H T=none/\H'=upd H T (.tup [u,v])/\(∀xs,SqL K H a xs->xs[i]?=some u)/\∀ys,SqL K H b ys->ys[i]?=some v,
  fun i H=>∃xs ys,SqL K H a xs/\SqL K H b ys/\(xs.length<=i\/ys.length<=i)⟩
theorem qJ{h:Heap}{a b:Addr}{o u:Obj}(h1:h.get? a=some o)(h2:h.get? b=some u)(hc:o.cls≠u.cls):a≠b:=fun e=>by
 subst e;rw[h1]at h2;cases h2;exact hc rfl
theorem j2C{P:Program}{w:World}{K:Frg}{elts:List Expr}{k:Nat}{pos:Pos}(l1 l2 z TI TO i1 i2:Addr)
  (D:∀l1 l2,l1≠z->l1≠TO->l1≠i1->l1≠i2->l2≠z->l2≠TO->l2≠i1->l2≠i2->ZipApart z TI TO i1 i2 l1 l2) :
  Turn P w K (.Tuple elts k pos) (Itz K l1 l2) [z,TI,TO,i1,i2] z (fun i h=>IsZip h z TI TO .none/\IsPair h TI (.ref i1) (.ref i2)/\(∃a b,IsPair h TO a b)/\h.IsListIter i1 l1 i/\h.IsListIter i2 l2 i) where
 mem:=by simp
 obj:=fun i h st b hb=>by
  obtain⟨hz,hTI,⟨a,c,hTO⟩,h1,h2⟩:=st;rcases(by simpa using hb:b=z\/b=TI\/b=TO\/b=i1\/b=i2)with rfl | rfl | rfl | rfl | rfl
  ·exact⟨_,hz,fun v z=>by cases z⟩
  ·exact⟨_,hTI,fun v z=>by cases z⟩
  ·exact⟨_,hTO,fun v z=>by cases z⟩
  ·obtain⟨o,e,c,d⟩:=h1;exact⟨o,e,fun v z=>by rw[d]at z;cases z⟩
  ·obtain⟨o,e,c,d⟩:=h2;exact⟨o,e,fun v z=>by rw[d]at z;cases z⟩
 keep:=fun i h h' st k=>by
  obtain⟨hz,hTI,⟨a,c,hTO⟩,h1,h2⟩:=st;exact⟨k z (by simp) _ hz,k TI (by simp) _ hTI,⟨a,c,k TO (by simp) _ hTO⟩,h1.at fun o q=>k i1 (by simp) o q,h2.at fun o q=>k i2 (by simp) o q⟩
 item:=by
  intro X hP hw hK hc i pins s σ H E I hf st hg;subst hP hw hK;obtain⟨xs,x,ys,y,hq,hx,hr,hy⟩:=hg;obtain⟨its,rv,p,_⟩:=I.list hq;obtain⟨jts,rw',p',_⟩:=I.list hr;obtain⟨u,hu,ru⟩:=rv.get hx;obtain⟨v,hv,rv'⟩:=rw'.get hy;obtain⟨hz,hTI,⟨a,c,hTO⟩,h1,h2⟩:=st;obtain⟨o1,n1,e1,c1,_⟩:=id p;obtain⟨o2,n2,e2,c2,_⟩:=id p';obtain⟨o3,e3,c3,_⟩:=id h1;obtain⟨o4,e4,c4,_⟩:=id h2;have D':=D l1 l2 (qJ e1 hz (by rw[c1];show Value.type "list"≠Value.type "zip";decide)) (qJ e1 hTO (by rw[c1];show Value.type "list"≠Value.type "tuple";decide)) (qJ e1 e3 (by rw[c1,c3];decide)) (qJ e1 e4 (by rw[c1,c4];decide))
   (qJ e2 hz (by rw[c2];show Value.type "list"≠Value.type "zip";decide)) (qJ e2 hTO (by rw[c2];show Value.type "list"≠Value.type "tuple";decide)) (qJ e2 e3 (by rw[c2,c3];decide)) (qJ e2 e4 (by rw[c2,c4];decide))
  have lt:∀b∈[z,TI,TO,i1,i2],b<s.heap.objs.size:=fun b hb=>by
   rcases(by simpa using hb:b=z\/b=TI\/b=TO\/b=i1\/b=i2)with rfl | rfl | rfl | rfl | rfl
   ·exact Heap.lt_size hz
   ·exact Heap.lt_size hTI
   ·exact Heap.lt_size hTO
   ·exact Heap.lt_size e3
   ·exact Heap.lt_size e4
  refine wpAny_pyNext_zip_item D' hz hTI hTO h1 h2 p.isList p'.isList (x:=u) (y:=v) (by simpa using hu) (by simpa using hv) fun h' a1 a2 a3 a4 a5 a6 hk=>?_
  obtain⟨I1,f1⟩:=I.pair (t':=s.toks) (ch:=[z,TI,TO,i1,i2]) (x:=x) (y:=y) hf lt ru rv' a5
   (fun b o hb q=>hk b o (fun e=>hb (by simp[e])) (fun e=>hb (by simp[e])) (fun e=>hb (by simp[e])) (fun e=>hb (by simp[e])) q)
  refine⟨_,rfl,wpAny_letOwnedTupleGo_zip a1 fun h3 hz3 sb=>?_⟩;have I2:=I1.turnedL (h':=h3) (t':=s.toks) (ch:=[z,TI,TO,i1,i2]) f1 fun b o hb q=>(sb.2 b fun e=>hb (by simp[e])).trans q
  exact⟨.ref s.heap.objs.size,_,I2,rfl,⟨_,x,y,rfl,I.hok.fresh (Nat.le_refl _),rfl,(fun ys hy=>by rw[I.list_inj hy hq];exact hx),fun ys hy'=>by rw[I.list_inj hy' hr];exact hy⟩,
   ⟨hz3,(sb.2 TI D'.TIz).trans (hk TI _ D'.TIz D'.TITO D'.TIi1 D'.TIi2 hTI),⟨_,_,(sb.2 TO D'.TOz).trans a2⟩,a3.at fun o q=>(sb.2 i1 D'.i1z).trans q,a4.at fun o q=>(sb.2 i2 D'.i2z).trans q⟩,fun b hb=>(f1 b hb).1⟩
 done:=by
  intro X hP hw hK hc i pins s σ H E I hf st hg;subst hP hw hK;obtain⟨xs,ys,hq,hr,hl⟩:=hg;obtain⟨its,rv,p,_⟩:=I.list hq;obtain⟨jts,rw',p',_⟩:=I.list hr;obtain⟨hz,hTI,⟨a,c,hTO⟩,h1,h2⟩:=st;obtain⟨o1,n1,e1,c1,_⟩:=id p;obtain⟨o2,n2,e2,c2,_⟩:=id p';obtain⟨o3,e3,c3,_⟩:=id h1;obtain⟨o4,e4,c4,_⟩:=id h2;have D':=D l1 l2 (qJ e1 hz (by rw[c1];show Value.type "list"≠Value.type "zip";decide)) (qJ e1 hTO (by rw[c1];show Value.type "list"≠Value.type "tuple";decide)) (qJ e1 e3 (by rw[c1,c3];decide)) (qJ e1 e4 (by rw[c1,c4];decide))
   (qJ e2 hz (by rw[c2];show Value.type "list"≠Value.type "zip";decide)) (qJ e2 hTO (by rw[c2];show Value.type "list"≠Value.type "tuple";decide)) (qJ e2 e3 (by rw[c2,c3];decide)) (qJ e2 e4 (by rw[c2,c4];decide))
  have l1':=rv.length;have l2':=rw'.length;refine wpAny_pyNext_zip_end (I.ok.hd hc) D' hz hTI hTO h1 h2 p.isList p'.isList ?_ fun h' hk=>⟨rfl,I.turnedL (t':=s.toks) (ch:=[z,TI,TO,i1,i2]) hf fun b o hb q=>hk b o (fun e=>hb (by simp[e])) (fun e=>hb (by simp[e])) (fun e=>hb (by simp[e])) (fun e=>hb (by simp[e])) q⟩
  rcases hl with q | q
  ·exact .inl (by simp;omega)
  ·exact .inr (by simp;omega)
 self:=fun _ _ _ _ _ st h=>wpAny_pyIter_zip st.1 h
theorem zP{n i j:Nat}(h:i≠j):n+i≠n+j:=fun e=>h (Nat.add_left_cancel e)
def iZip(K:Frg)(ta:TA):TI:=fun σ H R=>ta σ H fun vs H1=>∃a b xs ys,vs=[.ref a,.ref b]/\SqL K H1 a xs/\SqL K H1 b ys/\R (Itz K a b) H1
theorem j23{X:Cx}{a b:Expr}{ta:TA}{elts:List Expr}{k:Nat}{p pos pos':Pos}(hg:Gl X "zip")(hm:X.mg "zip"= none)(ha:PA X [a,b] ta)(hs:starEach [a,b] X.env=[(false,eval a X.env),(false,eval b X.env)]:=by rfl)(hs2:starEach [b] X.env=[(false,eval b X.env)]:=by rfl) :
  PI X (.Tuple elts k pos') (.Call (.Name "zip" p) [a,b] [] pos) (iZip X.K ta):=by
 intro pins s σ H R I h;refine Call_ (yz I hg hm j47 (PyProof.Rows.callWith_type1 (thn (ha pos pins s σ H _ I h) fun us s1 ⟨vs,H1,I1,r1,q1⟩=>?_) (by rw[hs,hs2]) (by rw[hs2];rfl)));obtain⟨l1,l2,xs,ys,rfl,hq,hr,q⟩:=q1;cases r1 with
 | cons r rr=>
  cases rr with
  | cons r' rr=>
   cases rr;cases r;cases r';obtain⟨its,rv,p,hz⟩:=I1.list hq;obtain⟨jts,rw',p',hz'⟩:=I1.list hr;refine call_zip_2 p.isList p'.isList fun h' a1 a2 a3 a4 a5 a6 hk=>?_
   refine wpAny_pyIter_zip a1 ?_;refine⟨s1.heap.objs.size+4,[s1.heap.objs.size+4,s1.heap.objs.size+2,s1.heap.objs.size+3,s1.heap.objs.size,s1.heap.objs.size+1],_,_,H1,rfl,I1.kept (t':=s1.toks) hk,
    j2C l1 l2 _ _ _ _ _ (fun l1 l2 b1 b2 b3 b4 b5 b6 b7 b8=>⟨zP (by decide),zP (by decide),zP (i:=0) (by decide),zP (by decide),zP (by decide),zP (j:=0) (by decide),zP (by decide),zP (j:=0) (by decide),zP (by decide),zP (i:=0) (by decide),b1,b2,b3,b4,b5,b6,b7,b8⟩),⟨a1,a2,⟨_,_,a3⟩,a4,a5⟩,fun c hc=>?_,q⟩
   have hc':s1.heap.objs.size<=c:=by
    rcases(by simpa using hc:c=s1.heap.objs.size+4\/c=s1.heap.objs.size+2\/c=s1.heap.objs.size+3\/c=s1.heap.objs.size\/c=s1.heap.objs.size+1)with rfl | rfl | rfl | rfl | rfl<;>omega
   exact I1.fpOk hc' (I1.hok.fresh hc')
theorem j33{K:Frg}{a b:Addr}{xs ys:List V}{g:TG}{tb:TS}{D:Ends}{σ:St}{H:Hp}(Pv:Nat->St->Hp->Prop)(hlen:xs.length=ys.length)(h0:Pv 0 σ H)(hl:∀i σ H,i<=xs.length->Pv i σ H->SqL K H a xs/\SqL K H b ys)
  (hs:∀i u v σ H T H',xs[i]?=some u->ys[i]?=some v->Pv i σ H->Same H H'->H' T=some (.tup [u,v])->g (.ref T) σ H' fun σ2 H2=>tb {D with nx:=Pv (i+1),ct:=Pv (i+1),bk:=D.nx} σ2 H2) (hd:∀σ H,Pv xs.length σ H->D.nx σ H) :
  ∃W:Nat->Nat->St->Hp->Prop,(∃m,W 0 m σ H)/\∀i m σ H,W i m σ H->
   ((Itz K a b).stop i H/\D.nx σ H)\/((Itz K a b).go i H/\∃N:St->Hp->Prop,(∀σ' H',N σ' H'->∃m',m'<m/\W (i+1) m' σ' H')/\∀x H',(Itz K a b).yld i H x H'->g x σ H' fun σ2 H2=>tb {D with nx:=N,ct:=N,bk:=D.nx} σ2 H2):=by
 refine⟨fun i m σ H=>m=xs.length-i/\i<=xs.length/\Pv i σ H,⟨xs.length,by simp,Nat.zero_le _,h0⟩,?_⟩;rintro i m σ H ⟨rfl,hi,p⟩;obtain⟨q,q'⟩:=hl i σ H hi p;by_cases hlt:i<xs.length
 ·refine .inr ⟨⟨xs,xs[i],ys,ys[i],q,by simp[hlt],q',by simp⟩,Pv (i+1),fun σ' H' p'=>⟨xs.length-(i+1),by omega,rfl,hlt,p'⟩,fun x H' y=>?_⟩;obtain⟨T,u,v,rfl,hT,e,y,y'⟩:=y;exact hs i u v σ H T H' (y xs q) (y' ys q') p (fun b o h=>by rw[e,jh (jg h hT)];exact h) (by rw[e];exact jA)
 ·have e:i=xs.length:=by omega
  subst e;exact .inl ⟨⟨xs,ys,q,q',.inl (Nat.le_refl _)⟩,hd σ H p⟩
theorem rd_iZip{K:Frg}{ta:TA}{σ:St}{H:Hp}{R:It->Hp->Prop}(h:ta σ H fun vs H1=>∃a b xs ys,vs=[.ref a,.ref b]/\SqL K H1 a xs/\SqL K H1 b ys/\R (Itz K a b) H1):iZip K ta σ H R:=h
theorem KZ:entryFor table "dict.update.loop"= some Builtin.«dict.update.loop»:=entryFor_of_tree (by kernel_rfl)
theorem zZ:plainId "dict.update.loop"= true:=by decide +kernel
theorem j0K:typeLookup (.type "list") "keys"= pure none:=by rw[typeLookup_type,builtinLookup_eq_fast];kernel_rfl
section
variable{prog:Program}{w:World}{A:Around}{E:Value->Shared->Prop}{s:Shared}
theorem noKeys{a:Addr}{o:Obj}{xs:Array Value}{k:Nat}{Q:Option Value->Shared->Prop}(hx:s.heap.get? a=some o)(hc:o.cls = .type "list")(hdat:o.data = .seq xs k)(hd:o.dict=none)(hA:A.handled=none)
  (h:∀h' tk,(∀b o,s.heap.get? b=some o->h'.get? b=some o)->Q none {s with heap:=h',toks:=tk}):wpAny (model prog w) A (getAttr? (.ref a) "keys") Q E s:=by
 obtain⟨c,dct,dat,sl⟩:=o;simp only at hc hdat hd;subst hc hdat hd;obtain⟨hp,g,d,tk,os⟩:=s;have hT:∀tk',(⟨hp,g,d,tk',os⟩:Shared).TypeIs (.ref a) "list":=fun _=>⟨_,hx,rfl⟩
 have f1:=sub_AttributeError;have f3:=F.slot_list_getattribute.lookup;have f4:=F.slot_list_getattribute.bind (.ref a);have f5:=am_list_getattr_none;unfold getAttr? getAttrBy? getAttrBy
 repeat (any_goals (first | assumption | exact hT _ | ((with_reducible show wpAny _ _ (call (Value.builtin "list.__getattribute__") _ _) _ _ _);refine call_meets F.slot_list_getattribute (hT _) am_entry_list_getattribute (F.args_list_getattribute_2 _ _) (meets_getattribute_miss_list a xs k sl "keys" _ j0K (by decide +kernel) (by decide +kernel)) ⟨hx,hA,fun h' tk' e hx'=>?_⟩) | wp_step))
 obtain⟨t',u',he⟩:=hx'.there;show wpAny _ _ (getattributeRaised _ _ _ _ _ _ _) _ _ _;unfold getattributeRaised
 repeat (any_goals (first | assumption | wp_step))
 exact h _ _ hx'.keeps
variable{K:Type}[DecidableEq K]{knd:KeyKind prog w K}
noncomputable def foldS(acc:List (K×Value))(ps:List (K×Value)):List (K×Value):=ps.foldl (fun acc kv=>stored acc kv.1 kv.2) acc
theorem XH(acc:List (K×Value))(k:K)(v:Value):(stored acc k v).length<=acc.length+1:=by
 unfold stored;split
 ·rw[length_map];exact Nat.le_succ _
 ·rw[List.length_append];exact Nat.le_refl _
theorem dul{R:Result->Shared->Prop}{d it l:Addr}{items:List Value}{res:Value}(hh:A.handled=none)(hdi:d≠it)(hdl:d≠l)(hil:it≠l) :
  ∀(ps:List (K×Value)) (i:Nat) (acc:List (K×Value)) (s:Shared),s.heap.IsListIter it l i->s.heap.IsList l items.toArray->(items.length=i+ps.length)->
   (∀j kv,ps[j]?=some kv->∃a key,items[i+j]?=some (.ref a)/\IsTup s.heap a #[key,kv.2]/\knd.is kv.1 key=true/\a≠d/\a≠it)->s.heap.DictOf knd d acc->acc.length+ps.length<=sizeLine->
   (∀h' tk,(∀b o,b≠d->b≠it->s.heap.get? b=some o->h'.get? b=some o)->h'.DictOf knd d (foldS acc ps)->R (.ok (.ret res)) {s with heap:=h',toks:=tk})->
   codeAny (model prog w) A (.builtin "dict.update.loop" ⟨[.ref d,.ref it,rawInt i,res],[]⟩) R s
 | [],i,acc,s,hit,hl,hn,hp,hd,hz,hR=>by
  refine codeAny_builtin KZ ?_;rw[Around.under_plainId zZ _];show wpAny _ A.in1 (pyNext (.ref it) >>= _) _ _ s;refine wpAny_bind (wpAny_pyNext_list_end (A:=A.in1) hh hit hl (by simp;simp at hn;omega) fun h' eb=>?_);show wpAny _ A.in1 (Builtin.Dict.addKeywords d [] >>= _) _ _ _;refine wpAny_bind (wpAny_pure (wpAny_pure (hR h' s.toks (fun b o _ hb e=>eb b o hb e) ?_)));exact hd.extBut eb hdi
 | kv::ps,i,acc,s,hit,hl,hn,hp,hd,hz,hR=>by
  obtain⟨a,key,ha,ht,hk,had,hai⟩:=hp 0 kv rfl;refine codeAny_builtin KZ ?_;rw[Around.under_plainId zZ _];show wpAny _ A.in1 (pyNext (.ref it) >>= _) _ _ s;refine wpAny_bind (wpAny_pyNext_list_item (A:=A.in1) hit hl (x:=.ref a) (by simpa using ha) fun h1 hit1 sb=>?_);obtain⟨ot,eo,oc,n,od⟩:=ht;have eo1:h1.get? a=some ot:=(sb.2 a hai).trans eo;show wpAny _ A.in1 (holding [Value.ref a] _ >>= _) _ _ _;refine wpAny_bind (wpAny_holding ?_);refine wpAny_bind (wpAny_tryCatch ?_);unfold Builtin.Dict.pairItems;refine wpAny_bind (wpAny_typeOf (T:="tuple") ⟨_,eo1,oc⟩ ?_);show wpAny _ A.in1 (if((Value.type "tuple"== Value.type "list")||(Value.type "tuple"== Value.type "tuple"))=true then _ else _) _ _ _;rw[if_pos (by decide)];refine wpAny_bind (wpAny_seqItems eo1 od ?_);refine wpAny_pure ?_;show wpAny _ A.in1 (holding [key,kv.2] (dictSet d key kv.2)) _ _ _;have hd1:h1.DictOf knd d acc:=hd.extBut (fun b o hb e=>(sb.2 b hb).trans e) hdi;refine wpAny_holding (wpAny_dictSet_pairs (s:={s with heap:=h1}) hk hd1 (fun h2 hd2 sb2=>?_) (by simp at hz;omega));show wpAny _ A.in1 (again _) _ _ _;refine wpAny_pure ⟨plainId_quiet zZ _,?_⟩;have kp:∀b o,b≠d->b≠it->s.heap.get? b=some o->h2.get? b=some o:=fun b o h1' h2' e=>(sb2.2 b h1').trans ((sb.2 b h2').trans e)
  have sl:=XH acc kv.1 kv.2;refine dul hh hdi hdl hil ps (i+1) (stored acc kv.1 kv.2) _ (hit1.at fun o e=>(sb2.2 it hdi.symm).trans e) (hl.at fun o e=>kp l o hdl.symm hil.symm e) (by simp at hn;omega) (fun j kv' hj=>?_) hd2 (by simp at hz;omega) fun h3 tk k3 hd3=>?_
  ·obtain⟨a',key',ha',ht',hk',had',hai'⟩:=hp (j+1) kv' (by simpa using hj);obtain⟨o',e',r'⟩:=ht';exact⟨a',key',by rw[<-ha'];congr 1;omega,⟨o',kp _ _ had' hai' e',r'⟩,hk',had',hai'⟩
  ·exact hR h3 tk (fun b o h1' h2' e=>k3 b o h1' h2' (kp b o h1' h2' e)) hd3
end
open PySem PySem.W PyProof.Rows
section
variable{n:Nat}{key:Nat->Int}{p:Array Nat}
noncomputable def Tw(n:Nat)(key:Nat->Int){α:Type}:KasT α->(α->Prop)->Prop
 | .ret a,Q=>Q a
 | .ask i j k,Q=>i<n/\j<n/\Tw n key (k (decide (key i<key j))) Q
theorem Tw.bind{α β:Type}{f:α->KasT β}{Q:β->Prop}:∀{t:KasT α},Tw n key t (fun a=>Tw n key (f a) Q)->Tw n key (t.bind f) Q
 | .ret _,h=>h
 | .ask _ _ _,h=>⟨h.1,h.2.1,Tw.bind h.2.2⟩
theorem Tw.mono{α:Type}{Q Q':α->Prop}(hq:∀a,Q a->Q' a):∀{t:KasT α},Tw n key t Q->Tw n key t Q'
 | .ret _,h=>hq _ h
 | .ask _ _ _,h=>⟨h.1,h.2.1,Tw.mono hq h.2.2⟩
theorem Tw.run{α:Type}{cmp:Nat->Nat->(Bool->Shared->Prop)->Shared->Prop}{Q:α->Shared->Prop}{s:Shared}(hc:∀i j C,i<n->j<n->C (decide (key i<key j)) s->cmp i j C s) :
  ∀{t:KasT α},Tw n key t (fun a=>Q a s)->t.kasWp cmp Q s
 | .ret _,h=>h
 | .ask i j k,h=>hc i j _ h.1 h.2.1 (Tw.run hc h.2.2)
theorem Tw.asks{α:Type}{i j:Nat}{k:Bool->KasT α}{Q:α->Prop}(hi:i<n)(hj:j<n)(h1:key i<key j->Tw n key (k true) Q)(h2:¬key i<key j->Tw n key (k false) Q):Tw n key (.ask i j k) Q:=by
 refine⟨hi,hj,?_⟩;by_cases c:key i<key j
 ·rw[decide_eq_true c];exact h1 c
 ·rw[decide_eq_false c];exact h2 c
def Pk(n:Nat)(p:Array Nat):Prop:=p.toList.Perm (List.range n)
noncomputable def kv(key:Nat->Int)(p:Array Nat)(i:Nat):Int:=key (p.getD i 0)
def Up(key:Nat->Int)(p:Array Nat)(k:Nat):Prop:=∀i j,i<=j->j<k->kv key p i<=kv key p j
def Dn(key:Nat->Int)(p:Array Nat)(k:Nat):Prop:=∀i j,i<=j->j<k->kv key p j<=kv key p i
def Eqs(key:Nat->Int)(p:Array Nat)(m q:Nat):Prop:=∀k,m-(q+1)<=k->k<m->kv key p k=kv key p (m-1)
theorem Pk.size(h:Pk n p):p.size=n:=by have:=h.length_eq;simpa using this
theorem Pk.lt(h:Pk n p)(h0:0<n)(i:Nat):p.getD i 0<n:=by
 rw[Array.getD_eq_getD_getElem?];cases e:p[i]? with
 | none=>exact h0
 | some x=>exact mem_range.mp (h.mem_iff.mp (Array.mem_toList_iff.mpr (Array.mem_of_getElem? e)))
theorem Pk.of(h:Pk n p){q:Array Nat}(hq:q.Perm p):Pk n q:=(Array.perm_iff_toList_perm.mp hq).trans h
theorem xa{a b:Array Nat}{i j:Nat}(h:a[i]?=b[j]?):kv key a i=kv key b j:=by
 unfold kv;rw[Array.getD_eq_getD_getElem?,Array.getD_eq_getD_getElem?,h]
theorem Xn{i j:Nat}(hj:j<=p.size)(k:Nat):kv key (kas_rev p i j) k=if i<=k/\k<j then kv key p (i+j-1-k)else kv key p k:=by
 have h:=getElem?_mirror_all (xs:=p) (i:=i) hj k;split
 ·rename_i c;rw[if_pos c]at h;exact xa h
 ·rename_i c;rw[if_neg c]at h;exact xa h
theorem j4o{src d:Nat}(hs:src<p.size)(hd:d<=src)(k:Nat):kv key (bubble p src d) k=if k=src-d then kv key p src else if src-d<k/\k<=src then kv key p (k-1)else kv key p k:=by
 have h:=getElem?_bubble (xs:=p) hs d hd k;split
 ·rename_i c;rw[if_pos c]at h;exact xa h
 ·rename_i c;rw[if_neg c]at h;split
  ·rename_i c';rw[if_pos c']at h;exact xa h
  ·rename_i c';rw[if_neg c']at h;exact xa h
theorem Up.snoc{m:Nat}(h:Up key p m)(h1:1<=m)(hc:¬kv key p m<kv key p (m-1)):Up key p (m+1):=fun i j hij hj=>by
 by_cases e:j<m
 ·exact h i j hij e
 ·have ej:j=m:=by omega
  subst ej;by_cases ei:i=j
  ·rw[ei];exact Int.le_refl _
  ·have:=h i (j-1) (by omega) (by omega);omega
theorem Dn.snoc{m:Nat}(h:Dn key p m)(h1:1<=m)(hc:kv key p m<=kv key p (m-1)):Dn key p (m+1):=fun i j hij hj=>by
 by_cases e:j<m
 ·exact h i j hij e
 ·have ej:j=m:=by omega
  subst ej;by_cases ei:i=j
  ·rw[ei];exact Int.le_refl _
  ·have:=h i (j-1) (by omega) (by omega);omega
theorem j2w(hp:Pk n p):∀f m,1<=m->m+f<=n->Up key p m->Tw n key (kas_asc p f m) fun r=>m<=r/\r<=m+f/\Up key p r/\(r<m+f->kv key p r<kv key p (r-1))
 | 0,m,h1,hn,hu=>⟨Nat.le_refl _,Nat.le_refl _,hu,fun h=>absurd h (Nat.lt_irrefl _)⟩
 | f+1,m,h1,hn,hu=>by
  refine Tw.asks (hp.lt (by omega) _) (hp.lt (by omega) _) (fun c=>?_) (fun c=>?_)<;>simp only[Bool.false_eq_true,if_true,if_false]
  ·exact⟨Nat.le_refl _,by omega,hu,fun _=>c⟩
  ·exact Tw.mono (fun r h=>⟨by omega,by omega,h.2.2.1,fun hr=>h.2.2.2 (by omega)⟩) (j2w hp f (m+1) (by omega) (by omega) (hu.snoc h1 c))
theorem X7{m q:Nat}(hm:m<=p.size)(he:Eqs key p m q)(k:Nat):kv key (kas_rev p (m-(q+1)) m) k=kv key p k:=by
 rw[Xn hm];split
 ·rename_i c;rw[he k c.1 c.2,he _ (by omega) (by omega)]
 ·rfl
theorem WI:∀f (p:Array Nat) m q,Pk n p->1<=m->m+f<=n->q+1<=m->Dn key p m->Eqs key p m q->
  Tw n key (kas_desc f p m q) fun r=>Pk n r.1/\m<=r.2.1/\r.2.1<=m+f/\Dn key r.1 r.2.1/\r.2.2+1<=r.2.1/\Eqs key r.1 r.2.1 r.2.2
 | 0,p,m,q,hp,h1,hn,hq,hd,he=>⟨hp,Nat.le_refl _,Nat.le_refl _,hd,hq,he⟩
 | f+1,p,m,q,hp,h1,hn,hq,hd,he=>by
  have sz:=hp.size;refine Tw.asks (hp.lt (by omega) _) (hp.lt (by omega) _) (fun c=>?_) (fun c=>?_)<;>simp only[Bool.false_eq_true,if_true,if_false]
  ·have c:kv key p m<kv key p (m-1):=c;split
   ·have hk:=X7 (key:=key) (p:=p) (m:=m) (q:=q) (by omega) he;have hp':Pk n (kas_rev p (m-(q+1)) m):=hp.of (mirror_perm _ _ _ _);refine Tw.mono (fun r h=>⟨h.1,by omega,by omega,h.2.2.2⟩) (WI f _ (m+1) 0 hp' (by omega) (by omega) (by omega) (fun i j hij hj=>?_) fun k k1 k2=>?_)
    ·rw[hk,hk];exact hd.snoc h1 (by omega) i j hij hj
    ·rw[show k=m+1-1 by omega]
   ·refine Tw.mono (fun r h=>⟨h.1,by omega,by omega,h.2.2.2⟩) (WI f p (m+1) 0 hp (by omega) (by omega) (by omega) (hd.snoc h1 (by omega)) fun k k1 k2=>?_);rw[show k=m+1-1 by omega]
  ·have c:¬kv key p m<kv key p (m-1):=c;refine Tw.asks (hp.lt (by omega) _) (hp.lt (by omega) _) (fun c2=>?_) (fun c2=>?_)<;>simp only[Bool.false_eq_true,if_true,if_false]
   ·exact⟨hp,Nat.le_refl _,Nat.le_add_right m (f+1),hd,hq,he⟩
   ·have c2:¬kv key p (m-1)<kv key p m:=c2;refine Tw.mono (fun r h=>⟨h.1,by omega,by omega,h.2.2.2⟩) (WI f p (m+1) (q+1) hp (by omega) (by omega) (by omega) (hd.snoc h1 (by omega)) fun k k1 k2=>?_);rw[Nat.add_sub_cancel];by_cases e:k=m
    ·rw[e]
    ·rw[he k (by omega) (by omega)];omega
theorem j2y{m:Nat}(hp:Pk n p)(h1:1<=m)(hn:m<=n)(hd:Dn key p m):Tw n key (kas_tail3 m n p) fun r=>Pk n r.2/\1<=r.1/\r.1<=n/\Up key r.2 r.1:=by
 have sz:=hp.size;have hp':Pk n (kas_rev p 0 m):=hp.of (mirror_perm _ _ _ _);have hk:=Xn (key:=key) (p:=p) (i:=0) (j:=m) (by omega);refine Tw.bind (Tw.mono (fun r h=>?_) (j2w hp' (n-m) m h1 (by omega) fun i j hij hj=>?_))
 ·exact⟨hp',by omega,by omega,h.2.2.1⟩
 ·rw[hk,hk,if_pos ⟨Nat.zero_le _,by omega⟩,if_pos ⟨Nat.zero_le _,hj⟩];exact hd _ _ (by omega) (by omega)
theorem j2x{m:Nat}(hp:Pk n p)(hn:m+1<=n)(hd:Dn key p (m+1)):Tw n key (kas_descPart m n p) fun r=>Pk n r.2/\1<=r.1/\r.1<=n/\Up key r.2 r.1:=by
 refine Tw.bind (Tw.mono (fun r h=>?_) (WI (n-(m+1)) p (m+1) 0 hp (by omega) (by omega) (by omega) hd fun k k1 k2=>by rw[show k=m+1-1 by omega]));obtain⟨a,b,c,d,e,g⟩:=h;have sz:=a.size;split
 ·have hk:=X7 (key:=key) (p:=r.1) (m:=r.2.1) (q:=r.2.2) (by omega) g;exact j2y (a.of (mirror_perm _ _ _ _)) (by omega) (by omega) fun i j hij hj=>by rw[hk,hk];exact d i j hij hj
 ·exact j2y a (by omega) (by omega) d
theorem j3O(hp:Pk n p)(h1:1<=n):Tw n key (kas_count n p) fun r=>Pk n r.2/\1<=r.1/\r.1<=n/\Up key r.2 r.1:=by
 have sz:=hp.size;refine Tw.bind (Tw.mono (fun r h=>?_) (j2w (key:=key) hp (n-1) 1 (by omega) (by omega) fun i j hij hj=>by rw[show i=j by omega];exact Int.le_refl _));obtain⟨a,b,c,d⟩:=h;split
 ·exact⟨hp,a,by omega,c⟩
 rename_i hne;have hrn:r<n:=by
  have:r≠n:=fun e=>hne (by rw[e];simp)
  omega
 have d:=d (by omega);split
 ·refine Tw.asks (hp.lt (by omega) _) (hp.lt (by omega) _) (fun q=>?_) (fun q=>?_)<;>simp only[Bool.false_eq_true,if_true,if_false]
  ·exact⟨hp,a,by omega,c⟩
  ·have q:¬kv key p 0<kv key p (r-1):=q;have hk:=Xn (key:=key) (p:=p) (i:=0) (j:=r) (by omega);have eqs:∀i,i<r->kv key p i=kv key p (r-1):=fun i hi=>by
    have h1:=c 0 i (Nat.zero_le _) hi;have h2:=c i (r-1) (by omega) (by omega);omega
   have eqk:∀i,kv key (kas_rev p 0 r) i=kv key p i:=fun i=>by
    rw[hk];split
    ·rename_i q';rw[eqs _ q'.2,eqs _ (by omega)]
    ·rfl
   refine j2x (hp.of (mirror_perm _ _ _ _)) (by omega) fun i j hij hj=>?_
   rw[eqk,eqk];by_cases e:j=r
   ·by_cases e2:i=r
    ·rw[e,e2];exact Int.le_refl _
    ·rw[e,eqs i (by omega)];omega
   ·rw[eqs i (by omega),eqs j (by omega)];exact Int.le_refl _
 ·have er:r=1:=by omega
  subst er;refine j2x hp (by omega) fun i j hij hj=>?_
  rcases(by omega:(i=0/\j=0)\/(i=0/\j=1)\/(i=1/\j=1))with⟨rfl,rfl⟩ | ⟨rfl,rfl⟩ | ⟨rfl,rfl⟩
  ·exact Int.le_refl _
  ·have:kv key p 1<kv key p (1-1):=d;exact Int.le_of_lt this
  ·exact Int.le_refl _
theorem WJ{k:Nat}(hp:Pk n p)(hkn:k<n)(hu:Up key p k):∀f l r,l<=r->r<=k->r-l<=f->(∀i,i<l->kv key p i<=kv key p k)->(∀i,r<=i->i<k->kv key p k<kv key p i)->
  Tw n key (kas_place p k f l r) fun m=>m<=k/\(∀i,i<m->kv key p i<=kv key p k)/\∀i,m<=i->i<k->kv key p k<kv key p i
 | 0,l,r,h1,h2,h3,a,b=>⟨by omega,a,fun i hi=>b i (by omega)⟩
 | f+1,l,r,h1,h2,h3,a,b=>by
  unfold kas_place;split
  ·exact⟨by omega,a,fun i hi=>b i (by omega)⟩
  refine Tw.asks (hp.lt (by omega) _) (hp.lt (by omega) _) (fun q=>?_) (fun q=>?_)<;>simp only[Bool.false_eq_true,if_true,if_false]
  ·have q:kv key p k<kv key p ((l+r)/2):=q;exact WJ hp hkn hu f l _ (by omega) (by omega) (by omega) a fun i hi hk=>by
    have:=hu ((l+r)/2) i hi hk;omega
  ·have q:¬kv key p k<kv key p ((l+r)/2):=q;exact WJ hp hkn hu f _ r (by omega) h2 (by omega) (fun i hi=>by
    have:=hu i ((l+r)/2) (by omega) (by omega);omega) b
theorem j43:∀f (p:Array Nat) k,Pk n p->k+f<=n->Up key p k->Tw n key (kas_bin f p k) fun q=>Pk n q/\Up key q (k+f)
 | 0,p,k,hp,hn,hu=>⟨hp,hu⟩
 | f+1,p,k,hp,hn,hu=>by
  have sz:=hp.size;refine Tw.bind (Tw.mono (fun l h=>?_) (WJ hp (by omega) hu k 0 k (Nat.zero_le _) (Nat.le_refl _) (by omega) (fun i hi=>absurd hi (Nat.not_lt_zero _)) fun i h1 h2=>absurd h1 (by omega)));obtain⟨a,b,c⟩:=h;have hk:=j4o (key:=key) (p:=p) (src:=k) (d:=k-l) (by omega) (by omega);refine Tw.mono (fun q h=>⟨h.1,by rw[show k+(f+1)=k+1+f by omega];exact h.2⟩) (j43 f _ (k+1) (hp.of (bubble_perm _ _ _)) (by omega) fun i j hij hj=>?_);rw[hk,hk,show k-(k-l)=l by omega]
  repeat' split
  all_goals first
   | exact Int.le_refl _
   | (exfalso;omega)
   | exact Int.le_of_lt (c _ (by omega) (by omega))
   | exact b _ (by omega)
   | exact hu _ _ (by omega) (by omega)
   | (have h1:=b i (by omega);have h2:=c (j-1) (by omega) (by omega);omega)
theorem j4I(h2:1<=n):Tw n key (kas_sort n) fun q=>Pk n q/\Up key q n:=by
 have hp:Pk n (List.toArray (List.range n)):=List.Perm.refl _;refine Tw.bind (Tw.mono (fun r h=>?_) (j3O (key:=key) hp h2));obtain⟨a,b,c,d⟩:=h;split
 ·refine Tw.mono (fun q h=>⟨h.1,?_⟩) (j43 (n-max r.1 1) r.2 (max r.1 1) a (by omega) (by rw[show max r.1 1=r.1 by omega];exact d));have e:max r.1 1+(n-max r.1 1)=n:=by omega
  rw[e]at h;exact h.2
 ·have e:r.1=n:=by omega
  exact⟨a,by rw[<-e];exact d⟩
end
section
variable{prog:Program}{w:World}{A:Around}{E:Value->Shared->Prop}{s:Shared}
def PrAt(h:Heap)(as:List Addr)(key:Nat->Int):Prop:=∀i a,as[i]?=some a->∃o t u n,h.get? a=some o/\o.cls = .type "tuple"/\o.data = .seq #[.int (key i) t,u] n
theorem PrAt.keep{h h':Heap}{as:List Addr}{key:Nat->Int}(x:PrAt h as key)(k:∀a∈as,∀o,h.get? a=some o->h'.get? a=some o):PrAt h' as key:=fun i a e=>by
 obtain⟨o,t,u,n,q,r⟩:=x i a e;exact⟨o,t,u,n,k a (List.mem_of_getElem? e) _ q,r⟩
theorem j52{as:List Addr}{key:Nat->Int}(x:PrAt s.heap as key)(inj:∀i j,i<as.length->j<as.length->key i=key j->i=j){i j:Nat}{C:Bool->Shared->Prop}(hi:i<as.length)(hj:j<as.length)
  (h:C (decide (key i<key j)) s):kas_ask prog w A (tuples' true) (as.map Value.ref) i j C s:=by
 unfold kas_ask;obtain⟨o,t,u,n,q1,c1,d1⟩:=x i _ (List.getElem?_eq_getElem hi);obtain⟨o',t',u',n',q2,c2,d2⟩:=x j _ (List.getElem?_eq_getElem hj);have e1:(as.map Value.ref).getD i Value.none = .ref as[i]:=by rw[getD_eq_getElem?_getD,List.getElem?_map,List.getElem?_eq_getElem hi];rfl
 have e2:(as.map Value.ref).getD j Value.none = .ref as[j]:=by rw[getD_eq_getElem?_getD,List.getElem?_map,List.getElem?_eq_getElem hj];rfl
 rw[e1,e2];refine kat_lt q1 d1 q2 d2 ?_;show KatLex prog w A true _ C [(.int (key i) t,.int (key j) t'),(u,u')] 0 s;refine kat_cons (wpAny_eqBool_int ?_);by_cases c:key i=key j
 ·have ij:=inj i j hi hj c;subst ij;rw[beq_self_eq_true];have eu:u=u':=by
   have e:o=o':=Option.some.inj (q1.symm.trans q2);subst e;have e:=d1.symm.trans d2;injection e with e _;have:=congrArg (fun a:Array Value=>a[1]?) e;simpa using this
  subst eu;refine kat_yes (kat_cons (SeqAt.EqAt.same _ _ _ _ _ ?_));refine kat_yes (kat_nil ?_);rw[decide_eq_false (Int.lt_irrefl _)]at h;exact h
 ·rw[beq_false_of_ne c];exact kat_no (oneLt_int h)
theorem j0a{h:Heap}{key:Nat->Int}:∀{as:List Addr} (_:PrAt h as key),∃fs,KatTups h (as.map Value.ref) fs/\fs.length=as.length/\∀v∈fs,∃n t,v=Value.int n t
 | [],_=>⟨[],KatTups.nil,rfl,fun v hv=>nomatch hv⟩
 | a::r,x=>by
  obtain⟨o,t,u,n,q,c,d⟩:=x 0 a rfl;obtain⟨fs,k,l,f⟩:=j0a (key:=fun i=>key (i+1)) (as:=r) fun i b e=>x (i+1) b (by simpa using e)
  refine⟨.int (key 0) t::fs,KatTups.cons q c d rfl k,by rw[length_cons,l,length_cons],fun v hv=>?_⟩;rcases mem_cons.mp hv with rfl | hv
  ·exact⟨_,_,rfl⟩
  ·exact f v hv
theorem j3S(vs:List Value):(vs.toArray.zip vs.toArray).map (·.2)=vs.toArray:=by
 apply Array.toList_inj.mp;rw[Array.toList_map,Array.toList_zip];exact List.map_snd_zip (Nat.le_refl _)
theorem j0Z(vs:List Value):(List.range vs.length).map (fun i=>vs.getD i Value.none)=vs:=by
 refine ext_getElem (by simp) fun i h1 h2=>?_
 rw[getElem_map,getElem_range,getD_eq_getElem?_getD,List.getElem?_eq_getElem h2];rfl
theorem j2b:∀{l:List Int},l.length<2->l.Pairwise (·<=·)
 | [],_=>.nil
 | [_],_=>pairwise_singleton _ _
 | _::_::_,h=>absurd h (by rw[length_cons,length_cons];omega)
theorem j2s{a:Addr}{as:List Addr}{key:Nat->Int}{c0:Nat}{P:PySem.Fin->Shared->Prop}(hob:s.heap.get? a=some (seqObj "list" (as.map Value.ref).toArray c0))(hna:a∉as)(x:PrAt s.heap as key)
  (inj:∀i j,i<as.length->j<as.length->key i=key j->i=j) (h64:as.length<64)
  (hend:∀(q:List Nat) (h':Heap) (c:Nat),q.Perm (List.range as.length)->(q.map key).Pairwise (·<=·)->(∀b o,b≠a->s.heap.get? b=some o->h'.get? b=some o)->
   h'.get? a=some (seqObj "list" ((q.map fun i=>as.getD i 0).map Value.ref).toArray c)->P (.done (.ret .none)) {s with heap:=h'}) :
  wpAny (model prog w) A (Builtin.«list.sort» ⟨[.ref a],[]⟩) P E s:=by
 have hlt:a<s.heap.objs.size:=Heap.lt_size hob;obtain⟨c1,hob1⟩:∃c1,(s.heap.update a (Obj.mapSeq fun _=>(#[]:Array Value))).get? a=some (seqObj "list" #[] c1):=⟨_,get?_update_seq hob fun _=>#[]⟩
 have sb1:=Heap.SameBut.update s.heap a (Obj.mapSeq fun _=>(#[]:Array Value));rw[list_sort_plain];refine wpAny_bind (listItems_at (s:=s) hob rfl ?_);refine wpAny_bind (listUpdate_at (s:=s) hob rfl ?_ (by rw[size_toArray,length_map,sizeLine_eq];omega) (Nat.zero_le _));refine wpAny_bind (seqEpoch_at (n:=c1) hob1 rfl ?_);refine wpAny_bind (wpAny_newTuple ?_ (by show(as.map Value.ref).length<=_;rw[length_map,sizeLine_eq];omega));refine wpAny_bind (wpAny_newList ?_ (Nat.zero_le (sizeLine)));refine wpAny_holding ?_;generalize hH:((s.heap.update a (Obj.mapSeq fun _=>(#[]:Array Value))).push (seqObj "tuple" (as.map Value.ref).toArray 0)).push (seqObj "list" #[] 0)=hX;have kX:∀b o,b≠a->s.heap.get? b=some o->hX.get? b=some o:=fun b o hb e=>by
  rw[<-hH];exact Heap.get?_push_of_some _ (Heap.get?_push_of_some _ ((sb1.2 b hb).trans e))
 have oX:hX.get? a=some (seqObj "list" #[] c1):=by
  rw[<-hH];exact Heap.get?_push_of_some _ (Heap.get?_push_of_some _ hob1)
 have xX:PrAt hX as key:=x.keep fun b hb o e=>kX b o (fun z=>hna (z▸hb)) e
 show wpAny (model prog w) A _ P E {s with heap:=hX};dsimp only;have szv:(as.map Value.ref).toArray.size=as.length:=by rw[size_toArray,length_map]
 have outE:∀q:List Nat,q.Perm (List.range as.length)->(List.map (fun i=>(as.map Value.ref).getD i Value.none) q)=(q.map fun i=>as.getD i 0).map Value.ref:=fun q hq=>by
  rw[map_map];refine map_congr_left fun i hi=>?_
  have hl:i<as.length:=mem_range.mp (hq.mem_iff.mp hi);show(as.map Value.ref).getD i Value.none=Value.ref (as.getD i 0);rw[getD_eq_getElem?_getD,getD_eq_getElem?_getD,List.getElem?_map,List.getElem?_eq_getElem hl];rfl
 have done:∀(q:List Nat),q.Perm (List.range as.length)->(q.map key).Pairwise (·<=·)->∀out:Array Value,out=(List.map (fun i=>(as.map Value.ref).getD i Value.none) q).toArray->
   P (.done (.ret .none)) {s with heap:=hX.update a (Obj.mapSeq fun _=>out)}:=fun q hq hs out ho=>by
  subst ho;have o2:=get?_update_seq oX fun _=>(List.map (fun i=>(as.map Value.ref).getD i Value.none) q).toArray
  have sb2:=Heap.SameBut.update hX a (Obj.mapSeq fun _=>(List.map (fun i=>(as.map Value.ref).getD i Value.none) q).toArray);rw[outE q hq]at o2 sb2|-;exact hend q _ _ hq hs (fun b o hb e=>(sb2.2 b hb).trans (kX b o hb e)) o2
 by_cases h2:(as.map Value.ref).toArray.size<2
 ·rw[if_pos h2,if_pos h2];refine wpAny_bind (wpAny_pure ?_);rw[StateT.run_pure];refine wpAny_bind (wpAny_pure ?_);dsimp only;refine wpAny_bind (seqEpoch_at (n:=c1) oX rfl ?_);have eo:(arrOf (SortSt.mk' general' ((as.map Value.ref).toArray.zip (as.map Value.ref).toArray) #[] 7 none)).map (·.2)=(List.map (fun i=>(as.map Value.ref).getD i Value.none) (List.range as.length)).toArray:=by
   have e:=j0Z (as.map Value.ref);rw[length_map]at e;rw[e];exact j3S _
  rw[eo];refine wpAny_bind (listUpdate_at (s:={s with heap:=hX}) oX rfl ?_ (Nat.zero_le _) (by rw[size_toArray,length_map,length_range,sizeLine_eq];omega));simp only[bne_self_eq_false,Bool.false_eq_true,if_false];refine wpAny_pure (done (List.range as.length) (List.Perm.refl _) ?_ _ rfl);rw[szv]at h2;exact j2b (by rw[length_map,length_range];exact h2)
 ·rw[if_neg h2,if_neg h2];rw[szv]at h2;obtain⟨fs,kt,kl,ki⟩:=j0a xX;have hX':hX=({s with heap:=hX}:Shared).heap:=rfl;refine wpAny_bind (kat_kind (s:={s with heap:=hX}) (T:=Value.type "int") kt (by omega) (fun v hv=>?_) (by decide) ?_)
  ·obtain⟨m,t,rfl⟩:=ki v hv;exact Looks.of_pure rfl
  refine wpAny_bind (wpAny_mono (kat_run (s:={s with heap:=hX}) (ks:=as.map Value.ref) (vs:=as.map Value.ref) (κ:=tuples' true) (Q:=fun st' s'=>∃p:Array Nat,Pk as.length p/\Up key p as.length/\arrOf st'=p.map (kas_item ((as.map Value.ref).toArray.zip (as.map Value.ref).toArray))/\failedOf st'=none/\s'={s with heap:=hX}) (G:=fun p s'=>Pk as.length p/\Up key p as.length/\s'={s with heap:=hX})
   rfl (by rw[length_map];omega) (by rw[length_map];exact h64) (fun p st' s' _ a2 a3 a4=>⟨p,a4.1,a4.2.1,a2,a3,a4.2.2⟩) ?_) ?_ fun _ _ e=>e)
  ·rw[length_map];exact Tw.run (n:=as.length) (key:=key) (fun i j C hi hj hC=>j52 xX inj hi hj hC) (Tw.mono (fun q h=>⟨h.1,h.2,rfl⟩) (j4I (key:=key) (by omega)))
  rintro⟨⟨⟩,st'⟩ s' ⟨p,hp,hu,har,hf,rfl⟩;dsimp only;rw[kat_snds rfl har];refine wpAny_bind (seqEpoch_at (n:=c1) oX rfl ?_);have psz:=hp.size;refine wpAny_bind (listUpdate_at (s:={s with heap:=hX}) oX rfl ?_ (Nat.zero_le _) (by rw[size_toArray,length_map,Array.length_toList,psz,sizeLine_eq];omega));rw[hf];simp only[bne_self_eq_false,Bool.false_eq_true,if_false];refine wpAny_pure (done p.toList hp ?_ _ rfl);refine pairwise_map.mpr (pairwise_iff_getElem.mpr fun i j hi hj hij=>?_);rw[Array.length_toList]at hi hj;have:=hu i j (by omega) (by omega);unfold kv at this;rw[Array.getD_eq_getD_getElem?,Array.getD_eq_getD_getElem?,Array.getElem?_eq_getElem hi,Array.getElem?_eq_getElem hj]at this;exact this
end
open PySem PySem.Spec PySem.W PyProof.Rows
section
variable{X:Cx}{pins:List (Addr×Obj)}{σ:St}{H:Hp}{s:Shared}
def NewA(X:Cx)(pins:List (Addr×Obj))(T:Addr):Prop:=X.s₀.heap.objs.size<=T/\T≠X.env.locals/\(∀x c,X.env.cells.lookup x=some c->c≠T)/\∀p∈X.pn++pins,p.1≠T
theorem Inv.newA(I:Inv X pins σ H s){T:Addr}(hT:s.heap.objs.size<=T):NewA X pins T:=by
 obtain⟨_,f1,_,_,f4,f5⟩:=I.fpOk (H':=fun _=>none) hT rfl;exact⟨Nat.le_trans I.sz hT,f1,f4,f5⟩
theorem ObjOk.obj{P:Program}{w:World}{h:Heap}{a:Addr}{o:HO}(x:ObjOk P w H h a o):∃u,h.get? a=some u:=by
 cases o with
 | lst xs=>obtain⟨_,_,_,_,e⟩:=x;exact⟨_,e⟩
 | tup xs=>obtain⟨_,_,_,u,e,_⟩:=x;exact⟨u,e⟩
 | dK kvs=>obtain⟨_,_,_,_,u,_,_,e,_⟩:=x;exact⟨u,e⟩
 | dT kvs=>obtain⟨_,_,_,_,u,_,_,e,_⟩:=x;exact⟨u,e⟩
 | set S n=>obtain⟨u,_,_,_,e,_⟩:=x;exact⟨u,e⟩
 | ins C dx fs=>obtain⟨_,_,_,e,_⟩:=x;exact⟨_,e⟩
 | own y=>exact x
 | xd fs=>obtain⟨_,⟨u,_,_,e,_⟩,_⟩:=x;exact⟨u,e⟩
 | rng lo hi=>obtain⟨_,_,_,e⟩:=x;exact⟨_,e⟩
 | frz u v=>exact⟨_,x.1⟩
 | tbl ps=>exact⟨_,x⟩
 | met f y=>exact⟨_,x⟩
 | ext φ=>exact x.2.1
theorem Inv.none_at{h1:Heap}(I:Inv X pins σ H s)(hk:∀b o,s.heap.get? b=some o->h1.get? b=some o):H h1.objs.size=none:=by
 cases e:H h1.objs.size with
 | none=>rfl
 | some u=>
  obtain⟨v,q⟩:=(I.hok _ _ e).obj;exact absurd (Heap.lt_size (hk _ _ q)) (Nat.lt_irrefl _)
theorem Inv.newB{h1:Heap}(I:Inv X pins σ H s)(hk:∀b o,s.heap.get? b=some o->h1.get? b=some o):NewA X pins h1.objs.size:=by
 have lt:∀b o,s.heap.get? b=some o->b<h1.objs.size:=fun b o e=>Heap.lt_size (hk b o e)
 obtain⟨m,⟨o,_,_,ho,_⟩,_⟩:=I.loc;have hL:=lt _ _ ho;refine⟨Nat.le_of_lt (Nat.lt_of_le_of_lt I.ok.above hL),Nat.ne_of_gt hL,fun x c e=>?_,fun p hp=>Nat.ne_of_lt (lt _ _ (I.pin p hp).1)⟩;obtain⟨v,o,ho,_⟩:=I.cell x c e;exact Nat.ne_of_lt (lt _ _ ho)
theorem Inv.track{T:Addr}{o:HO}(I:Inv X pins σ H s)(h0:H T=none)(hn:NewA X pins T)(new:ObjOk X.prog X.w (upd H T o) s.heap T o):Inv X pins σ (upd H T o) s:=by
 have ne:∀b u,H b=some u->b≠T:=fun b u e z=>by rw[z,h0]at e;cases e
 refine I.step (h':=s.heap) (H':=upd H T o) (g':=s.gens) (d':=s.drawn) (t':=s.toks) (ch:=[T]) (fun b hb=>?_) (fun b o _ _ _ e _=>e) (fun b o _ _ _ e _=>⟨o.slots,e⟩) (fun b u hb _ n=>?_) (fun b u _ e=>⟨u,e⟩)
  (fun b xs e=>(jh (ne _ _ e)).trans e) (fun b u v e=>(jh (ne _ _ e)).trans e) (fun b ps e=>⟨#[],by rw[jh (ne _ _ e),e];simp⟩) (fun m hm=>hm) (fun b u e=>?_) I.bare
 ·have e:b=T:=by simpa using hb
  subst e;exact⟨.inr hn.1,hn.2.1,hn.2.2.1,hn.2.2.2⟩
 ·exact(jh fun z=>hb (by simp[z])).trans n
 ·by_cases z:b=T
  ·subst z;rw[jA]at e;cases e;exact new
  ·rw[jh z]at e;exact(I.hok b u e).stay (fun c v _ q=>q) (fun c q=>(jh (ne _ _ q)).trans q) fun c ys q=>(jh (ne _ _ q)).trans q
theorem Inv.trackAll:∀(ws:List (Addr×HO)) {H:Hp},Inv X pins σ H s->(∀p∈ws,H p.1=none/\NewA X pins p.1/\∀H',ObjOk X.prog X.w H' s.heap p.1 p.2)->(ws.map (·.1)).Nodup->∃H',Inv X pins σ H' s/\Same H H'/\∀p∈ws,H' p.1=some p.2
 | [],H,I,_,_=>⟨H,I,Same.refl _,fun p hp=>nomatch hp⟩
 | w::r,H,I,h,nd=>by
  obtain⟨a,b,c⟩:=h w mem_cons_self;rw[map_cons,nodup_cons]at nd;have I1:=I.track a b (c _);obtain⟨H',I2,s2,k2⟩:=Inv.trackAll r I1 (fun p hp=>by
   obtain⟨a',b',c'⟩:=h p (mem_cons_of_mem _ hp);exact⟨(jh fun z:p.1=w.1=>nd.1 (by rw[<-z];exact mem_map.mpr ⟨p,hp,rfl⟩)).trans a',b',c'⟩) nd.2
  have s1:Same H (upd H w.1 w.2):=fun b u q=>(jh (jg q a)).trans q
  refine⟨H',I2,s1.trans s2,fun p hp=>?_⟩;rcases mem_cons.mp hp with rfl | hp
  ·exact s2 _ _ jA
  ·exact k2 p hp
end
section
variable{X:Cx}
theorem valsR:∀as:List Addr,Vals (as.map V.ref) (as.map Value.ref)
 | []=>.nil
 | _::r=>.cons rfl (valsR r)
theorem KV.get{κ:Type}:∀{kvs:List (κ×V)} {vs:List (κ×Value)} {i:Nat} {p:κ×V},KV kvs vs->kvs[i]?=some p->∃q,vs[i]?=some q/\p.1=q.1/\RelV p.2 q.2
 | _,_,_,_,.nil,e=>by simp at e
 | _,_,0,_,.cons r _,e=>by simp at e;subst e;exact⟨_,rfl,r⟩
 | _,_,i+1,p,.cons _ t,e=>by
  obtain⟨q,h1,h2⟩:=KV.get (i:=i) (p:=p) t (by simpa using e);exact⟨q,by simpa using h1,h2⟩
theorem j0N:MtR X "dict.update" (fun x vs H Q=>∃d o kvs more,x = .ref d/\vs=[.ref o]/\H d=some (.dK kvs)/\H o=some (.dK more)/\d≠o/\kvs.length+more.length<=sizeLine/\Q .non (upd H d (.dK (mergeK kvs more)))):=by
 intro pins s σ H x vs v us Q I rx rv h;obtain⟨d,o,kvs,more,rfl,rfl,ed,eo,hne,hz,q⟩:=h;cases rx;obtain⟨u,rfl,ru⟩:=vals1 rv;cases ru;obtain⟨z1,hd1,vs1,r1,dd1⟩:=KW I.hok ed;obtain⟨z2,hd2,vs2,r2,dd2⟩:=KW I.hok eo;refine call_meetsIn PySem.F.slot_dict_update dd1.typeIs PySem.F.entry_dict_update (PySem.F.args_dict_update_2 _ _) (meets_dict_update (mixKind X.prog X.w) d o hne hd2) ⟨vs1,vs2,dd1,dd2,by rw[<-r1.length,<-r2.length];exact hz,fun h' dd' _ hs=>?_⟩;have he:∃q,h'.get? d=some q:=let ⟨q,_,_,hq,_⟩:=dd';⟨q,hq⟩;have hl:=QC more kvs;exact⟨.non,_,wQ (t':=s.toks) I (by rw[ed];exact True.intro) hs he (wR (by omega) hd1 (r2.merge r1) dd'),rfl,q⟩
noncomputable def IView(v d:Addr):HO:=.ext fun h=>h.get? v=some {cls:=.type "dict_items",data:=.fields #[.ref d]}
theorem j1P:MtR X "dict.items" (fun x vs H Q=>∃d kvs,x = .ref d/\vs=[]/\H d=some (.dK kvs)/\∀v,H v=none->Q (.ref v) (upd H v (IView v d))):=by
 intro pins s σ H x vs v us Q I rx rv h;obtain⟨d,kvs,rfl,rfl,ed,q⟩:=h;cases rx;have hus:=rv.zero;subst hus;obtain⟨z1,hd1,vs1,r1,dd1⟩:=KW I.hok ed;refine call_meetsIn PySem.F.slot_dict_items dd1.typeIs PySem.F.entry_dict_items (PySem.F.args_dict_items_1 (.ref d)) (meets_dict_items (mixKind X.prog X.w) d hd1) ⟨⟨vs1,dd1⟩,?_⟩;have e:(s.heap.push {cls:=.type "dict_items",data:=.fields #[.ref d]}).get? s.heap.objs.size=some {cls:=.type "dict_items",data:=.fields #[.ref d]}:=Heap.get?_push_size _ rfl;exact⟨.ref s.heap.objs.size,_,I.laid (t':=s.toks) (o:=IView s.heap.objs.size d) (fun b u q=>Heap.get?_push_of_some _ q) (Nat.le_refl _) (show ObjOk X.prog X.w _ _ _ (IView s.heap.objs.size d)from⟨e,⟨_,e⟩,fun h1 h2 q k=>k _ q⟩),rfl,q _ (I.hok.fresh (Nat.le_refl _))⟩
noncomputable def iiK(p:Int×Int):Key×V:=(Sum.inl p.1,.int p.2)
theorem wN(hc:X.calm=true):CallR X (.builtin "sorted") (fun xs H Q=>∃(v d:Addr) (kvs:List (Int×Int)),xs=[.ref v]/\H v=some (IView v d)/\H d=some (.dK (kvs.map iiK))/\kvs.length<64/\
  ∀(l:Addr) (as:List Addr) (ms:List (Int×Int)) (H':Hp),Same H H'->H l=none->H' l=some (.lst (as.map V.ref))->(∀a∈as,H a=none)->ms.Perm kvs->(ms.map (·.1)).Pairwise (·<=·)->as.length=ms.length->(∀(i:Nat) (a:Addr) (p:Int×Int),as[i]?=some a->ms[i]?=some p->H' a=some (.tup [.int p.1,.int p.2]))->Q (.ref l) H'):=by
 intro pins s σ H xs us Q I r h;obtain⟨v,d,kvs,rfl,ev,ed,h64,q⟩:=h;obtain⟨u,rfl,ru⟩:=vals1 r;cases ru;obtain⟨z1,hd1,vs1,r1,dd1⟩:=KW I.hok ed;have hv:s.heap.get? v=some {cls:=.type "dict_items",data:=.fields #[.ref d]}:=(I.hok v _ ev).1;obtain⟨ep,da⟩:=dd1.dictAt;have lv:=r1.length;rw[length_map]at lv;have nd:(kvs.map (·.1)).Nodup:=by
  have n1:(vs1.map (·.1)).Nodup:=let ⟨_,_,_,_,_,_,_,_,hn⟩:=dd1;hn;rw[<-r1.keys,map_map]at n1;refine pairwise_map.mpr ((pairwise_map.mp n1).imp fun {a b} h e=>h ?_);show(Sum.inl a.1:Key)=Sum.inl b.1;rw[e]
 refine Calls.call_function_entry kind_sorted plain_sorted entry_sorted (args_sorted1 (.ref v)) ?_;unfold Builtin.«sorted»;refine wpAny_bind (m:=checkCount "sorted" 1 1 1) (wpAny_pure ?_);refine wpAny_bind (kdx_collect (knd:=mixKind X.prog X.w) (kvs:=vs1) (ep:=ep) (A:=X.A.in1) (I.ok.hd hc) ⟨_,hv,rfl,rfl⟩ da (by rw[<-lv,sizeLine_eq];omega) fun h1 tk as hk hl hG=>?_);rw[<-lv]at hl;refine wpAny_bind (wpAny_newList ?_ (by rw[length_map,hl,sizeLine_eq];omega));have hoL:(h1.push (seqObj "list" (as.map Value.ref).toArray 0)).get? h1.objs.size=some (seqObj "list" (as.map Value.ref).toArray 0):=Heap.get?_push_size _ rfl;have hna:h1.objs.size∉as:=fun z=>Nat.lt_irrefl _ (hG.there z)
 have key:∀i p,kvs[i]?=some p->(fun i=>(kvs.getD i (0,0)).1) i=p.1/\(fun i=>(kvs.getD i (0,0)).2) i=p.2:=fun i p e=>by
  dsimp only;rw[getD_eq_getElem?_getD,e];exact⟨rfl,rfl⟩
 have xQ:∀i a,as[i]?=some a->∃t u,(h1.push (seqObj "list" (as.map Value.ref).toArray 0)).get? a=some {cls:=.type "tuple",data:=.seq #[.int ((fun i=>(kvs.getD i (0,0)).1) i) t,.int ((fun i=>(kvs.getD i (0,0)).2) i) u]}:=fun i a e=>by
  obtain⟨ky,k,x,e1,e2,e3⟩:=hG.pairs i a e;have hi:i<kvs.length:=by rw[<-hl];exact(List.getElem?_eq_some_iff.mp e).1
  obtain⟨w',e4,rw'⟩:=KV.get r1 (i:=i) (p:=iiK kvs[i]) (by rw[List.getElem?_map,List.getElem?_eq_getElem hi];rfl);rw[e1]at e4;cases e4;obtain⟨ek,t2,ex⟩:=rw';have ek':k=Sum.inl kvs[i].1:=ek.symm;subst ek';have ex':x = .int kvs[i].2 t2:=ex;subst ex';obtain⟨g1,g2⟩:=key i _ (List.getElem?_eq_getElem hi);rw[show(fun i=>(kvs.getD i (0,0)).1) i=kvs[i].1 from g1,show(fun i=>(kvs.getD i (0,0)).2) i=kvs[i].2 from g2];rcases Jp (show keyIs (Sum.inl kvs[i].1) ky=true from e2)with⟨n,t,q1,q2⟩ | ⟨n,t,q1,q2⟩
  ·cases q1;subst q2;exact⟨t,t2,Heap.get?_push_of_some _ e3⟩
  ·cases q1
 have xP:PrAt (h1.push (seqObj "list" (as.map Value.ref).toArray 0)) as (fun i=>(kvs.getD i (0,0)).1):=fun i a e=>by
  obtain⟨t,u,z⟩:=xQ i a e;exact⟨_,t,_,_,z,rfl,rfl⟩
 have inj:∀i j,i<as.length->j<as.length->(fun i=>(kvs.getD i (0,0)).1) i=(fun i=>(kvs.getD i (0,0)).1) j->i=j:=fun i j hi hj e=>by
  rw[hl]at hi hj;obtain⟨g1,_⟩:=key i _ (List.getElem?_eq_getElem hi);obtain⟨g2,_⟩:=key j _ (List.getElem?_eq_getElem hj);rw[g1,g2]at e;rcases Nat.lt_trichotomy i j with z | z | z
  ·exact absurd e (by have:=pairwise_iff_getElem.mp nd i j (by rw[length_map];exact hi) (by rw[length_map];exact hj) z;simpa using this)
  ·exact z
  ·exact absurd e.symm (by have:=pairwise_iff_getElem.mp nd j i (by rw[length_map];exact hj) (by rw[length_map];exact hi) z;simpa using this)
 refine wpAny_bind (wpAny_holding (wpAny_call_entry slot_list_sort ⟨_,hoL,rfl⟩ entry_list_sort (j2s (s:={s with heap:=h1.push (seqObj "list" (as.map Value.ref).toArray 0),toks:=tk}) hoL hna xP inj (by rw[hl];exact h64) fun qs h2 c hq hs kk o2=>⟨_,rfl,?_⟩) (args_list_sort _)));refine wpAny_pure ⟨_,rfl,?_⟩;have ltB:∀b o,s.heap.get? b=some o->b<h1.objs.size:=fun b o e=>Heap.lt_size (hk b o e)
 have k2:∀b o,s.heap.get? b=some o->h2.get? b=some o:=fun b o e=>kk b o (Nat.ne_of_lt (ltB b o e)) (Heap.get?_push_of_some _ (hk b o e))
 have I2:Inv X pins σ H {s with heap:=h2,toks:=tk}:=I.kept (t':=tk) k2;have hB:H h1.objs.size=none:=I.none_at hk;have nB:=I.newB hk;have ha:∀a∈as,H a=none/\NewA X pins a:=fun a h=>⟨I.hok.fresh (Nat.le_of_lt (hG.above a h)),I.newA (Nat.le_of_lt (hG.above a h))⟩
 have qlt:∀i∈qs,i<as.length:=fun i hi=>mem_range.mp (hq.mem_iff.mp hi)
 have ndw:(((h1.objs.size,HO.lst ((qs.map fun i=>as.getD i 0).map V.ref))::(List.range as.length).map fun i=>(as.getD i 0,HO.tup [.int (kvs.getD i (0,0)).1,.int (kvs.getD i (0,0)).2])).map (·.1)).Nodup:=by
  rw[map_cons,nodup_cons,map_map];have e2:(List.range as.length).map ((fun x=>x.1)∘fun i=>(as.getD i 0,HO.tup [.int (kvs.getD i (0,0)).1,.int (kvs.getD i (0,0)).2]))=as:=ext_getElem (by simp) fun i h1 h2=>by
   rw[getElem_map,getElem_range];show as.getD i 0=_;rw[getD_eq_getElem?_getD,List.getElem?_eq_getElem h2];rfl
  rw[e2];exact⟨hna,hG.rise.imp fun h=>Nat.ne_of_lt h⟩
 obtain⟨H',I3,s3,k3⟩:=I2.trackAll ((h1.objs.size,HO.lst ((qs.map fun i=>as.getD i 0).map V.ref))::(List.range as.length).map fun i=>(as.getD i 0,HO.tup [.int (kvs.getD i (0,0)).1,.int (kvs.getD i (0,0)).2])) (fun p hp=>by
  rcases mem_cons.mp hp with rfl | hp
  ·refine⟨hB,nB,fun H'=>⟨?_,_,c,valsR _,o2⟩⟩;rw[length_map,length_map,hq.length_eq,length_range,hl,sizeLine_eq];omega
  ·obtain⟨i,hi,rfl⟩:=mem_map.mp hp;have hi:=mem_range.mp hi;have e:as[i]?=some (as.getD i 0):=by rw[getD_eq_getElem?_getD,List.getElem?_eq_getElem hi];rfl
   obtain⟨t1,t2,eo⟩:=xQ i _ e;have hm:=List.mem_of_getElem? e;obtain⟨n1,n2⟩:=ha _ hm;exact⟨n1,n2,fun H'=>⟨(by show 2<=sizeLine;decide),[_,_],.cons ⟨t1,rfl⟩ (.cons ⟨t2,rfl⟩ .nil),⟨_,kk _ _ (fun z=>hna (z▸hm)) eo,rfl,_,rfl⟩⟩⟩) ndw
 ·refine⟨.ref h1.objs.size,H',I3,rfl,q h1.objs.size (qs.map fun i=>as.getD i 0) (qs.map fun i=>kvs.getD i (0,0)) H' s3 hB (k3 _ mem_cons_self) (fun a h=>?_) ?_ ?_ (by rw[length_map,length_map]) fun i a p e1 e2=>?_⟩
  ·obtain⟨i,hi,rfl⟩:=mem_map.mp h;have e:as[i]?=some (as.getD i 0):=by rw[getD_eq_getElem?_getD,List.getElem?_eq_getElem (qlt i hi)];rfl
   exact(ha _ (List.mem_of_getElem? e)).1
  ·have e:=hq.map fun i=>kvs.getD i (0,0)
   rw[hl]at e;have e2:(List.range kvs.length).map (fun i=>kvs.getD i (0,0))=kvs:=ext_getElem (by simp) fun i h1 h2=>by
    rw[getElem_map,getElem_range,getD_eq_getElem?_getD,List.getElem?_eq_getElem h2];rfl
   rw[e2]at e;exact e
  ·rw[map_map];exact hs
  ·rw[List.getElem?_map]at e1 e2;obtain⟨j,hj,rfl⟩:=Option.map_eq_some_iff.mp e1;rw[hj]at e2;cases e2;exact k3 _ (mem_cons_of_mem _ (mem_map.mpr ⟨j,mem_range.mpr (qlt j (List.mem_of_getElem? hj)),rfl⟩))
end
theorem Zb:∀{as:List Addr} {us:List Value},Vals (as.map V.ref) us->us=as.map Value.ref
 | [],_,r=>by cases r;rfl
 | a::as,_,r=>by
  cases r with
  | cons r1 r2=>rw[Zb r2,show _=Value.ref a from r1];rfl
theorem xA{h:Heap}:∀{as:List Addr} {kvs:List (Int×Int)},as.length=kvs.length->(∀(i:Nat) (a:Addr) (q:Int×Int),as[i]?=some a->kvs[i]?=some q->∃t u,IsTup h a #[.int q.1 t,.int q.2 u])->
  ∃ps:List (Key×Value),KV (kvs.map iiK) ps/\ps.length=kvs.length/\∀(j:Nat) (kv:Key×Value),ps[j]?=some kv->∃a key,as[j]?=some a/\IsTup h a #[key,kv.2]/\keyIs kv.1 key=true
 | [],[],_,_=>⟨[],.nil,rfl,fun j kv e=>by simp at e⟩
 | [],_::_,l,_=>by simp at l
 | _::_,[],l,_=>by simp at l
 | a::as,q::kvs,l,f=>by
  obtain⟨ps,h1,h2,h3⟩:=xA (as:=as) (kvs:=kvs) (by simpa using l) fun i a q e1 e2=>f (i+1) a q (by simpa using e1) (by simpa using e2)
  obtain⟨t,u,e⟩:=f 0 a q rfl rfl;refine⟨(Sum.inl q.1,.int q.2 u)::ps,.cons ⟨rfl,u,rfl⟩ h1,by rw[length_cons,h2,length_cons],fun j kv ej=>?_⟩;cases j with
  | zero=>simp at ej;subst ej;exact⟨a,_,rfl,e,YB _ _⟩
  | succ j=>obtain⟨b,ky,b1,b2,b3⟩:=h3 j kv (by simpa using ej);exact⟨b,ky,by simpa using b1,b2,b3⟩
section
variable{X:Cx}
theorem kF(hc:X.calm=true):CallR X (.type "dict") (fun xs H Q=>∃(p:Addr) (as:List Addr) (kvs:List (Int×Int)),xs=[.ref p]/\H p=some (.lst (as.map V.ref))/\as.length=kvs.length/\
  (∀(i:Nat) (a:Addr) (q:Int×Int),as[i]?=some a->kvs[i]?=some q->H a=some (.tup [.int q.1,.int q.2]))/\∀d,H d=none->Q (.ref d) (upd H d (.dK (mergeK [] (kvs.map iiK))))):=by
 intro pins s σ H xs us Q I r h;obtain⟨p,as,kvs,rfl,ep,hl,ht,q⟩:=h;obtain⟨u,rfl,ru⟩:=vals1 r;cases ru;obtain⟨z,its,n,rv,lv,e⟩:=I.lstM ep;have ei:=Zb rv;subst ei;rw[length_map]at z;have hp:p<s.heap.objs.size:=Heap.lt_size e;obtain⟨ps,kp,pl,pt⟩:=xA (h:=s.heap) hl fun i a q e1 e2=>by
  obtain⟨_,its,r',t'⟩:=I.hok a _ (ht i a q e1 e2);cases r' with
  | cons ra rr=>
   cases rr with
   | cons rb rr=>
    cases rr;obtain⟨t1,rfl⟩:=ra;obtain⟨t2,rfl⟩:=rb;exact⟨t1,t2,t'⟩
 refine callType_codes (Q₁:=fun obj s₁=>obj = .ref s.heap.objs.size/\s₁={s with heap:=s.heap.push {cls:=.type "dict",data:=.dict #[]}}) PySem.F.kt_called_dict (PySem.F.kt_typeCall_dict_1 (.ref p)) PySem.F.entry_dict_init (kt_code_dict_new (.ref p) ⟨rfl,rfl⟩) ?_;rintro obj s₁ ⟨rfl,rfl⟩;have hnew:(s.heap.push {cls:=.type "dict",data:=.dict #[]}).DictOf (mixKind X.prog X.w) s.heap.objs.size []:=Heap.DictOf.new s.heap;have k0:∀b o,s.heap.get? b=some o->(s.heap.push {cls:=.type "dict",data:=.dict #[]}).get? b=some o:=fun b o e=>Heap.get?_push_of_some _ e
 generalize s.heap.push {cls:=.type "dict",data:=.dict #[]}=h0 at hnew k0;refine⟨hnew.typeIs (s:={s with heap:=h0}),PySem.F.args_dict_init_2 _ _,?_⟩;unfold Builtin.«dict.__init__»;refine wpAny_bind ?_;unfold Builtin.Dict.selfAndRest;refine wpAny_bind (wpAny_notOrdered_dict (hnew.typeIs (s:={s with heap:=h0})) ?_);show wpAny (model X.prog X.w) _ (pure (s.heap.objs.size,[Value.ref p])) _ _ _;refine wpAny_pure ?_;show wpAny (model X.prog X.w) _ (Builtin.Dict.updateFrom "dict.__init__" s.heap.objs.size (.ref p) [] .none) _ _ _;unfold Builtin.Dict.updateFrom;refine wpAny_bind (wpAny_typeOf (T:="list") ⟨_,k0 _ _ e,rfl⟩ ?_);rw[if_pos (by decide)];refine wpAny_bind (noKeys (s:={s with heap:=h0}) (k0 _ _ e) rfl rfl rfl (I.ok.hd hc) fun h1 tk k1=>?_);rw[if_pos (show(none:Option Value).isNone=true from rfl)];have k01:∀b o,s.heap.get? b=some o->h1.get? b=some o:=fun b o e=>k1 b o (k0 b o e)
 have dd1:h1.DictOf (mixKind X.prog X.w) s.heap.objs.size []:=hnew.keep k1;have ld:s.heap.objs.size<h1.objs.size:=by obtain⟨_,_,_,hg,_⟩:=dd1;exact Heap.lt_size hg
 have lp:p<h1.objs.size:=Nat.lt_trans hp ld;refine wpAny_bind (wpAny_rule ?_);refine wpAny_bind (wpAny_pyIter_list (l:=p) (items:=(as.map Value.ref).toArray) ⟨_,k01 _ _ e,rfl,n,rfl⟩ ?_);refine wpAny_pure ⟨plainId_quiet zZ _,?_⟩;refine dul (knd:=mixKind X.prog X.w) (A:=X.A.in1) (d:=s.heap.objs.size) (it:=h1.objs.size) (l:=p) (items:=as.map Value.ref) (res:=.none) (I.ok.hd hc) (Nat.ne_of_lt ld) (Nat.ne_of_gt hp) (Nat.ne_of_gt lp) ps 0 [] _
  ⟨_,Heap.get?_push_size _ rfl,rfl,rfl⟩ ⟨_,Heap.get?_push_of_some _ (k01 _ _ e),rfl,n,rfl⟩ (by rw[length_map,hl,pl,Nat.zero_add]) (fun j kv ej=>?_) (dd1.push _) (by rw[length_nil,pl,<-hl,Nat.zero_add];exact z) fun h2 tk2 k2 dd2=>?_
 ·obtain⟨a,ky,b1,⟨o,b2,b3⟩,b4⟩:=pt j kv ej;have la:a<s.heap.objs.size:=Heap.lt_size b2;exact⟨a,ky,by rw[Nat.zero_add,List.getElem?_map,b1];rfl,⟨o,Heap.get?_push_of_some _ (k01 _ _ b2),b3⟩,b4,Nat.ne_of_lt la,Nat.ne_of_lt (Nat.lt_trans la ld)⟩
 ·refine⟨rfl,.ref s.heap.objs.size,upd H s.heap.objs.size (.dK (mergeK [] (kvs.map iiK))),I.laid (t':=tk2) (fun b o eb=>k2 b o (Nat.ne_of_lt (Heap.lt_size eb)) (Nat.ne_of_lt (Nat.lt_trans (Heap.lt_size eb) ld)) (Heap.get?_push_of_some _ (k01 _ _ eb))) (Nat.le_refl _) ?_,rfl,q _ (I.hok.fresh (Nat.le_refl _))⟩;have hm:=QC (kvs.map iiK) [];rw[length_nil,length_map]at hm;have hns:(s.heap.objs.size==sysModules)=false:=by
   rw[beq_eq_false_iff_ne];exact Nat.ne_of_gt I.big
  exact wR (by omega) hns (kp.merge .nil) dd2
end
theorem XX{H:Hp}:∀(ks:List Int),DVs H (ks.map V.int) (ks.map PyData.int)
 | []=>.nil
 | k::r=>.cons (.int k) (XX r)
theorem j31(ks:List Int):PyData.eqv (.list (ks.map PyData.int)) (.list [])=decide (ks=[]):=by
 cases ks<;>simp[PyData.eqv,PyData.eqvAll]
theorem j4w{X:Cx}(hu:X.A.units+64<cLine):OpR X (compareOp .In) (fun x y H Q=>∃(a l:Addr) (as:List Addr) (hs:List (List Int)),x = .ref a/\y = .ref l/\H a=some (.lst [])/\H l=some (.lst (as.map V.ref))/\as.length=hs.length/\
  (∀(i:Nat) (b:Addr) (ks:List Int),as[i]?=some b->hs[i]?=some ks->H b=some (.lst (ks.map V.int)))/\Q (.bl (hs.any fun ks=>decide (ks=[]))) H):=by
 intro pins s σ H x y v u Q I rx ry h;obtain⟨a,l,as,hs,rfl,rfl,ea,el,hl,hh,q⟩:=h;cases rx;cases ry;obtain⟨its,r,pl,hz⟩:=I.list (SqL.of el);have ei:=Zb r;subst ei;obtain⟨ba,ra⟩:=zo I (DV.lst ea .nil) (show RelV (.ref a) (.ref a)from rfl)
 classical
 have rd:∀(i:Nat) (b:Addr) (ks:List Int),as[i]?=some b->hs[i]?=some ks->∃bb,Reads s.heap (.ref b) (.list (ks.map PyData.int)) bb:=fun i b ks e1 e2=>zo I (DV.lst (hh i b ks e1 e2) (XX ks)) (show RelV (.ref b) (.ref b)from rfl)
 have fe:∀(i:Nat) (b:Addr) (ks:List Int),as[i]?=some b->hs[i]?=some ks->decide (∃bb,Reads s.heap (.ref b) (.list []) bb)=decide (ks=[]):=fun i b ks e1 e2=>by
  obtain⟨bb,rb⟩:=rd i b ks e1 e2;rw[decide_eq_decide];constructor
  ·rintro⟨cc,rc⟩;have e:=SeqAt.Reads.unique _ _ _ _ _ (show PyData.canLay0 (.list [])=true from rfl) rc rb;cases ks with
   | nil=>rfl
   | cons k r=>simp at e
  ·rintro rfl;exact⟨bb,rb⟩
 refine SeqAt.in_listAt (fun w=>decide (∃bb,Reads s.heap w (.list []) bb)) pl.isList (fun w hw=>?_) ⟨.bl _,H,I,rfl,?_⟩
 ·obtain⟨i,hi,e⟩:=mem_iff_getElem.mp (show w∈as.map Value.ref by simpa using hw);rw[getElem_map]at e;rw[length_map]at hi;subst e;have e1:as[i]?=some as[i]:=List.getElem?_eq_getElem hi;have e2:hs[i]?=some hs[i]:=List.getElem?_eq_getElem (by omega);obtain⟨bb,rb⟩:=rd i _ _ e1 e2;have z:=SeqAt.eqAt_reads _ _ X.A.in1 s _ _ _ _ rb ra (by show PyData.canLayAll0 _=true;exact ke_canLayAll0 _) rfl (by
   show X.A.in1.units+min (PyData.depthAll _+1) (0+1)<cLine;have h1:X.A.in1.units=X.A.units+1:=rfl;omega)
  rw[j31,<-fe i _ _ e1 e2]at z;exact z
 ·have e:(as.map Value.ref).toArray.any (fun w=>decide (∃bb,Reads s.heap w (.list []) bb))=hs.any fun ks=>decide (ks=[]):=by
   rw[List.any_toArray,List.any_map,Bool.eq_iff_iff,any_eq_true,any_eq_true];constructor
   ·rintro⟨b,hb,hw⟩;obtain⟨i,hi,rfl⟩:=mem_iff_getElem.mp hb;exact⟨hs[i],getElem_mem _,by rw[<-fe i _ _ (List.getElem?_eq_getElem hi) (List.getElem?_eq_getElem (by omega))];exact hw⟩
   ·rintro⟨ks,hk,hw⟩;obtain⟨i,hi,rfl⟩:=mem_iff_getElem.mp hk;refine⟨as[i],getElem_mem _,?_⟩;show decide _=true;rw[fe i _ _ (List.getElem?_eq_getElem (by omega)) (List.getElem?_eq_getElem hi)];exact hw
  rw[e];exact q
section
variable{X:Cx}
def tTru(K:Frg)(ta:TE):TT:=fun σ H Q=>ta σ H fun x H'=>∃k,TruV K x H' k/\Q k H'
theorem j27{a:Expr}{ta:TE}(ha:PE X a ta)(he:∀whole,isTrue a X.env whole=(do let v <-whole;standAt a.pos;holding [v] (truthy v))):PT X a (tTru X.K ta):=j28 ha he
end
theorem rd_tru{K:Frg}{ta:TE}{σ:St}{H:Hp}{Q:Bool->Hp->Prop}(h:ta σ H fun x H'=>∃k,TruV K x H' k/\Q k H'):tTru K ta σ H Q:=h
theorem j1m{K:Frg}{a b:Addr}{xs zs:List V}{k:Nat}{ci:List Nat}{g:TG}{tf:TT}{te:TE}{σ:St}{H:Hp}{Z:Addr->List V->Hp->Prop}(Pv:Nat->List V->Hp->Prop)(hlen:xs.length=zs.length)(h0:Pv 0 [] H)(hl:∀i ys H,i<=xs.length->Pv i ys H->SqL K H a xs/\SqL K H b zs)
  (hs:∀i u v ys H T H',xs[i]?=some u->zs[i]?=some v->Pv i ys H->Same H H'->H' T=some (.tup [u,v])->g (.ref T) (capS k ci σ) H' fun σ2 H2=>tf σ2 H2 fun b H3=>if b=true then te σ2 H3 fun v H4=>ys.length<sizeLine/\Pv (i+1) (ys++[v]) H4 else Pv (i+1) ys H3)
  (hd:∀ys H,Pv xs.length ys H->ys.length<=sizeLine/\∀p,H p=none->Z p ys H) :
  ∃W:Nat->Nat->List V->Hp->Prop,(∃m,W 0 m [] H)/\∀i m ys H,W i m ys H->
   ((Itz K a b).stop i H/\ys.length<=sizeLine/\∀p,H p=none->Z p ys H)\/
   ((Itz K a b).go i H/\∃N:List V->Hp->Prop,(∀ys' H',N ys' H'->∃m',m'<m/\W (i+1) m' ys' H')/\∀x H',(Itz K a b).yld i H x H'->g x (capS k ci σ) H' fun σ2 H2=>tf σ2 H2 fun b H3=>
    if b=true then te σ2 H3 fun v H4=>ys.length<sizeLine/\N (ys++[v]) H4 else N ys H3):=by
 refine⟨fun i m ys H=>m=xs.length-i/\i<=xs.length/\Pv i ys H,⟨xs.length,by simp,Nat.zero_le _,h0⟩,?_⟩;rintro i m ys H ⟨rfl,hi,p⟩;obtain⟨q,q'⟩:=hl i ys H hi p;by_cases hlt:i<xs.length
 ·refine .inr ⟨⟨xs,xs[i],zs,zs[i],q,by simp[hlt],q',by simp⟩,Pv (i+1),fun ys' H' p'=>⟨xs.length-(i+1),by omega,rfl,hlt,p'⟩,fun x H' y=>?_⟩;obtain⟨T,u,v,rfl,hT,e,y,y'⟩:=y;exact hs i u v ys H T H' (y xs q) (y' zs q') p (fun b o h=>by rw[e,jh (jg h hT)];exact h) (by rw[e];exact jA)
 ·have e:i=xs.length:=by omega
  subst e;exact .inl ⟨⟨xs,zs,q,q',.inl (Nat.le_refl _)⟩,hd ys H p⟩
theorem j3t{X:Cx}:OpR X (binaryOp .Mult) (rI (fun _ j=>-(2^64)<j/\j<2^64) fun i j=>.int (i*j)):=opI fun _ _ _ _ _ _ _ hc q=>mul_int q (CMul.ok (.inr hc))
section
variable{X:Cx}{e:Expr}{te:TE}
def tRevS(K:Frg)(te:TE)(ts:TO):TE:=fun σ H Q=>te σ H fun x H1=>ts σ H1 fun st H2=>st=some (-1)/\∃a xs,x = .ref a/\SqL K H2 a xs/\∀p,H2 p=none->Q (.ref p) (upd H2 p (.lst xs.reverse))
theorem j2K{xs:List V}{us:List Value}(h:Vals xs us):Vals xs.reverse us.reverse:=by
 induction h with
 | nil=>exact .nil
 | cons r _ ih=>rw[reverse_cons,reverse_cons];exact ih.append (.cons r .nil)
theorem j4z{st:Expr}{ts:TO}{p2 pos:Pos}(he:PE X e te)(hs:PO X (some st) ts):PE X (.Subscript e (.Slice none none (some st) p2) pos) (tRevS X.K te ts):=by
 intro pins s σ H Q I h;refine Subscript_ (thn (he pins s σ H _ I h) fun v s1 ⟨x,H1,I1,r1,q1⟩=>?_);refine wpAny_Slice ?_;rw[evalPart_none];refine wpAny_pure ?_;refine wpAny_pure ?_;refine thn (hs pins s1 σ H1 _ I1 q1) fun vk s2 ⟨so,H2,I2,pk,est,a,xs,ex,hx,q⟩=>?_
 subst est ex;cases r1;have I3:Inv X pins σ H2 {s2 with heap:=s2.heap.push {cls:=.type "slice",data:=.fields #[.none,.none,vk]}}:=I2.kept (t':=s2.toks) fun b ob q=>Heap.get?_push_of_some _ q
 obtain⟨its,r,ht,hz⟩:=I3.list hx;have hlen:=r.length;show wpAny (model X.prog X.w) X.A (subscriptTail e (.Slice none none (some st) p2) (.ref a) (.ref s2.heap.objs.size)) (EP X pins σ Q) X.xe {s2 with heap:=s2.heap.push {cls:=.type "slice",data:=.fields #[.none,.none,vk]}};refine tail_any (ops:=[.ref a,.ref s2.heap.objs.size]) ht.isList.typeIs slot_list_getitem.lookup ?_ (by with_unfolding_all rfl);refine wpAny_getItem_list_slice ht.isList (Heap.IsSliceOf.new ..) .none .none pk (by decide) ?_ (by rw[size_toArray]<;>omega);rw[PySem.W.krv_pick];refine⟨.ref (s2.heap.push {cls:=.type "slice",data:=.fields #[.none,.none,vk]}).objs.size,_,I3.laid (t':=s2.toks) (o:=.lst xs.reverse) (fun b ob q=>Heap.get?_push_of_some _ q) (Nat.le_refl _) ?_,rfl,q _ (I3.hok.fresh (Nat.le_refl _))⟩;exact⟨by rw[List.length_reverse];exact hz,_,0,j2K r,Heap.get?_push_size _ rfl⟩
end
theorem rd_revS{K:Frg}{te:TE}{ts:TO}{σ:St}{H:Hp}{Q:VK}(h:te σ H fun x H1=>ts σ H1 fun st H2=>st=some (-1)/\∃a xs,x = .ref a/\SqL K H2 a xs/\∀p,H2 p=none->Q (.ref p) (upd H2 p (.lst xs.reverse))):tRevS K te ts σ H Q:=h
theorem XD{K:Frg}{i j k:Nat}{a:Addr}{x y z:V}{σ:St}{H:Hp}{R:St->Hp->Prop}(e:SqT K H a [x,y,z])(h:gName i x σ H fun σ' H'=>gName j y σ' H' fun σ' H'=>gName k z σ' H' R):gTup K 3 (gCons (gName i) (gCons (gName j) (gCons (gName k) gNil))) (.ref a) σ H R:=
 ⟨a,[x,y,z],rfl,e,rfl,x,[y,z],rfl,y,[z],rfl,z,[],rfl,rfl,h⟩
theorem j4E{K:Frg}{i j k l:Nat}{a:Addr}{x y z w:V}{σ:St}{H:Hp}{R:St->Hp->Prop}(e:SqT K H a [x,y,z,w])(h:gName i x σ H fun σ' H'=>gName j y σ' H' fun σ' H'=>gName k z σ' H' fun σ' H'=>gName l w σ' H' R):gTup K 4 (gCons (gName i) (gCons (gName j) (gCons (gName k) (gCons (gName l) gNil)))) (.ref a) σ H R:=
 ⟨a,[x,y,z,w],rfl,e,rfl,x,[y,z,w],rfl,y,[z,w],rfl,z,[w],rfl,w,[],rfl,rfl,h⟩
section
variable{prog:Program}{w:World}{A:Around}{E:Value->Shared->Prop}{s:Shared}
end
def Itd(lo:Int)(n:Nat):It:=⟨fun i _=>i<n,fun i H x H'=>H'=H/\x = .int (lo-i),fun i _=>n<=i⟩
theorem xN{P:Program}{w:World}{K:Frg}{tg:Expr}(it:Addr)(lo:Int)(n:Nat):Turn P w K tg (Itd lo n) [it] it (fun i h=>IsRangeIter h it (lo+(i:Nat)*(-1)) ((n:Int)-(i:Nat)) (-1)) where
 mem:=by simp
 obj:=fun i h st b hb=>by
  have e:b=it:=by simpa using hb
  subst e;exact⟨_,st,fun v z=>by
   have z':Data.fields _=Data.cell v:=z;cases z'⟩
 keep:=fun i h h' st k=>k it (by simp) _ st
 item:=by
  intro X hP hw hK hc i pins s σ H E I hf st hg;subst hP hw hK;obtain⟨f0,f1,f2,f3,f4,f5⟩:=hf it (by simp);have W:=Walks.range (prog:=X.prog) (w:=X.w) (I.ok.hd hc) it lo (-1) n;refine W.item i s _ _ hg st fun v h' tk hv st' kk=>?_
  obtain⟨t,rfl⟩:=hv;have I1:Inv X pins σ H {s with heap:=h',toks:=tk}:=I.turned (fun b o hb e=>kk b o (by simpa using hb) e) f0 f1 f3 f4 f5;refine⟨_,rfl,XZ (s:={s with heap:=h',toks:=tk}) (n:="range_iterator") st' rfl rfl (by decide) ⟨.int (lo-i),H,I1,⟨t,?_⟩,⟨rfl,rfl⟩,st',fun b hb=>(hf b hb).1⟩⟩;rw[show lo+(i:Int)*(-1)=lo-i by omega]
 done:=by
  intro X hP hw hK hc i pins s σ H E I hf st hg;subst hP hw hK;obtain⟨f0,f1,f2,f3,f4,f5⟩:=hf it (by simp);exact wpAny_pyNext_range_end (I.ok.hd hc) st (by have:n<=i:=hg;omega) fun h' eb=>⟨rfl,I.turned (t':=s.toks) (fun b o hb e=>eb b o hb e) f0 f1 f3 f4 f5⟩
 self:=fun _ _ _ _ _ st h=>wpAny_pyIter_rangeiter st h
section
variable{X:Cx}{tg:Expr}
theorem yn(a b:Int):Builtin.Range.rangeSize a b (-1)=if b<a then a-b else 0:=by
 unfold Builtin.Range.rangeSize;simp only[show¬((-1:Int)>0) by decide,if_false,show(- -1:Int)=1 by decide,Int.ediv_one];split<;>omega
theorem j12{a b:Int}(h1 : -(2^61)<=a)(h2:a<2^61)(h3 : -(2^61)<=b)(h4:b<2^61):Builtin.Range.small a b (-1)=true:=by
 have f:∀x:Int,-(2^62)<=x->x<2^62->Builtin.Range.rangeFitsLong x=true:=fun x h1 h2=>by
  unfold Builtin.Range.rangeFitsLong;simp;omega
 unfold Builtin.Range.small;rw[yn];have g : -(2^62)<=(if b<a then a-b else 0)/\(if b<a then a-b else 0)<2^62:=by split<;>omega
 rw[f a (by omega) (by omega),f b (by omega) (by omega),f (-1) (by decide) (by decide),f _ g.1 g.2,if_neg (show¬((-1:Int)>0) by decide),f (b+(-1+1)) (by omega) (by omega)];simp
theorem j10{pins:List (Addr×Obj)}{σ:St}{H:Hp}{s:Shared}{R:It->Hp->Prop}{E:Value->Shared->Prop}{lo hi:Int}{t u v:Tok}{tk:Nat}(I:Inv X pins σ H s)(h1 : -(2^61)<=lo)(h2:lo<2^61)(h3 : -(2^61)<=hi)(h4:hi<2^61)
  (q:R (Itd lo (lo-hi).toNat) H):wpAny (model X.prog X.w) X.A (pyIter (.ref s.heap.objs.size)) (PIE X pins σ tg R) E {s with heap:=s.heap.push {cls:=.type "range",data:=.fields #[.int lo t,.int hi u,.int (-1) v]},toks:=tk}:=by
 refine wpAny_pyIter_range (IsRange.new ..) (j12 h1 h2 h3 h4) ?_;have I1:Inv X pins σ H {s with heap:=s.heap.push {cls:=.type "range",data:=.fields #[.int lo t,.int hi u,.int (-1) v]},toks:=tk}:=I.kept fun b o e=>Heap.get?_push_of_some _ e
 refine⟨(s.heap.push {cls:=.type "range",data:=.fields #[.int lo t,.int hi u,.int (-1) v]}).objs.size,[(s.heap.push {cls:=.type "range",data:=.fields #[.int lo t,.int hi u,.int (-1) v]}).objs.size],_,_,H,rfl,
  I1.kept (t':=tk) fun b o e=>Heap.get?_push_of_some _ e,xN _ lo (lo-hi).toNat,?_,fun b hb=>?_,q⟩
 ·have e1:lo+((0:Nat):Int)*(-1)=lo:=by simp
  have e2:(((lo-hi).toNat:Nat):Int)-((0:Nat):Int)=Builtin.Range.rangeSize lo hi (-1):=by rw[yn];split<;>omega
  show IsRangeIter _ _ (lo+((0:Nat):Int)*(-1)) ((((lo-hi).toNat:Nat):Int)-((0:Nat):Int)) (-1);rw[e1,e2];exact Heap.get?_push_size _ rfl
 ·have e:b=(s.heap.push {cls:=.type "range",data:=.fields #[.int lo t,.int hi u,.int (-1) v]}).objs.size:=by simpa using hb
  subst e;exact I1.fpOk (Nat.le_refl _) (I1.hok.fresh (Nat.le_refl _))
def iRngD(ta:TA):TI:=fun σ H R=>ta σ H fun vs H1=>∃i j:Int,vs=[.int i,.int j,.int (-1)]/\(-(2^61)<=i/\i<2^61/\-(2^61)<=j/\j<2^61)/\R (Itd i (i-j).toNat) H1
theorem j0U{a b c:Expr}{ta:TA}{p pos:Pos}(hg:Gl X "range")(hm:X.mg "range"= none)(ha:PA X [a,b,c] ta)(hs:starEach [a,b,c] X.env=(false,eval a X.env)::starEach [b,c] X.env:=by rfl)(hs2:(backTo pos (starEach [b,c] X.env)).any (·.1)=false:=by rfl) :
  PI X tg (.Call (.Name "range" p) [a,b,c] [] pos) (iRngD ta):=by
 intro pins s σ H R I h;refine Call_ (yz I hg hm boot_range (PyProof.Rows.callWith_type1 (thn (ha pos pins s σ H _ I h) fun us s1 ⟨vs,H1,I1,r1,q1⟩=>?_) hs hs2));obtain⟨i,j,e,⟨q1,q2,q3,q4⟩,q⟩:=q1;subst e;cases r1 with
 | cons r rr=>
  cases rr with
  | cons r' rr=>
   cases rr with
   | cons r'' rr=>
    cases rr;obtain⟨t,rfl⟩:=r;obtain⟨t',rfl⟩:=r';obtain⟨t'',rfl⟩:=r'';exact call_range_3 (by decide) (j10 I1 q1 q2 q3 q4 q) (.inl (PyProof.noPylong_small (by omega)))
end
theorem rd_rngD{ta:TA}{σ:St}{H:Hp}{R:It->Hp->Prop}(h:ta σ H fun vs H1=>∃i j:Int,vs=[.int i,.int j,.int (-1)]/\(-(2^61)<=i/\i<2^61/\-(2^61)<=j/\j<2^61)/\R (Itd i (i-j).toNat) H1):iRngD ta σ H R:=h
theorem j1x{lo:Int}{n:Nat}{g:TG}{tb:TS}{D:Ends}{σ:St}{H:Hp}(Pv:Nat->St->Hp->Prop)(h0:Pv 0 σ H)(hs:∀i σ H,i<n->Pv i σ H->g (.int (lo-i)) σ H fun σ2 H2=>tb {D with nx:=Pv (i+1),ct:=Pv (i+1),bk:=D.nx} σ2 H2)(hd:∀σ H,Pv n σ H->D.nx σ H) :
  ∃W:Nat->Nat->St->Hp->Prop,(∃m,W 0 m σ H)/\∀i m σ H,W i m σ H->
   ((Itd lo n).stop i H/\D.nx σ H)\/((Itd lo n).go i H/\∃N:St->Hp->Prop,(∀σ' H',N σ' H'->∃m',m'<m/\W (i+1) m' σ' H')/\∀x H',(Itd lo n).yld i H x H'->g x σ H' fun σ2 H2=>tb {D with nx:=N,ct:=N,bk:=D.nx} σ2 H2):=by
 refine⟨fun i m σ H=>m=n-i/\i<=n/\Pv i σ H,⟨n,by simp,Nat.zero_le _,h0⟩,?_⟩;rintro i m σ H ⟨rfl,hi,p⟩;by_cases hlt:i<n
 ·refine .inr ⟨hlt,Pv (i+1),fun σ' H' p'=>⟨n-(i+1),by omega,rfl,hlt,p'⟩,fun x H' y=>?_⟩;obtain⟨e,y⟩:=y;subst e y;exact hs i σ _ hlt p
 ·have e:i=n:=by omega
  subst e;exact .inl ⟨Nat.le_refl _,hd σ H p⟩
section
variable{X:Cx}
end
section
variable{prog:Program}{w:World}{A:Around}{E:Value->Shared->Prop}{s:Shared}
theorem kK{it t:Addr}{items:Array Value}(hne:t≠it):∀(n i:Nat) (s:Shared) (Q:List Value->Shared->Prop),s.heap.IsListIter it t i->s.heap.IsList t items->i+n<=items.size->
  (∀h',h'.IsListIter it t (i+n)->Heap.SameBut it s.heap h'->Q ((items.toList.drop i).take n) {s with heap:=h'})->wpAny (model prog w) A (draw (.ref it) n) Q E s
 | 0,i,s,Q,hit,_,_,hQ=>by
  show wpAny _ _ (pure []) Q E s;exact wpAny_pure (by simpa using hQ s.heap hit (Heap.SameBut.refl ..))
 | n+1,i,s,Q,hit,ht,hle,hQ=>by
  have hlt:i<items.size:=by omega
  show wpAny _ _ (pyNext (.ref it) >>= _) Q E s;refine wpAny_bind (wpAny_pyNext_list_item hit ht (x:=items[i]) (by simp[hlt]) fun h₁ hit₁ hs₁=>?_);refine wpAny_bind (wpAny_holding (kK hne n (i+1) _ _ hit₁ (ht.extBut hs₁.extBut hne) (by omega) fun h₂ hit₂ hs₂=>wpAny_pure ?_));have hd:items.toList.drop i=items[i]::items.toList.drop (i+1):=by simp[List.drop_eq_getElem_cons,hlt]
  have:=hQ h₂ (by rw[show i+(n+1)=i+1+n by omega];exact hit₂) (hs₁.trans hs₂);rw[hd,List.take_succ_cons]at this;exact this
theorem Yl{t:Addr}{items:Array Value}{Q:List Value->Shared->Prop}(hh:A.handled=none)(ht:s.heap.IsList t items)
  (hQ:∀h',Heap.ExtBut s.heap.objs.size s.heap h'->Q items.toList {s with heap:=h'}):wpAny (model prog w) A (unpackItems (.ref t) items.size none) Q E s:=by
 have hlt:t≠s.heap.objs.size:=by obtain⟨o,ho,_⟩:=ht;exact Nat.ne_of_lt (Heap.lt_size ho)
 unfold unpackItems;refine wpAny_bind ?_
 ·unfold notIterableAtAll;refine wpAny_bind (wpAny_specialOf ht.typeIs slot_list_iter.lookup ?_);refine wpAny_pure ?_;simp only[Bool.false_eq_true,if_false];refine wpAny_bind (wpAny_holding (wpAny_pyIter_list ht ?_));refine wpAny_bind (wpAny_holding (kK hlt items.size 0 _ _ ⟨_,Heap.get?_push_size _ rfl,rfl,rfl⟩ (ht.push _) (by omega) fun h₁ hit₁ hs₁=>?_));have hall:List.take items.size (List.drop 0 items.toList)=items.toList:=by
   rw[List.drop_zero];exact List.take_of_length_le (by simp)
  rw[hall];rw[if_neg (by simp)];have ht₁:h₁.IsList t items:=(ht.push _).extBut hs₁.extBut hlt;refine wpAny_bind (wpAny_holding (wpAny_pyNext_list_end hh hit₁ ht₁ (by simp) fun h₂ he₂=>?_));simp only[Option.isSome_none,Bool.false_eq_true,if_false];refine wpAny_pure (hQ h₂ fun b o hb e=>he₂ b o hb (hs₁.extBut b o hb (Heap.get?_push_of_some _ e)))
theorem yw{env:Env}{elts:List Expr}{x1}{pos:Pos}{t:Addr}{items:Array Value}{Q:Unit->Shared->Prop}(hh:A.handled=none)(ht:s.heap.IsList t items)
  (hn:(assignEach elts env).length=items.size) (hstar:(assignEach elts env).findIdx? (·.1)=none)
  (h:∀h',Heap.ExtBut s.heap.objs.size s.heap h'->wpAny (model prog w) A (assignInOrder ((assignEach elts env).map (·.2)) items.toList) Q E {s with heap:=h'}) :
  wpAny (model prog w) A (assign (.Tuple elts x1 pos) env (.ref t)) Q E s:=by
 rw[assign_Tuple];refine wpAny_bind (wpAny_standAt ?_);unfold unpack;rw[hn,hstar];exact wpAny_bind (wpAny_holding (Yl hh ht h))
end
section
variable{X:Cx}{pos:Pos}
def gTupL(K:Frg)(n:Nat)(t:TGs):TG:=fun v σ H Q=>∃a xs,v = .ref a/\SqL K H a xs/\xs.length=n/\t xs σ H Q
theorem j3x{es:List Expr}{k:Nat}{t:TGs}{n:Nat}(hc:X.calm=true)(h:PGs X es t)
  (hn:(assignEach es X.env).length=n:=by rfl) (hst:(assignEach es X.env).findIdx? (·.1)=none:=by rfl):PG X (.Tuple es k pos) (gTupL X.K n t):=by
 intro pins s σ H v u Q I r hw;obtain⟨a,xs,e1,hq,hl,hw⟩:=hw;subst e1;cases r;obtain⟨its,rv,ht,hz⟩:=I.list hq;refine yw (I.ok.hd hc) ht.isList (by simp[hn,<-hl,rv.length]) hst fun h' hx=>?_
 have I1:Inv X pins σ H {s with heap:=h'}:=I.kept (t':=s.toks) fun b o e=>hx b o (Nat.ne_of_lt (Heap.lt_size e)) e
 exact h pins _ σ H xs _ Q I1 (by simpa using rv) hw
end
section
variable{σ:St}{H:Hp}{D:Ends}{Q:VK}{ta tb te:TE}
theorem rd_seq{t u:TS}(h:t {D with nx:=u D} σ H):tSeq t u D σ H:=h
theorem rd_asg{g:TG}(h:te σ H fun x H1=>g x σ H1 D.nx):tAsg te g D σ H:=h
theorem rd_v0{v:V}{r:St}(h:Q v H):tVar 0 (some v::r) H Q:=⟨v,rfl,h⟩
theorem rd_n0{a0:Option V}{v:V}{r:St}{R:St->Hp->Prop}(h:R (some v::r) H):gName 0 v (a0::r) H R:=h
theorem rd_v1{a0:Option V}{v:V}{r:St}(h:Q v H):tVar 1 (a0::some v::r) H Q:=⟨v,rfl,h⟩
theorem rd_n1{a0 a1:Option V}{v:V}{r:St}{R:St->Hp->Prop}(h:R (a0::some v::r) H):gName 1 v (a0::a1::r) H R:=h
theorem rd_v2{a0 a1:Option V}{v:V}{r:St}(h:Q v H):tVar 2 (a0::a1::some v::r) H Q:=⟨v,rfl,h⟩
theorem rd_n2{a0 a1 a2:Option V}{v:V}{r:St}{R:St->Hp->Prop}(h:R (a0::a1::some v::r) H):gName 2 v (a0::a1::a2::r) H R:=h
theorem rd_v3{a0 a1 a2:Option V}{v:V}{r:St}(h:Q v H):tVar 3 (a0::a1::a2::some v::r) H Q:=⟨v,rfl,h⟩
theorem rd_n3{a0 a1 a2 a3:Option V}{v:V}{r:St}{R:St->Hp->Prop}(h:R (a0::a1::a2::some v::r) H):gName 3 v (a0::a1::a2::a3::r) H R:=h
theorem rd_v4{a0 a1 a2 a3:Option V}{v:V}{r:St}(h:Q v H):tVar 4 (a0::a1::a2::a3::some v::r) H Q:=⟨v,rfl,h⟩
theorem rd_n4{a0 a1 a2 a3 a4:Option V}{v:V}{r:St}{R:St->Hp->Prop}(h:R (a0::a1::a2::a3::some v::r) H):gName 4 v (a0::a1::a2::a3::a4::r) H R:=h
theorem rd_v5{a0 a1 a2 a3 a4:Option V}{v:V}{r:St}(h:Q v H):tVar 5 (a0::a1::a2::a3::a4::some v::r) H Q:=⟨v,rfl,h⟩
theorem rd_n5{a0 a1 a2 a3 a4 a5:Option V}{v:V}{r:St}{R:St->Hp->Prop}(h:R (a0::a1::a2::a3::a4::some v::r) H):gName 5 v (a0::a1::a2::a3::a4::a5::r) H R:=h
theorem rd_v6{a0 a1 a2 a3 a4 a5:Option V}{v:V}{r:St}(h:Q v H):tVar 6 (a0::a1::a2::a3::a4::a5::some v::r) H Q:=⟨v,rfl,h⟩
theorem rd_n6{a0 a1 a2 a3 a4 a5 a6:Option V}{v:V}{r:St}{R:St->Hp->Prop}(h:R (a0::a1::a2::a3::a4::a5::some v::r) H):gName 6 v (a0::a1::a2::a3::a4::a5::a6::r) H R:=h
theorem rd_v7{a0 a1 a2 a3 a4 a5 a6:Option V}{v:V}{r:St}(h:Q v H):tVar 7 (a0::a1::a2::a3::a4::a5::a6::some v::r) H Q:=⟨v,rfl,h⟩
theorem rd_n7{a0 a1 a2 a3 a4 a5 a6 a7:Option V}{v:V}{r:St}{R:St->Hp->Prop}(h:R (a0::a1::a2::a3::a4::a5::a6::some v::r) H):gName 7 v (a0::a1::a2::a3::a4::a5::a6::a7::r) H R:=h
theorem rd_v8{a0 a1 a2 a3 a4 a5 a6 a7:Option V}{v:V}{r:St}(h:Q v H):tVar 8 (a0::a1::a2::a3::a4::a5::a6::a7::some v::r) H Q:=⟨v,rfl,h⟩
theorem rd_n8{a0 a1 a2 a3 a4 a5 a6 a7 a8:Option V}{v:V}{r:St}{R:St->Hp->Prop}(h:R (a0::a1::a2::a3::a4::a5::a6::a7::some v::r) H):gName 8 v (a0::a1::a2::a3::a4::a5::a6::a7::a8::r) H R:=h
theorem rd_v9{a0 a1 a2 a3 a4 a5 a6 a7 a8:Option V}{v:V}{r:St}(h:Q v H):tVar 9 (a0::a1::a2::a3::a4::a5::a6::a7::a8::some v::r) H Q:=⟨v,rfl,h⟩
theorem rd_n9{a0 a1 a2 a3 a4 a5 a6 a7 a8 a9:Option V}{v:V}{r:St}{R:St->Hp->Prop}(h:R (a0::a1::a2::a3::a4::a5::a6::a7::a8::some v::r) H):gName 9 v (a0::a1::a2::a3::a4::a5::a6::a7::a8::a9::r) H R:=h
theorem rd_v10{a0 a1 a2 a3 a4 a5 a6 a7 a8 a9:Option V}{v:V}{r:St}(h:Q v H):tVar 10 (a0::a1::a2::a3::a4::a5::a6::a7::a8::a9::some v::r) H Q:=⟨v,rfl,h⟩
theorem rd_n10{a0 a1 a2 a3 a4 a5 a6 a7 a8 a9 a10:Option V}{v:V}{r:St}{R:St->Hp->Prop}(h:R (a0::a1::a2::a3::a4::a5::a6::a7::a8::a9::some v::r) H):gName 10 v (a0::a1::a2::a3::a4::a5::a6::a7::a8::a9::a10::r) H R:=h
theorem rd_v11{a0 a1 a2 a3 a4 a5 a6 a7 a8 a9 a10:Option V}{v:V}{r:St}(h:Q v H):tVar 11 (a0::a1::a2::a3::a4::a5::a6::a7::a8::a9::a10::some v::r) H Q:=⟨v,rfl,h⟩
theorem rd_n11{a0 a1 a2 a3 a4 a5 a6 a7 a8 a9 a10 a11:Option V}{v:V}{r:St}{R:St->Hp->Prop}(h:R (a0::a1::a2::a3::a4::a5::a6::a7::a8::a9::a10::some v::r) H):gName 11 v (a0::a1::a2::a3::a4::a5::a6::a7::a8::a9::a10::a11::r) H R:=h
theorem rd_v12{a0 a1 a2 a3 a4 a5 a6 a7 a8 a9 a10 a11:Option V}{v:V}{r:St}(h:Q v H):tVar 12 (a0::a1::a2::a3::a4::a5::a6::a7::a8::a9::a10::a11::some v::r) H Q:=⟨v,rfl,h⟩
theorem rd_n12{a0 a1 a2 a3 a4 a5 a6 a7 a8 a9 a10 a11 a12:Option V}{v:V}{r:St}{R:St->Hp->Prop}(h:R (a0::a1::a2::a3::a4::a5::a6::a7::a8::a9::a10::a11::some v::r) H):gName 12 v (a0::a1::a2::a3::a4::a5::a6::a7::a8::a9::a10::a11::a12::r) H R:=h
theorem rd_v13{a0 a1 a2 a3 a4 a5 a6 a7 a8 a9 a10 a11 a12:Option V}{v:V}{r:St}(h:Q v H):tVar 13 (a0::a1::a2::a3::a4::a5::a6::a7::a8::a9::a10::a11::a12::some v::r) H Q:=⟨v,rfl,h⟩
theorem rd_n13{a0 a1 a2 a3 a4 a5 a6 a7 a8 a9 a10 a11 a12 a13:Option V}{v:V}{r:St}{R:St->Hp->Prop}(h:R (a0::a1::a2::a3::a4::a5::a6::a7::a8::a9::a10::a11::a12::some v::r) H):gName 13 v (a0::a1::a2::a3::a4::a5::a6::a7::a8::a9::a10::a11::a12::a13::r) H R:=h
theorem rd_const{v:V}(h:Q v H):tC v σ H Q:=h
theorem rd_op{r:R2}(h:ta σ H fun x H1=>tb σ H1 fun y H2=>r x y H2 Q):tOp r ta tb σ H Q:=h
theorem rd_un{r:V->Hp->VK->Prop}(h:ta σ H fun x H1=>r x H1 Q):tUn r ta σ H Q:=h
theorem rd_i0{g:Int->Int->V}{i j:Int}(h:Q (g i j) H):rI0 g (.int i) (.int j) H Q:=⟨i,j,rfl,rfl,h⟩
theorem j58{C:Int->Int->Prop}{g:Int->Int->V}{i j:Int}(c:C i j)(h:Q (g i j) H):rI C g (.int i) (.int j) H Q:=⟨i,j,rfl,rfl,c,h⟩
theorem rd_u{g:Int->V}{i:Int}(h:Q (g i) H):rU g (.int i) H Q:=⟨i,rfl,h⟩
theorem rd_eqI{i j:Int}(h:Q (.bl (decide (i=j))) H):rEq (.int i) (.int j) H Q:=by
 refine⟨rfl,?_⟩;rw[show decide (V.int i=V.int j)=decide (i=j) by simp];exact h
theorem rd_eqS{i j:Str}(h:Q (.bl (decide (i=j))) H):rEq (.str i) (.str j) H Q:=by
 refine⟨rfl,?_⟩;rw[show decide (V.str i=V.str j)=decide (i=j) by simp];exact h
theorem rd_if{c:TT}{t u:TS}(h:c σ H fun b H1=>if b=true then t D σ H1 else u D σ H1):tIfS c t u D σ H:=h
theorem rd_test{R:Bool->Hp->Prop}(h:te σ H fun x H'=>∃k,x = .bl k/\R k H'):tTest te σ H R:=h
theorem rd_tB{R:Bool->Hp->Prop}(h:te σ H fun x H'=>∃k,x = .bl k/\R k H'):tB te σ H R:=h
theorem rd_blP{k:Bool}{R:Bool->Prop}(h:R k):∃k',V.bl k = .bl k'/\R k':=⟨k,rfl,h⟩
theorem rd_not{t:TT}{R:Bool->Hp->Prop}(h:t σ H fun c H1=>R (!c) H1):tNot t σ H R:=h
theorem rd_and{t u:TT}{R:Bool->Hp->Prop}(h:t σ H fun c H1=>if c=true then u σ H1 R else R false H1):tAnd t u σ H R:=h
theorem rd_andV(h:ta σ H fun x H1=>∃c,x = .bl c/\if c=true then tb σ H1 Q else Q (.bl false) H1):tAndV ta tb σ H Q:=h
theorem rd_orV(h:ta σ H fun x H1=>∃c,x = .bl c/\if c=true then Q (.bl true) H1 else tb σ H1 Q):tOrV ta tb σ H Q:=h
theorem rd_ifE{t:TT}(h:t σ H fun c H1=>if c=true then ta σ H1 Q else tb σ H1 Q):tIf t ta tb σ H Q:=h
theorem rd_ret(h:te σ H D.rt):tRet te D σ H:=h
theorem rd_next(h:D.nx σ H):tNext D σ H:=h
theorem rd_drop(h:te σ H fun _ H1=>D.nx σ H1):tDrop te D σ H:=h
theorem rd_cb{r:List V->Hp->VK->Prop}{t:TA}(h:t σ H fun vs H1=>r vs H1 Q):tCB r t σ H Q:=h
theorem rd_call{sp:Sp}{dvs:List V}{E:XK}{t:TA}(h:t σ H fun vs H1=>sp (vs++dvs) H1 Q E):tCall sp dvs E t σ H Q:=h
theorem rd_fld{K:Frg}{f:Str}(h:ta σ H fun x H1=>∃a C dx fs v,x = .ref a/\H1 a=some (.ins C dx fs)/\Cls K C/\NoAttr K C f/\fs.lookup f=some v/\Q v H1):tFld K ta f σ H Q:=h
theorem rd_sfld{K:Frg}{f:Str}(h:tb σ H fun y H1=>ta σ H1 fun x H2=>∃a C dx fs,x = .ref a/\H2 a=some (.ins C dx fs)/\Cls K C/\NoAttr K C f/\fs.length<1000/\D.nx σ (upd H2 a (.ins C dx (putF f y fs)))):sFld K ta tb f D σ H:=h
theorem rd_meth{C:Addr}{m:Str}{sp:Sp}{dvs:List V}{E:XK}{t:TA}(h:ta σ H fun x H1=>∃a dx fs,x = .ref a/\H1 a=some (.ins C dx fs)/\fs.lookup m=none/\t σ H1 fun vs H2=>sp (x::(vs++dvs)) H2 Q E):tMeth C m sp dvs E ta t σ H Q:=h
theorem rd_make{C:Addr}{sp:Sp}{dvs:List V}{E:XK}{t:TA}(h:t σ H fun vs H1=>∀x dx,H1 x=none->H1 dx=none->dx≠x->sp (.ref x::(vs++dvs)) (upd (upd H1 dx (.own x)) x (.ins C dx [])) (fun v H2=>v = .non/\Q (.ref x) H2) E):tMake C sp dvs E t σ H Q:=h
theorem rd_nil{R:List V->Hp->Prop}(h:R [] H):tNil σ H R:=h
theorem rd_cons{tr:TA}{R:List V->Hp->Prop}(h:ta σ H fun x H1=>tr σ H1 fun xs H2=>R (x::xs) H2):tCons ta tr σ H R:=h
theorem rd_lst{t:TA}(h:t σ H fun xs H1=>xs.length<=sizeLine/\∀p,H1 p=none->Q (.ref p) (upd H1 p (.lst xs))):tLst t σ H Q:=h
theorem rd_tup{t:TA}(h:t σ H fun xs H1=>xs.length<=sizeLine/\∀p,H1 p=none->Q (.ref p) (upd H1 p (.tup xs))):tTup t σ H Q:=h
theorem rd_chain{r r':R2}{tc:TE}(h:ta σ H fun x H1=>tb σ H1 fun y H2=>r x y H2 fun z H3=>∃k,z = .bl k/\(if k=true then tc σ H3 fun w' H4=>r' y w' H4 Q else Q (.bl false) H3)):tChain r r' ta tb tc σ H Q:=h
theorem rd_bm{K:Frg}{T:String}{r:V->List V->Hp->VK->Prop}{t:TA}(h:te σ H fun x H1=>tyV K T x H1/\t σ H1 fun xs H2=>r x xs H2 Q):tBM K T r te t σ H Q:=h
theorem rd_sl{r:V->Option Int->Option Int->Hp->VK->Prop}{tl th:TO}(h:te σ H fun x H1=>tl σ H1 fun l H2=>th σ H2 fun u H3=>r x l u H3 Q):tSl r te tl th σ H Q:=h
theorem rd_nopart{R:Option Int->Hp->Prop}(h:R none H):tNoPart σ H R:=h
theorem rd_part{R:Option Int->Hp->Prop}(h:te σ H fun x H1=>∃i,x = .int i/\R (some i) H1):tPart te σ H R:=h
theorem rd_int{i:Int}{R:Int->Prop}(h:R i):∃i',V.int i = .int i'/\R i':=⟨i,rfl,h⟩
theorem iteD{p A B:Prop}[Decidable p](h1:p->A)(h2:¬p->B):if decide p=true then A else B:=by
 by_cases h:p
 ·rw[if_pos (decide_eq_true h)];exact h1 h
 ·rw[if_neg (by simpa using h)];exact h2 h
theorem iteN{p A B:Prop}[Decidable p](h1:¬p->A)(h2:p->B):if(!decide p)=true then A else B:=by
 by_cases h:p
 ·rw[if_neg (by simpa using h)];exact h2 h
 ·rw[if_pos (by simpa using h)];exact h1 h
theorem rd_rng1{ta:TA}{R:It->Hp->Prop}(h:ta σ H fun vs H1=>∃j:Int,vs=[.int j]/\-(2^62)<=j/\j<2^62/\R (Itr 0 j.toNat) H1):iRng1 ta σ H R:=h
theorem rd_iList{K:Frg}{R:It->Hp->Prop}(h:te σ H fun x H1=>∃a,x = .ref a/\(∃xs,SqL K H1 a xs)/\R (Itl K a) H1):iList K te σ H R:=h
theorem rd_p18(h:Q (.int (10^18)) H):rI CPow (fun i j=>.int (i^j.toNat)) (.int 10) (.int 18) H Q:=⟨10,18,rfl,rfl,⟨by decide,by decide,by decide⟩,h⟩
theorem rd_p40(h:Q (.int (10^40)) H):rI CPow (fun i j=>.int (i^j.toNat)) (.int 10) (.int 40) H Q:=⟨10,40,rfl,rfl,⟨by decide,by decide,by decide⟩,h⟩
theorem rd_p60(h:Q (.int (10^60)) H):rI CPow (fun i j=>.int (i^j.toNat)) (.int 10) (.int 60) H Q:=⟨10,60,rfl,rfl,⟨by decide,by decide,by decide⟩,h⟩
theorem rd_aug{i:Nat}{ti:TIp}(h:tVar i σ H fun x H0=>te σ H0 fun y H1=>ti x y H1 fun z H2=>gName i z σ H2 D.nx):tAug i te ti D σ H:=h
theorem rd_ipI{f:Int->Int->Int}{i j:Int}(h:Q (.int (f i j)) H):ipI f (.int i) (.int j) H Q:=⟨i,j,rfl,rfl,h⟩
theorem rd_for{wi:TI}{g:TG}{tb:TS} (h:wi σ H fun J H1=>∃W:Nat->Nat->St->Hp->Prop,(∃m,W 0 m σ H1)/\∀i m σ H,W i m σ H->
 (J.stop i H/\D.nx σ H)\/(J.go i H/\∃N:St->Hp->Prop,(∀σ' H',N σ' H'->∃m',m'<m/\W (i+1) m' σ' H')/\∀x H',J.yld i H x H'->g x σ H' fun σ2 H2=>tb {D with nx:=N,ct:=N,bk:=D.nx} σ2 H2)):tFor wi g tb D σ H:=h
theorem rd_comp{wi:TI}{n:Nat}{ci:List Nat}{g:TG}{tf:TT} (h:wi σ H fun J H1=>∃W:Nat->Nat->List V->Hp->Prop,(∃m,W 0 m [] H1)/\∀i m ys H,W i m ys H->
 (J.stop i H/\ys.length<=sizeLine/\∀p,H p=none->Q (.ref p) (upd H p (.lst ys)))\/
 (J.go i H/\∃N:List V->Hp->Prop,(∀ys' H',N ys' H'->∃m',m'<m/\W (i+1) m' ys' H')/\∀x H',J.yld i H x H'->g x (capS n ci σ) H' fun σ2 H2=>tf σ2 H2 fun b H3=>
  if b=true then te σ2 H3 fun v H4=>ys.length<sizeLine/\N (ys++[v]) H4 else N ys H3)):tComp wi n ci g tf te σ H Q:=h
theorem rd_yes{R:Bool->Hp->Prop}(h:R true H):tYes σ H R:=h
theorem Jm{n:Nat}{ci:List Nat}{g:TG}{x:V}{σ':St}{R:St->Hp->Prop}(e:capS n ci σ=σ')(h:g x σ' H R):g x (capS n ci σ) H R:=by rw[e];exact h
theorem jB{t:TS}{σ':St}(e:σ=σ')(h:t D σ' H):t D σ H:=by subst e;exact h
theorem Xw{x y A B:Int}(h1 : -A<=x)(h2:x<=A)(h3 : -B<=y)(h4:y<=B) : -(A*B)<=x*y/\x*y<=A*B:=by
 have hx:x.natAbs<=A.toNat:=by omega
 have hy:y.natAbs<=B.toNat:=by omega
 have h:=Nat.mul_le_mul hx hy;rw[<-Int.natAbs_mul]at h;have e:((A.toNat*B.toNat:Nat):Int)=A*B:=by
  rw[Int.natCast_mul,Int.toNat_of_nonneg (by omega),Int.toNat_of_nonneg (by omega)]
 have h':((x*y).natAbs:Int)<=A*B:=by rw[<-e];exact Int.ofNat_le.mpr h
 omega
theorem j3H{H H':Hp}{p:Addr}{o:HO}(h:H p=none)(e:upd H p o=H'):Same H H':=fun b u q=>by rw[<-e,jh (jg q h)];exact q
theorem yg{H H':Hp}{p:Addr}{o:HO}(e:upd H p o=H'):H' p=some o:=by rw[<-e];exact jA
end
theorem ixLm{K:Frg}{p:Addr}{xs:List V}{i:Int}{v:V}{H:Hp}{Q:VK}(h:SqL K H p xs)(e:atI xs i=some v)(q:Q v H):rIxL K (.ref p) (.int i) H Q:=⟨p,xs,i,v,rfl,rfl,h,e,q⟩
theorem ixTm{K:Frg}{p:Addr}{xs:List V}{i:Int}{v:V}{H:Hp}{Q:VK}(h:SqT K H p xs)(e:atI xs i=some v)(q:Q v H):rIxT K (.ref p) (.int i) H Q:=⟨p,xs,i,v,rfl,rfl,h,e,q⟩
end L2
local macro_rules | `(tactic| walk_at "side") => `(tactic| first | with_reducible assumption | exact L2.cdivB (by omega) (by omega) | exact L2.mulOk (by omega) (by omega) (by omega) (by omega) | exact L2.mulOkC (by first | assumption | exact L2.bits_ediv (by assumption) _) (by omega) (by omega) | omega)
local macro_rules | `(tactic| walk_at $s:str) => do
 let ws:=s.getString.splitOn " "
 if ws.head?==some "f" then
  let vs:=if ws.length==3 then["p"++ws.getD 1 "","hp"++ws.getD 1 "","H"++ws.getD 1 "","s"++ws.getD 1 "",ws.getD 2 ""++ws.getD 1 ""]else ws.drop 1
  let i:=fun(k:Nat)=>Lean.mkIdent (Lean.Name.mkSimple (vs.getD k ""))
  return <-`(tactic| (intro $(i 0):ident $(i 1):ident;generalize eH:L2.upd _ $(i 0) _ = $(i 2):ident;have $(i 3):ident:=L2.j3H $(i 1) eH;have $(i 4):ident:=L2.yg eH;clear eH))
 if s.getString != "g" then Lean.Macro.throwUnsupported
 let as <-("rd_seq rd_asg rd_op rd_const rd_i0 rd_cons rd_nil rd_call rd_ret rd_if rd_test rd_tB rd_blP rd_not rd_next rd_v0 rd_v1 rd_v2 rd_v3 rd_v4 rd_v5 rd_v6 rd_v7 rd_v8 rd_v9 rd_v10 rd_v11 rd_v12 rd_v13 rd_un rd_u rd_and rd_andV rd_orV rd_ifE rd_drop rd_cb rd_lst rd_tup rd_chain rd_bm rd_sl rd_nopart rd_part rd_eqI rd_eqS rd_str rd_int rd_rng1 rd_iList rd_ipI rd_aug rd_for rd_comp rd_yes rd_dget rd_iTup rd_sub rd_iEnum rd_iZip rd_dnew rd_dput rd_bm0 rd_tru rd_revS rd_rngD rd_fld rd_sfld rd_meth rd_make rd_n0 rd_n1 rd_n2 rd_n3 rd_n4 rd_n5 rd_n6 rd_n7 rd_n8 rd_n9 rd_n10 rd_n11 rd_n12 rd_n13 rd_p18 rd_p40 rd_p60".splitOn " ").toArray.mapM λn=>`(Lean.Parser.Tactic.tacticSeq| refine $(Lean.mkIdent (Lean.Name.mkStr2 "L2" n)) ?_)
 `(tactic| repeat first | with_reducible (first $[| $as]*) | (with_reducible refine L2.j58 ?c ?_; (case c => ((try dsimp only); walk_at "side"))))
local macro_rules | `(tactic| exists $e) => `(tactic| (walk_at "g"; refine $e))
namespace Fs
end Fs
namespace Rp
noncomputable def ramp(s g b j:Int):Int:=s+(g-s)*j/b
end Rp
namespace Rp
end Rp
namespace Pr
open PySem L2
noncomputable def cell(ns:List Int)(k:Int):Int:=ns.getD k.toNat 0
inductive sp_cell_at(K:Frg)(vs:List V)(H:Hp)(Q:VK)(xk:XK):Prop
 | mk (a:Addr) (ns:List Int) (k:Int) (_:vs=[.ref a,.int k]) (_:SqL K H a (ns.map V.int)) (_:ns.length<=63) (_:0<=k) (_:Q (.int (cell ns k)) H):sp_cell_at K vs H Q xk
theorem KO{ns:List Int}(h:∀x∈ns,Builtin.Int.intBits x<=1048576)(k:Int):Builtin.Int.intBits (cell ns k)<=1048576:=by
 unfold cell;rw[getD_eq_getElem?_getD];cases e:ns[k.toNat]? with
 | none=>decide
 | some x=>exact h x (List.mem_of_getElem? e)
theorem j2R{ns:List Int}{k:Int}(h0:0<=k)(h:k<(ns.length:Int)):atI (ns.map V.int) k=some (.int (cell ns k)):=by
 have ek:k=((k.toNat:Nat):Int):=by omega
 have hk:k.toNat<ns.length:=by omega
 have q:atI (ns.map V.int) ((k.toNat:Nat):Int)=some (.int ns[k.toNat]):=jD (by rw[List.getElem?_map,List.getElem?_eq_getElem hk]<;>rfl);rw[<-ek]at q;rw[q];unfold cell;rw[getD_eq_getElem?_getD,List.getElem?_eq_getElem hk];rfl
end Pr
namespace Pr
open PySem L2
inductive sp_law(K:Frg)(vs:List V)(H:Hp)(Q:VK)(xk:XK):Prop
 | mk (a:Addr) (ns:List Int) (_:vs=[.ref a]) (_:SqL K H a (ns.map V.int)) (_:ns.length<=63) (_:(∀x∈ns,Builtin.Int.intBits x<=1048576)) (_:∀H',Q (.bl true) H'):sp_law K vs H Q xk
end Pr
namespace Pr
open PySem L2
end Pr
namespace Pr
open PySem L2
end Pr
namespace Pr
open PySem L2
end Pr
namespace Pr
open PySem L2
end Pr
namespace Pr
open PySem L2
def B4(s g b j:Int):Prop:=-10^61<=s/\s<=10^61/\-10^61<=g/\g<=10^61/\0<b/\b<=10^61/\-10^61<=j/\j<=10^61
def j0e:Sp:=fun vs H Q _=>∃s g b j:Int,vs=[.int s,.int g,.int b,.int j]/\B4 s g b j/\Q (.int (Rp.ramp s g b j)) H
end Pr
namespace Pr
open PySem L2
end Pr
namespace Ws
open PySem PySem.NumText L2
noncomputable def lets:Str:="abcdefghijklmnopqrstuvwxyz"
noncomputable def among(x z:Str):Bool:=decide (∀c∈x.cps.toList,c∈z.cps.toList)
noncomputable def isW(x:Str):Bool:=decide (1<=x.length/\x.length<=8)&&among x lets
end Ws
namespace Ws
open PySem PySem.NumText L2
end Ws
namespace Ws
open PySem L2
end Ws
namespace Rm
open PySem PySem.NumText PyProof.Rows L2
theorem XT{x:Str}{lo hi:Option Int}:(Txt.slice x lo hi).length<=x.length:=Txt.slice_le x lo hi
theorem j1L{c:Nat}:c∈Ws.lets.cps.toList↔97<=c/\c<=122:=by
 rw[show Ws.lets.cps.toList=List.range' 97 26 by decide +kernel,List.mem_range'_1];omega
open PySem L2
theorem none_of{H H':Hp}{p:Addr}(s:Same H H')(h:H' p=none):H p=none:=by
 cases e:H p with
 | none=>rfl
 | some u=>rw[s _ _ e]at h;cases h
inductive Fm where
 | hold (n:Int) | ring (x:Str) (n:Int) | rise (x:Str) (h n:Int) | row (ps:List Str) | side (ps:List Str) | again (k:Int) (x:Str)
noncomputable def FormAt(H:Hp)(a:Addr):Fm->Prop
 | .hold n=>H a=some (.tup [.str "hold",.int n])
 | .ring x n=>H a=some (.tup [.str "ring",.str x,.int n])
 | .rise x h n=>H a=some (.tup [.str "raise",.str x,.int h,.int n])
 | .row ps=>∃b,H a=some (.tup [.str "row",.ref b])/\H b=some (.tup (ps.map V.str))
 | .side ps=>∃b,H a=some (.tup [.str "side",.ref b])/\H b=some (.tup (ps.map V.str))
 | .again k x=>H a=some (.tup [.str "again",.int k,.str x])
def PartAt(H:Hp)(a:Addr)(p:Str×Fm):Prop:=∃b,H a=some (.tup [.str p.1,.ref b])/\FormAt H b p.2
def LimbAt(H:Hp)(a:Addr)(p:Str×Int):Prop:=H a=some (.tup [.str p.1,.int p.2])
def All2{α:Type}(R:Addr->α->Prop)(as:List Addr)(xs:List α):Prop:=as.length=xs.length/\∀(i:Nat) (a:Addr) (x:α),as[i]?=some a->xs[i]?=some x->R a x
theorem All2.nil{α:Type}{R:Addr->α->Prop}:All2 R [] []:=⟨rfl,fun i a x h=>by simp at h⟩
theorem All2.mono{α:Type}{R S:Addr->α->Prop}{as:List Addr}{xs:List α}(h:All2 R as xs)(k:∀a x,R a x->S a x):All2 S as xs:=⟨h.1,fun i a x h1 h2=>k a x (h.2 i a x h1 h2)⟩
theorem All2.snoc{α:Type}{R:Addr->α->Prop}{as:List Addr}{xs:List α}{a:Addr}{x:α}(h:All2 R as xs)(hx:R a x):All2 R (as++[a]) (xs++[x]):=by
 have hl:=h.1;refine⟨by simp[hl],fun i b y h1 h2=>?_⟩;by_cases hi:i<as.length
 ·rw[List.getElem?_append_left hi]at h1;rw[List.getElem?_append_left (by omega)]at h2;exact h.2 i b y h1 h2
 ·rw[List.getElem?_append_right (by omega)]at h1;rw[List.getElem?_append_right (by omega)]at h2;have e:i-as.length=0:=by
   have:=(List.getElem?_eq_some_iff.mp h1).1;simp at this;omega
  rw[e]at h1;rw[show i-xs.length=0 by omega]at h2;simp at h1 h2;subst h1 h2;exact hx
theorem All2.get{α:Type}{R:Addr->α->Prop}{as:List Addr}{xs:List α}{i:Nat}{x:α}(h:All2 R as xs)(hx:xs[i]?=some x):∃a,as[i]?=some a/\R a x:=by
 have hi:=(List.getElem?_eq_some_iff.mp hx).1;have hl:=h.1;have ha:as[i]?=some as[i]:=List.getElem?_eq_getElem (by omega);exact⟨_,ha,h.2 i _ _ ha hx⟩
section
variable{H H':Hp}{z:Ra}{m:Rr}
end
section
variable{m:Rr}{f:Fm}{ks:List Int}{g:Int}
theorem getD_snoc{α:Type}{l:List α}{x d:α}{j:Nat}(h:j<l.length):(l++[x]).getD j d=l.getD j d:=by
 rw[getD_eq_getElem?_getD,getD_eq_getElem?_getD,List.getElem?_append_left h]
end
theorem Ql{as:List Addr}{i:Int}{a:Addr}(h0:0<=i)(h:as[i.toNat]?=some a):atI (as.map V.ref) i=some (.ref a):=by
 have e:atI (as.map V.ref) ((i.toNat:Nat):Int)=some (.ref a):=jD (by rw[List.getElem?_map,h];rfl);rw[Int.toNat_of_nonneg h0]at e;exact e
open PySem PySem.Spec PyProof.Rows L2
noncomputable def vN(j:Nat):V:=.int j
theorem YD:∀{ks:List Int} {lo hi:Int},ks.Pairwise (· < ·)->(∀k∈ks,lo<=k/\k<hi)->ks.length<=(hi-lo).toNat
 | [],_,_,_,_=>Nat.zero_le _
 | k::r,lo,hi,h,b=>by
  have h1:=YD (ks:=r) (lo:=k+1) (hi:=hi) (pairwise_cons.mp h).2 fun x hx=>⟨(pairwise_cons.mp h).1 x hx,(b x (mem_cons_of_mem _ hx)).2⟩
  have h2:=b k mem_cons_self;rw[length_cons];omega
theorem XV{H:Hp}:∀(ks:List Int),DVs H (ks.map V.int) (ks.map PyData.int)
 | []=>.nil
 | k::r=>.cons (.int k) (XV r)
theorem j1q{H:Hp}{a:Addr}{ks:List Int}(h:H a=some (.lst (ks.map V.int))):DV H (.ref a) (.list (ks.map PyData.int)):=.lst h (XV ks)
theorem j2Y{H:Hp}{a:Addr}(h:H a=some (.lst [])):DV H (.ref a) (.list []):=.lst h .nil
theorem j1t(ks:List Int):PyData.eqv (.list (ks.map PyData.int)) (.list [])=decide (ks=[]):=by
 cases ks<;>simp[PyData.eqv,PyData.eqvAll]
theorem shp(ks:List Int):SeqAt.shaped (.list (ks.map PyData.int))=true:=PySem.W.ke_shaped_ints ks
theorem shp0:SeqAt.shaped (.list [])=true:=PySem.W.ke_shaped_ints []
theorem wU(n:Int):∀hs:List Int,inV (.int n) (hs.map V.int)=decide (n∈hs)
 | []=>rfl
 | h::r=>by
  have ih:=wU n r;unfold inV at ih|-;rw[map_cons,any_cons,ih];have e:eqV (.int h) (.int n)=decide (h=n):=by
   show decide _=_;simp
  rw[e,Bool.eq_iff_iff];simp only[Bool.or_eq_true,decide_eq_true_eq,mem_cons];constructor
  ·rintro(x | x)
   ·exact .inl x.symm
   ·exact .inr x
  ·rintro(x | x)
   ·exact .inl x.symm
   ·exact .inr x
theorem inI(n:Int)(hs:List Int):(if false=true then !inV (.int n) (hs.map V.int)else inV (.int n) (hs.map V.int))=decide (n∈hs):=by rw[if_neg (by decide),wU]
theorem notInI(n:Int)(hs:List Int):(if true=true then !inV (.int n) (hs.map V.int)else inV (.int n) (hs.map V.int)) = !decide (n∈hs):=by rw[if_pos rfl,wU]
theorem flats:∀hs:List Int,(hs.map V.int).all flatV=true
 | []=>rfl
 | h::r=>by rw[map_cons,all_cons,flats r];rfl
theorem take_snoc{α:Type}{l:List α}{i:Nat}{x:α}(h:l[i]?=some x):l.take (i+1)=l.take i++[x]:=by
 rw[List.take_add_one,h];rfl
theorem j2I{is:List Nat}{i:Nat}{x:V}(h:(is.map vN)[i]?=some x):∃j,is[i]?=some j/\x = .int j/\j∈is:=by
 rw[List.getElem?_map]at h;obtain⟨j,hj,rfl⟩:=Option.map_eq_some_iff.mp h;exact⟨j,hj,rfl,List.mem_of_getElem? hj⟩
theorem j13{ms hs:List Int}(hp:ms.Perm hs)(nd:hs.Nodup)(ho:ms.Pairwise (·<=·)):ms.Pairwise (· < ·):=
 (List.Pairwise.and ho (hp.nodup_iff.mpr nd)).imp fun {a b} h=>by have h1:=h.1;have h2:a≠b:=h.2;omega
def Shp(n:Nat)(d:PyData):Prop:=d.canLay0=true/\d.depth<=n
theorem Shp.int{i:Int}:Shp 0 (.int i):=⟨rfl,Nat.le_refl _⟩
theorem Shp.str{x:Str}(h:PyData.strOk x=true):Shp 0 (.str x):=⟨h,Nat.le_refl _⟩
theorem Shp.mono{n k:Nat}{d:PyData}(h:Shp n d)(hk:n<=k):Shp k d:=⟨h.1,Nat.le_trans h.2 hk⟩
theorem Yj{n:Nat}:∀{ds:List PyData},(∀d∈ds,Shp n d)->PyData.canLayAll0 ds=true/\PyData.depthAll ds<=n
 | [],_=>⟨rfl,Nat.zero_le _⟩
 | d::r,h=>by
  have h1:=h d mem_cons_self;have h2:=Yj (ds:=r) fun x hx=>h x (mem_cons_of_mem _ hx)
  constructor
  ·show(d.canLay0&&PyData.canLayAll0 r)=true;rw[h1.1,h2.1];rfl
  ·show max d.depth (PyData.depthAll r)<=n;exact Nat.max_le.mpr ⟨h1.2,h2.2⟩
theorem Shp.lst{n:Nat}{ds:List PyData}(h:∀d∈ds,Shp n d):Shp (n+1) (.list ds):=⟨(Yj h).1,Nat.succ_le_succ (Yj h).2⟩
theorem Shp.tup{n:Nat}{ds:List PyData}(h:∀d∈ds,Shp n d):Shp (n+1) (.tuple ds):=⟨(Yj h).1,Nat.succ_le_succ (Yj h).2⟩
theorem Shp.ok{n:Nat}{d:PyData}(h:Shp n d)(hn:n<=64):SeqAt.shaped d=true:=by
 unfold SeqAt.shaped;rw[h.1,Bool.true_and];exact decide_eq_true (Nat.le_trans h.2 hn)
theorem j3M{x:Str}(h:Ws.isW x=true):PyData.strOk x=true:=by
 unfold Ws.isW Ws.among at h;rw[Bool.and_eq_true]at h;have h2:=of_decide_eq_true h.2;unfold PyData.strOk;rw[Array.all_eq_true_iff_forall_mem];intro c hc;have:=j1L.mp (h2 c (by simpa using hc));exact decide_eq_true (by omega)
theorem XW{H:Hp}:∀(xs:List Str),DVs H (xs.map V.str) (xs.map PyData.str)
 | []=>.nil
 | x::r=>.cons (.str x) (XW r)
theorem All2.tail{α:Type}{R:Addr->α->Prop}{a:Addr}{x:α}{as:List Addr}{xs:List α}(h:All2 R (a::as) (x::xs)):R a x/\All2 R as xs:=
 ⟨h.2 0 a x rfl rfl,Nat.succ.inj h.1,fun i b y h1 h2=>h.2 (i+1) b y (by simpa using h1) (by simpa using h2)⟩
theorem xI{n:Nat}{xs:List Str}(h:∀x∈xs,Ws.isW x=true):∀d∈xs.map PyData.str,Shp n d:=fun d hd=>by
 obtain⟨x,hx,rfl⟩:=mem_map.mp hd;exact(Shp.str (j3M (h x hx))).mono (Nat.zero_le _)
structure BookAt(H:Hp)(b pl pp:Addr)(las pas:List Addr)(ls:List (Str×Int))(ps:List (Str×Fm)):Prop where
 t:H b=some (.tup [.ref pl,.ref pp])
 l:H pl=some (.lst (las.map V.ref))
 la:All2 (LimbAt H) las ls
 p:H pp=some (.lst (pas.map V.ref))
 pa:All2 (PartAt H) pas ps
theorem FormAt.same{H H':Hp}{a:Addr}{f:Fm}(s:Same H H')(h:FormAt H a f):FormAt H' a f:=by
 cases f with
 | row ps=>obtain⟨b,h1,h2⟩:=h;exact⟨b,s _ _ h1,s _ _ h2⟩
 | side ps=>obtain⟨b,h1,h2⟩:=h;exact⟨b,s _ _ h1,s _ _ h2⟩
 | hold n=>exact s _ _ h
 | ring x n=>exact s _ _ h
 | rise x g n=>exact s _ _ h
 | again x n=>exact s _ _ h
theorem PartAt.same{H H':Hp}{a:Addr}{p:Str×Fm}(s:Same H H')(h:PartAt H a p):PartAt H' a p:=by
 obtain⟨b,h1,h2⟩:=h;exact⟨b,s _ _ h1,FormAt.same s h2⟩
theorem BookAt.same{H H':Hp}{b pl pp:Addr}{las pas:List Addr}{ls:List (Str×Int)}{ps:List (Str×Fm)}(B:BookAt H b pl pp las pas ls ps)(s:Same H H'):BookAt H' b pl pp las pas ls ps:=
 ⟨s _ _ B.t,s _ _ B.l,B.la.mono fun a x h=>s _ _ h,s _ _ B.p,B.pa.mono fun a x h=>PartAt.same s h⟩
theorem getD_inj{ws:List Str}(nd:ws.Nodup){i j:Nat}(hi:i<ws.length)(hj:j<ws.length)(h:ws.getD i ⟨#[]⟩=ws.getD j ⟨#[]⟩):i=j:=by
 rw[getD_eq_getElem?_getD,getD_eq_getElem?_getD,List.getElem?_eq_getElem hi,List.getElem?_eq_getElem hj]at h;have h':ws[i]=ws[j]:=h;rcases Nat.lt_trichotomy i j with q | q | q
 ·exact absurd h' (pairwise_iff_getElem.mp nd i j hi hj q)
 ·exact q
 ·exact absurd h'.symm (pairwise_iff_getElem.mp nd j i hj hi q)
open PyProof.Rows.KTD (inKeys Dat)
theorem at0{x:V}{xs:List V}:atI (x::xs) 0=some x:=jD (j:=0) rfl
theorem iteB0{b:Bool}{A B:Prop}(e:b=false)(h:B):if b=true then A else B:=by rw[e];exact h
theorem iteB1{b:Bool}{A B:Prop}(e:b=true)(h:A):if b=true then A else B:=by rw[e];exact h
theorem All2.at_ref{α:Type}{R:Addr->α->Prop}{as:List Addr}{xs:List α}{i:Nat}{v:V}(h:All2 R as xs)(hv:(as.map V.ref)[i]?=some v):∃a x,v = .ref a/\xs[i]?=some x/\R a x:=by
 rw[List.getElem?_map]at hv;obtain⟨a,ha,rfl⟩:=Option.map_eq_some_iff.mp hv;have hi:=(List.getElem?_eq_some_iff.mp ha).1;have hl:=h.1;have hx:xs[i]?=some xs[i]:=List.getElem?_eq_getElem (by omega);exact⟨a,_,rfl,hx,h.2 i a _ ha hx⟩
theorem Qb:∀{n:Nat} {hs:List Int},hs.Nodup->(∀k∈hs,0<=k/\k<(n:Int))->hs.length<=n
 | 0,hs,_,h=>by
  cases hs with
  | nil=>exact Nat.le_refl _
  | cons k r=>have:=h k mem_cons_self;omega
 | n+1,hs,nd,h=>by
  by_cases e:(n:Int)∈hs
  ·have i:=Qb (n:=n) (nd.erase (n:Int)) fun k hk=>by
    have h1:=h k (List.mem_of_mem_erase hk);have h2:k≠(n:Int):=fun z=>nd.not_mem_erase (z▸hk)
    omega
   have l:=List.length_erase_of_mem e;omega
  ·have i:=Qb (n:=n) nd fun k hk=>by
    have h1:=h k hk;have h2:k≠(n:Int):=fun z=>e (z▸hk)
    omega
   omega
noncomputable def Fm.ns:Fm->List Str
 | .row ps=>ps
 | .side ps=>ps
 | .again _ x=>[x]
 | _=>[]
noncomputable def numK(xs:List Str):List (Key×V):=xs.zipIdx.map fun p=>(Sum.inr p.1,.int (p.2:Nat))
theorem j0O(xs:List Str)(x:Str):numK (xs++[x])=numK xs++[(Sum.inr x,.int (xs.length:Nat))]:=by
 unfold numK;rw[List.zipIdx_append,map_append];simp
theorem j1R(xs:List Str):(numK xs).length=xs.length:=by simp[numK]
theorem wo(xs:List Str):(numK xs).map (·.1)=xs.map Sum.inr:=by
 unfold numK;rw[map_map];have e:∀(k:Nat) (xs:List Str),(xs.zipIdx k).map ((fun x=>x.1)∘fun p:Str×Nat=>((Sum.inr p.1:Key),V.int (p.2:Nat)))=xs.map Sum.inr:=fun k xs=>by
  induction xs generalizing k with
  | nil=>rfl
  | cons x r ih=>rw[List.zipIdx_cons,map_cons,map_cons,ih];rfl
 exact e 0 xs
theorem j3o{xs:List Str}{j:Nat}{x:Str}(h:xs[j]?=some x):(numK xs)[j]?=some (Sum.inr x,.int (j:Nat)):=by
 unfold numK;rw[List.getElem?_map,List.getElem?_zipIdx,h];simp
theorem j2J:∀{kvs:List (Key×V)} {j:Nat} {k:Key} {v:V},(kvs.map (·.1)).Nodup->kvs[j]?=some (k,v)->valV kvs k=some v
 | [],j,k,v,_,h=>by simp at h
 | p::r,0,k,v,_,h=>by
  simp at h;subst h;unfold valV;simp
 | p::r,j+1,k,v,nd,h=>by
  rw[map_cons,nodup_cons]at nd;have h':r[j]?=some (k,v):=by simpa using h
  have ne:p.1≠k:=fun e=>nd.1 (e▸mem_map.mpr ⟨(k,v),List.mem_of_getElem? h',rfl⟩)
  have ih:=j2J nd.2 h';unfold valV at ih|-;rw[List.find?_cons,decide_eq_false ne];exact ih
theorem y8{xs:List Str}(nd:xs.Nodup){j:Nat}{x:Str}(h:xs[j]?=some x):valV (numK xs) (Sum.inr x)=some (.int (j:Nat)):=
 j2J (by rw[wo];exact pairwise_map.mpr (nd.imp fun h e=>h (Sum.inr.inj e))) (j3o h)
theorem Kl{kvs:List (Key×V)}{k:Key}{v:V}(h:k∉kvs.map (·.1)):putK kvs k v=kvs++[(k,v)]:=by
 unfold putK;rw[if_neg];intro e;obtain⟨p,hp,hk⟩:=any_eq_true.mp e;exact h (mem_map.mpr ⟨p,hp,of_decide_eq_true hk⟩)
noncomputable def ixOf:List Str->Str->Nat
 | [],_=>0
 | y::r,x=>if y=x then 0 else ixOf r x+1
theorem Qs:∀{xs:List Str} {j:Nat} {x:Str},xs.Nodup->xs[j]?=some x->ixOf xs x=j
 | [],j,x,_,h=>by simp at h
 | y::r,0,x,_,h=>by
  simp at h;subst h;exact if_pos rfl
 | y::r,j+1,x,nd,h=>by
  rw[nodup_cons]at nd;have h':r[j]?=some x:=by simpa using h
  have ne:y≠x:=fun e=>nd.1 (e▸List.mem_of_getElem? h')
  show(if y=x then 0 else ixOf r x+1)=j+1;rw[if_neg ne,Qs nd.2 h']
noncomputable def nmsOf{α:Type}(ps:List (Str×α)):List Str:=ps.map (·.1)
noncomputable def inP(ps:List (Str×Fm))(f:Fm):List Nat:=f.ns.map (ixOf (nmsOf ps))
structure WfB(ls:List (Str×Int))(ps:List (Str×Fm)):Prop where
 ln:(nmsOf ls).Nodup
 l8:ls.length<=8
 pn:(nmsOf ps).Nodup
 p61:ps.length<=61
 f:∀(i:Nat) (p:Str×Fm),ps[i]?=some p->(∀x∈p.2.ns,∃j,j<i/\(nmsOf ps)[j]?=some x)/\p.2.ns.length<=8
 r:∀(i:Nat) (y x:Str) (h n:Int),ps[i]?=some (y,.rise x h n)->∃j:Nat,(nmsOf ls)[j]?=some x
theorem WfB.inP_lt{ls:List (Str×Int)}{ps:List (Str×Fm)}(W:WfB ls ps){i:Nat}{p:Str×Fm}(h:ps[i]?=some p){j:Nat}(hj:j∈inP ps p.2):j<i:=by
 obtain⟨x,hx,rfl⟩:=mem_map.mp hj;obtain⟨k,hk,e⟩:=(W.f i p h).1 x hx;rw[Qs W.pn e];exact hk
inductive sp_numbers_of(vs:List V)(H:Hp)(Q:VK)(xk:XK):Prop
 | mk (l:Addr) (as:List Addr) (xs:List Str) (_:vs=[.ref l]) (_:H l=some (.lst (as.map V.ref))) (_:as.length=xs.length) (_:(∀(i:Nat) (a:Addr) (x:Str),as[i]?=some a->xs[i]?=some x->∃r,H a=some (.tup [.str x,r]))) (_:xs.Nodup) (_:xs.length<=100) (_:∀(d:Addr) (H':Hp),Same H H'->H d=none->H' d=some (.dK (numK xs))->Q (.ref d) H'):sp_numbers_of vs H Q xk
inductive sp_names_in(vs:List V)(H:Hp)(Q:VK)(xk:XK):Prop
 | mk (a:Addr) (f:Fm) (_:vs=[.ref a]) (_:FormAt H a f) (_:∀(b:Addr) (H':Hp),Same H H'->H' b=some (.tup (f.ns.map V.str))->Q (.ref b) H'):sp_names_in vs H Q xk
def ListsAt(H:Hp)(as:List Addr)(M:List (List Int)):Prop:=All2 (fun a ks=>H a=some (.lst (ks.map V.int))) as M
theorem All2.monoM{α:Type}{R S:Addr->α->Prop}{as:List Addr}{xs:List α}(h:All2 R as xs)(k:∀a∈as,∀x,R a x->S a x):All2 S as xs:=⟨h.1,fun i a x h1 h2=>k a (List.mem_of_getElem? h1) x (h.2 i a x h1 h2)⟩
inductive sp_inner(vs:List V)(H:Hp)(Q:VK)(xk:XK):Prop
 | mk (b pl pp:Addr) (las pas:List Addr) (ls:List (Str×Int)) (ps:List (Str×Fm)) (_:vs=[.ref b]) (_:BookAt H b pl pp las pas ls ps) (_:WfB ls ps) (_:∀(l:Addr) (as:List Addr) (H':Hp),Same H H'->H l=none->H' l=some (.lst (as.map V.ref))->(∀a∈as,H a=none)->ListsAt H' as (ps.map fun p=>(inP ps p.2).map fun j:Nat=>(j:Int))->Q (.ref l) H'):sp_inner vs H Q xk
def PrsAt(H:Hp)(bs:List Addr)(e:List (Int×Int)):Prop:=All2 (fun b q=>H b=some (.tup [.int q.1,.int q.2])) bs e
def EndsAt(H:Hp)(as:List Addr)(E:List (List (Int×Int))):Prop:=All2 (fun a e=>∃bs,H a=some (.lst (bs.map V.ref))/\PrsAt H bs e) as E
def LastIn(E:List (List (Int×Int)))(is:List Nat)(k v:Int):Prop:=∃pre j post,is=pre++j::post/\(k,v)∈E.getD j []/\∀j'∈post,∀v',(k,v')∉E.getD j' []
def EndIs(ls:List (Str×Int))(ps:List (Str×Fm))(E:List (List (Int×Int)))(f:Fm)(k v:Int):Prop:=LastIn E (inP ps f) k v\/∃x n,f = .rise x v n/\k=(ixOf (nmsOf ls) x:Nat)
def EndOk(ls:List (Str×Int))(ps:List (Str×Fm))(E:List (List (Int×Int))):Prop:=∀(i:Nat) (p:Str×Fm) (e:List (Int×Int)),ps[i]?=some p->E[i]?=some e->(e.map (·.1)).Pairwise (· < ·)/\∀k v,(k,v)∈e↔EndIs ls ps E p.2 k v
inductive sp_ends(vs:List V)(H:Hp)(Q:VK)(xk:XK):Prop
 | mk (b pl pp:Addr) (las pas:List Addr) (ls:List (Str×Int)) (ps:List (Str×Fm)) (_:vs=[.ref b]) (_:BookAt H b pl pp las pas ls ps) (_:WfB ls ps) (_:∀(l:Addr) (as:List Addr) (E:List (List (Int×Int))) (H':Hp),Same H H'->H l=none->H' l=some (.lst (as.map V.ref))->(∀a∈as,H a=none)->E.length=ps.length->EndsAt H' as E->EndOk ls ps E->Q (.ref l) H'):sp_ends vs H Q xk
def MovOk(ls:List (Str×Int))(ps:List (Str×Fm))(M:List (List Int)):Prop:=∀(i:Nat) (p:Str×Fm) (ks:List Int),ps[i]?=some p->M[i]?=some ks->ks.Pairwise (· < ·)/\∀k,k∈ks↔(∃j∈inP ps p.2,k∈M.getD j [])\/∃x h n,p.2 = .rise x h n/\k=(ixOf (nmsOf ls) x:Nat)
inductive sp_moved(vs:List V)(H:Hp)(Q:VK)(xk:XK):Prop
 | mk (b pl pp:Addr) (las pas:List Addr) (ls:List (Str×Int)) (ps:List (Str×Fm)) (_:vs=[.ref b]) (_:BookAt H b pl pp las pas ls ps) (_:WfB ls ps) (_:∀(l:Addr) (as:List Addr) (M:List (List Int)) (H':Hp),Same H H'->H l=none->H' l=some (.lst (as.map V.ref))->(∀a∈as,H a=none)->M.length=ps.length->ListsAt H' as M->MovOk ls ps M->Q (.ref l) H'):sp_moved vs H Q xk
theorem j2H:∀{a b:List Int},a.Pairwise (· < ·)->b.Pairwise (· < ·)->(∀k,k∈a↔k∈b)->a=b
 | [],[],_,_,_=>rfl
 | [],y::s,_,_,h=>absurd ((h y).mpr mem_cons_self) (by simp)
 | x::r,[],_,_,h=>absurd ((h x).mp mem_cons_self) (by simp)
 | x::r,y::s,ha,hb,h=>by
  rw[pairwise_cons]at ha hb;have e:x=y:=by
   rcases mem_cons.mp ((h x).mp mem_cons_self)with q | q
   ·exact q
   ·rcases mem_cons.mp ((h y).mpr mem_cons_self)with q' | q'
    ·exact q'.symm
    ·have h1:=hb.1 x q;have h2:=ha.1 y q';omega
  subst e;congr 1;refine j2H ha.2 hb.2 fun k=>⟨fun hk=>?_,fun hk=>?_⟩
  ·rcases mem_cons.mp ((h k).mp (mem_cons_of_mem _ hk))with q | q
   ·have:=ha.1 k hk;omega
   ·exact q
  ·rcases mem_cons.mp ((h k).mpr (mem_cons_of_mem _ hk))with q | q
   ·have:=hb.1 k hk;omega
   ·exact q
theorem getD_map{E:List (List (Int×Int))}(j:Nat):(E.map fun e=>e.map (·.1)).getD j []=(E.getD j []).map (·.1):=by
 rw[getD_eq_getElem?_getD,getD_eq_getElem?_getD,List.getElem?_map];cases E[j]?<;>rfl
theorem Wd{k:Int}{e:List (Int×Int)}:k∈e.map (·.1)↔∃v,(k,v)∈e:=by
 constructor
 ·intro h;obtain⟨p,hp,rfl⟩:=mem_map.mp h;exact⟨p.2,hp⟩
 ·rintro⟨v,h⟩;exact mem_map.mpr ⟨_,h,rfl⟩
theorem wW{E:List (List (Int×Int))}{k:Int}:∀{is:List Nat},(∃v,LastIn E is k v)↔∃j∈is,∃v,(k,v)∈E.getD j []
 | []=>⟨fun⟨v,pre,j,post,e,_⟩=>by cases pre<;>simp at e,fun⟨j,h,_⟩=>by simp at h⟩
 | i::r=>by
  have ih:=wW (E:=E) (k:=k) (is:=r);constructor
  ·rintro⟨v,pre,j,post,e,h1,h2⟩;exact⟨j,by rw[e];simp,v,h1⟩
  ·rintro⟨j,hj,v,hv⟩;by_cases q:∃j∈r,∃v,(k,v)∈E.getD j []
   ·obtain⟨v',pre,j',post,e,h1,h2⟩:=ih.mpr q;exact⟨v',i::pre,j',post,by rw[e];rfl,h1,h2⟩
   ·rcases mem_cons.mp hj with rfl | hj
    ·exact⟨v,[],j,r,rfl,hv,fun j' h' v' hv'=>q ⟨j',h',v',hv'⟩⟩
    ·exact absurd ⟨j,hj,v,hv⟩ q
theorem j1O{ls:List (Str×Int)}{ps:List (Str×Fm)}{E:List (List (Int×Int))}(hl:E.length=ps.length)(h:EndOk ls ps E):MovOk ls ps (E.map fun e=>e.map (·.1)):=fun i p ks hp hk=>by
 rw[List.getElem?_map]at hk;obtain⟨e,he,rfl⟩:=Option.map_eq_some_iff.mp hk;obtain⟨a,b⟩:=h i p e hp he;refine⟨a,fun k=>?_⟩;rw[Wd];constructor
 ·rintro⟨v,hv⟩;rcases(b k v).mp hv with z | ⟨x,n,e1,e2⟩
  ·obtain⟨j,hj,v',hv'⟩:=wW.mp ⟨v,z⟩;exact .inl ⟨j,hj,by rw[getD_map];exact Wd.mpr ⟨v',hv'⟩⟩
  ·exact .inr ⟨x,v,n,e1,e2⟩
 ·rintro(⟨j,hj,hk⟩ | ⟨x,h,n,e1,e2⟩)
  ·rw[getD_map]at hk;obtain⟨v',hv'⟩:=Wd.mp hk;obtain⟨v,z⟩:=wW.mpr ⟨j,hj,v',hv'⟩;exact⟨v,(b k v).mpr (.inl z)⟩
  ·exact⟨h,(b k h).mpr (.inr ⟨x,n,e1,e2⟩)⟩
theorem X3{xs:List Str}{x:Str}(h:x∈xs):ixOf xs x<xs.length:=by
 induction xs with
 | nil=>exact nomatch h
 | cons y r ih=>
  show(if y=x then 0 else ixOf r x+1)<r.length+1;split
  ·omega
  ·rename_i hne;rcases mem_cons.mp h with e | e
   ·exact absurd e.symm hne
   ·have:=ih e;omega
theorem ZN{ls:List (Str×Int)}{ps:List (Str×Fm)}(W:WfB ls ps){E:List (List (Int×Int))}(hl:E.length<=ps.length)(h:EndOk ls ps E):∀(i:Nat),∀q∈E.getD i [],0<=q.1/\q.1<(ls.length:Int):=by
 intro i
 induction i using Nat.strongRecOn with
 | ind i ih=>
  intro q hq;rw[getD_eq_getElem?_getD]at hq;cases e:E[i]? with
  | none=>rw[e]at hq;exact nomatch hq
  | some ev=>
   rw[e]at hq;have hi:=(List.getElem?_eq_some_iff.mp e).1;have ep:ps[i]?=some ps[i]:=List.getElem?_eq_getElem (by omega);obtain⟨_,b⟩:=h i _ ev ep e;rcases(b q.1 q.2).mp hq with⟨pre,j,post,e1,e2,_⟩ | ⟨x,n,e1,e2⟩
   ·exact ih j (W.inP_lt ep (by rw[e1];simp)) _ e2
   ·have ep':ps[i]?=some (ps[i].1,.rise x q.2 n):=by rw[ep,<-e1]
    obtain⟨j,hj⟩:=W.r i _ _ _ _ ep';have h3:=X3 (List.mem_of_getElem? hj);have h4:(nmsOf ls).length=ls.length:=length_map _;rw[e2];omega
theorem W6{ls:List (Str×Int)}{ps:List (Str×Fm)}(W:WfB ls ps){E:List (List (Int×Int))}(hl:E.length<=ps.length)(h:EndOk ls ps E){i:Nat}{e:List (Int×Int)}(he:E[i]?=some e):e.length<=8:=by
 have hi:=(List.getElem?_eq_some_iff.mp he).1;have a:=(h i _ e (List.getElem?_eq_getElem (by omega)) he).1;have b:=ZN W hl h i;rw[getD_eq_getElem?_getD,he]at b;have z:=YD (ks:=e.map (·.1)) (lo:=0) (hi:=ls.length) a fun k hk=>by
  obtain⟨q,hq,rfl⟩:=mem_map.mp hk;exact b q hq
 rw[length_map]at z;have:=W.l8;omega
noncomputable def putI(kvs:List (Int×Int))(k v:Int):List (Int×Int):=if k∈kvs.map (·.1)then kvs.map (fun q=>if q.1=k then(q.1,v)else q)else kvs++[(k,v)]
noncomputable def mergeI(kvs more:List (Int×Int)):List (Int×Int):=more.foldl (fun acc q=>putI acc q.1 q.2) kvs
theorem j2a(kvs:List (Int×Int))(k v:Int):putK (kvs.map iiK) (Sum.inl k) (.int v)=(putI kvs k v).map iiK:=by
 have e:(((kvs.map iiK).any fun kv=>decide (kv.1=(Sum.inl k:Key)))=true)↔k∈kvs.map (·.1):=by
  rw[List.any_map,any_eq_true];constructor
  ·rintro⟨q,hq,h⟩;have h':(Sum.inl q.1:Key)=Sum.inl k:=of_decide_eq_true h;exact mem_map.mpr ⟨q,hq,Sum.inl.inj h'⟩
  ·intro h;obtain⟨q,hq,rfl⟩:=mem_map.mp h;exact⟨q,hq,decide_eq_true rfl⟩
 unfold putK putI;by_cases c:k∈kvs.map (·.1)
 ·rw[if_pos (e.mpr c),if_pos c,map_map,map_map];refine map_congr_left fun q _=>?_
  show(if(Sum.inl q.1:Key)=Sum.inl k then _ else _)=iiK (if q.1=k then(q.1,v)else q);by_cases z:q.1=k
  ·rw[if_pos z,if_pos (by rw[z])];rfl
  ·rw[if_neg z,if_neg (fun w=>z (Sum.inl.inj w))]
 ·rw[if_neg (fun w=>c (e.mp w)),if_neg c,map_append];rfl
theorem Zl:∀(more kvs:List (Int×Int)),mergeK (kvs.map iiK) (more.map iiK)=(mergeI kvs more).map iiK
 | [],kvs=>rfl
 | q::r,kvs=>by
  show mergeK (putK (kvs.map iiK) (Sum.inl q.1) (.int q.2)) (r.map iiK)=(mergeI (putI kvs q.1 q.2) r).map iiK;rw[j2a,Zl r]
theorem j0X(kvs:List (Int×Int))(k v:Int)(nd:(kvs.map (·.1)).Nodup):((putI kvs k v).map (·.1)).Nodup:=by
 unfold putI;split
 ·rw[map_map];have e:kvs.map ((fun x=>x.1)∘fun q=>if q.1=k then(q.1,v)else q)=kvs.map (·.1):=map_congr_left fun q _=>by
   show(if q.1=k then(q.1,v)else q).1=q.1;split<;>rfl
  rw[e];exact nd
 ·rename_i c;rw[map_append,nodup_append];exact⟨nd,pairwise_singleton _ _,fun a ha b hb e=>c (by rw[show k=b from(mem_singleton.mp hb).symm,<-e];exact ha)⟩
theorem j1M{kvs:List (Int×Int)}{k v a b:Int}:(a,b)∈putI kvs k v↔(a=k/\b=v)\/(a≠k/\(a,b)∈kvs):=by
 unfold putI;split
 ·rename_i c;rw[mem_map];constructor
  ·rintro⟨q,hq,e⟩;by_cases z:q.1=k
   ·rw[if_pos z]at e;cases e;exact .inl ⟨z,rfl⟩
   ·rw[if_neg z]at e;subst e;exact .inr ⟨z,hq⟩
  ·rintro(⟨rfl,rfl⟩ | ⟨h1,h2⟩)
   ·obtain⟨q,hq,e⟩:=mem_map.mp c;exact⟨q,hq,by rw[if_pos e,e]⟩
   ·exact⟨(a,b),h2,by rw[if_neg h1]⟩
 ·rename_i c;rw[mem_append];constructor
  ·rintro(h | h)
   ·exact .inr ⟨fun e=>c (e▸mem_map.mpr ⟨(a,b),h,rfl⟩),h⟩
   ·cases mem_singleton.mp h;exact .inl ⟨rfl,rfl⟩
  ·rintro(⟨rfl,rfl⟩ | ⟨_,h⟩)
   ·exact .inr (mem_singleton.mpr rfl)
   ·exact .inl h
theorem wc:∀{more kvs:List (Int×Int)},(kvs.map (·.1)).Nodup->(more.map (·.1)).Nodup->((mergeI kvs more).map (·.1)).Nodup/\∀k v,(k,v)∈mergeI kvs more↔(k,v)∈more\/((∀v',(k,v')∉more)/\(k,v)∈kvs)
 | [],kvs,nd,_=>⟨nd,fun k v=>⟨fun h=>.inr ⟨(fun _ h=>nomatch h),h⟩,fun h=>h.elim (fun h=>nomatch h) (·.2)⟩⟩
 | q::r,kvs,nd,nm=>by
  rw[map_cons,nodup_cons]at nm;obtain⟨a,b⟩:=wc (more:=r) (kvs:=putI kvs q.1 q.2) (j0X _ _ _ nd) nm.2;refine⟨a,fun k v=>(b k v).trans ?_⟩;rw[j1M];have nq:∀v',(q.1,v')∉r:=fun v' h=>nm.1 (mem_map.mpr ⟨_,h,rfl⟩)
  constructor
  ·rintro(h | ⟨h1,⟨rfl,rfl⟩ | ⟨h2,h3⟩⟩)
   ·exact .inl (mem_cons_of_mem _ h)
   ·exact .inl mem_cons_self
   ·refine .inr ⟨fun v' hv=>?_,h3⟩;rcases mem_cons.mp hv with e | e
    ·exact h2 (by rw[<-e])
    ·exact h1 v' e
  ·rintro(h | ⟨h1,h2⟩)
   ·rcases mem_cons.mp h with e | e
    ·refine .inr ⟨fun v' hv=>?_,.inl ⟨by rw[<-e],by rw[<-e]⟩⟩;rw[<-e]at nq;exact nq v' hv
    ·exact .inl e
   ·refine .inr ⟨fun v' hv=>h1 v' (mem_cons_of_mem _ hv),.inr ⟨fun e=>?_,h2⟩⟩;exact h1 q.2 (by rw[e];exact mem_cons_self)
theorem kZ{ms:List (Int×Int)}(nd:(ms.map (·.1)).Nodup):mergeI [] ms=ms:=by
 have e:∀(r acc:List (Int×Int)),((acc++r).map (·.1)).Nodup->mergeI acc r=acc++r:=by
  intro r
  induction r with
  | nil=>intro acc _;exact(append_nil _).symm
  | cons q r ih=>
   intro acc nd;have c:q.1∉acc.map (·.1):=fun h=>by
    rw[map_append,nodup_append]at nd;exact nd.2.2 q.1 h q.1 (by simp) rfl
   show mergeI (putI acc q.1 q.2) r=_;unfold putI;rw[if_neg c,ih (acc++[(q.1,q.2)]) (by rw[List.append_assoc];exact nd),List.append_assoc];rfl
 exact e ms [] nd
theorem j0D{E:List (List (Int×Int))}{is:List Nat}{j:Nat}{k v:Int}:LastIn E (is++[j]) k v↔(k,v)∈E.getD j []\/((∀v',(k,v')∉E.getD j [])/\LastIn E is k v):=by
 constructor
 ·rintro⟨pre,i,post,e,h1,h2⟩;rcases List.eq_nil_or_concat post with rfl | ⟨post',x,rfl⟩
  ·have e':=List.append_inj' (show is++[j]=pre++[i]from e) rfl;have ej:j=i:=by simpa using e'.2
   rw[ej];exact .inl h1
  ·have e2:is++[j]=(pre++i::post')++[x]:=by rw[e];simp
   have e':=List.append_inj' e2 rfl;have ej:j=x:=by simpa using e'.2
   subst ej;exact .inr ⟨h2 j (by simp),pre,i,post',e'.1,h1,fun j' hj'=>h2 j' (by simp[hj'])⟩
 ·rintro(h | ⟨h1,pre,i,post,e,h2,h3⟩)
  ·exact⟨is,j,[],rfl,h,(fun _ h=>nomatch h)⟩
  ·refine⟨pre,i,post++[j],by rw[e];simp,h2,fun j' hj' v'=>?_⟩;rcases mem_append.mp hj' with z | z
   ·exact h3 j' z v'
   ·rw[mem_singleton.mp z];exact h1 v'
theorem yW{E E':List (List (Int×Int))}{is:List Nat}(h:∀j∈is,E.getD j []=E'.getD j []){k v:Int}:LastIn E is k v->LastIn E' is k v:=by
 rintro⟨pre,j,post,e,h1,h2⟩;refine⟨pre,j,post,e,by rw[<-h j (by rw[e];simp)];exact h1,fun j' hj'=>?_⟩;rw[<-h j' (by rw[e];simp[hj'])];exact h2 j' hj'
theorem EndOk.snoc{ls:List (Str×Int)}{ps:List (Str×Fm)}(W:WfB ls ps){E:List (List (Int×Int))}{p:Str×Fm}{e:List (Int×Int)}(h:EndOk ls ps E)(hp:ps[E.length]?=some p)(h1:(e.map (·.1)).Pairwise (· < ·))
  (h2:∀k v,(k,v)∈e↔EndIs ls ps E p.2 k v):EndOk ls ps (E++[e]):=fun i q f hq hf=>by
 have hle:i<=E.length:=by
  have:=(List.getElem?_eq_some_iff.mp hf).1;rw[List.length_append]at this;exact Nat.le_of_lt_succ this
 have ext:∀j∈inP ps q.2,E.getD j []=(E++[e]).getD j []:=fun j hj=>(getD_snoc (by have:=W.inP_lt hq hj;omega)).symm
 have iff:∀k v,EndIs ls ps E q.2 k v↔EndIs ls ps (E++[e]) q.2 k v:=fun k v=>by
  unfold EndIs;exact⟨fun h=>h.imp (yW ext) id,fun h=>h.imp (yW fun j hj=>(ext j hj).symm) id⟩
 by_cases hi:i<E.length
 ·rw[List.getElem?_append_left hi]at hf;obtain⟨a,b⟩:=h i q f hq hf;exact⟨a,fun k v=>(b k v).trans (iff k v)⟩
 ·have ei:i=E.length:=by omega
  subst ei;rw[List.getElem?_append_right (Nat.le_refl _),Nat.sub_self]at hf;have ef:e=f:=by simpa using hf
  subst ef;rw[hp]at hq;cases hq;exact⟨h1,fun k v=>(h2 k v).trans (iff k v)⟩
theorem W9{H:Hp}{a:Addr}{f:Fm}(h:FormAt H a f)(hn:∀x v n,f≠.rise x v n):∃k xs,H a=some (.tup (.str k::xs))/\decide (k=("raise" : Str))=false:=by
 cases f with
 | hold n=>exact⟨_,_,h,by decide +kernel⟩
 | ring x n=>exact⟨_,_,h,by decide +kernel⟩
 | rise x v n=>exact absurd rfl (hn x v n)
 | row ps=>obtain⟨b,h1,_⟩:=h;exact⟨_,_,h1,by decide +kernel⟩
 | side ps=>obtain⟨b,h1,_⟩:=h;exact⟨_,_,h1,by decide +kernel⟩
 | again k x=>exact⟨_,_,h,by decide +kernel⟩
noncomputable def kv0(ls:List (Str×Int)):Fm->List (Int×Int)
 | .rise x h _=>[((ixOf (nmsOf ls) x:Nat),h)]
 | _=>[]
theorem j39{ls:List (Str×Int)}{f:Fm}(hn:∀x v n,f≠.rise x v n):kv0 ls f=[]:=by
 cases f with
 | rise x v n=>exact absurd rfl (hn x v n)
 | _=>rfl
theorem We{ls:List (Str×Int)}{f:Fm}{k v:Int}:(k,v)∈kv0 ls f↔∃x n,f = .rise x v n/\k=(ixOf (nmsOf ls) x:Nat):=by
 cases f with
 | rise x h n=>
  constructor
  ·intro hk;cases mem_singleton.mp hk;exact⟨x,n,rfl,rfl⟩
  ·rintro⟨x',n',e,rfl⟩;injection e with e1 e2 e3;subst e1 e2;exact mem_singleton.mpr rfl
 | _=>exact⟨(fun h=>nomatch h),fun⟨_,_,e,_⟩=>nomatch e⟩
theorem j4m{ps:List (Str×Fm)}{ls:List (Str×Int)}(f:Fm):inP ps f=[]\/kv0 ls f=[]:=by
 cases f with
 | rise x h n=>exact .inl rfl
 | _=>exact .inr rfl
theorem j4n{ls:List (Str×Int)}(f:Fm):((kv0 ls f).map (·.1)).Nodup:=by
 cases f with
 | rise x h n=>exact pairwise_singleton _ _
 | _=>exact .nil
inductive sp_check_side(vs:List V)(H:Hp)(Q:VK)(xk:XK):Prop
 | mk (r:Int) (l ll:Addr) (as las:List Addr) (M:List (List Int)) (_:vs=[.int r,.ref l,.ref ll]) (_:H l=some (.lst (as.map V.ref))) (_:ListsAt H as M) (_:(∀ks∈M,ks≠[])) (_:M.length<=8) (_:H ll=some (.lst (las.map V.ref))) (_:(∀k:Int,(M.filter fun ks=>decide (k∈ks)).length<=1)) (_:∀H',Same H H'->Q .non H'):sp_check_side vs H Q xk
noncomputable def LenIs:Fm->List Int->Int->Prop
 | .hold n,_,g=>g=n
 | .ring _ n,_,g=>g=n
 | .rise _ _ n,_,g=>g=n
 | .row _,gs,g=>g=gs.sum
 | .side _,gs,g=>g∈gs/\∀x∈gs,x<=g
 | .again k _,gs,g=>∃y,gs.head?=some y/\g=k*y
noncomputable def LenPre:Fm->List Int->Prop
 | .side _,gs=>gs≠[]
 | .again k _,gs=>∃y r,gs=y::r/\0<=k/\k<=10^18/\0<=y/\y<=10^60
 | _,_=>True
inductive sp_length_of(vs:List V)(H:Hp)(Q:VK)(xk:XK):Prop
 | mk (a l:Addr) (f:Fm) (gs:List Int) (_:vs=[.ref a,.ref l]) (_:FormAt H a f) (_:H l=some (.lst (gs.map V.int))) (_:LenPre f gs) (_:∀g,LenIs f gs g->Q (.int g) H):sp_length_of vs H Q xk
structure Snd(ls:List (Str×Int))(ps:List (Str×Fm))(gs:List Int)(hs:List (List Int)):Prop where
 w:WfB ls ps
 gl:gs.length=ps.length
 gb:∀i,i<ps.length->0<=gs.getD i 0/\gs.getD i 0<=10^60
 mv:∀M:List (List Int),M.length=ps.length->MovOk ls ps M->∀i,i<ps.length->M.getD i []=hs.getD i []
 ln:∀(i:Nat) (p:Str×Fm),ps[i]?=some p->LenPre p.2 ((inP ps p.2).map fun j=>gs.getD j 0)/\∀g,LenIs p.2 ((inP ps p.2).map fun j=>gs.getD j 0) g->g=gs.getD i 0
 sd:∀(i:Nat) (p:Str×Fm) (qs:List Str),ps[i]?=some p->p.2 = .side qs->(∀j∈inP ps p.2,hs.getD j []≠[])/\∀k:Int,(((inP ps p.2).map fun j=>hs.getD j []).filter fun ks=>decide (k∈ks)).length<=1
inductive sp_lengths(vs:List V)(H:Hp)(Q:VK)(xk:XK):Prop
 | mk (b pl pp:Addr) (las pas:List Addr) (ls:List (Str×Int)) (ps:List (Str×Fm)) (gs:List Int) (hs:List (List Int)) (_:vs=[.ref b]) (_:BookAt H b pl pp las pas ls ps) (_:Snd ls ps gs hs) (_:∀(l:Addr) (H':Hp),Same H H'->H l=none->H' l=some (.lst (gs.map V.int))->Q (.ref l) H'):sp_lengths vs H Q xk
theorem any_empty{M:List (List Int)}(h:∀ks∈M,ks≠[]):(M.any fun ks=>decide (ks=[]))=false:=by
 rw[List.any_eq_false];intro ks hks;simpa using h ks hks
theorem j36{gs:List Int}{i:Nat}(h:i<gs.length):gs.take (i+1)=gs.take i++[gs.getD i 0]:=by
 refine take_snoc ?_;rw[getD_eq_getElem?_getD,List.getElem?_eq_getElem h];rfl
theorem j1D{gs:List Int}{i j:Nat}(hi:i<=gs.length)(hj:j<i):atI ((gs.take i).map V.int) (j:Int)=some (.int (gs.getD j 0)):=by
 refine jD ?_;rw[List.getElem?_map,List.getElem?_take,if_pos hj,getD_eq_getElem?_getD,List.getElem?_eq_getElem (by omega)];rfl
theorem j0h:∀{a b:List (Int×Int)},(a.map (·.1)).Pairwise (· < ·)->(b.map (·.1)).Pairwise (· < ·)->(∀k v,(k,v)∈a↔(k,v)∈b)->a=b
 | [],[],_,_,_=>rfl
 | [],y::s,_,_,h=>absurd ((h y.1 y.2).mpr mem_cons_self) (by simp)
 | x::r,[],_,_,h=>absurd ((h x.1 x.2).mp mem_cons_self) (by simp)
 | x::r,y::s,ha,hb,h=>by
  rw[map_cons,pairwise_cons]at ha hb;have hx:∀q∈r,x.1<q.1:=fun q hq=>ha.1 _ (mem_map.mpr ⟨q,hq,rfl⟩)
  have hy:∀q∈s,y.1<q.1:=fun q hq=>hb.1 _ (mem_map.mpr ⟨q,hq,rfl⟩)
  have e:x=y:=by
   rcases mem_cons.mp ((h x.1 x.2).mp mem_cons_self)with q | q
   ·exact q
   ·rcases mem_cons.mp ((h y.1 y.2).mpr mem_cons_self)with q' | q'
    ·exact q'.symm
    ·have h1:=hy _ q;have h2:=hx _ q';simp only at h1 h2;omega
  subst e;rw[j0h ha.2 hb.2 fun k v=>?_];constructor
  ·intro hk;rcases mem_cons.mp ((h k v).mp (mem_cons_of_mem _ hk))with q | q
   ·have:=hx _ hk;rw[<-q]at this;simp only at this;omega
   ·exact q
  ·intro hk;rcases mem_cons.mp ((h k v).mpr (mem_cons_of_mem _ hk))with q | q
   ·have:=hy _ hk;rw[<-q]at this;simp only at this;omega
   ·exact q
theorem j49{xs:List V}{k:Nat}:cutV xs none (some (k:Int))=xs.take k:=by
 unfold cutV;rw[show HT.sIx xs.length 0 none=0 from rfl,HT.j3G,List.drop_zero,Nat.sub_zero,List.take_eq_take_iff];omega
theorem j3h{ls:List (Str×Int)}{ps:List (Str×Fm)}(W:WfB ls ps){M:List (List Int)}(hl:M.length=ps.length)(h:MovOk ls ps M):∀(i:Nat),∀k∈M.getD i [],0<=k/\k<(ls.length:Int):=by
 intro i
 induction i using Nat.strongRecOn with
 | ind i ih=>
  intro k hk;rw[getD_eq_getElem?_getD]at hk;cases e:M[i]? with
  | none=>rw[e]at hk;exact nomatch hk
  | some ks=>
   rw[e]at hk;have hi:=(List.getElem?_eq_some_iff.mp e).1;have ep:ps[i]?=some ps[i]:=List.getElem?_eq_getElem (by omega);obtain⟨_,b⟩:=h i _ ks ep e;rcases(b k).mp hk with⟨j,hj,hk'⟩ | ⟨x,v,n,e1,rfl⟩
   ·exact ih j (W.inP_lt ep hj) k hk'
   ·obtain⟨j,hj⟩:=W.r i (ps[i]).1 x v n (by rw[ep,<-e1]);rw[Qs W.ln hj];have:=(List.getElem?_eq_some_iff.mp hj).1;unfold nmsOf at this;rw[length_map]at this;omega
theorem j3i{ls:List (Str×Int)}{ps:List (Str×Fm)}(W:WfB ls ps){M:List (List Int)}(hl:M.length=ps.length)(h:MovOk ls ps M){i:Nat}{ks:List Int}(he:M[i]?=some ks):ks.length<=8:=by
 have hi:=(List.getElem?_eq_some_iff.mp he).1;have a:=(h i _ ks (List.getElem?_eq_getElem (by omega)) he).1;have b:=j3h W hl h i;rw[getD_eq_getElem?_getD,he]at b;have z:=YD (ks:=ks) (lo:=0) (hi:=ls.length) a b;have:=W.l8;omega
theorem FormAt.keep{H H':Hp}{a:Addr}{f:Fm}(k:∀c xs,H c=some (.tup xs)->H' c=some (.tup xs))(h:FormAt H a f):FormAt H' a f:=by
 cases f with
 | row ps=>obtain⟨c,h1,h2⟩:=h;exact⟨c,k _ _ h1,k _ _ h2⟩
 | side ps=>obtain⟨c,h1,h2⟩:=h;exact⟨c,k _ _ h1,k _ _ h2⟩
 | hold n=>exact k _ _ h
 | ring x n=>exact k _ _ h
 | rise x g n=>exact k _ _ h
 | again x n=>exact k _ _ h
theorem PartAt.keep{H H':Hp}{a:Addr}{p:Str×Fm}(k:∀c xs,H c=some (.tup xs)->H' c=some (.tup xs))(h:PartAt H a p):PartAt H' a p:=by
 obtain⟨b,h1,h2⟩:=h;exact⟨b,k _ _ h1,FormAt.keep k h2⟩
section
variable{ls:List (Str×Int)}{x:Str}{f:Fm}
end
theorem j1e{xs:List Nat}{i:Int}{c:Nat}(h0:0<=i)(h:xs[i.toNat]?=some c):atI xs i=some c:=by
 have q:∀k:Nat,xs[k]?=some c->atI xs (k:Int)=some c:=fun k hk=>by
  obtain⟨hi,rfl⟩:=List.getElem?_eq_some_iff.mp hk;unfold atI ixN;simp[hi]
 have:=q i.toNat h;rw[Int.toNat_of_nonneg h0]at this;exact this
theorem ixZ{n:Nat}{k:Int}(h0:0<=k)(h1:k<n):ixN n k=some k.toNat:=by
 have q0:∀j:Nat,j<n->ixN n (j:Int)=some j:=fun j h=>by
  unfold ixN;simp[h]
 have q:=q0 k.toNat (by omega);rw[Int.toNat_of_nonneg h0]at q;exact q
noncomputable abbrev Pc:=Nat×Int×Int
noncomputable abbrev Pr4:=Nat×Int×Int×Option Int
noncomputable def rowPc(gs:List Int):List Nat->Int->List Pc
 | [],_=>[]
 | j::r,b=>(j,1,b)::rowPc gs r (b+gs.getD j 0)
noncomputable def pcsI(gs:List Int)(f:Fm)(is:List Nat):List Pc:=
 match f with
 | .again k _=>match is with
  | []=>[]
  | j::_=>(j,1,0)::(if 1<k then[(j,k-1,gs.getD j 0)]else[])
 | .row _=>rowPc gs is 0
 | _=>is.map fun j=>(j,1,0)
def PcsAt(H:Hp)(as:List Addr)(qs:List Pc):Prop:=All2 (fun a q=>H a=some (.tup [.int (q.1:Nat),.int q.2.1,.int q.2.2])) as qs
def PssAt(H:Hp)(as:List Addr)(qss:List (List Pc)):Prop:=All2 (fun a qs=>∃bs,H a=some (.lst (bs.map V.ref))/\PcsAt H bs qs) as qss
inductive sp_pieces_in(vs:List V)(H:Hp)(Q:VK)(xk:XK):Prop
 | mk (a l s:Addr) (f:Fm) (is:List Nat) (gs:List Int) (_:vs=[.ref a,.ref l,.ref s]) (_:FormAt H a f) (_:H l=some (.lst ((is.map fun j:Nat=>(j:Int)).map V.int))) (_:H s=some (.lst (gs.map V.int))) (_:is.length<=8) (_:(∀j∈is,j<gs.length)) (_:(∀k x,f = .again k x->is≠[])) (_:∀(p:Addr) (as:List Addr) (H':Hp),Same H H'->H p=none->H' p=some (.lst (as.map V.ref))->PcsAt H' as (pcsI gs f is)->Q (.ref p) H'):sp_pieces_in vs H Q xk
inductive sp_pieces_of(vs:List V)(H:Hp)(Q:VK)(xk:XK):Prop
 | mk (b pl pp s:Addr) (las pas:List Addr) (ls:List (Str×Int)) (ps:List (Str×Fm)) (gs:List Int) (_:vs=[.ref b,.ref s]) (_:BookAt H b pl pp las pas ls ps) (_:WfB ls ps) (_:H s=some (.lst (gs.map V.int))) (_:gs.length=ps.length) (_:∀(l:Addr) (as:List Addr) (H':Hp),Same H H'->H l=none->H' l=some (.lst (as.map V.ref))->PssAt H' as (ps.map fun p=>pcsI gs p.2 (inP ps p.2))->(∀a∈as,H a=none)->Q (.ref l) H'):sp_pieces_of vs H Q xk
noncomputable def ov(gs:List Int)(t:Int)(q:Pc):Int:=if q.2.1<(t-q.2.2)/gs.getD q.1 0 then q.2.1 else(t-q.2.2)/gs.getD q.1 0
noncomputable def prg1(gs:List Int)(t:Int)(q:Pc):Option Pr4:=
 if q.2.2<=t then some (q.1,q.2.2,ov gs t q,if ov gs t q<q.2.1 then some (t-q.2.2-ov gs t q*gs.getD q.1 0)else none)else none
noncomputable def prg(gs:List Int)(t:Int)(qs:List Pc):List Pr4:=qs.filterMap (prg1 gs t)
noncomputable def optV:Option Int->V
 | none=>.non
 | some r=>.int r
def PrgAt(H:Hp)(as:List Addr)(ys:List Pr4):Prop:=All2 (fun a y=>H a=some (.tup [.int (y.1:Nat),.int y.2.1,.int y.2.2.1,optV y.2.2.2])) as ys
def PcOk(gs:List Int)(q:Pc):Prop:=q.1<gs.length/\1<=gs.getD q.1 0/\gs.getD q.1 0<=10^60/\1<=q.2.1/\q.2.1<=10^18/\0<=q.2.2/\q.2.2<=10^62
inductive sp_progress(vs:List V)(H:Hp)(Q:VK)(xk:XK):Prop
 | mk (l s:Addr) (t:Int) (bs:List Addr) (qs:List Pc) (gs:List Int) (_:vs=[.ref l,.ref s,.int t]) (_:H l=some (.lst (bs.map V.ref))) (_:PcsAt H bs qs) (_:H s=some (.lst (gs.map V.int))) (_:qs.length<=8) (_:(∀q∈qs,PcOk gs q)) (_:0<=t) (_:t<=10^62) (_:∀(p:Addr) (as:List Addr) (H':Hp),Same H H'->H p=none->H' p=some (.lst (as.map V.ref))->PrgAt H' as (prg gs t qs)->Q (.ref p) H'):sp_progress vs H Q xk
def GonAt(H:Hp)(as:List Addr)(xs:List (Nat×Int)):Prop:=All2 (fun a x=>H a=some (.tup [.int (x.1:Nat),.int x.2])) as xs
noncomputable def wth1(gs:List Int)(y:Pr4):List (Nat×Int):=(if 0<y.2.2.1 then[(y.1,gs.getD y.1 0)]else[])++(match y.2.2.2 with | some r=>[(y.1,r)] | none=>[])
noncomputable def wth(gs:List Int)(t:Int)(qs:List Pc):List (Nat×Int):=(prg gs t qs).flatMap (wth1 gs)
inductive sp_within(vs:List V)(H:Hp)(Q:VK)(xk:XK):Prop
 | mk (l s:Addr) (t:Int) (bs:List Addr) (qs:List Pc) (gs:List Int) (_:vs=[.ref l,.ref s,.int t]) (_:H l=some (.lst (bs.map V.ref))) (_:PcsAt H bs qs) (_:H s=some (.lst (gs.map V.int))) (_:qs.length<=8) (_:(∀q∈qs,PcOk gs q)) (_:0<=t) (_:t<=10^62) (_:∀(p:Addr) (as:List Addr) (H':Hp),Same H H'->H p=none->H' p=some (.lst (as.map V.ref))->GonAt H' as (wth gs t qs)->Q (.ref p) H'):sp_within vs H Q xk
noncomputable def reachL(pc:Nat->List Pc)(gs:List Int):Nat->Nat->Int->List (Nat×Int)
 | 0,i,t=>[(i,t)]
 | n+1,i,t=>if gs.getD i 0<=t\/pc i=[]then[(i,t)]else(wth gs t (pc i)).flatMap fun x=>reachL pc gs n x.1 x.2
noncomputable def nodesL(pc:Nat->List Pc)(gs:List Int):Nat->Nat->Int->Nat
 | 0,_,_=>1
 | n+1,i,t=>if gs.getD i 0<=t\/pc i=[]then 1 else 1+((wth gs t (pc i)).map fun x=>nodesL pc gs n x.1 x.2).sum
noncomputable def pcB(ps:List (Str×Fm))(gs:List Int)(i:Nat):List Pc:=match ps[i]? with | some p=>pcsI gs p.2 (inP ps p.2) | none=>[]
section
variable{gs:List Int}{t:Int}
theorem wb{is:List Nat}{b:Int}{q:Pc}(h:q∈rowPc gs is b):q.1∈is/\q.2.1=1:=by
 induction is generalizing b with
 | nil=>exact nomatch h
 | cons j r ih=>
  rcases mem_cons.mp h with rfl | h
  ·exact⟨mem_cons_self,rfl⟩
  ·obtain⟨a,b⟩:=ih h;exact⟨mem_cons_of_mem _ a,b⟩
theorem j0F(is:List Nat)(b:Int):(rowPc gs is b).length=is.length:=by
 induction is generalizing b with
 | nil=>rfl
 | cons j r ih=>rw[rowPc,length_cons,length_cons,ih]
theorem Y5{is:List Nat}{b:Int}{q:Pc}(hg:∀j∈is,0<=gs.getD j 0/\gs.getD j 0<=10^60)(h:q∈rowPc gs is b):b<=q.2.2/\q.2.2<=b+10^60*is.length:=by
 induction is generalizing b with
 | nil=>exact nomatch h
 | cons j r ih=>
  have g:=hg j mem_cons_self;rw[length_cons];rcases mem_cons.mp h with rfl | h
  ·have:(0:Int)<=10^60*((r.length+1:Nat):Int):=Int.mul_nonneg (by decide) (by omega);exact⟨Int.le_refl _,by show b<=_;omega⟩
  ·obtain⟨a,c⟩:=ih (fun k hk=>hg k (mem_cons_of_mem _ hk)) h;refine⟨by omega,?_⟩;rw[show((r.length+1:Nat):Int)=(r.length:Int)+1 by omega,Int.mul_add];omega
theorem yY{f:Fm}{is:List Nat}{q:Pc}(h:q∈pcsI gs f is):q.1∈is:=by
 unfold pcsI at h;split at h
 ·split at h
  ·exact nomatch h
  ·rcases mem_cons.mp h with rfl | h
   ·exact mem_cons_self
   ·split at h
    ·rw[mem_singleton.mp h];exact mem_cons_self
    ·exact nomatch h
 ·exact(wb h).1
 ·obtain⟨j,hj,rfl⟩:=mem_map.mp h;exact hj
theorem kT{f:Fm}{is:List Nat}(h8:is.length<=8):(pcsI gs f is).length<=8:=by
 unfold pcsI;split
 ·split
  ·exact Nat.zero_le _
  ·split<;>simp
 ·rw[j0F];exact h8
 ·rw[length_map];exact h8
theorem Wf{qs:List Pc}{y:Pr4}(h:y∈prg gs t qs):∃q∈qs,prg1 gs t q=some y:=mem_filterMap.mp h
theorem X8(qs:List Pc):(prg gs t qs).length<=qs.length:=List.length_filterMap_le _ _
theorem xB{q:Pc}{y:Pr4}(h:prg1 gs t q=some y):y.1=q.1:=by
 unfold prg1 at h;split at h
 ·cases h;rfl
 ·cases h
theorem Wg{qs:List Pc}{x:Nat×Int}(h:x∈wth gs t qs):∃q∈qs,x.1=q.1:=by
 obtain⟨y,hy,hx⟩:=mem_flatMap.mp h;obtain⟨q,hq,e⟩:=Wf hy;refine⟨q,hq,?_⟩;rw[<-xB e];unfold wth1 at hx;rcases mem_append.mp hx with z | z
 ·split at z
  ·rw[mem_singleton.mp z]
  ·exact nomatch z
 ·split at z
  ·rw[mem_singleton.mp z]
  ·exact nomatch z
theorem j1I(y:Pr4):(wth1 gs y).length<=2:=by
 unfold wth1;rw[List.length_append];have h1:(if 0<y.2.2.1 then[(y.1,gs.getD y.1 0)]else[]).length<=1:=by split<;>simp
 have h2:(match y.2.2.2 with | some r=>[(y.1,r)] | none=>[]:List (Nat×Int)).length<=1:=by split<;>simp
 omega
theorem j3c(qs:List Pc):(wth gs t qs).length<=2*qs.length:=by
 have h:∀ys:List Pr4,(ys.flatMap (wth1 gs)).length<=2*ys.length:=fun ys=>by
  induction ys with
  | nil=>exact Nat.zero_le _
  | cons y r ih=>
   rw[flatMap_cons,List.length_append,length_cons];have:=j1I (gs:=gs) y;omega
 have:=h (prg gs t qs);have:=X8 (gs:=gs) (t:=t) qs;unfold wth;omega
end
section
variable{ls:List (Str×Int)}{ps:List (Str×Fm)}{gs:List Int}
theorem Ki(W:WfB ls ps){i:Nat}{q:Pc}(h:q∈pcB ps gs i):q.1<i:=by
 unfold pcB at h;split at h
 ·rename_i p hp;exact W.inP_lt hp (yY h)
 ·exact nomatch h
theorem zy(W:WfB ls ps){i:Nat}{t:Int}{x:Nat×Int}(h:x∈wth gs t (pcB ps gs i)):x.1<i:=by
 obtain⟨q,hq,e⟩:=Wg h;rw[e];exact Ki W hq
theorem zO{α β:Type}{f g:α->List β}:∀{l:List α},(∀x∈l,f x=g x)->l.flatMap f=l.flatMap g
 | [],_=>rfl
 | x::r,h=>by rw[flatMap_cons,flatMap_cons,h x mem_cons_self,zO fun y hy=>h y (mem_cons_of_mem _ hy)]
theorem Km(W:WfB ls ps):∀{n m i:Nat} {t:Int},i<n->i<m->reachL (pcB ps gs) gs n i t=reachL (pcB ps gs) gs m i t
 | 0,_,_,_,h,_=>absurd h (Nat.not_lt_zero _)
 | _,0,_,_,_,h=>absurd h (Nat.not_lt_zero _)
 | n+1,m+1,i,t,h1,h2=>by
  unfold reachL;split
  ·rfl
  ·exact zO fun x hx=>by
    have:=zy W hx;exact Km W (by omega) (by omega)
theorem Kb(W:WfB ls ps):∀{n m i:Nat} {t:Int},i<n->i<m->nodesL (pcB ps gs) gs n i t=nodesL (pcB ps gs) gs m i t
 | 0,_,_,_,h,_=>absurd h (Nat.not_lt_zero _)
 | _,0,_,_,_,h=>absurd h (Nat.not_lt_zero _)
 | n+1,m+1,i,t,h1,h2=>by
  unfold nodesL;split
  ·rfl
  ·congr 2;exact map_congr_left fun x hx=>by
    have:=zy W hx;exact Kb W (by omega) (by omega)
noncomputable def reach(ps:List (Str×Fm))(gs:List Int)(i:Nat)(t:Int):List (Nat×Int):=reachL (pcB ps gs) gs (i+1) i t
noncomputable def nodes(ps:List (Str×Fm))(gs:List Int)(i:Nat)(t:Int):Nat:=nodesL (pcB ps gs) gs (i+1) i t
theorem JP{i:Nat}{t:Int}(h:gs.getD i 0<=t\/pcB ps gs i=[]):reach ps gs i t=[(i,t)]:=by
 unfold reach reachL;rw[if_pos h]
theorem QA(W:WfB ls ps){i:Nat}{t:Int}(h:¬(gs.getD i 0<=t\/pcB ps gs i=[])):reach ps gs i t=(wth gs t (pcB ps gs i)).flatMap fun x=>reach ps gs x.1 x.2:=by
 unfold reach;rw[reachL,if_neg h];exact zO fun x hx=>by
  have:=zy W hx;exact Km W (by omega) (by omega)
theorem yA{i:Nat}{t:Int}(h:gs.getD i 0<=t\/pcB ps gs i=[]):nodes ps gs i t=1:=by
 unfold nodes nodesL;rw[if_pos h]
theorem Kc(W:WfB ls ps){i:Nat}{t:Int}(h:¬(gs.getD i 0<=t\/pcB ps gs i=[])):nodes ps gs i t=1+((wth gs t (pcB ps gs i)).map fun x=>nodes ps gs x.1 x.2).sum:=by
 unfold nodes;rw[nodesL,if_neg h];congr 2;exact map_congr_left fun x hx=>by
  have:=zy W hx;exact Kb W (by omega) (by omega)
theorem wg(i:Nat)(t:Int):1<=nodes ps gs i t:=by
 unfold nodes nodesL;split<;>omega
end
section
variable{gs:List Int}{t:Int}
noncomputable def wq(gs:List Int)(t:Int)(q:Pc):List (Nat×Int):=match prg1 gs t q with | some y=>wth1 gs y | none=>[]
theorem yc:wth gs t []=[]:=rfl
theorem qQ(q:Pc)(qs:List Pc):wth gs t (q::qs)=wq gs t q++wth gs t qs:=by
 unfold wth prg wq;rw[filterMap_cons];cases prg1 gs t q with
 | none=>rfl
 | some y=>rfl
theorem j0k{q:Pc}(h:t<q.2.2):wq gs t q=[]:=by
 unfold wq prg1;rw[if_neg (by omega)]
theorem Kv{j:Nat}{b:Int}(hg:1<=gs.getD j 0)(h:b<=t):wq gs t (j,1,b)=if gs.getD j 0<=t-b then[(j,gs.getD j 0)]else[(j,t-b)]:=by
 have eq:wq gs t (j,1,b)=wth1 gs (j,b,ov gs t (j,1,b),if ov gs t (j,1,b)<1 then some (t-b-ov gs t (j,1,b)*gs.getD j 0)else none):=by
  unfold wq prg1;rw[if_pos (show b<=t from h)]
 rw[eq];generalize hgj:gs.getD j 0=g at hg|-;have e:ov gs t (j,1,b)=if g<=t-b then 1 else 0:=by
  show(if(1:Int)<(t-b)/gs.getD j 0 then(1:Int)else(t-b)/gs.getD j 0)=_;rw[hgj];by_cases z:g<=t-b
  ·rw[if_pos z];have:1<=(t-b)/g:=by
    rw[Int.le_ediv_iff_mul_le (by omega)];omega
   split<;>omega
  ·rw[if_neg z];have:(t-b)/g=0:=Int.ediv_eq_zero_of_lt (by omega) (by omega);rw[this];rfl
 by_cases z:g<=t-b
 ·rw[if_pos z]at e;rw[if_pos z,e];unfold wth1;simp;rw[<-getD_eq_getElem?_getD];exact hgj
 ·rw[if_neg z]at e;rw[if_neg z,e];unfold wth1;simp
theorem WK{q:Pc}(h:q.2.2<=t):wq gs t q=(if 0<ov gs t q then[(q.1,gs.getD q.1 0)]else[])++(if ov gs t q<q.2.1 then[(q.1,t-q.2.2-ov gs t q*gs.getD q.1 0)]else[]):=by
 unfold wq prg1;rw[if_pos h];show wth1 gs _=_;unfold wth1;congr 1;show(match(if ov gs t q<q.2.1 then some (t-q.2.2-ov gs t q*gs.getD q.1 0)else none)with | some r=>[(q.1,r)] | none=>[])=_;split<;>rename_i e<;>split at e
 ·cases e;rw[if_pos (by assumption)]
 ·cases e
 ·cases e
 ·rw[if_neg (by assumption)]
theorem Ym:∀{qs:List Pc},(∀q∈qs,t<q.2.2)->wth gs t qs=[]
 | [],_=>rfl
 | q::r,h=>by rw[qQ,j0k (h q mem_cons_self),Ym fun q hq=>h q (mem_cons_of_mem _ hq)];rfl
theorem Kn{is:List Nat}{b:Int}(hg:∀j∈is,0<=gs.getD j 0/\gs.getD j 0<=10^60)(h:t<b):wth gs t (rowPc gs is b)=[]:=
 Ym fun q hq=>by have:=(Y5 hg hq).1;omega
theorem Yg{j:Nat}{r:List Nat}{b:Int}(hg:∀k∈j::r,1<=gs.getD k 0/\gs.getD k 0<=10^60)(h:b<=t):wth gs t (rowPc gs (j::r) b)=if gs.getD j 0<=t-b then(j,gs.getD j 0)::wth gs t (rowPc gs r (b+gs.getD j 0))else[(j,t-b)]:=by
 have g:=hg j mem_cons_self;rw[rowPc,qQ,Kv g.1 h];split
 ·rfl
 ·rw[Kn (fun k hk=>by have:=hg k (mem_cons_of_mem _ hk);omega) (by omega)];rfl
theorem j2v{α:Type}{f g:α->Nat}:∀{l:List α},(∀x∈l,f x<=g x)->(l.map f).sum<=(l.map g).sum
 | [],_=>Nat.le_refl _
 | x::r,h=>by
  rw[map_cons,map_cons,sum_cons,sum_cons];have:=h x mem_cons_self;have:=j2v (l:=r) fun y hy=>h y (mem_cons_of_mem _ hy)
  omega
theorem j0b{N:Nat×Int->Nat}{B:Nat}:∀{is:List Nat} {b:Int},(∀k∈is,1<=gs.getD k 0/\gs.getD k 0<=10^60)->(∀k∈is,N (k,gs.getD k 0)=1)->(∀k∈is,∀r,0<=r->N (k,r)<=B)->((wth gs t (rowPc gs is b)).map N).sum<=is.length+B
 | [],b,_,_,_=>Nat.zero_le _
 | j::r,b,hg,h1,h2=>by
  by_cases h:b<=t
  ·rw[Yg hg h];split
   ·rw[map_cons,sum_cons,h1 j mem_cons_self,length_cons];have:=j0b (N:=N) (B:=B) (is:=r) (b:=b+gs.getD j 0) (fun k hk=>hg k (mem_cons_of_mem _ hk)) (fun k hk=>h1 k (mem_cons_of_mem _ hk)) fun k hk=>h2 k (mem_cons_of_mem _ hk)
    omega
   ·have:=h2 j mem_cons_self (t-b) (by omega);simp;omega
  ·rw[Kn (fun k hk=>by have:=hg k hk;omega) (by omega)];exact Nat.zero_le _
theorem Kr{is:List Nat}(hg:∀k∈is,1<=gs.getD k 0)(ht:0<=t):wth gs t (is.map fun j=>(j,1,0))=is.map fun j=>if gs.getD j 0<=t then(j,gs.getD j 0)else(j,t):=by
 induction is with
 | nil=>rfl
 | cons j r ih=>
  rw[map_cons,qQ,Kv (hg j mem_cons_self) ht,ih fun k hk=>hg k (mem_cons_of_mem _ hk),map_cons,Int.sub_zero];split<;>rfl
theorem j0n{N:Nat×Int->Nat}{B:Nat}{j:Nat}{k:Int}(hg:1<=gs.getD j 0)(ht:0<=t)(h1:N (j,gs.getD j 0)=1)(h2:∀r,0<=r->N (j,r)<=B) :
  ((wth gs t ((j,1,0)::(if 1<k then[(j,k-1,gs.getD j 0)]else[]))).map N).sum<=2+B:=by
 rw[qQ,Kv hg ht,Int.sub_zero,map_append,sum_append];by_cases z:gs.getD j 0<=t
 ·rw[if_pos z];have a:((wth gs t (if 1<k then[(j,k-1,gs.getD j 0)]else[])).map N).sum<=1+B:=by
   split
   ·rw[qQ,yc,append_nil,WK (show gs.getD j 0<=t from z),map_append,sum_append];have b1:(((if 0<ov gs t (j,k-1,gs.getD j 0)then[(j,gs.getD j 0)]else[]):List (Nat×Int)).map N).sum<=1:=by
     split
     ·simp;rw[<-getD_eq_getElem?_getD,h1];exact Nat.le_refl _
     ·simp
    have b2:(((if ov gs t (j,k-1,gs.getD j 0)<k-1 then[(j,t-gs.getD j 0-ov gs t (j,k-1,gs.getD j 0)*gs.getD j 0)]else[]):List (Nat×Int)).map N).sum<=B:=by
     split
     ·have ho:ov gs t (j,k-1,gs.getD j 0)=(t-gs.getD j 0)/gs.getD j 0:=by
       show(if k-1<(t-gs.getD j 0)/gs.getD j 0 then k-1 else(t-gs.getD j 0)/gs.getD j 0)=_;rename_i c;have c':(if k-1<(t-gs.getD j 0)/gs.getD j 0 then k-1 else(t-gs.getD j 0)/gs.getD j 0)<k-1:=c;split at c'
       ·omega
       ·rename_i z;rw[if_neg z]
      have:=h2 (t-gs.getD j 0-ov gs t (j,k-1,gs.getD j 0)*gs.getD j 0) (by
       rw[ho];have:=Int.ediv_mul_le (t-gs.getD j 0) (show gs.getD j 0≠0 by omega);omega)
      simp;exact this
     ·simp
    have e1:((if 0<ov gs t (j,k-1,gs.getD j 0)then[((j,k-1,gs.getD j 0):Pc).1].map fun a=>(a,gs.getD a 0)else[]):List (Nat×Int))=if 0<ov gs t (j,k-1,gs.getD j 0)then[(j,gs.getD j 0)]else[]:=rfl
    exact Nat.add_le_add b1 b2
   ·exact Nat.zero_le _
  have:(([(j,gs.getD j 0)]:List (Nat×Int)).map N).sum=1:=by
   simp;rw[<-getD_eq_getElem?_getD,h1]
  omega
 ·rw[if_neg z];have e:wth gs t (if 1<k then[(j,k-1,gs.getD j 0)]else[])=[]:=by
   split
   ·exact Ym fun q hq=>by rw[mem_singleton.mp hq];show t<gs.getD j 0;omega
   ·rfl
  rw[e];have:=h2 t ht;simp;omega
end
theorem len_sub{a b:List Int}(h1:a.Nodup)(h2:∀x∈a,x∈b):a.length<=b.length:=by
 induction a generalizing b with
 | nil=>exact Nat.zero_le _
 | cons x r ih=>
  rw[nodup_cons]at h1;have hx:=h2 x mem_cons_self;have:=ih (b:=b.erase x) h1.2 fun y hy=>by
   have hne:y≠x:=fun e=>h1.1 (e▸hy)
   exact(List.mem_erase_of_ne hne).mpr (h2 y (mem_cons_of_mem _ hy))
  rw[List.length_erase_of_mem hx]at this;have:0<b.length:=length_pos_of_mem hx;rw[length_cons];omega
section
variable{ls:List (Str×Int)}{ps:List (Str×Fm)}{gs:List Int}{hs:List (List Int)}
theorem kQ(S:Snd ls ps gs hs)(hl:hs.length=ps.length){i:Nat}(hi:i<ps.length):hs[i]?=some (hs.getD i []):=by
 rw[getD_eq_getElem?_getD,List.getElem?_eq_getElem (by omega)];rfl
theorem j4s(S:Snd ls ps gs hs)(hl:hs.length=ps.length)(M:MovOk ls ps hs){i:Nat}{p:Str×Fm}(hp:ps[i]?=some p){j:Nat}(hj:j∈inP ps p.2):(hs.getD j []).length<=(hs.getD i []).length:=by
 have hi:=(List.getElem?_eq_some_iff.mp hp).1;have lj:=S.w.inP_lt hp hj;obtain⟨_,b⟩:=M i p _ hp (kQ S hl hi);obtain⟨a,_⟩:=M j _ _ (List.getElem?_eq_getElem (show j<ps.length by omega)) (kQ S hl (by omega));exact len_sub (a.imp fun h=>by omega) fun k hk=>(b k).mpr (.inl ⟨j,hj,hk⟩)
theorem j2q(S:Snd ls ps gs hs)(hl:hs.length=ps.length)(M:MovOk ls ps hs){i:Nat}{p:Str×Fm}{qs:List Str}(hp:ps[i]?=some p)(e:p.2 = .side qs):((inP ps p.2).map fun j=>(hs.getD j []).length).sum<=(hs.getD i []).length:=by
 have hi:=(List.getElem?_eq_some_iff.mp hp).1;obtain⟨_,one⟩:=S.sd i p qs hp e;obtain⟨_,b⟩:=M i p _ hp (kQ S hl hi);have lt:=fun j=>S.w.inP_lt (j:=j) hp
 have nd:∀is:List Nat,(∀j∈is,j<ps.length)->(∀k:Int,((is.map fun j=>hs.getD j []).filter fun ks=>decide (k∈ks)).length<=1)->(is.flatMap fun j=>hs.getD j []).Nodup:=fun is=>by
  induction is with
  | nil=>exact fun _ _=>.nil
  | cons j r ih=>
   intro h1 h2;rw[flatMap_cons];have nj:(hs.getD j []).Nodup:=by
    obtain⟨a,_⟩:=M j _ _ (List.getElem?_eq_getElem (h1 j mem_cons_self)) (kQ S hl (h1 j mem_cons_self));exact a.imp fun h=>by omega
   refine nodup_append.mpr ⟨nj,ih (fun k hk=>h1 k (mem_cons_of_mem _ hk)) fun k=>?_,fun a ha b hb eab=>?_⟩
   ·have:=h2 k;rw[map_cons,filter_cons]at this;split at this
    ·rw[length_cons]at this;omega
    ·exact this
   ·subst eab;obtain⟨j',hj',hk'⟩:=mem_flatMap.mp hb;have:=h2 a;rw[map_cons,filter_cons,if_pos (decide_eq_true ha),length_cons]at this;have pos:0<((r.map fun j=>hs.getD j []).filter fun ks=>decide (a∈ks)).length:=length_pos_of_mem (mem_filter.mpr ⟨mem_map.mpr ⟨j',hj',rfl⟩,decide_eq_true hk'⟩);omega
 have n:=nd (inP ps p.2) (fun j hj=>by have:=lt j hj;omega) one;have le:=len_sub (b:=hs.getD i []) n fun k hk=>by
  obtain⟨j,hj,hk⟩:=mem_flatMap.mp hk;exact(b k).mpr (.inl ⟨j,hj,hk⟩)
 rw[List.length_flatMap]at le;exact le
theorem j0f{α:Type}{f:α->Nat}{c:Nat}:∀{l:List α},(l.map fun x=>c*f x).sum=c*(l.map f).sum
 | []=>rfl
 | x::r=>by rw[map_cons,map_cons,sum_cons,sum_cons,j0f,Nat.mul_add]
theorem j1Q(S:Snd ls ps gs hs)(hl:hs.length=ps.length)(M:MovOk ls ps hs)(g1:∀i,i<ps.length->1<=gs.getD i 0):∀i t,i<ps.length->0<=t->nodes ps gs i t<=9*(i+1)*max 1 (hs.getD i []).length:=by
 intro i
 induction i using Nat.strongRecOn with
 | ind i ih=>
  intro t hi ht;have W:=S.w;have m1:1<=max 1 (hs.getD i []).length:=Nat.le_max_left _ _;by_cases hleaf:gs.getD i 0<=t\/pcB ps gs i=[]
  ·rw[yA hleaf];have:1*1<=9*(i+1)*max 1 (hs.getD i []).length:=Nat.mul_le_mul (by omega) m1;omega
  rw[Kc W hleaf];obtain⟨p,hp⟩:∃p,ps[i]?=some p:=⟨_,List.getElem?_eq_getElem hi⟩
  have epc:pcB ps gs i=pcsI gs p.2 (inP ps p.2):=by unfold pcB;rw[hp]
  have lt:=fun j=>W.inP_lt (j:=j) hp
  have hg:∀k∈inP ps p.2,1<=gs.getD k 0/\gs.getD k 0<=10^60:=fun k hk=>by
   have:=lt k hk;exact⟨g1 k (by omega),(S.gb k (by omega)).2⟩
  have i8:(inP ps p.2).length<=8:=by unfold inP;rw[length_map];exact(W.f i p hp).2
  have hone:∀k∈inP ps p.2,nodes ps gs k (gs.getD k 0)=1:=fun k _=>yA (.inl (Int.le_refl _))
  have hB:∀k∈inP ps p.2,∀r,0<=r->nodes ps gs k r<=9*i*max 1 (hs.getD i []).length:=fun k hk r hr=>by
   have l:=lt k hk;have:=ih k l r (by omega) hr;have s:=j4s S hl M hp hk;refine Nat.le_trans this (Nat.mul_le_mul (by omega) ?_);exact Nat.max_le.mpr ⟨Nat.le_max_left _ _,Nat.le_trans s (Nat.le_max_right _ _)⟩
  have fin:∀X:Nat,X<=8+9*i*max 1 (hs.getD i []).length->1+X<=9*(i+1)*max 1 (hs.getD i []).length:=fun X hX=>by
   rw[Nat.mul_add,Nat.add_mul];have:9*1*1<=9*1*max 1 (hs.getD i []).length:=Nat.mul_le_mul (Nat.le_refl _) m1;omega
  rw[epc];cases e:p.2 with
  | again k x=>
   have ein:inP ps p.2=[ixOf (nmsOf ps) x]:=by rw[e];rfl
   rw[e]at ein;rw[ein];have mem:ixOf (nmsOf ps) x∈inP ps p.2:=by rw[e,ein];exact mem_cons_self
   refine fin _ (Nat.le_trans (j0n (N:=fun x=>nodes ps gs x.1 x.2) (hg _ mem).1 ht (hone _ mem) (hB _ mem)) (by omega))
  | row xs=>
   rw[e]at hg hone hB i8;exact fin _ (Nat.le_trans (j0b (N:=fun x=>nodes ps gs x.1 x.2) hg hone hB) (by omega))
  | side xs=>
   have sl:=j2q S hl M hp e;obtain⟨ne,_⟩:=S.sd i p xs hp e;rw[show pcsI gs (.side xs) (inP ps (.side xs))=(inP ps (.side xs)).map fun j=>(j,1,0)from rfl];rw[e]at hg hone sl ne lt;rw[Kr (fun k hk=>(hg k hk).1) ht,map_map];have le:((inP ps (.side xs)).map ((fun x=>nodes ps gs x.1 x.2)∘fun j=>if gs.getD j 0<=t then(j,gs.getD j 0)else(j,t))).sum<=((inP ps (.side xs)).map fun j=>9*i*(hs.getD j []).length).sum:=by
    refine j2v fun j hj=>?_
    have l:=lt j hj;have n1:1<=(hs.getD j []).length:=List.length_pos_iff.mpr (ne j hj);have nd:∀r,0<=r->nodes ps gs j r<=9*i*(hs.getD j []).length:=fun r hr=>by
     have:=ih j l r (by omega) hr;rw[Nat.max_eq_right n1]at this;exact Nat.le_trans this (Nat.mul_le_mul (by omega) (Nat.le_refl _))
    show nodes ps gs (if gs.getD j 0<=t then(j,gs.getD j 0)else(j,t)).1 (if gs.getD j 0<=t then(j,gs.getD j 0)else(j,t)).2<=_;split
    ·exact nd _ (by have:=hg j hj;omega)
    ·exact nd _ ht
   rw[j0f]at le;refine fin _ (Nat.le_trans le (Nat.le_trans (Nat.mul_le_mul (Nat.le_refl (9*i)) (Nat.le_trans sl (Nat.le_max_right 1 _))) (Nat.le_add_left _ _)))
  | hold n=>
   exact absurd (.inr (by rw[epc,e];rfl)) hleaf
  | ring x n=>
   exact absurd (.inr (by rw[epc,e];rfl)) hleaf
  | rise x v n=>
   exact absurd (.inr (by rw[epc,e];rfl)) hleaf
end
structure Sn(ls:List (Str×Int))(ps:List (Str×Fm))(gs:List Int)(hs:List (List Int)):Prop where
 s:Snd ls ps gs hs
 hl:hs.length=ps.length
 m:MovOk ls ps hs
 g1:∀i,i<ps.length->1<=gs.getD i 0
 ne:1<=ps.length
 l18:∀q∈ls,0<=q.2/\q.2<=10^18
 r18:∀(i:Nat) (y x:Str) (v n:Int),ps[i]?=some (y,.rise x v n)->0<=v/\v<=10^18/\1<=n/\n<=10^18
 a18:∀(i:Nat) (y x:Str) (k:Int),ps[i]?=some (y,.again k x)->1<=k/\k<=10^18
section
variable{ls:List (Str×Int)}{ps:List (Str×Fm)}{gs:List Int}{hs:List (List Int)}
theorem Sn.g(N:Sn ls ps gs hs){i:Nat}(hi:i<ps.length):1<=gs.getD i 0/\gs.getD i 0<=10^60:=⟨N.g1 i hi,(N.s.gb i hi).2⟩
theorem Sn.j1D(N:Sn ls ps gs hs){i:Nat}(hi:i<ps.length):gs[i]?=some (gs.getD i 0):=by
 rw[getD_eq_getElem?_getD,List.getElem?_eq_getElem (by rw[N.s.gl];exact hi)];rfl
theorem Sn.i8(N:Sn ls ps gs hs){i:Nat}{p:Str×Fm}(hp:ps[i]?=some p):(inP ps p.2).length<=8:=by
 unfold inP;rw[length_map];exact(N.s.w.f i p hp).2
theorem Sn.pcOk(N:Sn ls ps gs hs){i:Nat}{q:Pc}(h:q∈pcB ps gs i):PcOk gs q:=by
 have lt:=Ki N.s.w h;have h0:=h;unfold pcB at h;split at h
 case h_2=>exact nomatch h
 rename_i p hp;have hi:=(List.getElem?_eq_some_iff.mp hp).1;have g:=N.g (show q.1<ps.length by omega);have i8:=N.i8 hp;have hg:∀k∈inP ps p.2,0<=gs.getD k 0/\gs.getD k 0<=10^60:=fun k hk=>by
  have:=N.s.w.inP_lt hp hk;have:=N.g (show k<ps.length by omega);omega
 refine⟨by rw[N.s.gl];omega,g.1,g.2,?_⟩;unfold pcsI at h;split at h
 ·rename_i k x e;have k18:=N.a18 i p.1 x k (by rw[hp,<-e]);split at h
  ·exact nomatch h
  ·rename_i j r ein;have gj:=hg j (by rw[ein];exact mem_cons_self);rcases mem_cons.mp h with rfl | h
   ·exact⟨(by show(1:Int)<=1;decide),(by show(1:Int)<=10^18;decide),(by show(0:Int)<=0;decide),(by show(0:Int)<=10^62;decide)⟩
   ·split at h
    ·rw[mem_singleton.mp h];refine⟨?_,?_,gj.1,?_⟩
     ·show 1<=k-1;omega
     ·show k-1<=_;omega
     ·show gs.getD j 0<=_;omega
    ·exact nomatch h
 ·obtain⟨b0,b1⟩:=Y5 hg h;have e1:=(wb h).2;refine⟨by omega,by omega,b0,?_⟩;have:(10:Int)^60*((inP ps p.2).length:Int)<=10^60*8:=Int.mul_le_mul_of_nonneg_left (by omega) (by decide);omega
 ·obtain⟨j,hj,rfl⟩:=mem_map.mp h;exact⟨(by show(1:Int)<=1;decide),(by show(1:Int)<=10^18;decide),(by show(0:Int)<=0;decide),(by show(0:Int)<=10^62;decide)⟩
theorem j1Z{t:Int}{q:Pc}(ok:PcOk gs q)(h:q.2.2<=t):0<=ov gs t q/\ov gs t q<=q.2.1/\ov gs t q*gs.getD q.1 0<=t-q.2.2/\0<=ov gs t q*gs.getD q.1 0:=by
 obtain⟨_,g1,_,t1,_,_⟩:=ok;have d0:0<=(t-q.2.2)/gs.getD q.1 0:=Int.ediv_nonneg (by omega) (by omega);have dm:=Int.ediv_mul_le (t-q.2.2) (show gs.getD q.1 0≠0 by omega);have o0:0<=ov gs t q/\ov gs t q<=q.2.1/\ov gs t q<=(t-q.2.2)/gs.getD q.1 0:=by
  unfold ov;split<;>omega
 refine⟨o0.1,o0.2.1,?_,Int.mul_nonneg o0.1 (by omega)⟩;exact Int.le_trans (Int.mul_le_mul_of_nonneg_right o0.2.2 (by omega)) dm
theorem Kw{t:Int}{qs:List Pc}(ok:∀q∈qs,PcOk gs q){x:Nat×Int}(h:x∈wth gs t qs):0<=x.2:=by
 obtain⟨y,hy,hx⟩:=mem_flatMap.mp h;obtain⟨q,hq,e⟩:=Wf hy;have o:=ok q hq;by_cases c:q.2.2<=t
 case neg=>unfold prg1 at e;rw[if_neg c]at e;cases e
 have b:=j1Z o c;unfold prg1 at e;rw[if_pos c]at e;have e':=Option.some.inj e;subst e';unfold wth1 at hx;rcases mem_append.mp hx with z | z
 ·have z:x∈(if 0<ov gs t q then[(q.1,gs.getD q.1 0)]else[]):=z;split at z
  ·rw[mem_singleton.mp z];exact Int.le_trans (by decide) o.2.1
  ·exact nomatch z
 ·split at z
  ·rename_i r er;rw[mem_singleton.mp z];have er:(if ov gs t q<q.2.1 then some (t-q.2.2-ov gs t q*gs.getD q.1 0)else none)=some r:=er;split at er
   ·cases er;show 0<=t-q.2.2-ov gs t q*gs.getD q.1 0;omega
   ·cases er
  ·exact nomatch z
theorem Sn.nodes(N:Sn ls ps gs hs)(M8:∀i,i<ps.length->(hs.getD i []).length<=8){i:Nat}{t:Int}(hi:i<ps.length)(ht:0<=t):Rm.nodes ps gs i t<=5000:=by
 have:=j1Q N.s N.hl N.m N.g1 i t hi ht;have p61:=N.s.w.p61;have m8:=M8 i hi;have:9*(i+1)*max 1 (hs.getD i []).length<=9*61*8:=Nat.mul_le_mul (by omega) (by omega);omega
end
noncomputable def appH(ls:List (Str×Int))(ps:List (Str×Fm))(gs:List Int)(E:List (List (Int×Int)))(h:List Int)(x:Nat×Int):List Int:=
 if gs.getD x.1 0<=x.2 then(E.getD x.1 []).foldl (fun h q=>h.set q.1.toNat q.2) h
 else match ps[x.1]? with
  | some (_,.rise y v n)=>h.set (ixOf (nmsOf ls) y) (Rp.ramp (h.getD (ixOf (nmsOf ls) y) 0) v n x.2)
  | _=>h
noncomputable def standH(ls:List (Str×Int))(ps:List (Str×Fm))(gs:List Int)(E:List (List (Int×Int)))(t:Int):List Int:=(reach ps gs (ps.length-1) t).foldl (appH ls ps gs E) (ls.map (·.2))
inductive sp_standG(vs:List V)(H:Hp)(Q:VK)(xk:XK):Prop
 | mk (b pl pp:Addr) (las pas:List Addr) (ls:List (Str×Int)) (ps:List (Str×Fm)) (gs:List Int) (hs:List (List Int)) (t:Int) (_:vs=[.ref b,.int t]) (_:BookAt H b pl pp las pas ls ps) (_:Sn ls ps gs hs) (_:0<=t) (_:t<=gs.getD (ps.length-1) 0) (_:∀(l:Addr) (E:List (List (Int×Int))) (H':Hp),Same H H'->H l=none->E.length=ps.length->EndOk ls ps E->H' l=some (.lst ((standH ls ps gs E t).map V.int))->(standH ls ps gs E t).length=ls.length->Q (.ref l) H'):sp_standG vs H Q xk
theorem All2.app{α:Type}{R:Addr->α->Prop}{as bs:List Addr}{xs ys:List α}(h:All2 R as xs)(k:All2 R bs ys):All2 R (as++bs) (xs++ys):=by
 have hl:=h.1;refine⟨by rw[List.length_append,List.length_append,h.1,k.1],fun i a x h1 h2=>?_⟩;by_cases hi:i<as.length
 ·rw[List.getElem?_append_left hi]at h1;rw[List.getElem?_append_left (by omega)]at h2;exact h.2 i a x h1 h2
 ·rw[List.getElem?_append_right (by omega)]at h1;rw[List.getElem?_append_right (by omega)]at h2;exact k.2 _ a x h1 (by rw[hl];exact h2)
theorem All2.cons{α:Type}{R:Addr->α->Prop}{a:Addr}{as:List Addr}{x:α}{xs:List α}(h:R a x)(k:All2 R as xs):All2 R (a::as) (x::xs):=All2.app (as:=[a]) (xs:=[x]) (All2.snoc (as:=[]) (xs:=[]) .nil h) k
theorem All2.rev{α:Type}{R:Addr->α->Prop}:∀{as:List Addr} {xs:List α},All2 R as xs->All2 R as.reverse xs.reverse
 | [],[],_=>.nil
 | [],_::_,h=>absurd h.1 (by simp)
 | _::_,[],h=>absurd h.1 (by simp)
 | a::as,x::xs,h=>by
  rw[reverse_cons,reverse_cons];exact All2.app (All2.rev (All2.tail h).2) (All2.snoc (as:=[]) (xs:=[]) .nil (All2.tail h).1)
theorem All2.last{α:Type}{R:Addr->α->Prop}{as:List Addr}{xs:List α}{x:α}(h:All2 R as (xs++[x])):∃as' a,as=as'++[a]/\All2 R as' xs/\R a x:=by
 rcases List.eq_nil_or_concat as with rfl | ⟨as',a,rfl⟩
 ·have:=h.1;simp at this
 ·rw[List.concat_eq_append]at h|-;have hl:=h.1;rw[List.length_append,List.length_append]at hl;have hl':as'.length=xs.length:=by simpa using hl
  refine⟨as',a,rfl,⟨hl',fun i b y h1 h2=>?_⟩,?_⟩
  ·have hi:=(List.getElem?_eq_some_iff.mp h1).1;exact h.2 i b y (by rw[List.getElem?_append_left hi];exact h1) (by rw[List.getElem?_append_left (by omega)];exact h2)
  ·exact h.2 as'.length a x (by simp) (by rw[hl'];simp)
theorem XR{gs:List Int}{n:Nat}(h:1<=n)(e:gs.length=n):atI (gs.map V.int) (-1)=some (.int (gs.getD (n-1) 0)):=by
 have i:ixN n (-1)=some (n-1):=by
  unfold ixN;simp;omega
 unfold atI;rw[length_map,e,i];show(gs.map V.int)[n-1]?=_;rw[List.getElem?_map,getD_eq_getElem?_getD,List.getElem?_eq_getElem (by omega)];rfl
section
variable{ls:List (Str×Int)}{ps:List (Str×Fm)}{gs:List Int}{hs:List (List Int)}
theorem xD(W:WfB ls ps):∀{i:Nat} {t:Int} {x:Nat×Int},i<ps.length->x∈reach ps gs i t->x.1<ps.length:=by
 intro i
 induction i using Nat.strongRecOn with
 | ind i ih=>
  intro t x hi hx;by_cases h:gs.getD i 0<=t\/pcB ps gs i=[]
  ·rw[JP h]at hx;rw[mem_singleton.mp hx];exact hi
  ·rw[QA W h]at hx;obtain⟨y,hy,hx⟩:=mem_flatMap.mp hx;have:=zy W hy;exact ih y.1 this (by omega) hx
theorem j1r(N:Sn ls ps gs hs){E:List (List (Int×Int))}(lE:E.length=ps.length)(oE:EndOk ls ps E):∀{i:Nat},i<ps.length->∀q∈E.getD i [],0<=q.2/\q.2<=10^18:=by
 intro i
 induction i using Nat.strongRecOn with
 | ind i ih=>
  intro hi q hq;have hE:E[i]?=some (E.getD i []):=by rw[getD_eq_getElem?_getD,List.getElem?_eq_getElem (by omega)];rfl
  obtain⟨p,hp⟩:∃p,ps[i]?=some p:=⟨_,List.getElem?_eq_getElem hi⟩
  rcases((oE i p _ hp hE).2 q.1 q.2).mp hq with⟨pre,j,post,e,h1,_⟩ | ⟨x,n,e,_⟩
  ·have hj:j∈inP ps p.2:=by rw[e];simp
   have:=N.s.w.inP_lt hp hj;exact ih j this (by omega) _ h1
  ·have:=N.r18 i p.1 x q.2 n (by rw[hp,<-e]);omega
theorem j3B{h v n j:Int}(h0:0<=h/\h<=10^18)(v0:0<=v/\v<=10^18)(n1:1<=n)(j0:0<=j)(j1:j<=n):0<=Rp.ramp h v n j/\Rp.ramp h v n j<=10^18:=by
 unfold Rp.ramp;by_cases c:h<=v
 ·have a:0<=(v-h)*j:=Int.mul_nonneg (by omega) j0;have b:(v-h)*j<=(v-h)*n:=Int.mul_le_mul_of_nonneg_left j1 (by omega);have d0:0<=(v-h)*j/n:=Int.ediv_nonneg a (by omega);have d1:(v-h)*j/n<=v-h:=by
   have:=Int.ediv_le_ediv (show 0<n by omega) b;rw[Int.mul_ediv_cancel _ (show n≠0 by omega)]at this;exact this
  omega
 ·have a:(v-h)*j<=0:=Int.mul_nonpos_of_nonpos_of_nonneg (by omega) j0;have b:(v-h)*n<=(v-h)*j:=Int.mul_le_mul_of_nonpos_left (by omega) j1;have d0:(v-h)*j/n<=0:=by
   have:=Int.ediv_le_ediv (show 0<n by omega) a;rw[Int.zero_ediv]at this;exact this
  have d1:v-h<=(v-h)*j/n:=by
   have:=Int.ediv_le_ediv (show 0<n by omega) b;rw[Int.mul_ediv_cancel _ (show n≠0 by omega)]at this;exact this
  omega
end
inductive Fn where
 | hold (n:Int) | ring (x:Str) (n:Int) | rise (x:Str) (h n:Int) | row (is:List Nat) | side (is:List Nat) | again (k:Int) (j:Nat)
noncomputable def Fn.js:Fn->List Nat
 | .row is=>is
 | .side is=>is
 | .again _ j=>[j]
 | _=>[]
def Ex(p:Addr)(H H':Hp):Prop:=∀c u,c≠p->H c=some u->H' c=some u
theorem Ex.refl{p:Addr}(H:Hp):Ex p H H:=fun _ _ _ h=>h
theorem Ex.trans{p:Addr}{H1 H2 H3:Hp}(a:Ex p H1 H2)(b:Ex p H2 H3):Ex p H1 H3:=fun c u n h=>b c u n (a c u n h)
theorem Ex.of{p:Addr}{H H':Hp}(s:Same H H'):Ex p H H':=fun c u _ h=>s c u h
noncomputable def LenN(gs:List Int):Fn->Int->Prop
 | .hold n,g=>g=n
 | .ring _ n,g=>g=n
 | .rise _ _ n,g=>g=n
 | .row is,g=>g=(is.map fun j=>gs.getD j 0).sum
 | .side is,g=>(∃j∈is,g=gs.getD j 0)/\∀j∈is,gs.getD j 0<=g
 | .again k j,g=>g=k*gs.getD j 0
def MovN(L:List Str)(M:List (List Int))(f:Fn)(ks:List Int):Prop:=ks.Pairwise (· < ·)/\∀k,k∈ks↔(∃j∈f.js,k∈M.getD j [])\/∃(x:Str) (h n:Int) (i:Nat),f = .rise x h n/\L[i]?=some x/\k=(i:Int)
def ApartN(M:List (List Int))(is:List Nat):Prop:=(∀j∈is,M.getD j []≠[])/\is.Pairwise fun a b=>∀k∈M.getD a [],¬k∈M.getD b []
noncomputable def PreN(L:List Str)(M:List (List Int))(n:Nat):Fn->Prop
 | .hold m=>1<=m/\m<=10^18
 | .ring x m=>1<=m/\m<=10^18/\Ws.isW x=true
 | .rise x h m=>(∃i:Nat,L[i]?=some x)/\0<=h/\h<=10^18/\1<=m/\m<=10^18
 | .row is=>is≠[]/\is.length<=8/\∀j∈is,j<n
 | .side is=>2<=is.length/\is.length<=8/\(∀j∈is,j<n)/\ApartN M is
 | .again k j=>1<=k/\k<=10^18/\j<n
theorem PreN.js{L:List Str}{M:List (List Int)}{n:Nat}{f:Fn}(h:PreN L M n f):f.js.length<=8/\∀j∈f.js,j<n:=by
 cases f with
 | row is=>exact h.2
 | side is=>exact⟨h.2.1,h.2.2.1⟩
 | again k j=>exact⟨by show 1<=8;omega,fun i hi=>by rw[mem_singleton.mp hi];exact h.2.2⟩
 | hold n=>exact⟨Nat.zero_le _,fun j h=>nomatch h⟩
 | ring x n=>exact⟨Nat.zero_le _,fun j h=>nomatch h⟩
 | rise x v n=>exact⟨Nat.zero_le _,fun j h=>nomatch h⟩
structure DOk(L:List Str)(fs:List Fn)(M:List (List Int))(gs:List Int):Prop where
 ml:M.length=fs.length
 gl:gs.length=fs.length
 f:∀(i:Nat) (f:Fn),fs[i]?=some f->PreN L M i f/\MovN L M f (M.getD i [])/\LenN gs f (gs.getD i 0)
 g:∀i,i<fs.length->1<=gs.getD i 0/\gs.getD i 0<=10^60
noncomputable def toldF(names:List Str):Fn->Fm
 | .hold n=>.hold n
 | .ring x n=>.ring x n
 | .rise x h n=>.rise x h n
 | .row is=>.row (is.map fun j=>names.getD j ⟨#[]⟩)
 | .side is=>.side (is.map fun j=>names.getD j ⟨#[]⟩)
 | .again k j=>.again k (names.getD j ⟨#[]⟩)
inductive sp_takeD(vs:List V)(H:Hp)(Q:VK)(xk:XK):Prop
 | mk (p:Addr) (x m:Int) (_:vs=[.ref p,.int m]) (_:H p=some (.lst [.int x])) (_:0<m) (_:m<=10^200) (_:∀(r y:Int) (H':Hp),0<=r->r<m->Ex p H H'->H' p=some (.lst [.int y])->Q (.int r) H'):sp_takeD vs H Q xk
theorem Qr{α:Type}{xs:List α}{x d:α}{j:Nat}(h:j<xs.length):(xs++[x]).getD j d=xs.getD j d:=by
 rw[getD_eq_getElem?_getD,getD_eq_getElem?_getD,List.getElem?_append_left h]
theorem qa{α:Type}{xs:List α}{x d:α}:(xs++[x]).getD xs.length d=x:=by
 rw[getD_eq_getElem?_getD,List.getElem?_append_right (Nat.le_refl _),Nat.sub_self];rfl
theorem PreN.ext{L:List Str}{M:List (List Int)}{ks:List Int}{n:Nat}{f:Fn}(hn:n<=M.length)(h:PreN L M n f):PreN L (M++[ks]) n f:=by
 cases f with
 | side is=>
  obtain⟨a,b,c,d,e⟩:=h;have g:∀j∈is,(M++[ks]).getD j []=M.getD j []:=fun j hj=>Qr (by have:=c j hj;omega)
  refine⟨a,b,c,fun j hj=>by rw[g j hj];exact d j hj,?_⟩;exact(List.pairwise_iff_forall_sublist.mpr fun {x y} hs=>by
   have hx:x∈is:=hs.subset mem_cons_self;have hy:y∈is:=hs.subset (mem_cons_of_mem _ mem_cons_self);rw[g x hx,g y hy];exact List.pairwise_iff_forall_sublist.mp e hs)
 | hold m=>exact h
 | ring x m=>exact h
 | rise x v m=>exact h
 | row is=>exact h
 | again k j=>exact h
theorem LenN.ext{gs:List Int}{g' g:Int}{f:Fn}(hj:∀j∈f.js,j<gs.length)(h:LenN gs f g):LenN (gs++[g']) f g:=by
 have e:∀j∈f.js,(gs++[g']).getD j 0=gs.getD j 0:=fun j hj'=>Qr (hj j hj')
 cases f with
 | hold m=>exact h
 | ring x m=>exact h
 | rise x v m=>exact h
 | row is=>
  show g=(is.map fun j=>(gs++[g']).getD j 0).sum;have e2:is.map (fun j=>(gs++[g']).getD j 0)=is.map fun j=>gs.getD j 0:=map_congr_left e
  rw[e2];exact h
 | side is=>
  obtain⟨⟨j,hj',ej⟩,h2⟩:=h;exact⟨⟨j,hj',by rw[e j hj'];exact ej⟩,fun j' hj''=>by rw[e j' hj''];exact h2 j' hj''⟩
 | again k j=>
  show g=k*(gs++[g']).getD j 0;rw[e j mem_cons_self];exact h
noncomputable def drawnPs(names:List Str)(fs:List Fn):List (Str×Fm):=(List.range fs.length).map fun i=>(names.getD i ⟨#[]⟩,toldF names (fs.getD i (.hold 0)))
section
variable{L:List Str}{fs:List Fn}{M:List (List Int)}{gs:List Int}{names:List Str}{ls:List (Str×Int)}
theorem Qa:(drawnPs names fs).length=fs.length:=by unfold drawnPs;rw[length_map,length_range]
theorem j1p{i:Nat}{f:Fn}(h:fs[i]?=some f):(drawnPs names fs)[i]?=some (names.getD i ⟨#[]⟩,toldF names f):=by
 unfold drawnPs;have hi:=(List.getElem?_eq_some_iff.mp h).1;rw[List.getElem?_map,List.getElem?_range hi];have e:fs.getD i (.hold 0)=f:=by rw[getD_eq_getElem?_getD,h];rfl
 show some (names.getD i ⟨#[]⟩,toldF names (fs.getD i (.hold 0)))=_;rw[e]
theorem qp{i:Nat}{p:Str×Fm}(h:(drawnPs names fs)[i]?=some p):∃f,fs[i]?=some f/\p=(names.getD i ⟨#[]⟩,toldF names f):=by
 have hi:=(List.getElem?_eq_some_iff.mp h).1;rw[Qa]at hi;obtain⟨f,hf⟩:∃f,fs[i]?=some f:=⟨_,List.getElem?_eq_getElem hi⟩
 rw[j1p hf]at h;exact⟨f,hf,(Option.some.inj h).symm⟩
theorem KY(hn:fs.length<=names.length):nmsOf (drawnPs names fs)=names.take fs.length:=by
 unfold nmsOf drawnPs;rw[map_map];refine ext_getElem (by rw[length_map,length_range,length_take];omega) fun i h1 h2=>?_
 rw[getElem_map,getElem_range,List.getElem_take];show names.getD i ⟨#[]⟩=_;rw[getD_eq_getElem?_getD,List.getElem?_eq_getElem];rfl
theorem j40(hn:fs.length<=names.length){j:Nat}(hj:j<fs.length):(nmsOf (drawnPs names fs))[j]?=some (names.getD j ⟨#[]⟩):=by
 rw[KY hn,List.getElem?_take,if_pos hj,getD_eq_getElem?_getD,List.getElem?_eq_getElem (by omega)];rfl
theorem W4(hn:fs.length<=names.length)(nd:names.Nodup):(nmsOf (drawnPs names fs)).Nodup:=by
 rw[KY hn];exact nd.sublist (List.take_sublist _ _)
theorem kL(hn:fs.length<=names.length)(nd:names.Nodup){f:Fn}(hj:∀j∈f.js,j<fs.length):inP (drawnPs names fs) (toldF names f)=f.js:=by
 have e:∀is:List Nat,(∀j∈is,j<fs.length)->(is.map fun j=>names.getD j ⟨#[]⟩).map (ixOf (nmsOf (drawnPs names fs)))=is:=fun is h=>by
  rw[map_map]
  conv=>rhs;rw[<-List.map_id is]
  exact map_congr_left fun j hj=>Qs (W4 hn nd) (j40 hn (h j hj))
 unfold inP;cases f with
 | row is=>exact e is hj
 | side is=>exact e is hj
 | again k j=>exact e [j] hj
 | hold n=>rfl
 | ring x n=>rfl
 | rise x v n=>rfl
theorem xM(f:Fn):(toldF names f).ns=f.js.map fun j=>names.getD j ⟨#[]⟩:=by cases f<;>rfl
theorem DOk.wf(D:DOk (nmsOf ls) fs M gs)(hn:fs.length<=names.length)(nd:names.Nodup)(lnd:(nmsOf ls).Nodup)(l8:ls.length<=8)(f61:fs.length<=61):WfB ls (drawnPs names fs):=by
 refine⟨lnd,l8,W4 hn nd,by rw[Qa];exact f61,fun i p hp=>?_,fun i y x h n hp=>?_⟩
 ·obtain⟨f,hf,rfl⟩:=qp hp;have hi:=(List.getElem?_eq_some_iff.mp hf).1;obtain⟨pre,_⟩:=D.f i f hf;have js:=pre.js;refine⟨fun x hx=>?_,?_⟩
  ·rw[xM]at hx;obtain⟨j,hj,rfl⟩:=mem_map.mp hx;have:=js.2 j hj;exact⟨j,this,j40 hn (by omega)⟩
  ·rw[xM,length_map];exact js.1
 ·obtain⟨f,hf,e⟩:=qp hp;obtain⟨pre,_⟩:=D.f i f hf;have e2:=(Prod.mk.inj e).2;cases f with
  | rise x' h' n'=>
   have:x=x':=by injection e2
   subst this;exact pre.1
  | hold n=>cases e2
  | ring x n=>cases e2
  | row is=>cases e2
  | side is=>cases e2
  | again k j=>cases e2
theorem DOk.mov(D:DOk (nmsOf ls) fs M gs)(hn:fs.length<=names.length)(nd:names.Nodup)(lnd:(nmsOf ls).Nodup):MovOk ls (drawnPs names fs) M:=by
 intro i p ks hp hk;obtain⟨f,hf,rfl⟩:=qp hp;have hi:=(List.getElem?_eq_some_iff.mp hf).1;obtain⟨pre,mv,_⟩:=D.f i f hf;have js:=pre.js.2;have ek:M.getD i []=ks:=by rw[getD_eq_getElem?_getD,hk];rfl
 rw[ek]at mv;refine⟨mv.1,fun k=>(mv.2 k).trans ?_⟩;rw[kL hn nd fun j hj=>by have:=js j hj;omega];refine⟨fun h=>h.imp id ?_,fun h=>h.imp id ?_⟩
 ·rintro⟨x,v,n,j,rfl,hj,rfl⟩;exact⟨x,v,n,rfl,by rw[Qs lnd hj]⟩
 ·rintro⟨x,v,n,e,rfl⟩;cases f with
  | rise x' h' n'=>
   have:x'=x:=by injection e
   subst this;obtain⟨j,hj⟩:=pre.1;exact⟨x',h',n',j,rfl,hj,by rw[Qs lnd hj]⟩
  | hold n=>cases e
  | ring x n=>cases e
  | row is=>cases e
  | side is=>cases e
  | again k j=>cases e
theorem j3j{ps:List (Str×Fm)}{M M':List (List Int)}(W:WfB ls ps)(h:MovOk ls ps M)(h':MovOk ls ps M')(l:M.length=ps.length)(l':M'.length=ps.length):∀i,i<ps.length->M'.getD i []=M.getD i []:=by
 intro i
 induction i using Nat.strongRecOn with
 | ind i ih=>
  intro hi;have ep:ps[i]?=some ps[i]:=List.getElem?_eq_getElem hi;have eM:M[i]?=some (M.getD i []):=by rw[getD_eq_getElem?_getD,List.getElem?_eq_getElem (by omega)];rfl
  have eM':M'[i]?=some (M'.getD i []):=by rw[getD_eq_getElem?_getD,List.getElem?_eq_getElem (by omega)];rfl
  obtain⟨a,b⟩:=h i _ _ ep eM;obtain⟨a',b'⟩:=h' i _ _ ep eM';refine j2H a' a fun k=>(b' k).trans (Iff.trans ?_ (b k).symm)
  have key:(∃j∈inP ps (ps[i]).2,k∈M'.getD j [])↔∃j∈inP ps (ps[i]).2,k∈M.getD j []:=by
   constructor
   ·rintro⟨j,hj,hk⟩;have:=W.inP_lt ep hj;exact⟨j,hj,by rw[<-ih j this (by omega)];exact hk⟩
   ·rintro⟨j,hj,hk⟩;have:=W.inP_lt ep hj;exact⟨j,hj,by rw[ih j this (by omega)];exact hk⟩
  rw[key]
theorem DOk.sn(D:DOk (nmsOf ls) fs M gs)(hn:fs.length<=names.length)(nd:names.Nodup)(lnd:(nmsOf ls).Nodup)(l8:ls.length<=8)(f61:fs.length<=61)(f1:1<=fs.length)(lh:∀q∈ls,0<=q.2/\q.2<=10^18):Sn ls (drawnPs names fs) gs M:=by
 have W:=D.wf hn nd lnd l8 f61;have MV:=D.mov hn nd lnd;have dl:(drawnPs names fs).length=fs.length:=Qa;have ml:=D.ml;have gl:=D.gl;refine⟨⟨W,by omega,fun i hi=>?_,fun M' l' h' i hi=>j3j W MV h' (by omega) l' i hi,fun i p hp=>?_,fun i p qs hp e=>?_⟩,by omega,MV,fun i hi=>(D.g i (by omega)).1,by omega,lh,fun i y x v n hp=>?_,fun i y x k hp=>?_⟩
 ·have:=D.g i (by omega);omega
 ·obtain⟨f,hf,rfl⟩:=qp hp;have hi:=(List.getElem?_eq_some_iff.mp hf).1;obtain⟨pre,_,ln⟩:=D.f i f hf;have js:=pre.js.2;rw[show inP (drawnPs names fs) (names.getD i ⟨#[]⟩,toldF names f).2=f.js from kL hn nd fun j hj=>by have:=js j hj;omega];cases f with
  | hold n=>exact⟨trivial,fun g h=>Eq.trans h (Eq.symm ln)⟩
  | ring x n=>exact⟨trivial,fun g h=>Eq.trans h (Eq.symm ln)⟩
  | rise x v n=>exact⟨trivial,fun g h=>Eq.trans h (Eq.symm ln)⟩
  | row is=>exact⟨trivial,fun g h=>Eq.trans h (Eq.symm ln)⟩
  | side is=>
   refine⟨fun z=>?_,fun g h=>?_⟩
   ·have p2:=pre.1;have:is.length=0:=by rw[<-length_map (f:=fun j=>gs.getD j 0)];exact congrArg List.length z
    omega
   ·obtain⟨h1,h2⟩:=h;obtain⟨j,hj,rfl⟩:=mem_map.mp h1;obtain⟨⟨j',hj',e'⟩,l2⟩:=ln;have a1:=l2 j hj;have a2:=h2 (gs.getD j' 0) (mem_map.mpr ⟨j',hj',rfl⟩);omega
  | again k j=>
   have gj:=D.g j (by have:=js j mem_cons_self;omega);refine⟨⟨gs.getD j 0,[],rfl,Int.le_trans (by decide) pre.1,pre.2.1,by omega,gj.2⟩,fun g h=>?_⟩;obtain⟨y,hy,rfl⟩:=h;cases hy;exact Eq.symm ln
 ·obtain⟨f,hf,rfl⟩:=qp hp;have hi:=(List.getElem?_eq_some_iff.mp hf).1;obtain⟨pre,_,_⟩:=D.f i f hf;have js:=pre.js.2;rw[show inP (drawnPs names fs) (names.getD i ⟨#[]⟩,toldF names f).2=f.js from kL hn nd fun j hj=>by have:=js j hj;omega];cases f with
  | side is=>
   obtain⟨_,_,_,ap1,ap2⟩:=pre;refine⟨ap1,fun k=>?_⟩;have one:∀js:List Nat,js.Pairwise (fun a b=>∀k∈M.getD a [],¬k∈M.getD b [])->((js.map fun j=>M.getD j []).filter fun ks=>decide (k∈ks)).length<=1:=fun js=>by
    induction js with
    | nil=>exact fun _=>Nat.zero_le _
    | cons j r ih=>
     intro h;rw[pairwise_cons]at h;rw[map_cons,filter_cons];split
     ·rename_i c;have e:(r.map fun j=>M.getD j []).filter (fun ks=>decide (k∈ks))=[]:=by
       rw[List.filter_eq_nil_iff];intro ks hks;obtain⟨j',hj',rfl⟩:=mem_map.mp hks;have:=h.1 j' hj' k (of_decide_eq_true c);simpa using this
      rw[e];exact Nat.le_refl _
     ·exact ih h.2
   exact one is ap2
  | hold n=>cases e
  | ring x n=>cases e
  | rise x v n=>cases e
  | row is=>cases e
  | again k j=>cases e
 ·obtain⟨f,hf,e⟩:=qp hp;obtain⟨pre,_⟩:=D.f i f hf;have e2:=(Prod.mk.inj e).2;cases f with
  | rise x' h' n'=>
   injection e2 with e3 e4 e5;subst e3 e4 e5;exact pre.2
  | hold n=>cases e2
  | ring x n=>cases e2
  | row is=>cases e2
  | side is=>cases e2
  | again k j=>cases e2
 ·obtain⟨f,hf,e⟩:=qp hp;obtain⟨pre,_⟩:=D.f i f hf;have e2:=(Prod.mk.inj e).2;cases f with
  | again k' j=>
   injection e2 with e3 e4;subst e3;exact⟨pre.1,pre.2.1⟩
  | rise x' h' n'=>cases e2
  | hold n=>cases e2
  | ring x n=>cases e2
  | row is=>cases e2
  | side is=>cases e2
end
section
variable{L:List Str}{fs:List Fn}{M:List (List Int)}{gs:List Int}{names:List Str}{ls:List (Str×Int)}{n:Nat}
end
theorem j30{ls ls':List (Str×Int)}{ps ps':List (Str×Fm)}{E E':List (List (Int×Int))}{n:Nat}(W:WfB ls ps)(hl:nmsOf ls'=nmsOf ls)(hp:ps'=ps.take n)(hin:∀i p,i<n->ps[i]?=some p->inP ps' p.2=inP ps p.2)(h:EndOk ls ps E)(h':EndOk ls' ps' E')(l:E.length=ps.length)(l':E'.length=ps'.length)(hn:n<=ps.length):∀i,i<n->E'.getD i []=E.getD i []:=by
 intro i
 induction i using Nat.strongRecOn with
 | ind i ih=>
  intro hi;have ep:ps[i]?=some (ps[i]'(by omega)):=List.getElem?_eq_getElem (by omega);have ep':ps'[i]?=some (ps[i]'(by omega)):=by rw[hp,List.getElem?_take,if_pos hi];exact ep
  have eE:E[i]?=some (E.getD i []):=by rw[getD_eq_getElem?_getD,List.getElem?_eq_getElem (by omega)];rfl
  have lp':ps'.length=n:=by rw[hp,length_take];omega
  have eE':E'[i]?=some (E'.getD i []):=by rw[getD_eq_getElem?_getD,List.getElem?_eq_getElem (by omega)];rfl
  obtain⟨a,b⟩:=h i _ _ ep eE;obtain⟨a',b'⟩:=h' i _ _ ep' eE';refine j0h a' a fun k v=>(b' k v).trans (Iff.trans ?_ (b k v).symm)
  unfold EndIs;rw[hin i _ hi ep,hl];have ext:∀j∈inP ps (ps[i]'(by omega)).2,E'.getD j []=E.getD j []:=fun j hj=>by
   have:=W.inP_lt ep hj;exact ih j this (by omega)
  exact⟨fun z=>z.imp (yW ext) id,fun z=>z.imp (yW fun j hj=>(ext j hj).symm) id⟩
noncomputable def setE(es:List (Int×Int))(h:List Int):List Int:=es.foldl (fun h q=>h.set q.1.toNat q.2) h
theorem zf(q:Int×Int)(r:List (Int×Int))(h:List Int):setE (q::r) h=setE r (h.set q.1.toNat q.2):=rfl
theorem xH:∀(es:List (Int×Int)) (h:List Int),(setE es h).length=h.length
 | [],_=>rfl
 | q::r,h=>by rw[zf,xH r,length_set]
theorem Kq:∀{es:List (Int×Int)} {h:List Int} {i:Nat},(∀q∈es,0<=q.1)->(∀v,((i:Int),v)∉es)->(setE es h)[i]?=h[i]?
 | [],_,_,_,_=>rfl
 | q::r,h,i,p,n=>by
  rw[zf,Kq (fun x hx=>p x (mem_cons_of_mem _ hx)) (fun v hv=>n v (mem_cons_of_mem _ hv))];have:q.1.toNat≠i:=fun e=>by
   have p0:=p q mem_cons_self;have e':q.1=(i:Int):=by omega
   exact n q.2 (by rw[<-e'];exact mem_cons_self)
  rw[List.getElem?_set_ne this]
theorem j0d:∀{es:List (Int×Int)} {h:List Int} {i:Nat} {v:Int},(es.map (·.1)).Pairwise (· < ·)->(∀q∈es,0<=q.1)->((i:Int),v)∈es->i<h.length->(setE es h)[i]?=some v
 | [],_,_,_,_,_,m,_=>nomatch m
 | q::r,h,i,v,pw,p,m,hi=>by
  rw[map_cons,pairwise_cons]at pw;rw[zf];rcases mem_cons.mp m with e | m
  ·subst e;rw[Kq (fun x hx=>p x (mem_cons_of_mem _ hx)) (fun w hw=>by
    have:=pw.1 _ (mem_map.mpr ⟨_,hw,rfl⟩);exact absurd this (Int.lt_irrefl _))]
   show(h.set (i:Int).toNat v)[i]?=_;rw[Int.toNat_natCast,List.getElem?_set_self hi]
  ·exact j0d pw.2 (fun x hx=>p x (mem_cons_of_mem _ hx)) m (by rw[length_set];exact hi)
section
variable{L:List Str}{fs:List Fn}{M:List (List Int)}{gs:List Int}{names:List Str}{ls:List (Str×Int)}{n:Nat}{E:List (List (Int×Int))}
theorem yy{α β γ:Type}{g:α->List β}{f:γ->β->γ}:∀{l:List α} {h:γ},(l.flatMap g).foldl f h=l.foldl (fun h x=>(g x).foldl f h) h
 | [],_=>rfl
 | x::r,h=>by rw[flatMap_cons,foldl_append,foldl_cons,yy]
theorem Yz{α γ:Type}{f g:γ->α->γ}:∀{l:List α} {h:γ},(∀x∈l,∀h,f h x=g h x)->l.foldl f h=l.foldl g h
 | [],_,_=>rfl
 | x::r,h,e=>by rw[foldl_cons,foldl_cons,e x mem_cons_self,Yz fun y hy=>e y (mem_cons_of_mem _ hy)]
end
structure Sa where
 d:Addr
 f:Addr
 o:Addr
 s:Addr
 l:Addr
 p:Addr
 fb:List Addr
 la:List Addr
 pa:List Addr
noncomputable def fldS(z:Sa):List (Str×V):=putF "pieces" (.ref z.p) (putF "left" (.ref z.l) (putF "sizes" (.ref z.s) (putF "forms" (.ref z.o) (putF "first" (.ref z.f) (putF "limbs" (.ref z.d) [])))))
section
variable{z:Sa}
theorem jJ{a b:Str}{v:V}{r:List (Str×V)}(h:¬a=b):(putF b v r).lookup a=r.lookup a:=by rw[zE,if_neg h]
theorem qK{a:Str}{v:V}{r:List (Str×V)}:(putF a v r).lookup a=some v:=by rw[zE,if_pos rfl]
theorem Xi:(fldS z).lookup ("pieces" : Str)=some (.ref z.p):=qK
theorem j1u:(fldS z).lookup ("left" : Str)=some (.ref z.l):=(jJ (by decide +kernel)).trans qK
theorem Z5:(fldS z).lookup ("sizes" : Str)=some (.ref z.s):=(jJ (by decide +kernel)).trans ((jJ (by decide +kernel)).trans qK)
theorem j0v:(fldS z).lookup ("forms" : Str)=some (.ref z.o):=(jJ (by decide +kernel)).trans ((jJ (by decide +kernel)).trans ((jJ (by decide +kernel)).trans qK))
theorem j0u:(fldS z).lookup ("first" : Str)=some (.ref z.f):=(jJ (by decide +kernel)).trans ((jJ (by decide +kernel)).trans ((jJ (by decide +kernel)).trans ((jJ (by decide +kernel)).trans qK)))
theorem j0w:(fldS z).lookup ("limbs" : Str)=some (.ref z.d):=(jJ (by decide +kernel)).trans ((jJ (by decide +kernel)).trans ((jJ (by decide +kernel)).trans ((jJ (by decide +kernel)).trans ((jJ (by decide +kernel)).trans qK))))
theorem j1v{m:Str}(h1:¬m = "pieces")(h2:¬m = "left")(h3:¬m = "sizes")(h4:¬m = "forms")(h5:¬m = "first")(h6:¬m = "limbs"):(fldS z).lookup m=none:=(jJ h1).trans ((jJ h2).trans ((jJ h3).trans ((jJ h4).trans ((jJ h5).trans (jJ h6)))))
theorem Jb(f:Str)(v:V):∀r:List (Str×V),(putF f v r).length<=r.length+1
 | []=>Nat.le_refl _
 | (g,u)::r=>by
  unfold putF;split
  ·exact Nat.le_succ _
  ·rw[length_cons,length_cons];have:=Jb f v r;omega
end
theorem BookAt.less{H:Hp}{a C dx:Addr}{fs:List (Str×V)}{b pl pp:Addr}{las pas:List Addr}{ls:List (Str×Int)}{ps:List (Str×Fm)}(ha:H a=some (.ins C dx fs))(B:BookAt H b pl pp las pas ls ps) :
  ∃H0:Hp,(∀H',(∀c u,c≠a->H c=some u->H' c=some u)->Same H0 H')/\(∀{c u},H0 c=some u->c≠a)/\BookAt H0 b pl pp las pas ls ps:=by
 have kt:∀{c:Addr} {xs:List V},H c=some (.tup xs)->(fun c=>if c=a then none else H c) c=some (.tup xs):=fun {c xs} h=>by
  show(if c=a then none else H c)=_;rw[if_neg (fun z=>by rw[z,ha]at h;cases h)];exact h
 have kl:∀{c:Addr} {xs:List V},H c=some (.lst xs)->(fun c=>if c=a then none else H c) c=some (.lst xs):=fun {c xs} h=>by
  show(if c=a then none else H c)=_;rw[if_neg (fun z=>by rw[z,ha]at h;cases h)];exact h
 refine⟨fun c=>if c=a then none else H c,fun H' k c u h=>?_,fun {c u} h=>?_,kt B.t,kl B.l,B.la.mono fun a x hx=>kt hx,kl B.p,B.pa.mono fun a x hx=>?_⟩
 ·have h:(if c=a then none else H c)=some u:=h;by_cases e:c=a
  ·rw[if_pos e]at h;cases h
  ·rw[if_neg e]at h;exact k c u e h
 ·have h:(if c=a then none else H c)=some u:=h;intro e;rw[if_pos e]at h;cases h
 ·obtain⟨fb,h1,h2⟩:=hx;refine⟨fb,kt h1,?_⟩;cases hx2:x.2 with
  | row r=>rw[hx2]at h2;obtain⟨c,h3,h4⟩:=h2;exact⟨c,kt h3,kt h4⟩
  | side r=>rw[hx2]at h2;obtain⟨c,h3,h4⟩:=h2;exact⟨c,kt h3,kt h4⟩
  | hold n=>rw[hx2]at h2;exact kt h2
  | ring y n=>rw[hx2]at h2;exact kt h2
  | rise y v n=>rw[hx2]at h2;exact kt h2
  | again k y=>rw[hx2]at h2;exact kt h2
theorem few{f:Str}{v:V}{r:List (Str×V)}{n:Nat}(h:(putF f v r).length<=n)(k:n<1000):(putF f v r).length<1000:=Nat.lt_of_le_of_lt h k
section
variable{a b c d e:Str}{u v w x y:V}
theorem few3:(putF c w (putF b v (putF a u []))).length<1000:=by
 have:=Jb c w (putF b v (putF a u []));have:=Jb b v (putF a u []);have:=Jb a u [];simp at *;omega
theorem few4:(putF d x (putF c w (putF b v (putF a u [])))).length<1000:=by
 have:=Jb d x (putF c w (putF b v (putF a u [])));have:=Jb c w (putF b v (putF a u []));have:=Jb b v (putF a u []);have:=Jb a u [];simp at *;omega
theorem few5:(putF e y (putF d x (putF c w (putF b v (putF a u []))))).length<1000:=by
 have:=Jb e y (putF d x (putF c w (putF b v (putF a u []))));have:=Jb d x (putF c w (putF b v (putF a u [])));have:=Jb c w (putF b v (putF a u []));have:=Jb b v (putF a u []);have:=Jb a u [];simp at *;omega
end
section
variable{α β:Type}
theorem W7{f:β->α->β}{x:α}:∀{ys:List α} {h:β},(∀y∈ys,∀h,f (f h x) y=f (f h y) x)->f (ys.foldl f h) x=ys.foldl f (f h x)
 | [],_,_=>rfl
 | y::r,h,k=>by
  rw[foldl_cons,foldl_cons,k y mem_cons_self h];exact W7 fun z hz=>k z (mem_cons_of_mem _ hz)
theorem Yx{f:β->α->β}{p:α->Bool}:∀{R:List α} {h:β},R.Pairwise (fun x y=>p x=false->p y=true->∀h,f (f h x) y=f (f h y) x)->
  (R.filter fun x=>!p x).foldl f ((R.filter p).foldl f h)=R.foldl f h
 | [],_,_=>rfl
 | x::r,h,k=>by
  rw[pairwise_cons]at k;cases e:p x with
  | true=>
   have a:(x::r).filter (fun x=>!p x)=r.filter fun x=>!p x:=by rw[filter_cons];simp[e]
   rw[a,filter_cons_of_pos e,foldl_cons,foldl_cons];exact Yx k.2
  | false=>
   have a:(x::r).filter (fun x=>!p x)=x::r.filter fun x=>!p x:=by rw[filter_cons];simp[e]
   have b:(x::r).filter p=r.filter p:=by rw[filter_cons];simp[e]
   have c:f ((r.filter p).foldl f h) x=(r.filter p).foldl f (f h x):=W7 fun y hy h=>k.1 y (mem_filter.mp hy).1 e (mem_filter.mp hy).2 h
   rw[a,b,foldl_cons,foldl_cons,c];exact Yx k.2
theorem Yy{f:β->α->β}{p:α->Bool}:∀{R:List α} {h:β},(∀x∈R,p x=false->∀h,f h x=h)->(R.filter p).foldl f h=R.foldl f h
 | [],_,_=>rfl
 | x::r,h,k=>by
  cases e:p x with
  | true=>
   rw[filter_cons_of_pos e,foldl_cons,foldl_cons];exact Yy fun y hy=>k y (mem_cons_of_mem _ hy)
  | false=>
   rw[List.filter_cons_of_neg (by simp[e]),foldl_cons,k x mem_cons_self e];exact Yy fun y hy=>k y (mem_cons_of_mem _ hy)
end
section
variable{ls:List (Str×Int)}{ps:List (Str×Fm)}{gs:List Int}{hs:List (List Int)}{E:List (List (Int×Int))}{t:Int}
noncomputable def ovB(gs:List Int)(x:Nat×Int):Bool:=decide (gs.getD x.1 0<=x.2)
noncomputable def leafB(ps:List (Str×Fm))(gs:List Int)(x:Nat×Int):Bool:=(pcB ps gs x.1).isEmpty
def Dj(gs:List Int)(hs:List (List Int))(a b:Nat×Int):Prop:=ovB gs a=false->∀k∈hs.getD a.1 [],k∉hs.getD b.1 []
theorem Dj.ov{a b:Nat×Int}(h:gs.getD a.1 0<=a.2):Dj gs hs a b:=fun z=>by
 unfold ovB at z;rw[decide_eq_true h]at z;cases z
theorem j3A{l r:List (Nat×Int)}(h:∀a∈l,gs.getD a.1 0<=a.2)(k:r.length<=1):(l++r).Pairwise (Dj gs hs):=by
 induction l with
 | nil=>
  match r,k with
  | [],_=>exact .nil
  | [a],_=>exact pairwise_singleton _ _
 | cons a l ih=>exact pairwise_cons.mpr ⟨fun b _=>.ov (h a mem_cons_self),ih fun b hb=>h b (mem_cons_of_mem _ hb)⟩
theorem j2j:∀{is:List Nat} {b:Int},(∀k∈is,1<=gs.getD k 0/\gs.getD k 0<=10^60)->(wth gs t (rowPc gs is b)).Pairwise (Dj gs hs)
 | [],b,_=>.nil
 | j::r,b,hg=>by
  by_cases h:b<=t
  ·rw[Yg hg h];split
   ·exact pairwise_cons.mpr ⟨fun b _=>.ov (Int.le_refl _),j2j fun k hk=>hg k (mem_cons_of_mem _ hk)⟩
   ·exact pairwise_singleton _ _
  ·rw[Kn (fun k hk=>by have:=hg k hk;omega) (by omega)];exact .nil
theorem WV:∀{is:List Nat},(∀k:Int,((is.map fun j=>hs.getD j []).filter fun ks=>decide (k∈ks)).length<=1)->is.Pairwise fun j j'=>∀k∈hs.getD j [],k∉hs.getD j' []
 | [],_=>.nil
 | j::r,h=>by
  refine pairwise_cons.mpr ⟨fun j' hj' a ha hk'=>?_,WV fun k=>?_⟩
  ·have:=h a;rw[map_cons,filter_cons,if_pos (decide_eq_true ha),length_cons]at this;have pos:0<((r.map fun j=>hs.getD j []).filter fun ks=>decide (a∈ks)).length:=length_pos_of_mem (mem_filter.mpr ⟨mem_map.mpr ⟨j',hj',rfl⟩,decide_eq_true hk'⟩);omega
  ·have:=h k;rw[map_cons,filter_cons]at this;split at this
   ·rw[length_cons]at this;omega
   ·exact this
theorem j4P(N:Sn ls ps gs hs){i:Nat}(hi:i<ps.length)(t0:0<=t):(wth gs t (pcB ps gs i)).Pairwise (Dj gs hs):=by
 obtain⟨p,hp⟩:∃p,ps[i]?=some p:=⟨_,List.getElem?_eq_getElem hi⟩
 have epc:pcB ps gs i=pcsI gs p.2 (inP ps p.2):=by unfold pcB;rw[hp]
 have hg:∀k∈inP ps p.2,1<=gs.getD k 0/\gs.getD k 0<=10^60:=fun k hk=>by
  have:=N.s.w.inP_lt hp hk;exact N.g (by omega)
 rw[epc];cases e:p.2 with
 | again k x=>
  rw[e]at hg;rw[show inP ps (.again k x)=[ixOf (nmsOf ps) x]from rfl]at hg|-;have g:=(hg _ mem_cons_self).1;generalize ixOf (nmsOf ps) x=j at g|-;show(wth gs t ((j,1,0)::(if 1<k then[(j,k-1,gs.getD j 0)]else[]))).Pairwise _;rw[qQ,Kv g t0,Int.sub_zero];by_cases c:gs.getD j 0<=t
  ·rw[if_pos c];split
   ·rw[qQ,yc,append_nil,WK (show gs.getD j 0<=t from c),<-List.append_assoc];refine j3A (fun a ha=>?_) (by split<;>simp);have:a=(j,gs.getD j 0):=by
     rcases mem_append.mp ha with z | z
     ·exact mem_singleton.mp z
     ·split at z
      ·exact mem_singleton.mp z
      ·exact nomatch z
    rw[this];exact Int.le_refl _
   ·exact pairwise_singleton _ _
  ·rw[if_neg c];have z:wth gs t (if 1<k then[(j,k-1,gs.getD j 0)]else[])=[]:=by
    split
    ·exact Ym fun q hq=>by rw[mem_singleton.mp hq];show t<gs.getD j 0;omega
    ·rfl
   rw[z];exact pairwise_singleton _ _
 | row xs=>rw[e]at hg;exact j2j hg
 | side xs=>
  obtain⟨_,one⟩:=N.s.sd i p xs hp e;rw[e]at hg one;show(wth gs t ((inP ps (.side xs)).map fun j=>(j,1,0))).Pairwise _;rw[Kr (fun k hk=>(hg k hk).1) t0];refine pairwise_map.mpr ((WV one).imp fun {a b} h=>?_);have f1:∀j:Nat,(if gs.getD j 0<=t then(j,gs.getD j 0)else(j,t)).1=j:=fun j=>by split<;>rfl
  intro _;rw[f1,f1];exact h
 | hold n=>exact .nil
 | ring x n=>exact .nil
 | rise x v n=>exact .nil
theorem j4O{i:Nat}{p:Str×Fm}(hp:ps[i]?=some p){x:Nat×Int}(h:x∈wth gs t (pcB ps gs i)):x.1∈inP ps p.2:=by
 obtain⟨q,hq,e⟩:=Wg h;unfold pcB at hq;rw[hp]at hq;rw[e];exact yY hq
theorem xE(N:Sn ls ps gs hs):∀{i:Nat} {t:Int} {x:Nat×Int},i<ps.length->x∈reach ps gs i t->∀k∈hs.getD x.1 [],k∈hs.getD i []:=by
 intro i
 induction i using Nat.strongRecOn with
 | ind i ih=>
  intro t x hi hx k hk;by_cases h:gs.getD i 0<=t\/pcB ps gs i=[]
  ·rw[JP h]at hx;rw[mem_singleton.mp hx]at hk;exact hk
  ·rw[QA N.s.w h]at hx;obtain⟨y,hy,hx⟩:=mem_flatMap.mp hx;have lt:=zy N.s.w hy;have hp:=List.getElem?_eq_getElem hi;exact((N.m i _ _ hp (kQ N.s N.hl hi)).2 k).mpr (.inl ⟨y.1,j4O hp hy,ih y.1 lt (by omega) hx k hk⟩)
theorem j2g(N:Sn ls ps gs hs):∀{i:Nat} {t:Int},i<ps.length->0<=t->(reach ps gs i t).Pairwise (Dj gs hs):=by
 intro i
 induction i using Nat.strongRecOn with
 | ind i ih=>
  intro t hi t0;by_cases h:gs.getD i 0<=t\/pcB ps gs i=[]
  ·rw[JP h];exact pairwise_singleton _ _
  ·rw[QA N.s.w h];refine List.pairwise_flatMap.mpr ⟨fun a ha=>?_,(j4P N hi t0).imp_of_mem fun {a b} ha hb d x hx y hy z k hk hk'=>?_⟩
   ·have:=zy N.s.w ha;exact ih a.1 this (by omega) (Kw (fun q hq=>N.pcOk hq) ha)
   ·have la:=zy N.s.w ha;have lb:=zy N.s.w hb;have na:ovB gs a=false:=by
     cases e:ovB gs a with
     | false=>rfl
     | true=>
      rw[JP (.inl (of_decide_eq_true e))]at hx;rw[mem_singleton.mp hx]at z;exact(e.symm.trans z:true=false)
    exact d na k (xE N (by omega) hx k hk) (xE N (by omega) hy k hk')
noncomputable def rzH(ls:List (Str×Int))(ps:List (Str×Fm))(h:List Int)(x:Nat×Int):List Int:=match ps[x.1]? with
 | some (_,.rise y v n)=>h.set (ixOf (nmsOf ls) y) (Rp.ramp (h.getD (ixOf (nmsOf ls) y) 0) v n x.2)
 | _=>h
theorem xY{h:List Int}{x:Nat×Int}(c:ovB gs x=true):appH ls ps gs E h x=setE (E.getD x.1 []) h:=by
 unfold appH;rw[if_pos (of_decide_eq_true c)];rfl
theorem xZ{h:List Int}{x:Nat×Int}(c:ovB gs x=false):appH ls ps gs E h x=rzH ls ps h x:=by
 unfold appH;rw[if_neg (of_decide_eq_false c)];rfl
theorem xG{k:Nat}{v:Int}:∀{es:List (Int×Int)} {h:List Int},(∀q∈es,q.1.toNat≠k)->setE es (h.set k v)=(setE es h).set k v
 | [],_,_=>rfl
 | q::r,h,n=>by
  rw[zf,zf,List.set_comm _ _ (n q mem_cons_self).symm];exact xG fun y hy=>n y (mem_cons_of_mem _ hy)
theorem wt{k:Nat}:∀{es:List (Int×Int)} {h:List Int},(∀q∈es,q.1.toNat≠k)->(setE es h).getD k 0=h.getD k 0
 | [],_,_=>rfl
 | q::r,h,n=>by
  rw[zf,wt fun y hy=>n y (mem_cons_of_mem _ hy),getD_eq_getElem?_getD,getD_eq_getElem?_getD,List.getElem?_set_ne (n q mem_cons_self)]
theorem XY(N:Sn ls ps gs hs)(lE:E.length=ps.length)(oE:EndOk ls ps E){i:Nat}(hi:i<ps.length){q:Int×Int}(hq:q∈E.getD i []):q.1∈hs.getD i []:=by
 have:=N.s.mv _ (by rw[length_map];exact lE) (j1O lE oE) i hi;rw[<-this,getD_eq_getElem?_getD,List.getElem?_map,List.getElem?_eq_getElem (by omega)];rw[getD_eq_getElem?_getD,List.getElem?_eq_getElem (by omega)]at hq;exact mem_map.mpr ⟨q,hq,rfl⟩
theorem j2Q(N:Sn ls ps gs hs)(lE:E.length=ps.length)(oE:EndOk ls ps E){x y:Nat×Int}(hx:x.1<ps.length)(hy:y.1<ps.length)(cx:ovB gs x=false)(cy:ovB gs y=true)(d:Dj gs hs x y)(h:List Int) :
  appH ls ps gs E (appH ls ps gs E h x) y=appH ls ps gs E (appH ls ps gs E h y) x:=by
 rw[xY cy,xY cy,xZ cx,xZ cx];unfold rzH;split
 ·rename_i nm z v n hp;have hk:((ixOf (nmsOf ls) z:Nat):Int)∈hs.getD x.1 []:=((N.m x.1 _ _ hp (kQ N.s N.hl hx)).2 _).mpr (.inr ⟨z,v,n,rfl,rfl⟩);have ne:∀q∈E.getD y.1 [],q.1.toNat≠ixOf (nmsOf ls) z:=fun q hq e=>by
   have b:=(ZN N.s.w (by omega) oE y.1 q hq).1;have m:=XY N lE oE hy hq;rw[show q.1=((ixOf (nmsOf ls) z:Nat):Int) by omega]at m;exact d cx _ hk m
  rw[xG ne,wt ne]
 ·rfl
noncomputable def strH(ls:List (Str×Int))(ps:List (Str×Fm))(gs:List Int)(E:List (List (Int×Int)))(t:Int):List Int:=((reach ps gs (ps.length-1) t).filter (ovB gs)).foldl (fun h x=>setE (E.getD x.1 []) h) (ls.map (·.2))
theorem j0E{x:Nat×Int}{y:Str}{v n:Int}{nm:Str}(hp:ps[x.1]?=some (nm,.rise y v n)):leafB ps gs x=true:=by
 unfold leafB pcB;rw[hp];rfl
theorem xK(N:Sn ls ps gs hs)(lE:E.length=ps.length)(oE:EndOk ls ps E)(t0:0<=t){P:List (Nat×Int)}(hP:P.filter (leafB ps gs)=(reach ps gs (ps.length-1) t).filter fun x=>!ovB gs x) :
  P.foldl (rzH ls ps) (strH ls ps gs E t)=standH ls ps gs E t:=by
 have ne:=N.ne;have lt:∀x∈reach ps gs (ps.length-1) t,x.1<ps.length:=fun x hx=>xD N.s.w (by omega) hx
 rw[<-Yy (p:=leafB ps gs) (fun x _ c h=>?_),hP]
 ·unfold standH strH;rw[<-Yx (p:=ovB gs) (f:=appH ls ps gs E) ((j2g N (show ps.length-1<ps.length by omega) t0).imp_of_mem fun {a b} ha hb d ca cb h=>j2Q N lE oE (lt a ha) (lt b hb) ca cb d h)];rw[Yz (f:=appH ls ps gs E) (g:=rzH ls ps) fun x hx h=>xZ (by simpa using(mem_filter.mp hx).2)];rw[Yz (f:=appH ls ps gs E) (g:=fun h x=>setE (E.getD x.1 []) h) fun x hx h=>xY (mem_filter.mp hx).2]
 ·unfold rzH;split
  ·rename_i hp;rw[j0E hp]at c;cases c
  ·rfl
end
structure StageAt(C:Addr)(H:Hp)(a:Addr)(z:Sa)(ls:List (Str×Int))(ps:List (Str×Fm))(gs:List Int)(E:List (List (Int×Int))):Prop where
 ob:∃dx,H a=some (.ins C dx (fldS z))
 hd:H z.d=some (.dK (numK (nmsOf ls)))
 hf:H z.f=some (.lst ((ls.map (·.2)).map V.int))
 ho:H z.o=some (.lst (z.fb.map V.ref))
 fo:All2 (fun a p=>FormAt H a p.2) z.fb ps
 hs:H z.s=some (.lst (gs.map V.int))
 hl:H z.l=some (.lst (z.la.map V.ref))
 el:E.length=ps.length
 ea:EndsAt H z.la E
 eo:EndOk ls ps E
 hp:H z.p=some (.lst (z.pa.map V.ref))
 pa:PssAt H z.pa (ps.map fun p=>pcsI gs p.2 (inP ps p.2))
inductive sp_initS(C:Addr)(vs:List V)(H:Hp)(Q:VK)(xk:XK):Prop
 | mk (a dx b pl pp:Addr) (las pas:List Addr) (ls:List (Str×Int)) (ps:List (Str×Fm)) (gs:List Int) (hs:List (List Int)) (_:vs=[.ref a,.ref b]) (_:H a=some (.ins C dx [])) (_:BookAt H b pl pp las pas ls ps) (_:Sn ls ps gs hs) (_:∀(z:Sa) (E:List (List (Int×Int))) (H':Hp),(∀c u,c≠a->H c=some u->H' c=some u)->StageAt C H' a z ls ps gs E->Q .non H'):sp_initS C vs H Q xk
inductive sp_sceneS(C:Addr)(vs:List V)(H:Hp)(Q:VK)(xk:XK):Prop
 | mk (a:Addr) (z:Sa) (ls:List (Str×Int)) (ps:List (Str×Fm)) (gs:List Int) (hs:List (List Int)) (E:List (List (Int×Int))) (t:Int) (_:vs=[.ref a,.int t]) (_:StageAt C H a z ls ps gs E) (_:Sn ls ps gs hs) (_:0<=t) (_:t<=gs.getD (ps.length-1) 0) (_:∀(r l1 l2:Addr) (as:List Addr) (P:List (Nat×Int)) (H':Hp),Same H H'->H l1=none->H l2=none->H' r=some (.tup [.ref l1,.ref l2])->H' l1=some (.lst ((strH ls ps gs E t).map V.int))->(strH ls ps gs E t).length=ls.length->(∀h∈strH ls ps gs E t,0<=h/\h<=10^18)->H' l2=some (.lst (as.map V.ref))->l1≠l2->GonAt H' as P->P.length<=5000->(∀x∈P,x.1<ps.length/\0<=x.2/\x.2<gs.getD x.1 0)->P.filter (leafB ps gs)=((reach ps gs (ps.length-1) t).filter fun x=>!ovB gs x)->Q (.ref r) H'):sp_sceneS C vs H Q xk
inductive sp_heightsS(C:Addr)(vs:List V)(H:Hp)(Q:VK)(xk:XK):Prop
 | mk (a:Addr) (z:Sa) (ls:List (Str×Int)) (ps:List (Str×Fm)) (gs:List Int) (hs:List (List Int)) (E:List (List (Int×Int))) (t:Int) (_:vs=[.ref a,.int t]) (_:StageAt C H a z ls ps gs E) (_:Sn ls ps gs hs) (_:0<=t) (_:t<=gs.getD (ps.length-1) 0) (_:∀(l:Addr) (H':Hp),Same H H'->H l=none->H' l=some (.lst ((standH ls ps gs E t).map V.int))->(standH ls ps gs E t).length=ls.length->Q (.ref l) H'):sp_heightsS C vs H Q xk
theorem FormAt.put{H H':Hp}{a:Addr}{f:Fm}(k:∀b xs,H b=some (.tup xs)->H' b=some (.tup xs))(h:FormAt H a f):FormAt H' a f:=by
 cases f with
 | row ps=>obtain⟨c,q1,q2⟩:=h;exact⟨c,k _ _ q1,k _ _ q2⟩
 | side ps=>obtain⟨c,q1,q2⟩:=h;exact⟨c,k _ _ q1,k _ _ q2⟩
 | hold n=>exact k _ _ h
 | ring x n=>exact k _ _ h
 | rise x v n=>exact k _ _ h
 | again k' x=>exact k _ _ h
theorem j2u{α:Type}{f:α->Nat}:∀{l:List α},(∀x∈l,1<=f x)->l.length<=(l.map f).sum
 | [],_=>Nat.le_refl _
 | x::r,h=>by
  have h1:=h x mem_cons_self;have h2:=j2u (l:=r) fun y hy=>h y (mem_cons_of_mem _ hy)
  rw[map_cons,sum_cons,length_cons];omega
section
variable{ls:List (Str×Int)}{ps:List (Str×Fm)}{gs:List Int}{E:List (List (Int×Int))}{D:List (Nat×Int)}{x:Nat×Int}
noncomputable def hOf(ls:List (Str×Int))(gs:List Int)(E:List (List (Int×Int)))(D:List (Nat×Int)):List Int:=(D.filter (ovB gs)).foldl (fun h x=>setE (E.getD x.1 []) h) (ls.map (·.2))
theorem kO(h:ovB gs x=false):hOf ls gs E (if leafB ps gs x=true then D++[x]else D)=hOf ls gs E D:=by
 split
 ·unfold hOf;rw[filter_append,List.filter_cons_of_neg (by rw[h];decide)];show(D.filter (ovB gs)++[]).foldl _ _=_;rw[append_nil]
 ·rfl
theorem kP(h:ovB gs x=true):hOf ls gs E (D++[x])=setE (E.getD x.1 []) (hOf ls gs E D):=by
 unfold hOf;rw[filter_append,filter_cons_of_pos h,foldl_append];rfl
theorem we(W:WfB ls ps){i:Nat}{t:Int}(c:t<gs.getD i 0):1+((wth gs t (pcB ps gs i)).map fun x=>nodes ps gs x.1 x.2).sum<=nodes ps gs i t:=by
 by_cases e:pcB ps gs i=[]
 ·rw[e,yA (.inr e)];exact Nat.le_refl _
 ·rw[Kc W (fun h=>h.elim (fun z=>by omega) e)];exact Nat.le_refl _
end
structure ScAt(ls:List (Str×Int))(ps:List (Str×Fm))(gs:List Int)(E:List (List (Int×Int)))(t0:Int)(H H':Hp)(p1 p2 p4:Addr)(pas tas:List Addr)(D P S:List (Nat×Int)):Prop where
 sm:Same H H'
 e1:H' p1=some (.lst ((hOf ls gs E D).map V.int))
 e2:H' p2=some (.lst (pas.map V.ref))
 eT:H' p4=some (.lst (tas.map V.ref))
 gP:GonAt H' pas P
 gT:GonAt H' tas S
 inv:D++S.reverse.flatMap (fun x=>reach ps gs x.1 x.2)=reach ps gs (ps.length-1) t0
 hS:∀x∈S,x.1<ps.length/\0<=x.2
 hP:P.filter (leafB ps gs)=D.filter fun x=>!ovB gs x
 bP:∀x∈P,x.1<ps.length/\0<=x.2/\x.2<gs.getD x.1 0
 bnd:P.length+(S.map fun x=>nodes ps gs x.1 x.2).sum<=5000
 ll:(hOf ls gs E D).length=ls.length
 hb:∀h∈hOf ls gs E D,0<=h/\h<=10^18
section
variable{L:List Str}{fs:List Fn}{M:List (List Int)}{gs:List Int}{names:List Str}{n:Nat}{E:List (List (Int×Int))}
theorem WU{j:Nat}{k t:Int}(g1:1<=gs.getD j 0)(k1:1<=k)(t0:0<=t)(tk:t<=k*gs.getD j 0) :
  (t/gs.getD j 0=0/\wth gs t ((j,1,0)::(if 1<k then[(j,k-1,gs.getD j 0)]else[]))=[(j,t%gs.getD j 0)])\/
  (1<=t/gs.getD j 0/\t/gs.getD j 0<k/\∃z,(z=[]\/z=[(j,gs.getD j 0)])/\wth gs t ((j,1,0)::(if 1<k then[(j,k-1,gs.getD j 0)]else[]))=(j,gs.getD j 0)::z++[(j,t%gs.getD j 0)])\/
  (t/gs.getD j 0=k/\∃z,(z=[]\/z=[(j,gs.getD j 0)])/\wth gs t ((j,1,0)::(if 1<k then[(j,k-1,gs.getD j 0)]else[]))=(j,gs.getD j 0)::z):=by
 rw[qQ,Kv g1 t0,Int.sub_zero];generalize hg:gs.getD j 0=g at *;have dm:=Int.emod_add_mul_ediv t g;have m0:=Int.emod_nonneg t (show g≠0 by omega);have m1:=Int.emod_lt_of_pos t (show 0<g by omega);have dk:t/g<=k:=by
  have:=Int.ediv_le_ediv (show 0<g by omega) tk;rw[Int.mul_ediv_cancel _ (show g≠0 by omega)]at this;exact this
 have dd:(t-g)/g=t/g-1:=by
  have:=Int.add_mul_ediv_right t (-1) (show g≠0 by omega);have e:t + -1*g=t-g:=by omega
  rw[e]at this;omega
 by_cases c:g<=t
 case neg=>
  have d0:t/g=0:=Int.ediv_eq_zero_of_lt t0 (by omega);have r0:t%g=t:=Int.emod_eq_of_lt t0 (by omega);refine .inl ⟨d0,?_⟩;rw[if_neg c,r0];split
  ·rw[qQ,yc,j0k (show t<g by omega)];rfl
  ·rw[yc];rfl
 have d1:1<=t/g:=by
  have:=Int.ediv_le_ediv (show 0<g by omega) c;rw[Int.ediv_self (show g≠0 by omega)]at this;exact this
 rw[if_pos c];have eo:ov gs t (j,k-1,g)=t/g-1:=by
  unfold ov;show(if k-1<(t-g)/gs.getD j 0 then k-1 else(t-g)/gs.getD j 0)=_;rw[hg,dd];split<;>omega
 have er:t-g-(t/g-1)*g=t%g:=by
  have:(t/g-1)*g=g*(t/g)-g:=by rw[Int.sub_mul,Int.one_mul,Int.mul_comm]
  omega
 by_cases k2:1<k
 ·rw[if_pos k2,qQ,yc,append_nil,WK (show g<=t from c),eo];show _\/(_/\_/\∃z,_/\[(j,g)]++((if 0<t/g-1 then[(j,gs.getD j 0)]else[])++(if t/g-1<k-1 then[(j,t-g-(t/g-1)*gs.getD j 0)]else[]))=_)\/(_/\∃z,_/\[(j,g)]++((if 0<t/g-1 then[(j,gs.getD j 0)]else[])++(if t/g-1<k-1 then[(j,t-g-(t/g-1)*gs.getD j 0)]else[]))=_);rw[hg,er];have hz:(if 0<t/g-1 then[(j,g)]else[])=[]\/(if 0<t/g-1 then[(j,g)]else[])=[(j,g)]:=by split<;>simp
  by_cases c2:t/g=k
  ·refine .inr (.inr ⟨c2,_,hz,?_⟩);rw[if_neg (show¬t/g-1<k-1 by omega),append_nil];rfl
  ·refine .inr (.inl ⟨d1,by omega,_,hz,?_⟩);rw[if_pos (show t/g-1<k-1 by omega)];rfl
 ·rw[if_neg k2,yc];exact .inr (.inr ⟨by omega,[],.inl rfl,rfl⟩)
end
end Rm
namespace L2
open PySem PySem.Spec PySem.W PyProof.Rows
theorem j3Z{P:Program}{w:World}{k:Key}{u:Value}(h:(mixKind P w).is k u=true):RelV (kV k) u:=by
 cases k with
 | inl i=>obtain⟨t,rfl⟩:=Value.isInt_shape (k:=i) h;exact⟨t,rfl⟩
 | inr z=>obtain⟨t,rfl⟩:=Value.isStrOf_shape (x:=z) h;exact⟨t,rfl⟩
theorem j0j:∀{ys:List V} {us:List Value},us.length=ys.length->(∀(j:Nat) (u:Value),us[j]?=some u->∃y,ys[j]?=some y/\RelV y u)->Vals ys us
 | [],[],_,_=>.nil
 | [],_::_,h,_=>by simp at h
 | _::_,[],h,_=>by simp at h
 | y::ys,u::us,h,q=>by
  obtain⟨y',e,r⟩:=q 0 u rfl;simp only[List.getElem?_cons_zero,Option.some.injEq]at e;subst e;exact .cons r (j0j (by simpa using h) fun j u hu=>by simpa using q (j+1) u (by simpa using hu))
theorem Xb{X:Cx}(hc:X.calm=true):CallR X (.type "list") (fun xs H Q=>∃(p:Addr) (kvs:List (Key×V)),xs=[.ref p]/\H p=some (.dK kvs)/\∀l,H l=none->Q (.ref l) (upd H l (.lst (kvs.map fun q=>kV q.1)))):=by
 intro pins s σ H xs us Q I r h;obtain⟨p,kvs,rfl,ep,q⟩:=h;obtain⟨u,rfl,ru⟩:=vals1 r;cases ru;obtain⟨z1,hd1,vs1,r1,dd1⟩:=KW I.hok ep;obtain⟨ed,hat⟩:=dd1.dictAt;refine kdl_call (kdl_dict (knd:=mixKind X.prog X.w) (kvs:=vs1) (ep:=ed) hd1) (I.ok.hd hc) hat (by rw[<-r1.length];exact z1) fun h' tk acc' c' hk hS hacc=>?_
 have rl:=r1.length;have rv:Vals (kvs.map fun q=>kV q.1) acc'.toList:=j0j (by rw[Array.length_toList,length_map,rl];exact hacc.1) fun j u hu=>by
  obtain⟨k,x,e,hk⟩:=hacc.2 j u (by rw[<-Array.getElem?_toList];exact hu);have hj:j<kvs.length:=by rw[rl];exact(List.getElem?_eq_some_iff.mp e).1
  obtain⟨y,e2,e3,_⟩:=r1.get (List.getElem?_eq_getElem hj);rw[e]at e2;cases e2;refine⟨kV kvs[j].1,by rw[List.getElem?_map,List.getElem?_eq_getElem hj];rfl,?_⟩;rw[e3];exact j3Z hk
 refine⟨.ref s.heap.objs.size,_,I.laid (t':=tk) hk (Nat.le_refl _) (show ObjOk X.prog X.w _ h' _ (.lst (kvs.map fun q=>kV q.1))from⟨by rw[length_map];exact z1,acc'.toList,c',rv,by rw[Array.toArray_toList];exact hS⟩),rfl,q _ (I.hok.fresh (Nat.le_refl _))⟩
noncomputable def ivK(p:Int×V):Key×V:=(Sum.inl p.1,p.2)
theorem pairsV{h:Heap}:∀{as:List Addr} {kvs:List (Int×V)},as.length=kvs.length->(∀(i:Nat) (a:Addr) (q:Int×V),as[i]?=some a->kvs[i]?=some q->∃t u,RelV q.2 u/\IsTup h a #[.int q.1 t,u])->
  ∃ps:List (Key×Value),KV (kvs.map ivK) ps/\ps.length=kvs.length/\∀(j:Nat) (kv:Key×Value),ps[j]?=some kv->∃a key,as[j]?=some a/\IsTup h a #[key,kv.2]/\keyIs kv.1 key=true
 | [],[],_,_=>⟨[],.nil,rfl,fun j kv e=>by simp at e⟩
 | [],_::_,l,_=>by simp at l
 | _::_,[],l,_=>by simp at l
 | a::as,q::kvs,l,f=>by
  obtain⟨ps,h1,h2,h3⟩:=pairsV (as:=as) (kvs:=kvs) (by simpa using l) fun i a q e1 e2=>f (i+1) a q (by simpa using e1) (by simpa using e2)
  obtain⟨t,u,ru,e⟩:=f 0 a q rfl rfl;refine⟨(Sum.inl q.1,u)::ps,.cons ⟨rfl,ru⟩ h1,by rw[length_cons,h2,length_cons],fun j kv ej=>?_⟩;cases j with
  | zero=>simp at ej;subst ej;exact⟨a,_,rfl,e,YB _ _⟩
  | succ j=>obtain⟨b,ky,b1,b2,b3⟩:=h3 j kv (by simpa using ej);exact⟨b,ky,by simpa using b1,b2,b3⟩
section
variable{X:Cx}
theorem Xa(hc:X.calm=true):CallR X (.type "dict") (fun xs H Q=>∃(p:Addr) (as:List Addr) (kvs:List (Int×V)),xs=[.ref p]/\H p=some (.lst (as.map V.ref))/\as.length=kvs.length/\
  (∀(i:Nat) (a:Addr) (q:Int×V),as[i]?=some a->kvs[i]?=some q->H a=some (.tup [.int q.1,q.2]))/\∀d,H d=none->Q (.ref d) (upd H d (.dK (mergeK [] (kvs.map ivK))))):=by
 intro pins s σ H xs us Q I r h;obtain⟨p,as,kvs,rfl,ep,hl,ht,q⟩:=h;obtain⟨u,rfl,ru⟩:=vals1 r;cases ru;obtain⟨z,its,n,rv,lv,e⟩:=I.lstM ep;have ei:=Zb rv;subst ei;rw[length_map]at z;have hp:p<s.heap.objs.size:=Heap.lt_size e;obtain⟨ps,kp,pl,pt⟩:=pairsV (h:=s.heap) hl fun i a q e1 e2=>by
  obtain⟨_,its,r',t'⟩:=I.hok a _ (ht i a q e1 e2);cases r' with
  | cons ra rr=>
   cases rr with
   | cons rb rr=>
    cases rr;obtain⟨t1,rfl⟩:=ra;exact⟨t1,_,rb,t'⟩
 refine callType_codes (Q₁:=fun obj s₁=>obj = .ref s.heap.objs.size/\s₁={s with heap:=s.heap.push {cls:=.type "dict",data:=.dict #[]}}) PySem.F.kt_called_dict (PySem.F.kt_typeCall_dict_1 (.ref p)) PySem.F.entry_dict_init (kt_code_dict_new (.ref p) ⟨rfl,rfl⟩) ?_;rintro obj s₁ ⟨rfl,rfl⟩;have hnew:(s.heap.push {cls:=.type "dict",data:=.dict #[]}).DictOf (mixKind X.prog X.w) s.heap.objs.size []:=Heap.DictOf.new s.heap;have k0:∀b o,s.heap.get? b=some o->(s.heap.push {cls:=.type "dict",data:=.dict #[]}).get? b=some o:=fun b o e=>Heap.get?_push_of_some _ e
 generalize s.heap.push {cls:=.type "dict",data:=.dict #[]}=h0 at hnew k0;refine⟨hnew.typeIs (s:={s with heap:=h0}),PySem.F.args_dict_init_2 _ _,?_⟩;unfold Builtin.«dict.__init__»;refine wpAny_bind ?_;unfold Builtin.Dict.selfAndRest;refine wpAny_bind (wpAny_notOrdered_dict (hnew.typeIs (s:={s with heap:=h0})) ?_);show wpAny (model X.prog X.w) _ (pure (s.heap.objs.size,[Value.ref p])) _ _ _;refine wpAny_pure ?_;show wpAny (model X.prog X.w) _ (Builtin.Dict.updateFrom "dict.__init__" s.heap.objs.size (.ref p) [] .none) _ _ _;unfold Builtin.Dict.updateFrom;refine wpAny_bind (wpAny_typeOf (T:="list") ⟨_,k0 _ _ e,rfl⟩ ?_);rw[if_pos (by decide)];refine wpAny_bind (noKeys (s:={s with heap:=h0}) (k0 _ _ e) rfl rfl rfl (I.ok.hd hc) fun h1 tk k1=>?_);rw[if_pos (show(none:Option Value).isNone=true from rfl)];have k01:∀b o,s.heap.get? b=some o->h1.get? b=some o:=fun b o e=>k1 b o (k0 b o e)
 have dd1:h1.DictOf (mixKind X.prog X.w) s.heap.objs.size []:=hnew.keep k1;have ld:s.heap.objs.size<h1.objs.size:=by obtain⟨_,_,_,hg,_⟩:=dd1;exact Heap.lt_size hg
 have lp:p<h1.objs.size:=Nat.lt_trans hp ld;refine wpAny_bind (wpAny_rule ?_);refine wpAny_bind (wpAny_pyIter_list (l:=p) (items:=(as.map Value.ref).toArray) ⟨_,k01 _ _ e,rfl,n,rfl⟩ ?_);refine wpAny_pure ⟨plainId_quiet zZ _,?_⟩;refine dul (knd:=mixKind X.prog X.w) (A:=X.A.in1) (d:=s.heap.objs.size) (it:=h1.objs.size) (l:=p) (items:=as.map Value.ref) (res:=.none) (I.ok.hd hc) (Nat.ne_of_lt ld) (Nat.ne_of_gt hp) (Nat.ne_of_gt lp) ps 0 [] _
  ⟨_,Heap.get?_push_size _ rfl,rfl,rfl⟩ ⟨_,Heap.get?_push_of_some _ (k01 _ _ e),rfl,n,rfl⟩ (by rw[length_map,hl,pl,Nat.zero_add]) (fun j kv ej=>?_) (dd1.push _) (by rw[length_nil,pl,<-hl,Nat.zero_add];exact z) fun h2 tk2 k2 dd2=>?_
 ·obtain⟨a,ky,b1,⟨o,b2,b3⟩,b4⟩:=pt j kv ej;have la:a<s.heap.objs.size:=Heap.lt_size b2;exact⟨a,ky,by rw[Nat.zero_add,List.getElem?_map,b1];rfl,⟨o,Heap.get?_push_of_some _ (k01 _ _ b2),b3⟩,b4,Nat.ne_of_lt la,Nat.ne_of_lt (Nat.lt_trans la ld)⟩
 ·refine⟨rfl,.ref s.heap.objs.size,upd H s.heap.objs.size (.dK (mergeK [] (kvs.map ivK))),I.laid (t':=tk2) (fun b o eb=>k2 b o (Nat.ne_of_lt (Heap.lt_size eb)) (Nat.ne_of_lt (Nat.lt_trans (Heap.lt_size eb) ld)) (Heap.get?_push_of_some _ (k01 _ _ eb))) (Nat.le_refl _) ?_,rfl,q _ (I.hok.fresh (Nat.le_refl _))⟩;have hm:=QC (kvs.map ivK) [];rw[length_nil,length_map]at hm;have hns:(s.heap.objs.size==sysModules)=false:=by
   rw[beq_eq_false_iff_ne];exact Nat.ne_of_gt I.big
  exact wR (by omega) hns (kp.merge .nil) dd2
end
section
variable{X:Cx}{pins:List (Addr×Obj)}{σ:St}{H:Hp}{s:Shared}{tg:Expr}
theorem Inv.freeze{a:Addr}{kvs:List (Key×V)}(I:Inv X pins σ H s)(e:H a=some (.dK kvs)):∃o,Inv X pins σ (upd H a (.frz o (.dK kvs))) s:=by
 obtain⟨z,hd,vs,r,o,es,ep,ho,rest⟩:=(show ObjOk X.prog X.w H s.heap a (.dK kvs)from I.hok a _ e)
 have ne:∀b u,H b=some u->u≠.dK kvs->b≠a:=fun b u q d z=>by subst z;rw[e]at q;exact d (Option.some.inj q).symm
 refine⟨o,I.step (h':=s.heap) (g':=s.gens) (d':=s.drawn) (t':=s.toks) (ch:=[]) (fun b hb=>nomatch hb) (fun b o _ _ _ e _=>e) (fun b o _ _ _ e _=>⟨o.slots,e⟩) (fun b u _ _ n=>(jh fun z=>by subst z;rw[e]at n;cases n).trans n) (fun b u _ e=>⟨u,e⟩)
  (fun b xs q=>(jh (ne _ _ q fun z=>nomatch z)).trans q) (fun b u v q=>(jh (ne _ _ q fun z=>nomatch z)).trans q) (fun b ps q=>⟨#[],by rw[jh (ne _ _ q fun z=>nomatch z),q];simp⟩) (fun m hm=>hm) (fun b u q=>?_) I.bare⟩
 by_cases hb:b=a
 ·subst hb;rw[jA]at q;cases q;exact⟨ho,z,hd,vs,r,o,es,ep,ho,rest⟩
 ·rw[jh hb]at q;exact(I.hok b u q).stay (fun c v _ q=>q) (fun c q=>(jh (ne _ _ q fun z=>nomatch z)).trans q) fun c ys q=>(jh (ne _ _ q fun z=>nomatch z)).trans q
def Frz(as:List Addr)(H H':Hp):Prop:=(∀b,b∉as->H' b=H b)/\∀b∈as,∀kvs,H b=some (.dK kvs)->∃o,H' b=some (.frz o (.dK kvs))
theorem Inv.freezeAll:∀(as:List Addr) {H:Hp},Inv X pins σ H s->as.Nodup->(∀b∈as,∃kvs,H b=some (.dK kvs))->∃H',Inv X pins σ H' s/\Frz as H H'
 | [],H,I,_,_=>⟨H,I,fun _ _=>rfl,fun b hb=>nomatch hb⟩
 | a::as,H,I,nd,h=>by
  rw[nodup_cons]at nd;obtain⟨kvs,e⟩:=h a mem_cons_self;obtain⟨o,I1⟩:=I.freeze e;have ne:∀b∈as,b≠a:=fun b hb z=>nd.1 (by rw[<-z];exact hb)
  obtain⟨H',I2,f1,f2⟩:=Inv.freezeAll as I1 nd.2 fun b hb=>by
   obtain⟨k,q⟩:=h b (mem_cons_of_mem _ hb);exact⟨k,(jh (ne b hb)).trans q⟩
  refine⟨H',I2,fun b hb=>?_,fun b hb k q=>?_⟩
  ·rw[f1 b fun z=>hb (mem_cons_of_mem _ z),jh fun z=>hb (by rw[z];exact mem_cons_self)]
  ·rcases mem_cons.mp hb with rfl | hb
   ·rw[e]at q;cases q;exact⟨o,(f1 b nd.1).trans jA⟩
   ·exact f2 b hb k ((jh (ne b hb)).trans q)
def tFrz(te:TE):TE:=fun σ H Q=>te σ H fun v H1=>∃as:List Addr,as.Nodup/\(∀b∈as,∃kvs,H1 b=some (.dK kvs))/\∀H2,Frz as H1 H2->Q v H2
theorem j4y{e:Expr}{te:TE}(h:PE X e te):PE X e (tFrz te):=by
 intro pins s σ H Q I q;refine thn (h pins s σ H _ I q) fun v s1 ⟨x,H1,I1,r1,as,nd,hs,q1⟩=>?_
 obtain⟨H2,I2,f2⟩:=I1.freezeAll as nd hs;exact⟨x,H2,I2,r1,q1 H2 f2⟩
def Itk(a:Addr)(o:Obj)(kvs:List (Key×V)):It:=
 ⟨fun i H=>H a=some (.frz o (.dK kvs))/\i<kvs.length,fun i H x H'=>H'=H/\∃q,kvs[i]?=some q/\x=kV q.1,fun i H=>H a=some (.frz o (.dK kvs))/\kvs.length<=i⟩
theorem kN{a:Addr}{o:Obj}{kvs:List (Key×V)}(I:Inv X pins σ H s)(e:H a=some (.frz o (.dK kvs))){es:Array DictEntry}{ep:Nat}(hd:o.data = .dict es ep):kvs.length<=sizeLine/\(a==sysModules)=false/\∃vs,KV kvs vs/\s.heap.DictAt (mixKind X.prog X.w) a vs ep:=by
 obtain⟨ho,z,h0,vs,r,o',es',ep',ho',c1,c2,c3⟩:=(show ObjOk X.prog X.w H s.heap a (.frz o (.dK kvs))from I.hok a _ e)
 rw[ho]at ho';cases ho';rw[hd]at c2;cases c2;exact⟨z,h0,vs,r,o,es,ho,c1,hd,c3⟩
theorem j17{P:Program}{w:World}{K:Frg}{tg:Expr}(a it:Addr)(o:Obj)(kvs:List (Key×V))(es:Array DictEntry)(ep:Nat)(hd:o.data = .dict es ep):Turn P w K tg (Itk a o kvs) [it] it (fun i h=>h.IsKeyIter it a i kvs.length ep) where
 mem:=by simp
 obj:=fun i h st b hb=>by
  have e:b=it:=by simpa using hb
  subst e;obtain⟨o,e,c,d⟩:=st;exact⟨o,e,fun v z=>by rw[d]at z;cases z⟩
 keep:=fun i h h' st k=>st.at fun o e=>k it (by simp) o e
 item:=by
  intro X hP hw hK hc i pins s σ H E I hf st hg;subst hP hw hK;obtain⟨hq,hi⟩:=hg;obtain⟨z,h0,vs,rv,dd⟩:=kN I hq hd;have hx:=List.getElem?_eq_getElem hi;obtain⟨y,e2,e3,_⟩:=rv.get hx;obtain⟨f0,f1,f2,f3,f4,f5⟩:=hf it (by simp);rw[rv.length]at st;refine wpAny_pyNext_dict_item st dd (k:=y.1) (v:=y.2) e2 fun key h' hk st' sb=>?_
  have I1:Inv X pins σ H {s with heap:=h'}:=I.turned (t':=s.toks) (fun b o hb e=>(sb.2 b hb).trans e) f0 f1 f3 f4 f5;refine⟨key,rfl,letGo_keyiter (s':={s with heap:=h'}) st' ⟨kV kvs[i].1,H,I1,by rw[e3];exact j3Z hk,⟨rfl,_,hx,rfl⟩,by rw[rv.length];exact st',fun b hb=>(hf b hb).1⟩⟩
 done:=by
  intro X hP hw hK hc i pins s σ H E I hf st hg;subst hP hw hK;obtain⟨hq,hi⟩:=hg;obtain⟨z,h0,vs,rv,dd⟩:=kN I hq hd;obtain⟨f0,f1,f2,f3,f4,f5⟩:=hf it (by simp);rw[rv.length]at st hi;exact wpAny_pyNext_dict_end (I.ok.hd hc) st dd (List.getElem?_eq_none hi) fun h' eb=>⟨rfl,I.turned (t':=s.toks) (fun b o hb e=>eb b o hb e) f0 f1 f3 f4 f5⟩
 self:=fun _ _ _ _ _ st h=>wpAny_pyIter_keyiter st h
def iDict(tl:TE):TI:=fun σ H R=>tl σ H fun x H1=>∃a o kvs,x = .ref a/\H1 a=some (.frz o (.dK kvs))/\R (Itk a o kvs) H1
theorem j3y{l:Expr}{tl:TE}(hl:PE X l tl):PI X tg l (iDict tl):=by
 intro pins s σ H R I h;refine thn (hl pins s σ H _ I h) fun v s1 ⟨x,H1,I1,r1,q1⟩=>?_
 obtain⟨a,o,kvs,e,hq,q⟩:=q1;subst e;cases r1;obtain⟨ho,_,_,_,_,o',es,ep,ho',_,hd,_⟩:=(show ObjOk X.prog X.w H1 s1.heap a (.frz o (.dK kvs))from I1.hok a _ hq)
 rw[ho]at ho';cases ho';obtain⟨z,h0,vs,rv,dd⟩:=kN I1 hq hd;refine wpAny_pyIter_dict h0 dd ?_;rw[<-rv.length];refine⟨s1.heap.objs.size,[s1.heap.objs.size],_,_,H1,rfl,I1.kept (t':=s1.toks) fun b o e=>Heap.get?_push_of_some _ e,j17 a _ o kvs es ep hd,⟨_,Heap.get?_push_size _ rfl,rfl,rfl⟩,fun b hb=>?_,q⟩;have e:b=s1.heap.objs.size:=by simpa using hb
 subst e;exact I1.fpOk (Nat.le_refl _) (I1.hok.fresh (Nat.le_refl _))
end
theorem j0r{a:Addr}{o:Obj}{kvs:List (Key×V)}{k:Nat}{ci:List Nat}{g:TG}{tf:TT}{te:TE}{σ:St}{H:Hp}{Z:Addr->List V->Hp->Prop}(Pv:Nat->List V->Hp->Prop)(h0:Pv 0 [] H)(hl:∀i ys H,i<=kvs.length->Pv i ys H->H a=some (.frz o (.dK kvs)))
  (hs:∀i q ys H,kvs[i]?=some q->Pv i ys H->g (kV q.1) (capS k ci σ) H fun σ2 H2=>tf σ2 H2 fun b H3=>if b=true then te σ2 H3 fun v H4=>ys.length<sizeLine/\Pv (i+1) (ys++[v]) H4 else Pv (i+1) ys H3)
  (hd:∀ys H,Pv kvs.length ys H->ys.length<=sizeLine/\∀p,H p=none->Z p ys H) :
  ∃W:Nat->Nat->List V->Hp->Prop,(∃m,W 0 m [] H)/\∀i m ys H,W i m ys H->
   ((Itk a o kvs).stop i H/\ys.length<=sizeLine/\∀p,H p=none->Z p ys H)\/
   ((Itk a o kvs).go i H/\∃N:List V->Hp->Prop,(∀ys' H',N ys' H'->∃m',m'<m/\W (i+1) m' ys' H')/\∀x H',(Itk a o kvs).yld i H x H'->g x (capS k ci σ) H' fun σ2 H2=>tf σ2 H2 fun b H3=>
    if b=true then te σ2 H3 fun v H4=>ys.length<sizeLine/\N (ys++[v]) H4 else N ys H3):=by
 refine⟨fun i m ys H=>m=kvs.length-i/\i<=kvs.length/\Pv i ys H,⟨kvs.length,by simp,Nat.zero_le _,h0⟩,?_⟩;rintro i m ys H ⟨rfl,hi,p⟩;have q:=hl i ys H hi p;by_cases hlt:i<kvs.length
 ·refine .inr ⟨⟨q,hlt⟩,Pv (i+1),fun ys' H' p'=>⟨kvs.length-(i+1),by omega,rfl,hlt,p'⟩,fun x H' y=>?_⟩;obtain⟨e,z,y,rfl⟩:=y;subst e;exact hs i z ys _ y p
 ·have e:i=kvs.length:=by omega
  subst e;exact .inl ⟨⟨q,Nat.le_refl _⟩,hd ys H p⟩
section
variable{σ:St}{H:Hp}{Q:VK}
theorem j2e{td ty:TE}(h:td σ H fun x H1=>∃a,x = .ref a/\IsD H1 a/\ty σ H1 fun y H2=>∃o,DGet H2 a y o/\Q (o.getD .non) H2):tDGet1 td ty σ H Q:=h
theorem j4C{te:TE}(h:te σ H fun v H1=>∃as:List Addr,as.Nodup/\(∀b∈as,∃kvs,H1 b=some (.dK kvs))/\∀H2,Frz as H1 H2->Q v H2):tFrz te σ H Q:=h
theorem j2f{tl:TE}{R:It->Hp->Prop}(h:tl σ H fun x H1=>∃a o kvs,x = .ref a/\H1 a=some (.frz o (.dK kvs))/\R (Itk a o kvs) H1):iDict tl σ H R:=h
end
def tNotT(K:Frg)(ta:TE):TE:=fun σ H Q=>ta σ H fun x H'=>∃k,TruV K x H' k/\Q (.bl (!k)) H'
theorem j3w{X:Cx}{a:Expr}{ta:TE}{pos:Pos}(ha:PE X a ta):PE X (.UnaryOp .Not a pos) (tNotT X.K ta):=by
 intro pins s σ H Q I h;refine UnaryOp_ (thn (ha pins s σ H _ I h) fun v s1 ⟨x,H1,I1,r1,k,t1,q1⟩=>?_);refine not_of (wpAny_mono (j2A pins s1 σ H1 x v (fun b H'=>b=k/\H'=H1) I1 r1 ⟨k,t1,rfl,rfl⟩) (fun c s2 h2=>?_) fun _ _ e=>e);obtain⟨H2,I2,rfl,rfl⟩:=h2;exact⟨.bl (!c),H2,I2,rfl,q1⟩
theorem j3D{K:Frg}{ta:TE}{σ:St}{H:Hp}{Q:VK}(h:ta σ H fun x H'=>∃k,TruV K x H' k/\Q (.bl (!k)) H'):tNotT K ta σ H Q:=h
section
variable{prog:Program}{w:World}{A:Around}{E:Value->Shared->Prop}{s:Shared}
end
noncomputable def ltP(p q:Int×Int):Bool:=decide (p.1<q.1\/p.1=q.1/\p.2<q.2)
theorem j41{prog:Program}{w:World}{A:Around}{E:Value->Shared->Prop}{s:Shared}{a b:Int}{t u:Tok}{Q:Value->Shared->Prop}(h:Q (.bool (decide (a<b))) s):wpAny (model prog w) A (richCompare .Lt (.int a t) (.int b u)) Q E s:=
 richCompare_gives (op:=.Lt) (typeIs_int s _ t) (typeIs_int s _ u) F.slot_int_lt F.entry_int_lt (F.args_int_lt_2 _ _) (gives_int_lt _ _ t u) (fun x=>nomatch x) h
theorem j16(l b:Addr)(p q:Int×Int)(t1 t2 u1 u2:Tok)(n n2:Nat)(dd dd2:Option Addr)(sl sl2:Array (Option Value)) :
  Meets (Builtin.«tuple.__lt__» ⟨[.ref l,.ref b],[]⟩)
   (fun A R s=>s.heap.get? l=some {cls:=.type "tuple",dict:=dd,data:=.seq #[.int p.1 t1,.int p.2 t2] n,slots:=sl}/\s.heap.get? b=some {cls:=.type "tuple",dict:=dd2,data:=.seq #[.int q.1 u1,.int q.2 u2] n2,slots:=sl2}/\
    R (.ok (.ret (.bool (ltP p q)))) s):=
 .of_wp fun prog w A R s h=>by
  obtain⟨hp,g,d,tk,os⟩:=s;obtain⟨hl,hb,h⟩:=h;have f2:=AutoSeq1.sub_tuple_tuple
  wp_walk using wpAny_loadPart' hl,wpAny_loadPart' hb
  refine wpAny_eqBool_int ?_;by_cases c:p.1=q.1
  ·rw[show(p.1==q.1)=true by rw[c];exact beq_self_eq_true _]
   wp_walk
   refine wpAny_eqBool_int ?_;by_cases c2:p.2=q.2
   ·rw[show(p.2==q.2)=true by rw[c2];exact beq_self_eq_true _];have e:ltP p q=false:=decide_eq_false (by omega);rw[e]at h
    wp_walk
    exact⟨_,rfl,h⟩
   ·rw[show(p.2==q.2)=false from beq_false_of_ne c2];have e:ltP p q=decide (p.2<q.2):=by unfold ltP;rw[decide_eq_decide];omega
    rw[e]at h
    wp_walk using j41
    exact⟨_,rfl,h⟩
  ·rw[show(p.1==q.1)=false from beq_false_of_ne c];have e:ltP p q=decide (p.1<q.1):=by unfold ltP;rw[decide_eq_decide];omega
   rw[e]at h
   wp_walk using j41
   exact⟨_,rfl,h⟩
def PrH(h:Heap)(as:List Addr)(ps:List (Int×Int)):Prop:=as.length=ps.length/\∀(i:Nat) (a:Addr) (q:Int×Int),as[i]?=some a->ps[i]?=some q->∃t u,IsTup h a #[.int q.1 t,.int q.2 u]
theorem PrH.keep{h h':Heap}{as:List Addr}{ps:List (Int×Int)}(x:PrH h as ps)(k:∀a∈as,∀o,h.get? a=some o->h'.get? a=some o):PrH h' as ps:=
 ⟨x.1,fun i a q e1 e2=>by
  obtain⟨t,u,o,e,r⟩:=x.2 i a q e1 e2;exact⟨t,u,o,k a (List.mem_of_getElem? e1) o e,r⟩⟩
theorem j3C{prog:Program}{w:World}{A:Around}{E:Value->Shared->Prop}{s:Shared}{a b:Addr}{p q:Int×Int}{t1 t2 u1 u2:Tok}{Q:Value->Shared->Prop}(ha:IsTup s.heap a #[.int p.1 t1,.int p.2 t2])(hb:IsTup s.heap b #[.int q.1 u1,.int q.2 u2])(hu:A.units<cLine)
  (h:Q (.bool (ltP p q)) s):wpAny (model prog w) A (richCompare .Lt (.ref a) (.ref b)) Q E s:=by
 obtain⟨⟨cls,dd,data,sl⟩,ho,hc,n,hd⟩:=ha;obtain⟨⟨cls2,dd2,data2,sl2⟩,ho2,hc2,n2,hd2⟩:=hb;simp only at hc hd hc2 hd2;subst hc hd hc2 hd2;exact richCompare_meets_room (op:=.Lt) ⟨_,ho,rfl⟩ ⟨_,ho2,rfl⟩ F.slot_tuple_lt F.entry_tuple_lt (F.args_tuple_lt_2 _ _) (j16 a b p q t1 t2 u1 u2 n n2 dd dd2 sl sl2) ⟨ho,ho2,(fun x=>nomatch x),h⟩ hu
def Lst(ps:List (Int×Int))(i b:Nat):Prop:=b<i/\∀j,j<i->ltP (ps.getD j (0,0)) (ps.getD b (0,0))=false
theorem X9(p:Int×Int):ltP p p=false:=decide_eq_false (by omega)
theorem Lst.step{ps:List (Int×Int)}{i b:Nat}(h:Lst ps i b):Lst ps (i+1) (if ltP (ps.getD i (0,0)) (ps.getD b (0,0))=true then i else b):=by
 by_cases c:ltP (ps.getD i (0,0)) (ps.getD b (0,0))=true
 ·rw[if_pos c];refine⟨Nat.lt_succ_self i,fun j hj=>?_⟩;rcases Nat.lt_or_ge j i with z | z
  ·have h1:=h.2 j z;unfold ltP at *;rw[decide_eq_true_eq]at c;rw[decide_eq_false_iff_not]at *;omega
  ·have:j=i:=by omega
   subst this;exact X9 _
 ·rw[if_neg c];refine⟨Nat.lt_succ_of_lt h.1,fun j hj=>?_⟩;rcases Nat.lt_or_ge j i with z | z
  ·exact h.2 j z
  ·have:j=i:=by omega
   subst this;exact Bool.eq_false_iff.mpr c
section
variable{prog:Program}{w:World}{A:Around}{R:Result->Shared->Prop}{I S l:Addr}{as:List Addr}{ps:List (Int×Int)}
noncomputable def lobj(xs:Array Value)(c:Nat):Obj:={cls:=.type "list",dict:=none,data:=.seq xs c,slots:=#[]}
theorem j0J(hh:A.handled=none)(hu:A.units+1<cLine)(n1:S≠I)(n2:l≠I)(n3:l≠S)(na:∀a∈as,a≠I/\a≠S) :
  ∀(m i b:Nat) (s:Shared) (v:Value) (c:Nat),m+i=as.length->PrH s.heap as ps->s.heap.IsListIter I l i->s.heap.IsList l (as.map Value.ref).toArray->Lst ps i b->(as.map Value.ref)[b]?=some v->s.heap.get? S=some (lobj #[v,v] c)->
  (∀b' v' h' tk,Lst ps as.length b'->(as.map Value.ref)[b']?=some v'->(∀x o,x≠I->x≠S->s.heap.get? x=some o->h'.get? x=some o)->R (.ok (.ret v')) {s with heap:=h',toks:=tk})->
  codeAny (model prog w) A (.builtin "min.loop" ⟨[.ref I,.none,.ref S],[]⟩) R s:=by
 have nm:(toString "min"++toString ".loop" : String) = "min.loop":=by decide
 have ina:A.in1.handled=none:=hh;intro m
 induction m with
 | zero=>
  intro i b s v c hm hp hi hl hb hv hS hR;refine codeAny_builtin F.entry_min_loop ?_;rw[Around.under_plainId F.plain_min_loop _];show wpAny _ A.in1 (seqItems? (.ref S) >>= _) _ _ s;refine wpAny_bind (wpAny_seqItems hS rfl ?_);show wpAny _ A.in1 (tryCatch (pyNext (.ref I)) _ >>= _) _ _ s;refine wpAny_bind (wpAny_tryCatch (wpAny_pyNext_list_end ina hi hl (by simp;omega) fun h1 k1=>?_));have S1:=k1 S _ n1 hS;show wpAny _ A.in1 (updateSeq S (fun _=>#[]) >>= _) _ _ _;refine wpAny_bind ?_;refine wpAny_updateSeq S1 rfl (wpAny_bind (wpAny_letGo (wpAny_pure ?_)));have e:i=as.length:=by omega
  subst e;exact hR b v _ s.toks hb hv fun x o x1 x2 e=>(Heap.get?_update_other _ _ (Ne.symm x2)).trans (k1 x o x1 e)
 | succ m ih=>
  intro i b s v c hm hp hi hl hb hv hS hR;have il:i<as.length:=by omega
  have hx:as[i]?=some as[i]:=List.getElem?_eq_getElem il;have hq:ps[i]?=some (ps.getD i (0,0)):=by
   have:=hp.1;rw[getD_eq_getElem?_getD,List.getElem?_eq_getElem (by omega)];rfl
  have hqb:ps[b]?=some (ps.getD b (0,0)):=by
   have:=hp.1;have:=hb.1;rw[getD_eq_getElem?_getD,List.getElem?_eq_getElem (by omega)];rfl
  rw[List.getElem?_map]at hv;obtain⟨ab,hab,rfl⟩:=Option.map_eq_some_iff.mp hv;refine codeAny_builtin F.entry_min_loop ?_;rw[Around.under_plainId F.plain_min_loop _];show wpAny _ A.in1 (seqItems? (.ref S) >>= _) _ _ s;refine wpAny_bind (wpAny_seqItems hS rfl ?_);show wpAny _ A.in1 (tryCatch (pyNext (.ref I)) _ >>= _) _ _ s;refine wpAny_bind (wpAny_tryCatch (wpAny_pyNext_list_item hi hl (x:=.ref as[i]) (by simp[il]) fun h1 i1 sb=>?_));have k1:∀x o,x≠I->s.heap.get? x=some o->h1.get? x=some o:=fun x o x1 e=>(sb.2 x x1).trans e
  have S1:=k1 S _ n1 hS;have p1:PrH h1 as ps:=hp.keep fun a ha o e=>k1 a o (na a ha).1 e
  have l1:h1.IsList l (as.map Value.ref).toArray:=by
   obtain⟨o,e,r⟩:=hl;exact⟨o,k1 l o n2 e,r⟩
  obtain⟨t1,t2,ta⟩:=p1.2 i _ _ hx hq;obtain⟨u1,u2,tb⟩:=p1.2 b _ _ hab hqb;show wpAny _ A.in1 (tryCatch (holding [Value.ref as[i],Value.ref as[i]] (richCompare .Lt (.ref as[i]) (.ref ab) >>= _)) _ >>= _) _ _ _;refine wpAny_bind (wpAny_tryCatch (wpAny_holding (wpAny_bind (j3C (s:={s with heap:=h1}) ta tb hu ?_))));refine wpAny_bind (wpAny_holding (wpAny_truthy_bool ?_));refine wpAny_bind (wpAny_letGo (wpAny_pure ?_));have step:=hb.step;cases hc:ltP (ps.getD i (0,0)) (ps.getD b (0,0))with
  | true=>
   rw[hc,if_pos rfl]at step;simp only[if_true];refine wpAny_bind ?_;refine wpAny_updateSeq S1 rfl (wpAny_bind (wpAny_letGo ?_));rw[nm];have kS:∀x o,x≠S->h1.get? x=some o->(h1.update S (Obj.mapSeq fun _=>#[Value.ref as[i],Value.ref as[i]])).get? x=some o:=fun x o x2 e=>(Heap.get?_update_other _ _ (Ne.symm x2)).trans e
   refine wpAny_pure ⟨plainId_quiet F.plain_min_loop _,ih (i+1) i _ (.ref as[i]) _ (by omega) (p1.keep fun a ha o e=>kS a o (na a ha).2 e) (i1.at fun o e=>kS I o (Ne.symm n1) e) ?_ step (by rw[List.getElem?_map,hx];rfl) (Heap.get?_update_self _ S1 rfl) fun b' v' h' tk z1 z2 z3=>?_⟩
   ·obtain⟨o,e,r⟩:=l1;exact⟨o,kS l o n3 e,r⟩
   ·exact hR b' v' h' tk z1 z2 fun x o x1 x2 e=>z3 x o x1 x2 (kS x o x2 (k1 x o x1 e))
  | false=>
   rw[hc,if_neg Bool.false_ne_true]at step;simp only[Bool.false_eq_true,if_false];refine wpAny_bind (wpAny_letGo ?_);rw[nm];refine wpAny_pure ⟨plainId_quiet F.plain_min_loop _,ih (i+1) b _ (.ref ab) c (by omega) p1 i1 l1 step (by rw[List.getElem?_map,hab];rfl) S1 fun b' v' h' tk z1 z2 z3=>?_⟩;exact hR b' v' h' tk z1 z2 fun x o x1 x2 e=>z3 x o x1 x2 (k1 x o x1 e)
end
section
variable{prog:Program}{w:World}{A:Around}{E:Value->Shared->Prop}{s:Shared}{l:Addr}{as:List Addr}{ps:List (Int×Int)}
theorem j0I{Q:Value->Shared->Prop}(hh:A.handled=none)(hu:A.units+1<cLine)(h1:1<=as.length)(hl:s.heap.IsList l (as.map Value.ref).toArray)(hp:PrH s.heap as ps)
  (h:∀b v h' tk,Lst ps as.length b->(as.map Value.ref)[b]?=some v->(∀x o,s.heap.get? x=some o->h'.get? x=some o)->Q v {s with heap:=h',toks:=tk}) :
  wpAny (model prog w) A (call (.builtin "min") [.ref l]) Q E s:=by
 have nm:(toString "min"++toString ".loop" : String) = "min.loop":=by decide
 have ll:l<s.heap.objs.size:=by obtain⟨_,e,_⟩:=hl;exact Heap.lt_size e
 have la:∀a∈as,a<s.heap.objs.size:=fun a ha=>by
  obtain⟨i,hi,e⟩:=mem_iff_getElem.mp ha;have:=hp.1;obtain⟨t,u,o,eo,_⟩:=hp.2 i a _ (by rw[List.getElem?_eq_getElem hi,e]) (List.getElem?_eq_getElem (by omega));exact Heap.lt_size eo
 refine call_function_tree F.kind_min F.plain_min F.entry_min (F.args_min1 _) ?_;show wpAny _ A.in1 (Builtin.Builtins.bindParams "min" ["key","default"] 0 ⟨[],[]⟩ >>= _) _ _ s;refine wpAny_bind (wpAny_of_eq (show Builtin.Builtins.bindParams "min" ["key","default"] 0 ⟨[],[]⟩=pure [none,none]from rfl) ?_);refine wpAny_bind (wpAny_pure ?_);refine wpAny_bind (wpAny_pyIter_list hl ?_);refine wpAny_bind (wpAny_newObj_type ?_);rw[nm];generalize hs2:s.heap.push _=h2;have k2:∀b o,s.heap.get? b=some o->h2.get? b=some o:=fun b o e=>hs2▸Heap.get?_push_of_some _ e
 have z2:h2.objs.size=s.heap.objs.size+1:=by rw[<-hs2,Heap.size_push]
 have i2:h2.IsListIter s.heap.objs.size l 0:=hs2▸⟨_,Heap.get?_push_size _ rfl,rfl,rfl⟩;clear hs2;have big:∀b,b<s.heap.objs.size->b≠s.heap.objs.size/\b≠h2.objs.size:=fun b hb=>⟨Nat.ne_of_lt hb,fun z=>Nat.lt_irrefl b (Nat.lt_of_lt_of_le hb (by rw[z,z2];exact Nat.le_succ _))⟩
 have nSI:h2.objs.size≠s.heap.objs.size:=by rw[z2];exact Nat.succ_ne_self _
 generalize hs3:h2.push _=h3;have hS3:h3.get? h2.objs.size=some (lobj #[] 0):=hs3▸Heap.get?_push_size _ rfl;have k3:∀b o,h2.get? b=some o->h3.get? b=some o:=fun b o e=>hs3▸Heap.get?_push_of_some _ e
 clear hs3;have i3:=i2.at fun o e=>k3 _ o e
 have k03:∀b o,s.heap.get? b=some o->h3.get? b=some o:=fun b o e=>k3 b o (k2 b o e)
 have l3:h3.IsList l (as.map Value.ref).toArray:=by obtain⟨o,e,r⟩:=hl;exact⟨o,k03 l o e,r⟩
 have p3:PrH h3 as ps:=hp.keep fun a _ o e=>k03 a o e
 refine wpAny_pure ⟨plainId_quiet F.plain_min_loop _,?_⟩;refine codeAny_builtin F.entry_min_loop ?_;rw[Around.under_plainId F.plain_min_loop _];show wpAny _ A.in1 (seqItems? (.ref h2.objs.size) >>= _) _ _ _;refine wpAny_bind (wpAny_seqItems (s:={s with heap:=h3}) hS3 rfl ?_);show wpAny _ A.in1 (tryCatch (pyNext (.ref s.heap.objs.size)) _ >>= _) _ _ _;have h0:0<as.length:=h1;refine wpAny_bind (wpAny_tryCatch (wpAny_pyNext_list_item (s:={s with heap:=h3}) i3 l3 (x:=.ref as[0]) (by simp[h0]) fun h4 i4 sb=>?_));have k4:∀x o,x≠s.heap.objs.size->h3.get? x=some o->h4.get? x=some o:=fun x o x1 e=>(sb.2 x x1).trans e
 have S4:=k4 _ _ nSI hS3;show wpAny _ A.in1 (updateSeq h2.objs.size (fun _=>#[Value.ref as[0],Value.ref as[0]]) >>= _) _ _ _;refine wpAny_bind ?_;refine wpAny_updateSeq S4 rfl ?_;rw[nm];have k5:∀x o,x≠s.heap.objs.size->x≠h2.objs.size->h3.get? x=some o->(h4.update h2.objs.size (Obj.mapSeq fun _=>#[Value.ref as[0],Value.ref as[0]])).get? x=some o:=fun x o x1 x2 e=>(Heap.get?_update_other _ _ (Ne.symm x2)).trans (k4 x o x1 e)
 refine wpAny_pure ⟨plainId_quiet F.plain_min_loop _,j0J (I:=s.heap.objs.size) (S:=h2.objs.size) (l:=l) (as:=as) (ps:=ps) hh hu nSI (big l ll).1 (big l ll).2 (fun a ha=>big a (la a ha)) (as.length-1) 1 0 _ (.ref as[0]) _ (by omega)
  (p3.keep fun a ha o e=>k5 a o (big a (la a ha)).1 (big a (la a ha)).2 e) (i4.at fun o e=>(Heap.get?_update_other _ _ nSI).trans e) ?_ ⟨Nat.lt_succ_self 0,fun j hj=>?_⟩ (by rw[List.getElem?_map,List.getElem?_eq_getElem h0];rfl) (Heap.get?_update_self _ S4 rfl) fun b v h' tk z1 z2 z3=>?_⟩
 ·obtain⟨o,e,r⟩:=l3;exact⟨o,k5 l o (big l ll).1 (big l ll).2 e,r⟩
 ·have:j=0:=by omega
  subst this;exact X9 _
 ·exact h b v h' tk z1 z2 fun x o e=>z3 x o (big x (Heap.lt_size e)).1 (big x (Heap.lt_size e)).2 (k5 x o (big x (Heap.lt_size e)).1 (big x (Heap.lt_size e)).2 (k03 x o e))
end
theorem j0q{X:Cx}(hc:X.calm=true)(hu:X.A.units+1<cLine):CallR X (.builtin "min") (fun xs H Q=>∃(p:Addr) (as:List Addr) (ps:List (Int×Int)),xs=[.ref p]/\H p=some (.lst (as.map V.ref))/\1<=as.length/\as.length=ps.length/\
  (∀(i:Nat) (a:Addr) (q:Int×Int),as[i]?=some a->ps[i]?=some q->H a=some (.tup [.int q.1,.int q.2]))/\∀(b:Nat) (a:Addr),as[b]?=some a->Lst ps as.length b->Q (.ref a) H):=by
 intro pins s σ H xs us Q I r h;obtain⟨p,as,ps,rfl,hx,h1,hl,ht,q⟩:=h;obtain⟨u,rfl,rx⟩:=vals1 r;cases rx;obtain⟨its,r',pl,_⟩:=I.list (.inl (.inl hx));have ei:=Zb r';subst ei;refine j0I (I.ok.hd hc) hu h1 pl.isList ⟨hl,fun i a q e1 e2=>?_⟩ fun b v h' tk z1 z2 z3=>?_
 ·obtain⟨_,its,r',t'⟩:=I.hok a _ (ht i a q e1 e2);cases r' with
  | cons ra rr=>
   cases rr with
   | cons rb rr=>
    cases rr;obtain⟨t1,rfl⟩:=ra;obtain⟨t2,rfl⟩:=rb;exact⟨t1,t2,t'⟩
 ·rw[List.getElem?_map]at z2;obtain⟨a,ha,rfl⟩:=Option.map_eq_some_iff.mp z2;exact⟨.ref a,H,I.kept (t':=tk) z3,rfl,q b a ha z1⟩
end L2
namespace Pr
open PySem L2
noncomputable def rjV(s g b m:Int):V:=
 if m<(if(g-s)/b<0 then -((g-s)/b)else(g-s)/b)then .int 0
 else if 0<(g-s)%b/\m<(g-s)/b+1 then .int ((b-1)/((g-s)%b))else .non
def Yk:Sp:=fun vs H Q _=>∃s g b m:Int,vs=[.int s,.int g,.int b,.int m]/\0<=s/\s<=10^18/\0<=g/\g<=10^18/\1<=b/\b<=10^18/\0<=m/\m<=10^19/\Q (rjV s g b m) H
end Pr
namespace Rm
open PySem PySem.Spec PyProof.Rows L2
section
variable{κ:Type}[DecidableEq κ]
theorem W8(kvs:List (κ×V))(k:κ)(v:V):(putK kvs k v).map (·.1)=if(valV kvs k).isSome then kvs.map (·.1)else kvs.map (·.1)++[k]:=by
 unfold putK;rw[Q0];split
 ·rw[map_map];refine map_congr_left fun q _=>?_
  show(if q.1=k then(q.1,v)else q).1=q.1;split<;>rfl
 ·rw[map_append];rfl
theorem j3R{kvs:List (κ×V)}{k:κ}(h:k∈kvs.map (·.1)):(valV kvs k).isSome=true:=by
 cases e:valV kvs k with
 | none=>exact absurd h (xR e)
 | some x=>rfl
theorem j4t{kvs:List (κ×V)}{k:κ}(v:V)(hn:(kvs.map (·.1)).Nodup):((putK kvs k v).map (·.1)).Nodup:=by
 cases e:valV kvs k with
 | none=>exact j3k v hn e
 | some x=>rw[W8,e];exact hn
theorem wj{α:Type}[DecidableEq α]:∀{l m:List α},l.Nodup->(∀x∈l,x∈m)->l.length<=m.length
 | [],m,_,_=>Nat.zero_le _
 | a::l,m,nd,h=>by
  rw[nodup_cons]at nd;have ha:=h a mem_cons_self;have:=wj (l:=l) (m:=m.erase a) nd.2 fun x hx=>(List.mem_erase_of_ne (fun z:x=a=>nd.1 (by rw[<-z];exact hx))).mpr (h x (mem_cons_of_mem _ hx))
  rw[List.length_erase_of_mem ha]at this;have:=length_pos_of_mem ha;rw[length_cons];omega
end
noncomputable abbrev Tb:=List (Key×V)
def Has(B:List Tb)(i:Nat)(h:Int):Prop:=(valV (B.getD i []) (Sum.inl h)).isSome=true
noncomputable def lef(L:List (Option Int))(i:Nat):Int:=(L.getD i none).getD 0
noncomputable def Run(L:List (Option Int))(B:List Tb):Int->List Pc->Prop
 | _,[]=>True
 | h,q::r=>Has B q.1 h/\Run L B (lef L q.1) r
noncomputable def nowH(L:List (Option Int)):Int->List Pc->Int
 | h,[]=>h
 | _,q::r=>nowH L (lef L q.1) r
theorem Run.snoc{L:List (Option Int)}{B:List Tb}{q:Pc}:∀{r:List Pc} {h:Int},Run L B h r->Has B q.1 (nowH L h r)->Run L B h (r++[q])
 | [],_,_,k=>⟨k,trivial⟩
 | _::_,_,h,k=>⟨h.1,Run.snoc h.2 k⟩
theorem wm{L:List (Option Int)}{q:Pc}:∀{r:List Pc} {h:Int},nowH L h (r++[q])=lef L q.1
 | [],_=>rfl
 | _::r,_=>wm (r:=r)
theorem Run.mono{L:List (Option Int)}{B B':List Tb}(g:∀i h,Has B i h->Has B' i h):∀{r:List Pc} {h:Int},Run L B h r->Run L B' h r
 | [],_,_=>trivial
 | _::_,_,h=>⟨g _ _ h.1,Run.mono g h.2⟩
def Alw(f:Int)(L:List (Option Int))(k:Key):Prop:=∃h,k=Sum.inl h/\(h=f\/∃j,L.getD j none=some h)
structure KB(f:Int)(L:List (Option Int))(B:List Tb):Prop where
 nd:∀i,((B.getD i []).map (·.1)).Nodup
 al:∀i,∀q∈B.getD i [],Alw f L q.1
theorem KB.len{f:Int}{L:List (Option Int)}{B:List Tb}(h:KB f L B)(i:Nat):(B.getD i []).length<=L.length+1:=by
 have:=wj (m:=(f::L.map fun o=>o.getD 0).map fun h=>(Sum.inl h:Key)) (h.nd i) fun k hk=>by
  obtain⟨q,hq,rfl⟩:=mem_map.mp hk;obtain⟨x,e,z⟩:=h.al i q hq;rw[e];refine mem_map.mpr ⟨x,?_,rfl⟩;rcases z with rfl | ⟨j,z⟩
  ·exact mem_cons_self
  ·refine mem_cons_of_mem _ (mem_map.mpr ⟨L.getD j none,?_,by rw[z];rfl⟩);rw[getD_eq_getElem?_getD]at z|-;cases e:L[j]? with
   | none=>rw[e]at z;cases z
   | some o=>exact List.mem_of_getElem? e
 rw[length_map,length_map,length_cons,length_map]at this;exact this
noncomputable def putB(B:List Tb)(j:Nat)(h:Int):List Tb:=B.set j (putK (B.getD j []) (Sum.inl h) (.bl true))
theorem kr{B:List Tb}{j:Nat}{h:Int}(hj:j<B.length):(putB B j h).getD j []=putK (B.getD j []) (Sum.inl h) (.bl true):=by
 unfold putB;rw[getD_eq_getElem?_getD,List.getElem?_set_self hj];rfl
theorem Yf{B:List Tb}{i j:Nat}{h:Int}(hij:i≠j):(putB B j h).getD i []=B.getD i []:=by
 unfold putB;rw[getD_eq_getElem?_getD,List.getElem?_set_ne (Ne.symm hij),<-getD_eq_getElem?_getD]
theorem xC{B:List Tb}{j:Nat}{h:Int}(hj:j<B.length):Has (putB B j h) j h:=by
 unfold Has;rw[kr hj,Ku,if_pos rfl];rfl
theorem j0W{B:List Tb}{j:Nat}{h:Int}(hj:j<B.length)(i:Nat)(x:Int)(k:Has B i x):Has (putB B j h) i x:=by
 by_cases e:i=j
 ·subst e;unfold Has;rw[kr hj,Ku];split
  ·rfl
  ·exact k
 ·unfold Has;rw[Yf e];exact k
theorem KB.put{f:Int}{L:List (Option Int)}{B:List Tb}(k:KB f L B){j:Nat}{h:Int}(hj:j<B.length)(a:h=f\/∃j,L.getD j none=some h):KB f L (putB B j h):=by
 refine⟨fun i=>?_,fun i q hq=>?_⟩
 ·by_cases e:i=j
  ·subst e;rw[kr hj];exact j4t _ (k.nd i)
  ·rw[Yf e];exact k.nd i
 ·by_cases e:i=j
  ·subst e;rw[kr hj]at hq;have:q.1∈(putK (B.getD i []) (Sum.inl h) (.bl true)).map (·.1):=mem_map.mpr ⟨q,hq,rfl⟩;rw[W8]at this;split at this
   ·obtain⟨q',h1,h2⟩:=mem_map.mp this;rw[<-h2];exact k.al i q' h1
   ·rcases mem_append.mp this with z | z
    ·obtain⟨q',h1,h2⟩:=mem_map.mp z;rw[<-h2];exact k.al i q' h1
    ·rw[mem_singleton.mp z];exact⟨h,rfl,a⟩
  ·rw[Yf e]at hq;exact k.al i q hq
structure Beg(H0:Hp)(l:Addr)(as:List Addr)(B:List Tb)(H:Hp):Prop where
 sm:Same H0 H
 el:H l=some (.lst (as.map V.ref))
 at':All2 (fun a kvs=>H a=some (.dK kvs)) as B
 nd:as.Nodup
 nw:∀a∈as,H0 a=none
 nl:H0 l=none
theorem Beg.more{H0:Hp}{l:Addr}{as:List Addr}{B:List Tb}{H H':Hp}(b:Beg H0 l as B H)(s:Same H H'):Beg H0 l as B H':=
 ⟨b.sm.trans s,s _ _ b.el,All2.mono b.at' fun _ _ h=>s _ _ h,b.nd,b.nw,b.nl⟩
theorem Beg.put{H0:Hp}{l:Addr}{as:List Addr}{B:List Tb}{H:Hp}(b:Beg H0 l as B H){j:Nat}{a:Addr}(ha:as[j]?=some a)(h:Int) :
  Beg H0 l as (putB B j h) (upd H a (.dK (putK (B.getD j []) (Sum.inl h) (.bl true)))):=by
 have nl:l≠a:=fun z=>by
  have hj:j<B.length:=by rw[<-b.at'.1];exact(List.getElem?_eq_some_iff.mp ha).1
  have:=b.at'.2 j a _ ha (List.getElem?_eq_getElem hj);rw[<-z,b.el]at this;cases this
 refine⟨fun c u hc=>(jh fun z=>?_).trans (b.sm _ _ hc),(jh nl).trans b.el,⟨by rw[b.at'.1,putB,length_set],fun i c x hc hx=>?_⟩,b.nd,b.nw,b.nl⟩
 ·have:=b.nw a (List.mem_of_getElem? ha);rw[z,this]at hc;cases hc
 ·by_cases e:i=j
  ·subst e;rw[ha]at hc;cases hc;refine jA.trans ?_;have hj:=(List.getElem?_eq_some_iff.mp hx).1;unfold putB at hx hj;rw[length_set]at hj;rw[List.getElem?_set_self hj]at hx;rw[Option.some.inj hx]
  ·have ne:c≠a:=fun z=>by
    have h1:=(List.getElem?_eq_some_iff.mp hc)
    have h2:=(List.getElem?_eq_some_iff.mp ha)
    obtain⟨l1,e1⟩:=h1;obtain⟨l2,e2⟩:=h2;exact e ((List.getElem_inj b.nd).mp (e1.trans (z.trans e2.symm)))
   refine(jh ne).trans ?_;unfold putB at hx;rw[List.getElem?_set_ne (Ne.symm e)]at hx;exact b.at'.2 i c x hc hx
structure BegOk(f:Int)(L:List (Option Int))(PC:List (List Pc))(B:List Tb):Prop where
 ln:B.length=PC.length
 kb:KB f L B
 tp:Has B (PC.length-1) f
 cl:∀i,i<PC.length->∀h,Has B i h->Run L B h (PC.getD i [])
structure StrOk(f:Int)(L:List (Option Int))(gs:List Int)(PC:List (List Pc)):Prop where
 n1:1<=PC.length
 n61:PC.length<=61
 lL:L.length=PC.length
 lg:gs.length=PC.length
 f0:0<=f/\f<=10^18
 lb:∀i v,L.getD i none=some v->0<=v/\v<=10^18
 pc:∀i,∀q∈PC.getD i [],q.1<i/\(L.getD q.1 none).isSome=true/\PcOk gs q
 p8:∀i,(PC.getD i []).length<=8
 rs:∀i v,L.getD i none=some v->PC.getD i []=[]->1<=gs.getD i 0/\gs.getD i 0<=10^18
def FrzAt(H:Hp)(as:List Addr)(B:List Tb):Prop:=All2 (fun a kvs=>∃o,H a=some (.frz o (.dK kvs))) as B
inductive sp_begunH(vs:List V)(H:Hp)(Q:VK)(xk:XK):Prop
 | mk (pp pl:Addr) (pa:List Addr) (f:Int) (L:List (Option Int)) (gs:List Int) (PC:List (List Pc)) (_:vs=[.ref pp,.ref pl,.int f]) (_:H pp=some (.lst (pa.map V.ref))) (_:PssAt H pa PC) (_:H pl=some (.lst (L.map optV))) (_:StrOk f L gs PC) (_:∀(b:Addr) (ba:List Addr) (B:List Tb) (H':Hp),Same H H'->H b=none->H' b=some (.lst (ba.map V.ref))->FrzAt H' ba B->BegOk f L PC B->Q (.ref b) H'):sp_begunH vs H Q xk
structure Ta where
 s:Addr
 l:Addr
 p:Addr
 b:Addr
 pa:List Addr
 ba:List Addr
noncomputable def fldT(z:Ta)(f:Int):List (Str×V):=putF "begun" (.ref z.b) (putF "pieces" (.ref z.p) (putF "left" (.ref z.l) (putF "sizes" (.ref z.s) (putF "first" (.int f) []))))
section
variable{z:Ta}{f:Int}
theorem j1z:(fldT z f).lookup ("begun" : Str)=some (.ref z.b):=qK
theorem K5:(fldT z f).lookup ("pieces" : Str)=some (.ref z.p):=(jJ (by decide +kernel)).trans qK
theorem wT:(fldT z f).lookup ("left" : Str)=some (.ref z.l):=(jJ (by decide +kernel)).trans ((jJ (by decide +kernel)).trans qK)
theorem j1B:(fldT z f).lookup ("sizes" : Str)=some (.ref z.s):=(jJ (by decide +kernel)).trans ((jJ (by decide +kernel)).trans ((jJ (by decide +kernel)).trans qK))
theorem j1A:(fldT z f).lookup ("first" : Str)=some (.int f):=(jJ (by decide +kernel)).trans ((jJ (by decide +kernel)).trans ((jJ (by decide +kernel)).trans ((jJ (by decide +kernel)).trans qK)))
theorem j4V{m:Str}(h1:¬m = "begun")(h2:¬m = "pieces")(h3:¬m = "left")(h4:¬m = "sizes")(h5:¬m = "first"):(fldT z f).lookup m=none:=(jJ h1).trans ((jJ h2).trans ((jJ h3).trans ((jJ h4).trans (jJ h5))))
end
structure StrAt(C:Addr)(H:Hp)(a:Addr)(z:Ta)(f:Int)(L:List (Option Int))(gs:List Int)(PC:List (List Pc))(B:List Tb):Prop where
 ob:∃dx,H a=some (.ins C dx (fldT z f))
 hs:H z.s=some (.lst (gs.map V.int))
 hl:H z.l=some (.lst (L.map optV))
 hp:H z.p=some (.lst (z.pa.map V.ref))
 pa:PssAt H z.pa PC
 hb:H z.b=some (.lst (z.ba.map V.ref))
 ba:FrzAt H z.ba B
theorem StrAt.same{C:Addr}{H H':Hp}{a:Addr}{z:Ta}{f:Int}{L:List (Option Int)}{gs:List Int}{PC:List (List Pc)}{B:List Tb}(A:StrAt C H a z f L gs PC B)(s:Same H H'):StrAt C H' a z f L gs PC B:=
 ⟨A.ob.imp fun dx h=>s _ _ h,s _ _ A.hs,s _ _ A.hl,s _ _ A.hp,All2.mono A.pa fun a e ⟨bs,h1,h2⟩=>⟨bs,s _ _ h1,All2.mono h2 fun b q h=>s _ _ h⟩,s _ _ A.hb,All2.mono A.ba fun a k ⟨o,h⟩=>⟨o,s _ _ h⟩⟩
noncomputable def lvE(E:List (List (Int×Int)))(k:Int):List (Option Int):=E.map fun e=>e.lookup k
noncomputable def fPc(ps:List (Str×Fm))(gs:List Int)(L:List (Option Int)):List (List Pc):=ps.map fun p=>(pcsI gs p.2 (inP ps p.2)).filter fun q=>(L.getD q.1 none).isSome
inductive sp_initT(C:Addr)(vs:List V)(H:Hp)(Q:VK)(xk:XK):Prop
 | mk (a dx b pl pp:Addr) (las pas:List Addr) (ls:List (Str×Int)) (ps:List (Str×Fm)) (gs:List Int) (hs:List (List Int)) (x:Str) (f:Int) (k:Nat) (_:vs=[.ref a,.ref b,.str x]) (_:H a=some (.ins C dx [])) (_:BookAt H b pl pp las pas ls ps) (_:Sn ls ps gs hs) (_:ls[k]?=some (x,f)) (_:∀(z:Ta) (E:List (List (Int×Int))) (B:List Tb) (H':Hp),(∀c u,c≠a->H c=some u->H' c=some u)->E.length=ps.length->EndOk ls ps E->StrOk f (lvE E (k:Nat)) gs (fPc ps gs (lvE E (k:Nat)))->StrAt C H' a z f (lvE E (k:Nat)) gs (fPc ps gs (lvE E (k:Nat))) B->BegOk f (lvE E (k:Nat)) (fPc ps gs (lvE E (k:Nat))) B->Q .non H'):sp_initT C vs H Q xk
noncomputable def rzB(L:List (Option Int))(PC:List (List Pc))(i:Nat):Bool:=(L.getD i none).isSome&&(PC.getD i []).isEmpty
inductive sp_raises(C:Addr)(vs:List V)(H:Hp)(Q:VK)(xk:XK):Prop
 | mk (a:Addr) (z:Ta) (f:Int) (L:List (Option Int)) (gs:List Int) (PC:List (List Pc)) (B:List Tb) (i:Nat) (_:vs=[.ref a,.int (i:Nat)]) (_:StrAt C H a z f L gs PC B) (_:StrOk f L gs PC) (_:i<PC.length) (_:Q (.bl (rzB L PC i)) H):sp_raises C vs H Q xk
noncomputable def rjO(s g b m:Int):Option Int:=
 if m<(if(g-s)/b<0 then -((g-s)/b)else(g-s)/b)then some 0
 else if 0<(g-s)%b/\m<(g-s)/b+1 then some ((b-1)/((g-s)%b))else none
theorem j4F(s g b m:Int):Pr.rjV s g b m=optV (rjO s g b m):=by
 unfold Pr.rjV rjO;generalize(if(g-s)/b<0 then -((g-s)/b)else(g-s)/b)=e;by_cases c:m<e
 ·rw[if_pos c,if_pos c];rfl
 ·rw[if_neg c,if_neg c];by_cases d:0<(g-s)%b/\m<(g-s)/b+1
  ·rw[if_pos d,if_pos d];rfl
  ·rw[if_neg d,if_neg d];rfl
noncomputable def wkJ(J:Nat->Int->Option Int)(L:List (Option Int)):Int->List Pc->Option Int
 | _,[]=>none
 | h,q::r=>match J q.1 h with
  | some t=>some (q.2.2+t)
  | none=>wkJ J L (lef L q.1) r
structure JEq(m:Int)(L:List (Option Int))(gs:List Int)(PC:List (List Pc))(J:Nat->Int->Option Int):Prop where
 eq:∀i,i<PC.length->∀h,J i h=if rzB L PC i=true then rjO h (lef L i) (gs.getD i 0) m else wkJ J L h (PC.getD i [])
 bd:∀i,i<PC.length->∀h t,J i h=some t->0<=t/\t<=10^62
def JAt(H:Hp)(ja:List Addr)(B:List Tb)(J:Nat->Int->Option Int)(n:Nat):Prop:=ja.length=n/\∀i a,ja[i]?=some a->∃kvs,H a=some (.dK kvs)/\∀h,Has B i h->valV kvs (Sum.inl h)=some (optV (J i h))
inductive sp_partJ(C:Addr)(vs:List V)(H:Hp)(Q:VK)(xk:XK):Prop
 | mk (a j:Addr) (ja:List Addr) (z:Ta) (f:Int) (L:List (Option Int)) (gs:List Int) (PC:List (List Pc)) (B:List Tb) (m:Int) (i:Nat) (h:Int) (J:Nat->Int->Option Int) (_:vs=[.ref a,.ref j,.int m,.int (i:Nat),.int h]) (_:StrAt C H a z f L gs PC B) (_:StrOk f L gs PC) (_:BegOk f L PC B) (_:0<=m) (_:m<=10^19) (_:JEq m L gs PC J) (_:H j=some (.lst (ja.map V.ref))) (_:JAt H ja B J i) (_:i<PC.length) (_:Has B i h) (_:0<=h) (_:h<=10^18) (_:Q (optV (J i h)) H):sp_partJ C vs H Q xk
inductive sp_limbJ(C:Addr)(vs:List V)(H:Hp)(Q:VK)(xk:XK):Prop
 | mk (a:Addr) (z:Ta) (f:Int) (L:List (Option Int)) (gs:List Int) (PC:List (List Pc)) (B:List Tb) (m:Int) (J:Nat->Int->Option Int) (_:vs=[.ref a,.int m]) (_:StrAt C H a z f L gs PC B) (_:StrOk f L gs PC) (_:BegOk f L PC B) (_:0<=m) (_:m<=10^19) (_:JEq m L gs PC J) (_:∀H',Same H H'->Q (optV (J (PC.length-1) f)) H'):sp_limbJ C vs H Q xk
theorem j1g{xs:List V}{n:Nat}{v:V}(h:1<=n)(e:xs.length=n)(hx:xs[n-1]?=some v):atI xs (-1)=some v:=by
 have:xs=xs.take (n-1)++[v]:=by
  rw[<-take_snoc hx,show n-1+1=xs.length by omega,take_length]
 rw[this];exact j1f _ _
theorem Beg.last{H0:Hp}{l:Addr}{as:List Addr}{B:List Tb}{H:Hp}(b:Beg H0 l as B H){j:Nat}(hj:j<B.length):∃a,as[j]?=some a/\H a=some (.dK (B.getD j [])):=by
 obtain⟨a,h1,h2⟩:=b.at'.get (List.getElem?_eq_getElem hj);exact⟨a,h1,by rw[getD_eq_getElem?_getD,List.getElem?_eq_getElem hj];exact h2⟩
theorem KB.none{f:Int}{L:List (Option Int)}{n:Nat}:KB f L (List.replicate n []):=by
 have e:∀i,(List.replicate n ([]:Tb)).getD i []=[]:=fun i=>by
  rw[getD_eq_getElem?_getD,List.getElem?_replicate];split<;>rfl
 exact⟨fun i=>by rw[e];exact nodup_nil,fun i q hq=>by rw[e]at hq;exact nomatch hq⟩
theorem xc{B:List Tb}{j:Nat}{h:Int}:(putB B j h).length=B.length:=length_set ..
theorem yX{L:List (Option Int)}{i:Nat}(h:(L.getD i none).isSome=true):L.getD i none=some (lef L i)/\L[i]?=some (some (lef L i)):=by
 unfold lef;rw[getD_eq_getElem?_getD]at h|-;cases e:L[i]? with
 | none=>rw[e]at h;cases h
 | some o=>
  rw[e]at h;cases o with
  | none=>cases h
  | some v=>exact⟨rfl,rfl⟩
theorem XQ{f:Int}{L:List (Option Int)}{h:Int}(a:h=f\/∃j,L.getD j none=some h):∀{r:List Pc},(∀q∈r,(L.getD q.1 none).isSome=true)->nowH L h r=f\/∃j,L.getD j none=some (nowH L h r)
 | [],_=>a
 | q::r,hq=>XQ (.inr ⟨q.1,(yX (hq q mem_cons_self)).1⟩) fun q' h'=>hq q' (mem_cons_of_mem _ h')
theorem zp{e:List (Int×Int)}{k v:Int}(h:e.lookup k=some v):(k,v)∈e:=by
 induction e with
 | nil=>cases h
 | cons q r ih=>
  obtain⟨a,b⟩:=q;rw[lookup_cons]at h;by_cases c:k=a
  ·subst c;rw[beq_self_eq_true]at h;cases h;exact mem_cons_self
  ·rw[show(k==a)=false from beq_false_of_ne c]at h;exact mem_cons_of_mem _ (ih h)
theorem zt{e:List (Int×Int)}{k v:Int}(hp:(e.map (·.1)).Pairwise (· < ·))(h:(k,v)∈e):e.lookup k=some v:=by
 induction e with
 | nil=>exact nomatch h
 | cons q r ih=>
  obtain⟨a,b⟩:=q;rw[map_cons,pairwise_cons]at hp;rw[lookup_cons];rcases mem_cons.mp h with z | z
  ·cases z;rw[beq_self_eq_true]
  ·have:a<k:=hp.1 k (mem_map.mpr ⟨_,z,rfl⟩);rw[show(k==a)=false from beq_false_of_ne (by omega)];exact ih hp.2 z
theorem XL(e:List (Int×Int))(k:Int):(valV (e.map iiK) (Sum.inl k)).getD .non=optV (e.lookup k):=by
 induction e with
 | nil=>rfl
 | cons q r ih=>
  obtain⟨a,b⟩:=q;rw[lookup_cons];by_cases c:k=a
  ·subst c;rw[beq_self_eq_true];exact congrArg (Option.getD · V.non) (qo (p:=iiK (k,b)) rfl)
  ·rw[show(k==a)=false from beq_false_of_ne c,map_cons,qm (p:=iiK (a,b)) (fun z=>c (Sum.inl.inj z).symm)];exact ih
theorem Y1{E:List (List (Int×Int))}{k:Int}(i:Nat):(lvE E k).getD i none=(E.getD i []).lookup k:=by
 unfold lvE;rw[getD_eq_getElem?_getD,getD_eq_getElem?_getD,List.getElem?_map];cases E[i]?<;>rfl
theorem wS{ps:List (Str×Fm)}{gs:List Int}{L:List (Option Int)}(i:Nat):(fPc ps gs L).getD i []=(pcB ps gs i).filter fun q=>(L.getD q.1 none).isSome:=by
 unfold fPc pcB;rw[getD_eq_getElem?_getD,List.getElem?_map];cases ps[i]?<;>rfl
theorem j05{gs:List Int}{f:Fm}{is:List Nat}{j:Nat}(h:j∈is)(ha:∀k x,f = .again k x->is.length<=1):∃q∈pcsI gs f is,q.1=j:=by
 unfold pcsI;split
 ·rename_i k x;cases is with
  | nil=>exact nomatch h
  | cons i r=>
   have:=ha k x rfl;rw[length_cons]at this;have hr:r=[]:=List.length_eq_zero_iff.mp (by omega);subst hr;exact⟨_,mem_cons_self,(mem_singleton.mp h).symm⟩
 ·have:∀(is:List Nat) (b:Int),j∈is->∃q∈rowPc gs is b,q.1=j:=by
   intro is
   induction is with
   | nil=>intro b h;exact nomatch h
   | cons i r ih=>
    intro b h;unfold rowPc;rcases mem_cons.mp h with rfl | h
    ·exact⟨_,mem_cons_self,rfl⟩
    ·obtain⟨q,h1,h2⟩:=ih _ h;exact⟨q,mem_cons_of_mem _ h1,h2⟩
  exact this is 0 h
 ·exact⟨_,mem_map.mpr ⟨j,h,rfl⟩,rfl⟩
section
variable{ls:List (Str×Int)}{ps:List (Str×Fm)}{gs:List Int}{hs:List (List Int)}{E:List (List (Int×Int))}
theorem Sn.strand(N:Sn ls ps gs hs)(lE:E.length=ps.length)(oE:EndOk ls ps E){k:Nat}{x:Str}{f:Int}(hk:ls[k]?=some (x,f)):StrOk f (lvE E (k:Nat)) gs (fPc ps gs (lvE E (k:Nat))):=by
 have pl:(fPc ps gs (lvE E (k:Nat))).length=ps.length:=length_map _;have lv:(lvE E (k:Nat)).length=ps.length:=(length_map _).trans lE;have lt:∀{i v},(lvE E (k:Nat)).getD i none=some v->i<ps.length:=fun {i v} h=>by
  rcases Nat.lt_or_ge i ps.length with z | z
  ·exact z
  ·rw[getD_eq_getElem?_getD,List.getElem?_eq_none (by omega)]at h;cases h
 refine⟨by rw[pl];exact N.ne,by rw[pl];exact N.s.w.p61,lv.trans pl.symm,N.s.gl.trans pl.symm,N.l18 _ (List.mem_of_getElem? hk),fun i v h=>?_,fun i q hq=>?_,fun i=>?_,fun i v h h0=>?_⟩
 ·have hi:=lt h;rw[Y1]at h;exact j1r N lE oE hi _ (zp h)
 ·rw[wS]at hq;obtain⟨h1,h2⟩:=mem_filter.mp hq;exact⟨Ki N.s.w h1,h2,N.pcOk h1⟩
 ·rw[wS];refine Nat.le_trans (length_filter_le ..) ?_;unfold pcB;split
  ·rename_i p hp;exact kT (N.i8 hp)
  ·exact Nat.zero_le _
 ·have hi:=lt h;have hE:E[i]?=some (E.getD i []):=by rw[getD_eq_getElem?_getD,List.getElem?_eq_getElem (by omega)];rfl
  have hp:=List.getElem?_eq_getElem hi;rw[Y1]at h;rcases(((oE i _ _ hp hE).2 _ _).mp (zp h))with⟨pre,j,post,ein,hj,_⟩ | ⟨y,n,e,_⟩
  ·exfalso;have jin:j∈inP ps ps[i].2:=by rw[ein];simp
   have ji:=N.s.w.inP_lt hp jin;have hEj:E[j]?=some (E.getD j []):=by rw[getD_eq_getElem?_getD,List.getElem?_eq_getElem (by omega)];rfl
   have oj:=(oE j _ _ (List.getElem?_eq_getElem (by omega)) hEj).1;obtain⟨q,hq,eq⟩:=j05 (gs:=gs) (f:=ps[i].2) jin (fun k x e=>by unfold inP;rw[e];exact Nat.le_refl _);have:q∈(fPc ps gs (lvE E (k:Nat))).getD i []:=by
    rw[wS];refine mem_filter.mpr ⟨?_,?_⟩
    ·unfold pcB;rw[hp];exact hq
    ·rw[eq,Y1,zt oj hj];rfl
   rw[h0]at this;exact nomatch this
  ·have hq:ps[i]?=some (ps[i].1,.rise y v n):=by rw[hp,<-e]
   have b:=N.r18 i _ y v n hq;have:=(N.s.ln i _ hp).2 n (by rw[e];rfl);rw[<-this];exact b.2.2
end
theorem BegOk.key{f:Int}{L:List (Option Int)}{gs:List Int}{PC:List (List Pc)}{B:List Tb}(O:BegOk f L PC B)(S:StrOk f L gs PC){i:Nat}{q:Key×V}(h:q∈B.getD i []):∃x,q.1=Sum.inl x/\0<=x/\x<=10^18/\Has B i x:=by
 obtain⟨x,e,z⟩:=O.kb.al i q h;refine⟨x,e,?_⟩;have hh:Has B i x:=by
  unfold Has;rw[<-e];exact j3R (mem_map.mpr ⟨q,h,rfl⟩)
 rcases z with rfl | ⟨j,z⟩
 ·exact⟨S.f0.1,S.f0.2,hh⟩
 ·exact⟨(S.lb j x z).1,(S.lb j x z).2,hh⟩
theorem wy(g:Int->V):∀(ks:List Int) (acc:Tb) (h:Int),valV (mergeK acc (ks.map fun k=>ivK (k,g k))) (Sum.inl h)=if h∈ks then some (g h)else valV acc (Sum.inl h)
 | [],acc,h=>by rw[if_neg (fun z=>nomatch z)];rfl
 | k::ks,acc,h=>by
  show valV (mergeK (putK acc (Sum.inl k) (g k)) (ks.map fun k=>ivK (k,g k))) (Sum.inl h)=_;rw[wy g ks _ h];by_cases c:h∈ks
  ·rw[if_pos c,if_pos (mem_cons_of_mem _ c)]
  ·rw[if_neg c,Ku];by_cases d:h=k
   ·subst d;rw[if_pos rfl,if_pos mem_cons_self]
   ·rw[if_neg (fun z=>d (Sum.inl.inj z)),if_neg (fun z=>(mem_cons.mp z).elim d c)]
theorem notN(o:Option Int):(!decide (optV o=V.non))=o.isSome:=by
 cases o with
 | none=>rw[decide_eq_true (show optV none=V.non from rfl)];rfl
 | some h=>rw[decide_eq_false (show¬optV (some h)=V.non from fun z=>by cases z)];rfl
noncomputable def keyI:Key->Int
 | .inl x=>x
 | .inr _=>0
theorem j2Z{α β:Type}{a:List α}{b:List β}(h:a.length=b.length):a.isEmpty=b.isEmpty:=by
 cases a with
 | nil=>cases b with
  | nil=>rfl
  | cons y s=>simp at h
 | cons x r=>cases b with
  | nil=>simp at h
  | cons y s=>rfl
theorem j2X{α:Type}{l:List α}{u:Nat}{y:α}(h:l[u]?=some y):l.drop u=y::l.drop (u+1):=by
 obtain⟨hu,e⟩:=List.getElem?_eq_some_iff.mp h;rw[List.drop_eq_getElem_cons hu,e]
section
variable{ls:List (Str×Int)}{ps:List (Str×Fm)}{E:List (List (Int×Int))}
theorem j4p(oE:EndOk ls ps E)(lE:E.length=ps.length){i:Nat}{p:Str×Fm}(hp:ps[i]?=some p){k v:Int}:(lvE E k).getD i none=some v↔EndIs ls ps E p.2 k v:=by
 have hi:=(List.getElem?_eq_some_iff.mp hp).1;have hE:E[i]?=some (E.getD i []):=by rw[getD_eq_getElem?_getD,List.getElem?_eq_getElem (by omega)];rfl
 obtain⟨o1,o2⟩:=oE i p _ hp hE;rw[Y1];exact⟨fun h=>(o2 k v).mp (zp h),fun h=>zt o1 ((o2 k v).mpr h)⟩
end
noncomputable def ab(x:Int):Int:=if x<0 then -x else x
noncomputable def FJ(F:Int->Int)(m a b:Int):Option Int->Prop
 | some t=>a<=t/\t<b/\m<ab (F (t+1)-F t)/\∀s,a<=s->s<t->ab (F (s+1)-F s)<=m
 | none=>∀s,a<=s->s<b->ab (F (s+1)-F s)<=m
noncomputable def orI(o p:Option Int):Option Int:=match o with | some t=>some t | none=>p
section
variable{F G:Int->Int}{m a b c:Int}{o p:Option Int}
theorem FJ.shift(h:FJ G m 0 c o)(e:∀u,0<=u->u<=c->F (b+u)=G u):FJ F m b (b+c) (o.map (b + ·)):=by
 cases o with
 | none=>
  intro s s1 s2;have h:=h (s-b) (by omega) (by omega);rw[<-e (s-b) (by omega) (by omega),<-e (s-b+1) (by omega) (by omega),show b+(s-b+1)=s+1 by omega,show b+(s-b)=s by omega]at h;exact h
 | some t=>
  obtain⟨h1,h2,h3,h4⟩:=h;show b<=b+t/\b+t<b+c/\m<ab (F (b+t+1)-F (b+t))/\∀s,b<=s->s<b+t->ab (F (s+1)-F s)<=m;refine⟨by omega,by omega,?_,fun s s1 s2=>?_⟩
  ·rw[Int.add_assoc,e t h1 (by omega),e (t+1) (by omega) (by omega)];exact h3
  ·have h:=h4 (s-b) (by omega) (by omega);rw[<-e (s-b) (by omega) (by omega),<-e (s-b+1) (by omega) (by omega),show b+(s-b+1)=s+1 by omega,show b+(s-b)=s by omega]at h;exact h
theorem FJ.app(h:FJ F m a b o)(k:FJ F m b c p)(hab:a<=b)(hbc:b<=c):FJ F m a c (orI o p):=by
 cases o with
 | some t=>
  obtain⟨h1,h2,h3,h4⟩:=h;exact⟨h1,by omega,h3,h4⟩
 | none=>
  cases p with
  | some t=>
   obtain⟨k1,k2,k3,k4⟩:=k;refine⟨by omega,k2,k3,fun s s1 s2=>?_⟩;rcases Int.lt_or_le s b with z | z
   ·exact h s s1 z
   ·exact k4 s z s2
  | none=>
   intro s s1 s2;rcases Int.lt_or_le s b with z | z
   ·exact h s s1 z
   ·exact k s z s2
theorem FJ.const{x:Int}(m0:0<=m)(e:∀s,a<=s->s<=b->F s=x):FJ F m a b none:=by
 intro s s1 s2;rw[e s s1 (by omega),e (s+1) (by omega) (by omega),Int.sub_self];exact m0
theorem FJ.congr(h:FJ G m a b o)(e:∀s,a<=s->s<=b->F s=G s):FJ F m a b o:=by
 cases o with
 | none=>
  intro s s1 s2;rw[e s s1 (by omega),e (s+1) (by omega) (by omega)];exact h s s1 s2
 | some t=>
  obtain⟨h1,h2,h3,h4⟩:=h;refine⟨h1,h2,by rw[e t h1 (by omega),e (t+1) (by omega) (by omega)];exact h3,fun s s1 s2=>?_⟩;rw[e s s1 (by omega),e (s+1) (by omega) (by omega)];exact h4 s s1 s2
end
theorem j2c{f g n:Int}(n1:1<=n):Rp.ramp f g n n=g:=by
 unfold Rp.ramp;rw[Int.mul_ediv_cancel _ (by omega)];omega
theorem j0Y{f g n s:Int}(n1:1<=n):Rp.ramp f g n (s+1)-Rp.ramp f g n s=(g-f)/n+((g-f)%n*(s+1)/n-(g-f)%n*s/n):=by
 unfold Rp.ramp;have em:=Int.mul_ediv_add_emod (g-f) n;generalize(g-f)/n=e at *;generalize(g-f)%n=r at *;have a:∀k,(g-f)*k/n=e*k+r*k/n:=fun k=>by
  rw[<-em,Int.add_mul,show n*e*k=e*k*n by rw[Int.mul_comm n e,Int.mul_assoc,Int.mul_comm n k,<-Int.mul_assoc],Int.add_comm,Int.add_mul_ediv_right _ _ (by omega),Int.add_comm]
 have es:e*(s+1)=e*s+e:=by rw[Int.mul_add,Int.mul_one]
 rw[a,a,es];omega
theorem j1n{r n s:Int}(r0:0<=r)(r1:r<n):0<=r*(s+1)/n-r*s/n/\r*(s+1)/n-r*s/n<=1:=by
 have e:r*(s+1)=r*s+r:=by rw[Int.mul_add,Int.mul_one]
 rw[e];generalize r*s=x;have h1:=Int.ediv_le_ediv (show 0<n by omega) (show x<=x+r by omega);have h2:=Int.ediv_le_ediv (show 0<n by omega) (show x+r<=x+1*n by omega);rw[Int.add_mul_ediv_right _ _ (by omega)]at h2;omega
theorem j2h{h v n m:Int}(n1:1<=n)(m0:0<=m):FJ (Rp.ramp h v n) m 0 n (rjO h v n m):=by
 have r0:=Int.emod_nonneg (v-h) (show n≠0 by omega);have r1:=Int.emod_lt_of_pos (v-h) (show 0<n by omega);have st:=fun s=>j0Y (f:=h) (g:=v) (s:=s) n1
 have ds:=fun s=>j1n (s:=s) r0 r1
 unfold rjO;generalize(v-h)/n=e at *;generalize(v-h)%n=r at *;have zero:∀s,0<=s->r*s<n->r*s/n=0:=fun s s0 hs=>Int.ediv_eq_zero_of_lt (Int.mul_nonneg r0 s0) hs
 by_cases c:m<(if e<0 then -e else e)
 ·rw[if_pos c];refine⟨Int.le_refl _,by omega,?_,fun s s1 s2=>by omega⟩;rw[st,zero 0 (by omega) (by omega),zero (0+1) (by omega) (by omega)];unfold ab;rw[Int.sub_self,Int.add_zero];exact c
 ·rw[if_neg c];by_cases c2:0<r/\m<e+1
  ·rw[if_pos c2];have q1:r*((n-1)/r)<=n-1:=Int.mul_ediv_self_le (by omega);have q2:n-1<r*((n-1)/r)+r:=Int.lt_mul_ediv_self_add c2.1;have q3:=Int.ediv_nonneg (a:=n-1) (b:=r) (by omega) (by omega);have q4:=Int.ediv_le_self (a:=n-1) r (by omega);generalize(n-1)/r=t at *;refine⟨q3,by omega,?_,fun s s1 s2=>?_⟩
   ·rw[st,zero t q3 (by omega),Int.sub_zero];have e1:r*(t+1)=r*t+r:=by rw[Int.mul_add,Int.mul_one]
    have:r*(t+1)/n=1:=by
     have t1:r*(t+1)=(r*(t+1)-n)+1*n:=by omega
     rw[t1,Int.add_mul_ediv_right _ _ (by omega),Int.ediv_eq_zero_of_lt (by omega) (by omega)];rfl
    rw[this];unfold ab;rw[if_neg (by omega)];exact c2.2
   ·have m1:r*(s+1)<=r*t:=Int.mul_le_mul_of_nonneg_left (by omega) r0;have m2:r*s<=r*(s+1):=Int.mul_le_mul_of_nonneg_left (by omega) r0;rw[st,zero s s1 (by omega),zero (s+1) (by omega) (by omega),Int.sub_self,Int.add_zero];unfold ab;omega
  ·rw[if_neg c2];intro s s1 s2;rw[st];have d:=ds s;by_cases z:r=0
   ·subst z;rw[Int.zero_mul,Int.zero_mul,Int.sub_self,Int.add_zero];unfold ab;omega
   ·have:e+1<=m:=by omega
    unfold ab;generalize r*(s+1)/n-r*s/n=y at *;split at c<;>split<;>omega
section
variable(ls:List (Str×Int))(ps:List (Str×Fm))(gs:List Int)(L:List (Option Int))(k:Nat)
noncomputable def ap1(h:Int)(x:Nat×Int):Int:=
 if gs.getD x.1 0<=x.2 then(L.getD x.1 none).getD h
 else match ps[x.1]? with
  | some (_,.rise y v n)=>if ixOf (nmsOf ls) y=k then Rp.ramp h v n x.2 else h
  | _=>h
noncomputable def hgt(p:Nat)(h s:Int):Int:=(reach ps gs p s).foldl (ap1 ls ps gs L k) h
end
section
variable{ls:List (Str×Int)}{ps:List (Str×Fm)}{gs:List Int}{hs:List (List Int)}{E:List (List (Int×Int))}{k:Nat}
theorem j45(N:Sn ls ps gs hs)(lE:E.length=ps.length)(oE:EndOk ls ps E){h:List Int}(hl:h.length=ls.length)(hk:k<ls.length){x:Nat×Int}(hx:x.1<ps.length) :
  (appH ls ps gs E h x).length=ls.length/\(appH ls ps gs E h x).getD k 0=ap1 ls ps gs (lvE E (k:Nat)) k (h.getD k 0) x:=by
 have hE:E[x.1]?=some (E.getD x.1 []):=by rw[getD_eq_getElem?_getD,List.getElem?_eq_getElem (by omega)];rfl
 obtain⟨o1,o2⟩:=oE x.1 _ _ (List.getElem?_eq_getElem hx) hE;have pos:∀q∈E.getD x.1 [],0<=q.1:=fun q hq=>(ZN N.s.w (by omega) oE x.1 q hq).1
 have hkk:h[k]?=some (h.getD k 0):=by rw[getD_eq_getElem?_getD,List.getElem?_eq_getElem (by omega)];rfl
 unfold appH ap1;by_cases c:gs.getD x.1 0<=x.2
 ·rw[if_pos c,if_pos c];show(setE (E.getD x.1 []) h).length=_/\(setE (E.getD x.1 []) h).getD k 0=_;refine⟨(xH _ _).trans hl,?_⟩;rw[Y1,getD_eq_getElem?_getD];cases e:(E.getD x.1 []).lookup (k:Int)with
  | none=>
   rw[Kq pos (fun v hv=>by rw[zt o1 hv]at e;cases e),hkk];rfl
  | some v=>
   rw[j0d o1 pos (zp e) (by omega)];rfl
 ·rw[if_neg c,if_neg c];rw[List.getElem?_eq_getElem hx];cases hp:ps[x.1]with
  | mk y f=>
   cases f with
   | rise z v n=>
    show(h.set (ixOf (nmsOf ls) z) (Rp.ramp (h.getD (ixOf (nmsOf ls) z) 0) v n x.2)).length=_/\(h.set (ixOf (nmsOf ls) z) (Rp.ramp (h.getD (ixOf (nmsOf ls) z) 0) v n x.2)).getD k 0=if ixOf (nmsOf ls) z=k then _ else _
    refine⟨(length_set ..).trans hl,?_⟩;by_cases d:ixOf (nmsOf ls) z=k
    ·rw[if_pos d,d,getD_eq_getElem?_getD,List.getElem?_set_self (by omega)];rfl
    ·rw[if_neg d,getD_eq_getElem?_getD,List.getElem?_set_ne d,<-getD_eq_getElem?_getD]
   | hold n=>exact⟨hl,rfl⟩
   | ring z n=>exact⟨hl,rfl⟩
   | row z=>exact⟨hl,rfl⟩
   | side z=>exact⟨hl,rfl⟩
   | again z n=>exact⟨hl,rfl⟩
theorem fold1(N:Sn ls ps gs hs)(lE:E.length=ps.length)(oE:EndOk ls ps E)(hk:k<ls.length):∀{xs:List (Nat×Int)} {h:List Int},h.length=ls.length->(∀x∈xs,x.1<ps.length)->
  (xs.foldl (appH ls ps gs E) h).getD k 0=xs.foldl (ap1 ls ps gs (lvE E (k:Nat)) k) (h.getD k 0)
 | [],h,_,_=>rfl
 | x::xs,h,hl,hx=>by
  obtain⟨a1,a2⟩:=j45 N lE oE hl hk (hx x mem_cons_self);rw[foldl_cons,foldl_cons,fold1 N lE oE hk a1 fun y hy=>hx y (mem_cons_of_mem _ hy),a2]
theorem j14(N:Sn ls ps gs hs)(lE:E.length=ps.length)(oE:EndOk ls ps E){x:Str}{f:Int}(hk:ls[k]?=some (x,f))(t:Int):(standH ls ps gs E t).getD k 0=hgt ls ps gs (lvE E (k:Nat)) k (ps.length-1) f t:=by
 have kl:=(List.getElem?_eq_some_iff.mp hk).1;have ne:=N.ne;unfold standH hgt;rw[fold1 N lE oE kl (length_map _) fun y hy=>xD N.s.w (by omega) hy];congr 1;rw[getD_eq_getElem?_getD,List.getElem?_map,hk];rfl
structure Lm(ls:List (Str×Int))(ps:List (Str×Fm))(gs:List Int)(L:List (Option Int))(k:Nat):Prop where
 w:WfB ls ps
 g:∀i,i<ps.length->1<=gs.getD i 0/\gs.getD i 0<=10^60
 ln:∀(i:Nat) (p:Str×Fm),ps[i]?=some p->∀gg,LenIs p.2 ((inP ps p.2).map fun j=>gs.getD j 0) gg->gg=gs.getD i 0
 rs:∀(i:Nat) (y z:Str) (v n:Int),ps[i]?=some (y,.rise z v n)->gs.getD i 0=n/\L.getD i none=if ixOf (nmsOf ls) z=k then some v else none
 lf:∀(i:Nat) (p:Str×Fm),ps[i]?=some p->p.2.ns=[]->(∀z v n,p.2≠.rise z v n)->L.getD i none=none
 ed:∀(i:Nat) (p:Str×Fm),ps[i]?=some p->p.2.ns≠[]->∀h:Int,(L.getD i none).getD h=(inP ps p.2).foldl (fun h j=>(L.getD j none).getD h) h
 no:∀(i:Nat) (p:Str×Fm),ps[i]?=some p->L.getD i none=none->∀j∈inP ps p.2,L.getD j none=none
 sd:∀(i:Nat) (p:Str×Fm) (qs:List Str),ps[i]?=some p->p.2 = .side qs->∀pre j post,inP ps p.2=pre++j::post->(L.getD j none).isSome=true->(∀j'∈pre,L.getD j' none=none)/\∀j'∈post,L.getD j' none=none
 k1:∀(i:Nat) (y z:Str) (n:Int),ps[i]?=some (y,.again n z)->1<=n
 pk:∀(i:Nat) (q:Pc),q∈pcB ps gs i->PcOk gs q
end
section
variable{ls:List (Str×Int)}{ps:List (Str×Fm)}{gs:List Int}{L:List (Option Int)}{k:Nat}
theorem j3a{i:Nat}{p:Str×Fm}(hp:ps[i]?=some p)(h:p.2.ns=[]):pcB ps gs i=[]:=by
 unfold pcB;rw[hp];show pcsI gs p.2 (p.2.ns.map _)=[]
 rw[h];unfold pcsI;split<;>rfl
theorem Q3(p:Nat)(h:Int){s:Int}(hs:gs.getD p 0<=s):hgt ls ps gs L k p h s=(L.getD p none).getD h:=by
 unfold hgt;rw[JP (.inl hs)];show ap1 ls ps gs L k h (p,s)=_;unfold ap1;rw[if_pos hs]
theorem Xl(M:Lm ls ps gs L k):∀(p:Nat),p<ps.length->L.getD p none=none->∀(s h:Int),hgt ls ps gs L k p h s=h:=by
 intro p
 induction p using Nat.strongRecOn with
 | ind p ih=>
  intro hp hn s h;have hpp:=List.getElem?_eq_getElem hp;by_cases c:gs.getD p 0<=s\/pcB ps gs p=[]
  ·rcases c with c | c
   ·rw[Q3 p h c,hn];rfl
   ·by_cases c0:gs.getD p 0<=s
    ·rw[Q3 p h c0,hn];rfl
    ·unfold hgt;rw[JP (.inr c)];show ap1 ls ps gs L k h (p,s)=h;unfold ap1;rw[if_neg c0,hpp];cases hq:ps[p]with
     | mk y f=>
      cases f with
      | rise z v n=>
       have:=(M.rs p y z v n (by rw[hpp,hq])).2;rw[hn]at this;show(if ixOf (nmsOf ls) z=k then _ else h)=h;rw[if_neg fun e=>by rw[if_pos e]at this;cases this]
      | hold n=>rfl
      | ring z n=>rfl
      | row z=>rfl
      | side z=>rfl
      | again z n=>rfl
  ·unfold hgt;rw[QA M.w c,yy];have:∀(xs:List (Nat×Int)) (h:Int),(∀x∈xs,x.1<p/\L.getD x.1 none=none)->xs.foldl (fun h x=>(reach ps gs x.1 x.2).foldl (ap1 ls ps gs L k) h) h=h:=by
    intro xs
    induction xs with
    | nil=>intro h _;rfl
    | cons x xs ihx=>
     intro h hx;obtain⟨h1,h2⟩:=hx x mem_cons_self;rw[foldl_cons];have:(reach ps gs x.1 x.2).foldl (ap1 ls ps gs L k) h=h:=ih x.1 h1 (by omega) h2 x.2 h;rw[this];exact ihx h fun y hy=>hx y (mem_cons_of_mem _ hy)
   refine this _ h fun x hx=>?_
   obtain⟨q,hq,e⟩:=Wg hx;have lt:=Ki M.w hq;rw[e];refine⟨lt,?_⟩;unfold pcB at hq;rw[hpp]at hq;exact M.no p _ hpp hn q.1 (yY hq)
end
section
variable{ls:List (Str×Int)}{ps:List (Str×Fm)}{gs:List Int}{L:List (Option Int)}{k:Nat}
theorem j2M{qs:List Pc}(ok:∀q∈qs,PcOk gs q){x:Nat×Int}(h:x∈wth gs 0 qs):x.2=0:=by
 unfold wth at h;obtain⟨y,hy,hx⟩:=mem_flatMap.mp h;unfold prg at hy;obtain⟨q,hq,e⟩:=mem_filterMap.mp hy;obtain⟨_,g1,_,n1,_,b0,_⟩:=ok q hq;unfold prg1 at e;by_cases c:q.2.2<=0
 ·rw[if_pos c]at e;have b00:q.2.2=0:=by omega
  have o0:ov gs 0 q=0:=by
   unfold ov;rw[b00,Int.sub_self,Int.zero_ediv,if_neg (by omega)]
  rw[o0,if_pos (by omega),b00]at e;have e:=Option.some.inj e;subst e;unfold wth1 at hx;rw[if_neg (by show¬(0:Int)<0;omega)]at hx;have:=mem_singleton.mp hx;rw[this];show 0-0-0*gs.getD q.1 0=0;rw[Int.zero_mul];rfl
 ·rw[if_neg c]at e;cases e
theorem yV(M:Lm ls ps gs L k){p:Nat}{h s:Int}(c:¬(gs.getD p 0<=s\/pcB ps gs p=[])):hgt ls ps gs L k p h s=(wth gs s (pcB ps gs p)).foldl (fun h x=>hgt ls ps gs L k x.1 h x.2) h:=by
 unfold hgt;rw[QA M.w c,yy]
theorem X0(M:Lm ls ps gs L k):∀(p:Nat),p<ps.length->∀h:Int,hgt ls ps gs L k p h 0=h:=by
 intro p
 induction p using Nat.strongRecOn with
 | ind p ih=>
  intro hp h;have hpp:=List.getElem?_eq_getElem hp;have g1:=(M.g p hp).1;by_cases c:pcB ps gs p=[]
  ·unfold hgt;rw[JP (.inr c)];show ap1 ls ps gs L k h (p,0)=h;unfold ap1;rw[if_neg (by show¬gs.getD p 0<=0;omega),hpp];cases hq:ps[p]with
   | mk y f=>
    cases f with
    | rise z v n=>
     show(if ixOf (nmsOf ls) z=k then Rp.ramp h v n 0 else h)=h;unfold Rp.ramp;rw[Int.mul_zero,Int.zero_ediv,Int.add_zero];split<;>rfl
    | hold n=>rfl
    | ring z n=>rfl
    | row z=>rfl
    | side z=>rfl
    | again z n=>rfl
  ·rw[yV M (fun z=>z.elim (fun z=>by omega) c)];have:∀(xs:List (Nat×Int)) (h:Int),(∀x∈xs,x.1<p/\x.2=0)->xs.foldl (fun h x=>hgt ls ps gs L k x.1 h x.2) h=h:=by
    intro xs
    induction xs with
    | nil=>intro h _;rfl
    | cons x xs ihx=>
     intro h hx;obtain⟨h1,h2⟩:=hx x mem_cons_self;rw[foldl_cons,h2,ih x.1 h1 (by omega) h];exact ihx h fun y hy=>hx y (mem_cons_of_mem _ hy)
   exact this _ h fun x hx=>⟨zy M.w hx,j2M (M.pk p) hx⟩
theorem j4d{F:Int->Int}{m b x:Int}{o:Option Int}(m0:0<=m)(h:FJ F m 0 b o)(e:∀s,F s=x):o=none:=by
 cases o with
 | none=>rfl
 | some t=>
  have h3:=h.2.2.1;rw[e,e,Int.sub_self]at h3;exact absurd (show m<0 from h3) (by omega)
noncomputable def RF(ls:List (Str×Int))(ps:List (Str×Fm))(gs:List Int)(L:List (Option Int))(k:Nat)(is:List Nat)(b h t:Int):Int:=(wth gs t (rowPc gs is b)).foldl (fun h x=>hgt ls ps gs L k x.1 h x.2) h
noncomputable def isL(L:List (Option Int))(q:Pc):Bool:=(L.getD q.1 none).isSome
theorem j2i(M:Lm ls ps gs L k){m:Int}(m0:0<=m){J:Nat->Int->Option Int}:∀(is:List Nat) (b h:Int),(∀j∈is,j<ps.length)->(∀j∈is,∀h,FJ (hgt ls ps gs L k j h) m 0 (gs.getD j 0) (J j h))->
  FJ (RF ls ps gs L k is b h) m b (b+(is.map fun j=>gs.getD j 0).sum) (wkJ J L h ((rowPc gs is b).filter (isL L)))/\RF ls ps gs L k is b h (b+(is.map fun j=>gs.getD j 0).sum)=is.foldl (fun h j=>(L.getD j none).getD h) h/\RF ls ps gs L k is b h b=h
 | [],b,h,_,_=>⟨FJ.const m0 (x:=h) fun s _ _=>rfl,rfl,rfl⟩
 | j::r,b,h,hj,hJ=>by
  have jl:=hj j mem_cons_self;have hg:∀i∈j::r,1<=gs.getD i 0/\gs.getD i 0<=10^60:=fun i hi=>M.g i (hj i hi)
  have gj:=hg j mem_cons_self;have nn:∀l:List Nat,(∀i∈l,1<=gs.getD i 0)->0<=(l.map fun j=>gs.getD j 0).sum:=fun l=>by
   induction l with
   | nil=>intro _;exact Int.le_refl _
   | cons x l ih=>
    intro hl;rw[map_cons,sum_cons];have:=ih fun i hi=>hl i (mem_cons_of_mem _ hi)
    have:=hl x mem_cons_self;omega
  have rn:=nn r fun i hi=>(hg i (mem_cons_of_mem _ hi)).1
  obtain⟨i1,i2,i3⟩:=j2i M m0 (J:=J) r (b+gs.getD j 0) ((L.getD j none).getD h) (fun i hi=>hj i (mem_cons_of_mem _ hi)) fun i hi=>hJ i (mem_cons_of_mem _ hi)
  have lo:∀t,b<=t->t<b+gs.getD j 0->RF ls ps gs L k (j::r) b h t=hgt ls ps gs L k j h (t-b):=fun t t1 t2=>by
   unfold RF;rw[Yg hg t1,if_neg (by omega)];rfl
  have hi':∀t,b+gs.getD j 0<=t->RF ls ps gs L k (j::r) b h t=RF ls ps gs L k r (b+gs.getD j 0) ((L.getD j none).getD h) t:=fun t t1=>by
   unfold RF;rw[Yg hg (by omega),if_pos (by omega),foldl_cons];show List.foldl _ (hgt ls ps gs L k j h (gs.getD j 0)) _=_;rw[Q3 j h (Int.le_refl _)]
  have f1:=(hJ j mem_cons_self h).shift (F:=RF ls ps gs L k (j::r) b h) (b:=b) fun u u0 u1=>by
   rcases Int.lt_or_le u (gs.getD j 0)with z | z
   ·rw[lo _ (by omega) (by omega),show b+u-b=u by omega]
   ·have:u=gs.getD j 0:=by omega
    subst this;rw[hi' _ (Int.le_refl _),i3,Q3 j h (Int.le_refl _)]
  have f2:=i1.congr (F:=RF ls ps gs L k (j::r) b h) fun s s1 _=>hi' s s1
  rw[map_cons,sum_cons,<-Int.add_assoc];refine⟨?_,?_,?_⟩
  ·have:=f1.app f2 (by omega) (by omega);have e:wkJ J L h ((rowPc gs (j::r) b).filter (isL L))=orI ((J j h).map (b + ·)) (wkJ J L ((L.getD j none).getD h) ((rowPc gs r (b+gs.getD j 0)).filter (isL L))):=by
    rw[rowPc,filter_cons];cases eo:L.getD j none with
    | none=>
     rw[if_neg (by unfold isL;show¬(L.getD j none).isSome=true;rw[eo];exact Bool.false_ne_true),j4d m0 (hJ j mem_cons_self h) (Xl M j jl eo · h)];rfl
    | some v=>
     rw[if_pos (by unfold isL;show(L.getD j none).isSome=true;rw[eo];rfl),wkJ];have:lef L j=v:=by unfold lef;rw[eo];rfl
     show(match J j h with | some t=>some (b+t) | none=>wkJ J L (lef L j) _)=_;rw[this];cases J j h<;>rfl
   rw[e];exact this
  ·rw[hi' _ (by omega),i2];rfl
  ·rw[lo b (Int.le_refl _) (by omega),Int.sub_self,X0 M j jl]
end
section
variable{ls:List (Str×Int)}{ps:List (Str×Fm)}{gs:List Int}{L:List (Option Int)}{k:Nat}{J:Nat->Int->Option Int}{m:Int}
theorem j1X(o:Option Int):orI o none=o:=by cases o<;>rfl
theorem Yv(M:Lm ls ps gs L k){f:Nat->Int}:∀(js:List Nat) (h:Int),(∀j∈js,j<ps.length/\L.getD j none=none)->js.foldl (fun h j=>hgt ls ps gs L k j h (f j)) h=h
 | [],_,_=>rfl
 | j::js,h,hj=>by
  obtain⟨h1,h2⟩:=hj j mem_cons_self;rw[foldl_cons,Xl M j h1 h2];exact Yv M js h fun i hi=>hj i (mem_cons_of_mem _ hi)
theorem getD_none:∀(js:List Nat) (h:Int),(∀j∈js,L.getD j none=none)->js.foldl (fun h j=>(L.getD j none).getD h) h=h
 | [],_,_=>rfl
 | j::js,h,hj=>by
  rw[foldl_cons,hj j mem_cons_self];exact getD_none js h fun i hi=>hj i (mem_cons_of_mem _ hi)
theorem Yu{qs:List Pc}(h:∀q∈qs,L.getD q.1 none=none):qs.filter (isL L)=[]:=
 List.filter_eq_nil_iff.mpr fun q hq=>by unfold isL;rw[h q hq];exact Bool.false_ne_true
theorem kM:∀(l:List Int),l≠[]->∃x∈l,∀y∈l,y<=x
 | [],h=>absurd rfl h
 | [x],_=>⟨x,mem_cons_self,fun y hy=>by rw[mem_singleton.mp hy];exact Int.le_refl _⟩
 | x::z::r,_=>by
  obtain⟨w,h1,h2⟩:=kM (z::r) (cons_ne_nil _ _);by_cases c:w<=x
  ·refine⟨x,mem_cons_self,fun y hy=>?_⟩;rcases mem_cons.mp hy with rfl | hy
   ·exact Int.le_refl _
   ·have:=h2 y hy;omega
  ·refine⟨w,mem_cons_of_mem _ h1,fun y hy=>?_⟩;rcases mem_cons.mp hy with rfl | hy
   ·omega
   ·exact h2 y hy
theorem j3K(M:Lm ls ps gs L k)(m0:0<=m){p:Nat}{y:Str}{qs:List Str}(hp:ps[p]?=some (y,.side qs)){v:Int}(hv:L.getD p none=some v)(hJ:∀j,j<p->∀h,FJ (hgt ls ps gs L k j h) m 0 (gs.getD j 0) (J j h))(h:Int) :
  FJ (hgt ls ps gs L k p h) m 0 (gs.getD p 0) (wkJ J L h ((pcB ps gs p).filter (isL L)))/\(pcB ps gs p).filter (isL L)≠[]:=by
 have pl:=(List.getElem?_eq_some_iff.mp hp).1;have epc:pcB ps gs p=(inP ps (.side qs)).map fun j=>(j,1,0):=by unfold pcB;rw[hp];rfl
 have hin:∀j∈inP ps (.side qs),j<p:=fun j hj=>M.w.inP_lt hp hj
 have ne:(inP ps (.side qs))≠[]:=fun z=>by
  have:=M.ed p _ hp;by_cases c:(Fm.side qs).ns=[]
  ·have:=M.lf p _ hp c (fun _ _ _ e=>by cases e);rw[hv]at this;cases this
  ·have:=this c (v+1);rw[hv,z]at this;have:v=v+1:=this;omega
 have nsne:(Fm.side qs).ns≠[]:=fun z=>ne (by unfold inP;rw[z];rfl)
 have ed:=M.ed p _ hp nsne;obtain⟨j,hj,js⟩:∃j∈inP ps (.side qs),(L.getD j none).isSome=true:=by
  refine Classical.byContradiction fun z=>?_
  have al:∀j∈inP ps (.side qs),L.getD j none=none:=fun j hj=>by
   cases e:L.getD j none with
   | none=>rfl
   | some x=>exact absurd ⟨j,hj,by rw[e];rfl⟩ z
  have:=ed (v+1);rw[getD_none _ _ al,hv]at this;have:v=v+1:=this;omega
 obtain⟨pre,post,ein⟩:=List.append_of_mem hj;obtain⟨n1,n2⟩:=M.sd p _ qs hp rfl pre j post ein js;have jp:=hin j hj;have ipre:∀i∈pre,i<ps.length/\L.getD i none=none:=fun i hi=>⟨by have:=hin i (by rw[ein];exact mem_append_left _ hi);omega,n1 i hi⟩
 have ipost:∀i∈post,i<ps.length/\L.getD i none=none:=fun i hi=>⟨by have:=hin i (by rw[ein];exact mem_append_right _ (mem_cons_of_mem _ hi));omega,n2 i hi⟩
 have efl:(pcB ps gs p).filter (isL L)=[(j,1,0)]:=by
  rw[epc,ein,map_append,map_cons,filter_append,filter_cons,if_pos (show isL L (j,1,0)=true from js)];rw[Yu fun q hq=>by obtain⟨i,hi,rfl⟩:=mem_map.mp hq;exact n1 i hi,Yu fun q hq=>by obtain⟨i,hi,rfl⟩:=mem_map.mp hq;exact n2 i hi];rfl
 refine⟨?_,by rw[efl];exact cons_ne_nil _ _⟩;have gj:=M.g j (by omega);have gp:=M.g p pl;have gle:gs.getD j 0<=gs.getD p 0:=by
  have hb:∃gg,LenIs (.side qs) ((inP ps (.side qs)).map fun j=>gs.getD j 0) gg:=by
   obtain⟨x,hx,mx⟩:=kM ((inP ps (.side qs)).map fun j=>gs.getD j 0) (fun z=>ne (List.map_eq_nil_iff.mp z));exact⟨x,hx,mx⟩
  obtain⟨gg,hgg⟩:=hb;have:=M.ln p _ hp gg hgg;rw[<-this];exact hgg.2 _ (mem_map.mpr ⟨j,hj,rfl⟩)
 have fin:(L.getD p none).getD h=(L.getD j none).getD h:=by
  rw[ed h,show inP ps (Fm.side qs)=pre++j::post from ein,foldl_append,foldl_cons,getD_none pre h n1,getD_none post _ n2]
 have at':∀t,0<=t->t<gs.getD p 0->hgt ls ps gs L k p h t=hgt ls ps gs L k j h (if gs.getD j 0<=t then gs.getD j 0 else t):=fun t t0 t1=>by
  rw[yV M (fun z=>z.elim (fun z=>by omega) fun z=>by rw[epc]at z;exact ne (List.map_eq_nil_iff.mp z)),epc,Kr (fun i hi=>(M.g i (by have:=hin i hi;omega)).1) t0,List.foldl_map];have eqf:(fun(h:Int) (i:Nat)=>hgt ls ps gs L k (if gs.getD i 0<=t then(i,gs.getD i 0)else(i,t)).1 h (if gs.getD i 0<=t then(i,gs.getD i 0)else(i,t)).2)=fun h i=>hgt ls ps gs L k i h (if gs.getD i 0<=t then gs.getD i 0 else t):=by
   funext h i;by_cases c:gs.getD i 0<=t
   ·rw[if_pos c,if_pos c]
   ·rw[if_neg c,if_neg c]
  rw[eqf,ein,foldl_append,foldl_cons,Yv M pre h ipre,Yv M post _ ipost]
 have f1:FJ (hgt ls ps gs L k p h) m 0 (gs.getD j 0) (J j h):=(hJ j jp h).congr fun s s0 s1=>by
  rcases Int.lt_or_le s (gs.getD p 0)with z | z
  ·rw[at' s s0 z];by_cases c:gs.getD j 0<=s
   ·rw[if_pos c,show s=gs.getD j 0 by omega]
   ·rw[if_neg c]
  ·rw[Q3 p h z,Q3 j h (by omega),fin]
 have f2:FJ (hgt ls ps gs L k p h) m (gs.getD j 0) (gs.getD p 0) none:=FJ.const m0 (x:=(L.getD j none).getD h) fun s s0 s1=>by
  rcases Int.lt_or_le s (gs.getD p 0)with z | z
  ·rw[at' s (by omega) z,if_pos s0,Q3 j h (Int.le_refl _)]
  ·rw[Q3 p h z,fin]
 have f3:=f1.app f2 (by omega) gle;rw[j1X]at f3;rw[efl];show FJ _ m 0 _ (match J j h with | some t=>some (0+t) | none=>none);cases e:J j h with
 | none=>rw[e]at f3;exact f3
 | some t=>rw[e]at f3;show FJ _ m 0 _ (some (0+t));rw[Int.zero_add];exact f3
end
section
variable{ls:List (Str×Int)}{ps:List (Str×Fm)}{gs:List Int}{L:List (Option Int)}{k:Nat}{J:Nat->Int->Option Int}{m:Int}
theorem j1d(M:Lm ls ps gs L k){p:Nat}{y z:Str}{n:Int}(hp:ps[p]?=some (y,.again n z)){v:Int}(hv:L.getD p none=some v)(hJ:∀j,j<p->∀h,FJ (hgt ls ps gs L k j h) m 0 (gs.getD j 0) (J j h))(h:Int) :
  FJ (hgt ls ps gs L k p h) m 0 (gs.getD p 0) (wkJ J L h ((pcB ps gs p).filter (isL L)))/\(pcB ps gs p).filter (isL L)≠[]:=by
 have pl:=(List.getElem?_eq_some_iff.mp hp).1;obtain⟨j,ein⟩:∃j,inP ps (.again n z)=[j]:=⟨_,rfl⟩
 have epc:pcB ps gs p=(j,1,0)::(if 1<n then[(j,n-1,gs.getD j 0)]else[]):=by
  unfold pcB;rw[hp];show pcsI gs (.again n z) (inP ps (.again n z))=_;rw[ein];rfl
 have jp:j<p:=M.w.inP_lt hp (by show j∈inP ps (.again n z);rw[ein];exact mem_cons_self);have n1:=M.k1 p y z n hp;have gj:=M.g j (by omega);have ln:gs.getD p 0=n*gs.getD j 0:=by
  have:=M.ln p _ hp (n*gs.getD j 0) (by show LenIs (.again n z) ((inP ps (.again n z)).map fun j=>gs.getD j 0) _;rw[ein];exact⟨_,rfl,rfl⟩);exact this.symm
 have ed:=M.ed p _ hp (by show(Fm.again n z).ns≠[];exact cons_ne_nil _ _);have lj:L.getD j none=some v:=by
  have e1:=ed v;have e2:=ed (v+1);rw[hv,show inP ps (Fm.again n z)=[j]from ein]at e1 e2;cases e:L.getD j none with
  | none=>rw[foldl_cons,e]at e2;have:v=v+1:=e2;omega
  | some w=>rw[foldl_cons,e]at e1;have:v=w:=e1;rw[this]
 have kept:isL L (j,1,0)=true:=by unfold isL;show(L.getD j none).isSome=true;rw[lj];rfl
 have kept2:isL L (j,n-1,gs.getD j 0)=true:=by unfold isL;show(L.getD j none).isSome=true;rw[lj];rfl
 have efl:(pcB ps gs p).filter (isL L)=(j,1,0)::(if 1<n then[(j,n-1,gs.getD j 0)]else[]):=by
  rw[epc,filter_cons,if_pos kept];split
  ·rw[filter_cons,if_pos kept2];rfl
  ·rfl
 refine⟨?_,by rw[efl];exact cons_ne_nil _ _⟩;have pne:pcB ps gs p≠[]:=by rw[epc];exact cons_ne_nil _ _
 have full:∀x:Int,hgt ls ps gs L k j x (gs.getD j 0)=v:=fun x=>by rw[Q3 j x (Int.le_refl _),lj];rfl
 have zz:=X0 M j (by omega);have at0:∀t,0<=t->t<gs.getD j 0->hgt ls ps gs L k p h t=hgt ls ps gs L k j h t:=fun t t0 t1=>by
  have le1:gs.getD j 0<=n*gs.getD j 0:=by
   have:=Int.mul_le_mul_of_nonneg_right n1 (show 0<=gs.getD j 0 by omega);omega
  have d0:t/gs.getD j 0=0:=Int.ediv_eq_zero_of_lt t0 t1;rw[yV M (fun z=>z.elim (fun z=>by rw[ln]at z;omega) pne),epc];rcases WU (k:=n) gj.1 n1 t0 (by omega)with⟨_,e⟩ | ⟨c,_⟩ | ⟨c,_⟩
  ·rw[e,Int.emod_eq_of_lt t0 t1];rfl
  ·omega
  ·omega
 have at1:∀q u,1<=q->q<n->0<=u->u<gs.getD j 0->hgt ls ps gs L k p h (q*gs.getD j 0+u)=hgt ls ps gs L k j v u:=fun q u q1 q2 u0 u1=>by
  have b0:0<=q*gs.getD j 0:=Int.mul_nonneg (by omega) (by omega);have b1:(q+1)*gs.getD j 0<=n*gs.getD j 0:=Int.mul_le_mul_of_nonneg_right (by omega) (by omega);rw[Int.add_mul,Int.one_mul]at b1;have dq:(q*gs.getD j 0+u)/gs.getD j 0=q:=by
   rw[Int.add_comm,Int.add_mul_ediv_right _ _ (by omega),Int.ediv_eq_zero_of_lt u0 u1,Int.zero_add]
  have mq:(q*gs.getD j 0+u)%gs.getD j 0=u:=by
   rw[Int.add_comm,Int.add_mul_emod_self_right,Int.emod_eq_of_lt u0 u1]
  rw[yV M (fun z=>z.elim (fun z=>by rw[ln]at z;omega) pne),epc];rcases WU (k:=n) gj.1 n1 (show 0<=q*gs.getD j 0+u by omega) (by omega)with⟨c,_⟩ | ⟨_,_,zs,hz,e⟩ | ⟨c,_⟩
  ·omega
  ·rw[e,mq];rcases hz with rfl | rfl
   ·show hgt ls ps gs L k j (hgt ls ps gs L k j h (gs.getD j 0)) u=_;rw[full]
   ·show hgt ls ps gs L k j (hgt ls ps gs L k j (hgt ls ps gs L k j h (gs.getD j 0)) (gs.getD j 0)) u=_;rw[full]
  ·omega
 have atE:hgt ls ps gs L k p h (n*gs.getD j 0)=v:=by
  rw[<-ln,Q3 p h (Int.le_refl _),hv];rfl
 have atT:∀q,1<=q->q<=n->hgt ls ps gs L k p h (q*gs.getD j 0)=v:=fun q q1 q2=>by
  rcases Int.lt_or_le q n with z | z
  ·have:=at1 q 0 q1 z (by omega) (by omega);rw[Int.add_zero]at this;rw[this,zz]
  ·have:q=n:=by omega
   subst this;exact atE
 have f0:FJ (hgt ls ps gs L k p h) m 0 (gs.getD j 0) (J j h):=(hJ j jp h).congr fun s s0 s1=>by
  rcases Int.lt_or_le s (gs.getD j 0)with z | z
  ·exact at0 s s0 z
  ·have:s=gs.getD j 0:=by omega
   subst this;have:=atT 1 (by omega) n1;rw[Int.one_mul]at this;rw[this,full]
 have fq:∀q,1<=q->q<n->FJ (hgt ls ps gs L k p h) m (q*gs.getD j 0) (q*gs.getD j 0+gs.getD j 0) ((J j v).map (q*gs.getD j 0 + ·)):=fun q q1 q2=>(hJ j jp v).shift fun u u0 u1=>by
  rcases Int.lt_or_le u (gs.getD j 0)with z | z
  ·exact at1 q u q1 q2 u0 z
  ·have:u=gs.getD j 0:=by omega
   subst this;have:=atT (q+1) (by omega) (by omega);rw[Int.add_mul,Int.one_mul]at this;rw[this,full]
 rw[efl,ln];have lej:lef L j=v:=by unfold lef;rw[lj];rfl
 by_cases c:1<n
 ·have b2:2*gs.getD j 0<=n*gs.getD j 0:=Int.mul_le_mul_of_nonneg_right (by omega) (by omega);have frest:FJ (hgt ls ps gs L k p h) m (gs.getD j 0) (n*gs.getD j 0) ((J j v).map (gs.getD j 0 + ·)):=by
   have f1:=fq 1 (by omega) c;rw[Int.one_mul]at f1;cases e:J j v with
   | some t=>
    rw[e]at f1;obtain⟨h1,h2,h3,h4⟩:=f1;exact⟨h1,by omega,h3,h4⟩
   | none=>
    intro s s1 s2;have qd:=Int.mul_ediv_add_emod s (gs.getD j 0);have r0:=Int.emod_nonneg s (show gs.getD j 0≠0 by omega);have r1:=Int.emod_lt_of_pos s (show 0<gs.getD j 0 by omega);have q1:1<=s/gs.getD j 0:=Int.le_ediv_of_mul_le (by omega) (by omega);have q2:s/gs.getD j 0<n:=Int.ediv_lt_of_lt_mul (by omega) s2;have f:=fq _ q1 q2;rw[e]at f;rw[Int.mul_comm]at qd;exact f s (by omega) (by omega)
  have f3:=f0.app frest (by omega) (by omega);rw[if_pos c];have ew:wkJ J L h [(j,1,0),(j,n-1,gs.getD j 0)]=orI (J j h) ((J j v).map (gs.getD j 0 + ·)):=by
   show(match J j h with | some t=>some (0+t) | none=>match J j (lef L j)with | some t=>some (gs.getD j 0+t) | none=>none)=_;rw[lej];cases J j h with
   | some t=>show some (0+t)=some t;rw[Int.zero_add]
   | none=>cases J j v<;>rfl
  rw[ew];exact f3
 ·have:n=1:=by omega
  subst this;rw[if_neg c,Int.one_mul];have ew:wkJ J L h [(j,1,0)]=J j h:=by
   show(match J j h with | some t=>some (0+t) | none=>none)=_;cases J j h with
   | some t=>show some (0+t)=some t;rw[Int.zero_add]
   | none=>rfl
  rw[ew];exact f0
theorem j3F(M:Lm ls ps gs L k)(m0:0<=m){p:Nat}{y:Str}{qs:List Str}(hp:ps[p]?=some (y,.row qs)){v:Int}(hv:L.getD p none=some v)(hJ:∀j,j<p->∀h,FJ (hgt ls ps gs L k j h) m 0 (gs.getD j 0) (J j h))(h:Int) :
  FJ (hgt ls ps gs L k p h) m 0 (gs.getD p 0) (wkJ J L h ((pcB ps gs p).filter (isL L)))/\(pcB ps gs p).filter (isL L)≠[]:=by
 have pl:=(List.getElem?_eq_some_iff.mp hp).1;have epc:pcB ps gs p=rowPc gs (inP ps (.row qs)) 0:=by unfold pcB;rw[hp];rfl
 have hin:∀j∈inP ps (.row qs),j<p:=fun j hj=>M.w.inP_lt hp hj
 have nsne:(Fm.row qs).ns≠[]:=fun z=>by
  have:=M.lf p _ hp z (fun _ _ _ e=>by cases e);rw[hv]at this;cases this
 have ed:=M.ed p _ hp nsne;have ln:gs.getD p 0=((inP ps (.row qs)).map fun j=>gs.getD j 0).sum:=(M.ln p _ hp _ rfl).symm;obtain⟨f1,f2,f3⟩:=j2i M m0 (J:=J) (inP ps (.row qs)) 0 h (fun j hj=>by have:=hin j hj;omega) fun j hj=>hJ j (hin j hj)
 have pne:pcB ps gs p≠[]:=by
  rw[epc];intro z;cases e:inP ps (.row qs)with
  | nil=>exact nsne (List.map_eq_nil_iff.mp e)
  | cons a r=>rw[e,rowPc]at z;cases z
 rw[Int.zero_add,<-ln]at f1 f2;refine⟨?_,fun z=>?_⟩
 ·rw[epc];refine f1.congr fun s s0 s1=>?_
  rcases Int.lt_or_le s (gs.getD p 0)with c | c
  ·rw[yV M (fun z=>z.elim (fun z=>by omega) pne),epc];rfl
  ·have:s=gs.getD p 0:=by omega
   subst this;rw[f2,Q3 p h (Int.le_refl _),ed h]
 ·have al:∀j∈inP ps (.row qs),L.getD j none=none:=fun j hj=>by
   obtain⟨q,hq,e⟩:=j05 (gs:=gs) (f:=.row qs) hj (fun _ _ e=>by cases e);have:¬isL L q=true:=fun w=>by
    have:q∈(pcB ps gs p).filter (isL L):=mem_filter.mpr ⟨by rw[epc];exact hq,w⟩;rw[z]at this;exact nomatch this
   unfold isL at this;rw[e]at this;cases eo:L.getD j none with
   | none=>rfl
   | some w=>rw[eo]at this;exact absurd rfl this
  have:=ed (v+1);rw[show inP ps (Fm.row qs)=inP ps (.row qs)from rfl,getD_none _ _ al,hv]at this;have:v=v+1:=this;omega
theorem j38(M:Lm ls ps gs L k)(m0:0<=m)(je:∀i,i<ps.length->∀h,J i h=if rzB L (fPc ps gs L) i=true then rjO h (lef L i) (gs.getD i 0) m else wkJ J L h ((fPc ps gs L).getD i [])) :
  ∀p,p<ps.length->∀h,FJ (hgt ls ps gs L k p h) m 0 (gs.getD p 0) (J p h):=by
 intro p
 induction p using Nat.strongRecOn with
 | ind p ih=>
  intro hp h;have hpp:=List.getElem?_eq_getElem hp;have e:=je p hp h;have hJ:∀j,j<p->∀h,FJ (hgt ls ps gs L k j h) m 0 (gs.getD j 0) (J j h):=fun j hj=>ih j hj (by omega)
  unfold rzB at e;rw[wS]at e;have efun:(fun q:Pc=>(L.getD q.1 none).isSome)=isL L:=rfl;rw[efun]at e;cases hv:L.getD p none with
  | none=>
   have fl:(pcB ps gs p).filter (isL L)=[]:=Yu fun q hq=>by
    unfold pcB at hq;rw[hpp]at hq;exact M.no p _ hpp hv q.1 (yY hq)
   rw[hv,fl]at e;rw[e];exact FJ.const m0 (x:=h) fun s _ _=>Xl M p hp hv s h
  | some v=>
   have comp:∀r:FJ (hgt ls ps gs L k p h) m 0 (gs.getD p 0) (wkJ J L h ((pcB ps gs p).filter (isL L)))/\(pcB ps gs p).filter (isL L)≠[],FJ (hgt ls ps gs L k p h) m 0 (gs.getD p 0) (J p h):=fun r=>by
    rw[e,if_neg]
    ·exact r.1
    ·intro z;exact r.2 (isEmpty_iff.mp (Bool.and_eq_true_iff.mp z).2)
   cases hq:ps[p]with
   | mk y f=>
    rw[hq]at hpp;cases f with
    | row qs=>exact comp (j3F M m0 hpp hv hJ h)
    | side qs=>exact comp (j3K M m0 hpp hv hJ h)
    | again n z=>exact comp (j1d M hpp hv hJ h)
    | hold n=>have:=M.lf p _ hpp rfl (fun _ _ _ e=>by cases e);rw[hv]at this;cases this
    | ring z n=>have:=M.lf p _ hpp rfl (fun _ _ _ e=>by cases e);rw[hv]at this;cases this
    | rise z w n=>
     obtain⟨g1,g2⟩:=M.rs p y z w n hpp;have ik:ixOf (nmsOf ls) z=k:=by
      by_cases c:ixOf (nmsOf ls) z=k
      ·exact c
      ·rw[if_neg c,hv]at g2;cases g2
     rw[if_pos ik,hv]at g2;have ew:=Option.some.inj g2;subst ew;have pe:=j3a (gs:=gs) hpp (rfl:(Fm.rise z v n).ns=[]);have n1:=(M.g p hp).1;rw[g1]at n1|-;rw[hv,pe,if_pos (by rfl)]at e;have el:lef L p=v:=by unfold lef;rw[hv];rfl
     rw[el,g1]at e;rw[e];refine(j2h n1 m0).congr fun s s0 s1=>?_
     rcases Int.lt_or_le s n with c | c
     ·unfold hgt;rw[JP (.inr pe)];show ap1 ls ps gs L k h (p,s)=_;unfold ap1;rw[if_neg (by show¬gs.getD p 0<=s;omega),hpp];show(if ixOf (nmsOf ls) z=k then Rp.ramp h v n s else h)=_;rw[if_pos ik]
     ·have:s=n:=by omega
      subst this;rw[Q3 p h (by omega),hv,j2c n1];rfl
end
section
variable{ls:List (Str×Int)}{ps:List (Str×Fm)}{gs:List Int}{hs:List (List Int)}{E:List (List (Int×Int))}{k:Nat}
theorem K7{L:List (Option Int)}:∀{is:List Nat},(∃j∈is,(L.getD j none).isSome=true)->∃pre j post v,is=pre++j::post/\L.getD j none=some v/\∀j'∈post,L.getD j' none=none
 | [],⟨j,hj,_⟩=>nomatch hj
 | i::r,h=>by
  by_cases c:∃j∈r,(L.getD j none).isSome=true
  ·obtain⟨pre,j,post,v,e,h1,h2⟩:=K7 c;exact⟨i::pre,j,post,v,by rw[e];rfl,h1,h2⟩
  ·obtain⟨j,hj,hs⟩:=h;rcases mem_cons.mp hj with rfl | hj
   ·obtain⟨v,hv⟩:=Option.isSome_iff_exists.mp hs;exact⟨[],j,r,v,rfl,hv,fun j' hj'=>by
     cases e:L.getD j' none with
     | none=>rfl
     | some w=>exact absurd ⟨j',hj',by rw[e];rfl⟩ c⟩
   ·exact absurd ⟨j,hj,hs⟩ c
theorem Xo(j:Nat){kk v:Int}(h:(lvE E kk).getD j none=some v):(kk,v)∈E.getD j []:=by
 rw[Y1]at h;exact zp h
theorem Sn.lm(N:Sn ls ps gs hs)(lE:E.length=ps.length)(oE:EndOk ls ps E):Lm ls ps gs (lvE E (k:Nat)) k:=by
 have at':∀{i:Nat} {p:Str×Fm},ps[i]?=some p->∀{v:Int},(lvE E (k:Nat)).getD i none=some v↔EndIs ls ps E p.2 (k:Nat) v:=fun hp=>j4p oE lE hp
 have pw:∀i,i<ps.length->((E.getD i []).map (·.1)).Pairwise (· < ·):=fun i hi=>(oE i _ _ (List.getElem?_eq_getElem hi) (by rw[getD_eq_getElem?_getD,List.getElem?_eq_getElem (by omega)];rfl)).1
 have lastI:∀{is pre post:List Nat} {j:Nat} {v:Int},is=pre++j::post->(lvE E (k:Nat)).getD j none=some v->(∀j'∈post,(lvE E (k:Nat)).getD j' none=none)->(∀j'∈is,j'<ps.length)->LastIn E is (k:Nat) v:=fun {is pre post j v} e h1 h2 hl=>⟨pre,j,post,e,Xo j h1,fun j' hj' v' hv'=>by
  have:=zt (pw j' (hl j' (by rw[e];exact mem_append_right _ (mem_cons_of_mem _ hj')))) hv';rw[<-Y1,h2 j' hj']at this;cases this⟩
 have ilt:∀{i:Nat} {p:Str×Fm},ps[i]?=some p->∀j∈inP ps p.2,j<ps.length:=fun {i p} hp j hj=>by
  have:=N.s.w.inP_lt hp hj;have:=(List.getElem?_eq_some_iff.mp hp).1;omega
 have none_all:∀{i:Nat} {p:Str×Fm},ps[i]?=some p->(lvE E (k:Nat)).getD i none=none->∀j∈inP ps p.2,(lvE E (k:Nat)).getD j none=none:=fun {i p} hp h j hj=>by
  cases e:(lvE E (k:Nat)).getD j none with
  | none=>rfl
  | some w=>
   obtain⟨pre,j',post,v,e1,e2,e3⟩:=K7 ⟨j,hj,by rw[e];rfl⟩;have:=(at' hp).mpr (.inl (lastI e1 e2 e3 (ilt hp)));rw[h]at this;cases this
 refine⟨N.s.w,fun i hi=>N.g hi,fun i p hp=>(N.s.ln i p hp).2,fun i y z v n hp=>⟨((N.s.ln i _ hp).2 n rfl).symm,?_⟩,fun i p hp h0 hr=>?_,fun i p hp h0 h=>?_,fun i p hp h=>none_all hp h,fun i p qs hp he pre j post ein js=>?_,fun i y z n hp=>(N.a18 i y z n hp).1,fun i q hq=>N.pcOk hq⟩
 ·have a:=fun v'=>at' hp (v:=v')
  by_cases c:ixOf (nmsOf ls) z=k
  ·rw[if_pos c];exact(a v).mpr (.inr ⟨z,n,rfl,by rw[c]⟩)
  ·rw[if_neg c];cases e:(lvE E (k:Nat)).getD i none with
   | none=>rfl
   | some w=>
    rcases(a w).mp e with⟨pre,j,post,e',_⟩ | ⟨x,n',e',ek⟩
    ·cases pre<;>exact nomatch e'
    ·cases e';exact absurd (by omega) c
 ·cases e:(lvE E (k:Nat)).getD i none with
  | none=>rfl
  | some w=>
   rcases(at' hp).mp e with⟨pre,j,post,e',_⟩ | ⟨x,n',e',ek⟩
   ·unfold inP at e';rw[h0]at e';cases pre<;>exact nomatch e'
   ·exact absurd e' (hr x w n')
 ·cases e:(lvE E (k:Nat)).getD i none with
  | none=>rw[getD_none _ h (none_all hp e)];rfl
  | some w=>
   rcases(at' hp).mp e with⟨pre,j,post,e',hj,hpost⟩ | ⟨x,n',e',ek⟩
   ·have jl:=ilt hp j (by rw[e'];simp);have hjv:(lvE E (k:Nat)).getD j none=some w:=by rw[Y1];exact zt (pw j jl) hj
    rw[e',foldl_append,foldl_cons,hjv,getD_none post _ fun j' hj'=>?_]
    ·rfl
    ·cases eo:(lvE E (k:Nat)).getD j' none with
     | none=>rfl
     | some u=>exact absurd (Xo j' eo) (hpost j' hj' u)
   ·rw[e']at h0;exact absurd rfl h0
 ·have s1:=(N.s.sd i p qs hp he).2 (k:Nat);have mv:∀j'∈inP ps p.2,∀u,(lvE E (k:Nat)).getD j' none=some u->((k:Nat):Int)∈hs.getD j' []:=fun j' hj' u hu=>XY N lE oE (ilt hp j' hj') (Xo j' hu)
  obtain⟨w,hw⟩:=Option.isSome_iff_exists.mp js;have mj:=mv j (by rw[ein];simp) w hw;rw[ein,map_append,map_cons,filter_append,filter_cons,if_pos (decide_eq_true mj),List.length_append,length_cons]at s1;have two:∀(l:List Nat) (j':Nat),j'∈l->((k:Nat):Int)∈hs.getD j' []->1<=((l.map fun j=>hs.getD j []).filter fun ks=>decide (((k:Nat):Int)∈ks)).length:=fun l j' hj' hm=>length_pos_of_mem (mem_filter.mpr ⟨mem_map.mpr ⟨j',hj',rfl⟩,decide_eq_true hm⟩)
  refine⟨fun j' hj'=>?_,fun j' hj'=>?_⟩
  ·cases eo:(lvE E (k:Nat)).getD j' none with
   | none=>rfl
   | some u=>
    have:=two pre j' hj' (mv j' (by rw[ein];exact mem_append_left _ hj') u eo);omega
  ·cases eo:(lvE E (k:Nat)).getD j' none with
   | none=>rfl
   | some u=>
    have:=two post j' hj' (mv j' (by rw[ein];exact mem_append_right _ (mem_cons_of_mem _ hj')) u eo);omega
end
section
variable(L:List (Option Int))(gs:List Int)(PC:List (List Pc))(m:Int)
noncomputable def jF:Nat->Nat->Int->Option Int
 | 0,_,_=>none
 | n+1,i,h=>if rzB L PC i=true then rjO h (lef L i) (gs.getD i 0) m else wkJ (jF n) L h (PC.getD i [])
noncomputable def jU(i:Nat)(h:Int):Option Int:=jF L gs PC m (i+1) i h
end
section
variable{L:List (Option Int)}{gs:List Int}{PC:List (List Pc)}{m:Int}
theorem YL{J J':Nat->Int->Option Int}:∀{qs:List Pc} {h:Int},(∀q∈qs,∀h,J q.1 h=J' q.1 h)->wkJ J L h qs=wkJ J' L h qs
 | [],_,_=>rfl
 | q::r,h,e=>by
  unfold wkJ;rw[e q mem_cons_self h,YL fun q' h'=>e q' (mem_cons_of_mem _ h')]
theorem X4(lt:∀i,∀q∈PC.getD i [],q.1<i):∀{n n' i:Nat} {h:Int},i<n->i<n'->jF L gs PC m n i h=jF L gs PC m n' i h
 | 0,_,_,_,h,_=>absurd h (Nat.not_lt_zero _)
 | _,0,_,_,_,h=>absurd h (Nat.not_lt_zero _)
 | n+1,n'+1,i,h,h1,h2=>by
  unfold jF;split
  ·rfl
  ·exact YL fun q hq h=>by
    have:=lt i q hq;exact X4 lt (by omega) (by omega)
theorem j4Y(lt:∀i,∀q∈PC.getD i [],q.1<i)(i:Nat)(h:Int):jU L gs PC m i h=if rzB L PC i=true then rjO h (lef L i) (gs.getD i 0) m else wkJ (jU L gs PC m) L h (PC.getD i []):=by
 unfold jU;rw[jF];split
 ·rfl
 ·exact YL fun q hq h=>by
   have:=lt i q hq;exact X4 lt (by omega) (by omega)
end
section
variable{ls:List (Str×Int)}{ps:List (Str×Fm)}{gs:List Int}{hs:List (List Int)}{E:List (List (Int×Int))}{k:Nat}{m:Int}
theorem Sn.jeq(N:Sn ls ps gs hs)(lE:E.length=ps.length)(oE:EndOk ls ps E)(m0:0<=m){x:Str}{f:Int}(hk:ls[k]?=some (x,f)) :
  JEq m (lvE E (k:Nat)) gs (fPc ps gs (lvE E (k:Nat))) (jU (lvE E (k:Nat)) gs (fPc ps gs (lvE E (k:Nat))) m)/\
  FJ (fun t=>(standH ls ps gs E t).getD k 0) m 0 (gs.getD (ps.length-1) 0) (jU (lvE E (k:Nat)) gs (fPc ps gs (lvE E (k:Nat))) m (ps.length-1) f):=by
 have S:=N.strand lE oE hk;have pl:(fPc ps gs (lvE E (k:Nat))).length=ps.length:=length_map _;have lt:∀i,∀q∈(fPc ps gs (lvE E (k:Nat))).getD i [],q.1<i:=fun i q hq=>(S.pc i q hq).1
 have eq:=j4Y (L:=lvE E (k:Nat)) (gs:=gs) (m:=m) lt;have M:Lm ls ps gs (lvE E (k:Nat)) k:=N.lm lE oE;have ok:=j38 M m0 (J:=jU (lvE E (k:Nat)) gs (fPc ps gs (lvE E (k:Nat))) m) fun i _ h=>eq i h
 have ne:=N.ne;refine⟨⟨fun i _ h=>eq i h,fun i hi h t e=>?_⟩,?_⟩
 ·rw[pl]at hi;have f:=ok i hi h;rw[e]at f;have:=(M.g i hi).2;have:=f.1;have:=f.2.1;omega
 ·exact(ok (ps.length-1) (by omega) f).congr fun s _ _=>j14 N lE oE hk s
end
section
variable{ls:List (Str×Int)}{ps:List (Str×Fm)}{gs:List Int}{hs:List (List Int)}{E E':List (List (Int×Int))}{m:Int}
theorem ZM(W:WfB ls ps)(lE:E.length=ps.length)(oE:EndOk ls ps E)(lE':E'.length=ps.length)(oE':EndOk ls ps E'):E'=E:=by
 refine ext_getElem (by omega) fun i h1 h2=>?_
 have:=j30 W rfl (show ps=ps.take ps.length from(take_length).symm) (fun _ _ _ _=>rfl) oE oE' lE lE' (Nat.le_refl _) i (by omega);rw[getD_eq_getElem?_getD,getD_eq_getElem?_getD,List.getElem?_eq_getElem h1,List.getElem?_eq_getElem h2]at this;exact this
noncomputable def jo(ls:List (Str×Int))(ps:List (Str×Fm))(gs:List Int)(m:Int)(E:List (List (Int×Int)))(k:Nat):Option Int:=jU (lvE E (k:Nat)) gs (fPc ps gs (lvE E (k:Nat))) m (ps.length-1) (ls.getD k (⟨#[]⟩,0)).2
noncomputable def fnd(ls:List (Str×Int))(ps:List (Str×Fm))(gs:List Int)(m:Int)(E:List (List (Int×Int)))(n:Nat):List (Int×Int):=(List.range n).filterMap fun k=>(jo ls ps gs m E k).map fun t=>(t,((k:Nat):Int))
theorem j1w(n:Nat):fnd ls ps gs m E (n+1)=fnd ls ps gs m E n++((jo ls ps gs m E n).map fun t=>(t,((n:Nat):Int))).toList:=by
 unfold fnd;rw[range_succ,List.filterMap_append];congr 1
noncomputable def dlt(ls:List (Str×Int))(ps:List (Str×Fm))(gs:List Int)(E:List (List (Int×Int)))(k:Nat)(s:Int):Int:=(standH ls ps gs E (s+1)).getD k 0-(standH ls ps gs E s).getD k 0
inductive JRes(ls:List (Str×Int))(ps:List (Str×Fm))(gs:List Int)(E:List (List (Int×Int)))(m:Int)(H:Hp)(v:V):Prop
 | no (_:v = .non) (_:∀k,k<ls.length->∀s,0<=s->s<gs.getD (ps.length-1) 0->ab (dlt ls ps gs E k s)<=m):JRes ls ps gs E m H v
 | at(p:Addr) (t:Int) (k:Nat) (x:Str) (f:Int) (_:ls[k]?=some (x,f)) (_:v = .ref p) (_:H p=some (.tup [.int t,.str x,.int (dlt ls ps gs E k t)])) (_:0<=t) (_:t<gs.getD (ps.length-1) 0) (_:m<ab (dlt ls ps gs E k t))
   (_:∀k',k'<ls.length->∀s,0<=s->s<t->ab (dlt ls ps gs E k' s)<=m) (_:∀k',k'<k->ab (dlt ls ps gs E k' t)<=m):JRes ls ps gs E m H v
theorem Sn.jo(N:Sn ls ps gs hs)(lE:E.length=ps.length)(oE:EndOk ls ps E)(m0:0<=m){k:Nat}(hk:k<ls.length):FJ (fun t=>(standH ls ps gs E t).getD k 0) m 0 (gs.getD (ps.length-1) 0) (jo ls ps gs m E k):=by
 have:=(N.jeq lE oE m0 (k:=k) (x:=ls[k].1) (f:=ls[k].2) (List.getElem?_eq_getElem hk)).2;unfold Rm.jo;rw[show ls.getD k (⟨#[]⟩,0)=ls[k] by rw[getD_eq_getElem?_getD,List.getElem?_eq_getElem hk];rfl];exact this
theorem j37(N:Sn ls ps gs hs)(lE:E.length=ps.length)(oE:EndOk ls ps E)(m0:0<=m)(h:fnd ls ps gs m E ls.length=[]){k:Nat}(hk:k<ls.length)(s:Int)(s0:0<=s)(s1:s<gs.getD (ps.length-1) 0):ab (dlt ls ps gs E k s)<=m:=by
 have f:=N.jo lE oE m0 hk;have:jo ls ps gs m E k=none:=by
  unfold fnd at h;have:=List.filterMap_eq_nil_iff.mp h k (mem_range.mpr hk);cases e:jo ls ps gs m E k with
  | none=>rfl
  | some t=>rw[e]at this;cases this
 rw[this]at f;exact f s s0 s1
theorem j32{k:Nat}{t:Int}(hk:k<ls.length)(h:jo ls ps gs m E k=some t):(t,((k:Nat):Int))∈fnd ls ps gs m E ls.length:=mem_filterMap.mpr ⟨k,mem_range.mpr hk,by rw[h];rfl⟩
theorem X5(N:Sn ls ps gs hs)(lE:E.length=ps.length)(oE:EndOk ls ps E)(m0:0<=m){b:Nat}{q:Int×Int}(hq:(fnd ls ps gs m E ls.length)[b]?=some q)(hl:Lst (fnd ls ps gs m E ls.length) (fnd ls ps gs m E ls.length).length b) :
  ∃(k:Nat) (x:Str) (f:Int),q.2=(k:Nat)/\ls[k]?=some (x,f)/\0<=q.1/\q.1<gs.getD (ps.length-1) 0/\m<ab (dlt ls ps gs E k q.1)/\(∀k',k'<ls.length->∀s,0<=s->s<q.1->ab (dlt ls ps gs E k' s)<=m)/\∀k',k'<k->ab (dlt ls ps gs E k' q.1)<=m:=by
 have hm:=List.mem_of_getElem? hq;unfold fnd at hm;obtain⟨k,hk,e⟩:=mem_filterMap.mp hm;have hk:=mem_range.mp hk;obtain⟨t,et,rfl⟩:=Option.map_eq_some_iff.mp e;have f:=N.jo lE oE m0 hk;rw[et]at f;obtain⟨f1,f2,f3,f4⟩:=f;have eb:(fnd ls ps gs m E ls.length).getD b (0,0)=(t,((k:Nat):Int)):=by rw[getD_eq_getElem?_getD,hq];rfl
 have least:∀k' t',k'<ls.length->jo ls ps gs m E k'=some t'->t<t'\/t=t'/\k<=k':=fun k' t' hk' e'=>by
  obtain⟨j,hj,ej⟩:=mem_iff_getElem.mp (j32 hk' e');have:=hl.2 j hj;rw[eb,getD_eq_getElem?_getD,List.getElem?_eq_getElem hj,ej]at this;have:=of_decide_eq_false this;simp only[Option.getD_some]at this;omega
 refine⟨k,ls[k].1,ls[k].2,rfl,List.getElem?_eq_getElem hk,f1,f2,f3,fun k' hk' s s0 s1=>?_,fun k' hk'=>?_⟩
 ·have f':=N.jo lE oE m0 hk';cases e':jo ls ps gs m E k' with
  | none=>rw[e']at f';exact f' s s0 (by show s<_;have s1:s<t:=s1;omega)
  | some t'=>
   have l:=least k' t' hk' e';rw[e']at f';exact f'.2.2.2 s s0 (by have s1:s<t:=s1;omega)
 ·have f':=N.jo lE oE m0 (show k'<ls.length by omega);cases e':jo ls ps gs m E k' with
  | none=>rw[e']at f';exact f' t f1 f2
  | some t'=>
   have l:=least k' t' (by omega) e';rw[e']at f';exact f'.2.2.2 t f1 (by omega)
end
inductive sp_firstG(vs:List V)(H:Hp)(Q:VK)(xk:XK):Prop
 | mk (b pl pp:Addr) (las pas:List Addr) (ls:List (Str×Int)) (ps:List (Str×Fm)) (gs:List Int) (hs:List (List Int)) (m:Int) (_:vs=[.ref b,.int m]) (_:BookAt H b pl pp las pas ls ps) (_:Sn ls ps gs hs) (_:0<=m) (_:m<=10^19) (_:∀(v:V) (H':Hp),Same H H'->(1<=ls.length->∃E:List (List (Int×Int)),E.length=ps.length/\EndOk ls ps E)->(∀E:List (List (Int×Int)),E.length=ps.length->EndOk ls ps E->JRes ls ps gs E m H' v)->Q v H'):sp_firstG vs H Q xk
end Rm
namespace L2
open PySem PySem.Spec PyProof.Rows
theorem j3z{X:Cx}{K:Frg}{tg l:Expr}{tl:TE}(e:X.K=K)(hl:PE X l tl):PI X tg l (iTup K tl):=by subst e;exact XA hl
end L2
namespace Rm
open PySem PySem.Spec PyProof.Rows L2
inductive sp_poolC(K:Frg)(vs:List V)(H:Hp)(Q:VK)(xk:XK):Prop
 | mk (a:Addr) (ns:List Int) (k:Int) (_:vs=[.ref a,.int k]) (_:SqL K H a (ns.map V.int)) (_:ns.length<=63) (_:0<=k) (_:k<=100) (_:∀(p:Addr) (y:Int) (H':Hp),Same H H'->H p=none->H' p=some (.lst [.int y])->Q (.ref p) H'):sp_poolC K vs H Q xk
def PairC(M:List (List Int))(H:Hp)(v:V):Prop:=v = .non\/∃(p:Addr) (i j:Nat),v = .ref p/\H p=some (.tup [.int (i:Nat),.int (j:Nat)])/\i<M.length/\j<M.length/\M.getD i []≠[]/\M.getD j []≠[]/\∀k∈M.getD i [],¬k∈M.getD j []
inductive sp_pairC(vs:List V)(H:Hp)(Q:VK)(xk:XK):Prop
 | mk (m:Addr) (mas:List Addr) (M:List (List Int)) (at':Int) (_:vs=[.ref m,.int at']) (_:H m=some (.lst (mas.map V.ref))) (_:ListsAt H mas M) (_:(∀ks∈M,ks.length<=8)) (_:1<=M.length) (_:M.length<=60) (_:0<=at') (_:at'<=10^6) (_:∀(v:V) (H':Hp),Same H H'->PairC M H' v->Q v H'):sp_pairC vs H Q xk
noncomputable def abcC:Str:="abcdefghijklnopqrstuvwxyz"
noncomputable def wdC(p k:Nat):Str:=Txt.slice "mmmm" none (some (p:Int))++(⟨#[abcC.cps.toList.getD k 97]⟩:Str)++Txt.slice "mmm" (some (p:Int)) none++("" : Str)
inductive sp_wordC(vs:List V)(H:Hp)(Q:VK)(xk:XK):Prop
 | mk (p k:Nat) (_:vs=[.int (p:Nat),.int (k:Nat)]) (_:p<4) (_:k<25) (_:∀H',Same H H'->Q (.str (wdC p k)) H'):sp_wordC vs H Q xk
structure NmC(p nl m g:Addr)(names:List Str)(n:Nat)(mas:List Addr)(Mv:List (List Int))(gs:List Int)(H:Hp):Prop where
 en:H nl=some (.lst ((names.take n).map V.str))
 em:H m=some (.lst (mas.map V.ref))
 am:ListsAt H mas Mv
 eg:H g=some (.lst (gs.map V.int))
 nn:n<=names.length
 ml:Mv.length=n
 gl:gs.length=n
 n1:1<=n
 n60:n<=60
 m8:∀ks∈Mv,ks.length<=8
 g0:∀j,j<n->1<=gs.getD j 0/\gs.getD j 0<=10^60
 nlp:nl≠p
 nmp:m≠p
 ngp:g≠p
 nap:∀a∈mas,a≠p
theorem NmC.ex{p nl m g:Addr}{names:List Str}{n:Nat}{mas:List Addr}{Mv:List (List Int)}{gs:List Int}{H H':Hp}(C:NmC p nl m g names n mas Mv gs H)(x:Ex p H H'):NmC p nl m g names n mas Mv gs H':=
 ⟨x _ _ C.nlp C.en,x _ _ C.nmp C.em,All2.monoM C.am fun a ha ks h=>x _ _ (C.nap a ha) h,x _ _ C.ngp C.eg,C.nn,C.ml,C.gl,C.n1,C.n60,C.m8,C.g0,C.nlp,C.nmp,C.ngp,C.nap⟩
theorem NmC.at'{p nl m g:Addr}{names:List Str}{n:Nat}{mas:List Addr}{Mv:List (List Int)}{gs:List Int}{H:Hp}(C:NmC p nl m g names n mas Mv gs H){j:Nat}(hj:j<n):atI ((names.take n).map V.str) ((j:Nat):Int)=some (.str (names.getD j ⟨#[]⟩)):=by
 have:=C.nn;refine L2.jD ?_;rw[List.getElem?_map,List.getElem?_take_of_lt hj,getD_eq_getElem?_getD,List.getElem?_eq_getElem (by omega)];rfl
def AgB(gs:List Int)(f:Fn):Prop:=∀k j,f = .again k j->k*gs.getD j 0<=10^40\/k<=3
inductive sp_namingC(vs:List V)(H:Hp)(Q:VK)(xk:XK):Prop
 | mk (p nl m g:Addr) (x way most:Int) (names:List Str) (n:Nat) (mas:List Addr) (Mv:List (List Int)) (gs:List Int) (_:vs=[.ref p,.int way,.ref nl,.ref m,.ref g,.int most]) (_:H p=some (.lst [.int x])) (_:NmC p nl m g names n mas Mv gs H) (_:1<=most) (_:most<=10^18) (_:∀(a:Addr) (f:Fn) (y:Int) (H':Hp),Ex p H H'->H' p=some (.lst [.int y])->FormAt H' a (toldF names f)->(∀Ls,PreN Ls Mv n f)->AgB gs f->Q (.ref a) H'):sp_namingC vs H Q xk
structure BkC(b pl pp m g:Addr)(las pas mas:List Addr)(ls:List (Str×Int))(names:List Str)(fs:List Fn)(Mv:List (List Int))(gs:List Int)(H:Hp):Prop where
 bk:BookAt H b pl pp las pas ls (drawnPs names fs)
 em:H m=some (.lst (mas.map V.ref))
 am:ListsAt H mas Mv
 eg:H g=some (.lst (gs.map V.int))
 nn:fs.length<=names.length
 ml:Mv.length=fs.length
 gl:gs.length=fs.length
 n60:fs.length<=60
 m8:∀ks∈Mv,ks.length<=8
 g0:∀j,j<fs.length->1<=gs.getD j 0/\gs.getD j 0<=10^60
 l1:1<=ls.length
 l8:ls.length<=8
inductive sp_formC(vs:List V)(H:Hp)(Q:VK)(xk:XK):Prop
 | mk (p b pl pp m g:Addr) (x most:Int) (las pas mas:List Addr) (ls:List (Str×Int)) (names:List Str) (fs:List Fn) (Mv:List (List Int)) (gs:List Int) (_:vs=[.ref p,.ref b,.ref m,.ref g,.int most]) (_:H p=some (.lst [.int x])) (_:BkC b pl pp m g las pas mas ls names fs Mv gs H) (_:b≠p) (_:pl≠p) (_:pp≠p) (_:m≠p) (_:g≠p) (_:(∀a∈mas,a≠p)) (_:1<=most) (_:most<=10^18) (_:(∀x∈names,Ws.isW x=true)) (_:∀(a:Addr) (f:Fn) (y:Int) (H':Hp),Ex p H H'->H' p=some (.lst [.int y])->FormAt H' a (toldF names f)->PreN (nmsOf ls) Mv fs.length f->AgB gs f->Q (.ref a) H'):sp_formC vs H Q xk
theorem j4T(xs:List Str):PyData.eqv (.list (xs.map PyData.str)) (.list [])=decide (xs=[]):=by
 cases xs<;>simp[PyData.eqv,PyData.eqvAll]
theorem j54{xs:List Str}(h:∀x∈xs,Ws.isW x=true):SeqAt.shaped (.list (xs.map PyData.str))=true:=(Shp.lst (n:=0) (xI h)).ok (by decide)
theorem j2S{xs:List V}{k:Int}(h:∀v∈xs,∃w:Str,v = .str w/\Ws.isW w=true)(k0:0<=k)(k1:k<(xs.length:Int)):∃w:Str,atI xs k=some (.str w)/\Ws.isW w=true:=by
 obtain⟨j,rfl⟩:∃j:Nat,k=(j:Int):=⟨k.toNat,by omega⟩
 have hj:j<xs.length:=by omega
 obtain⟨w,e,hw⟩:=h xs[j] (getElem_mem hj);exact⟨w,L2.jD (by rw[List.getElem?_eq_getElem hj,e]),hw⟩
theorem j48{xs:List V}{lo hi:Option Int}{v:V}(h:v∈cutV xs lo hi):v∈xs:=List.mem_of_mem_drop (mem_of_mem_take h)
theorem Z1{f:Nat->Int}{p:Nat->Bool}:∀(l:List Nat),(∀k,p k=false->f k=0)->((l.filter p).map f).sum=(l.map f).sum
 | [],_=>rfl
 | k::l,h=>by
  rw[filter_cons];cases e:p k with
  | true=>rw[if_pos rfl,map_cons,map_cons,sum_cons,sum_cons,Z1 l h]
  | false=>rw[if_neg Bool.false_ne_true,map_cons,sum_cons,h k e,Int.zero_add,Z1 l h]
theorem xL{f g:Nat->Int}:∀(l:List Nat),(l.map fun k=>f k+g k).sum=(l.map f).sum+(l.map g).sum
 | []=>rfl
 | k::l=>by
  rw[map_cons,map_cons,map_cons,sum_cons,sum_cons,sum_cons,xL l];omega
theorem Kt{f:Nat->Int}:∀(l:List Nat),(∀k∈l,f k=0)->(l.map f).sum=0
 | [],_=>rfl
 | k::l,h=>by
  rw[map_cons,sum_cons,h k mem_cons_self,Kt l fun i hi=>h i (mem_cons_of_mem _ hi)];rfl
theorem j0g{g:Nat->Int}{j:Nat}:∀{n:Nat},j<n->((List.range n).map fun k=>if k=j then g k else 0).sum=g j
 | 0,h=>absurd h (Nat.not_lt_zero _)
 | n+1,h=>by
  rw[range_succ,map_append,sum_append];by_cases c:n=j
  ·subst c;rw[Kt _ fun k hk=>if_neg (by have:=mem_range.mp hk;omega)];show 0+((if n=n then g n else 0)+0)=g n;rw[if_pos rfl];omega
  ·rw[j0g (n:=n) (by omega)];show g j+((if n=j then g n else 0)+0)=g j;rw[if_neg c];omega
theorem wv{g:Nat->Int}{n:Nat}:∀(js:List Nat),(∀j∈js,j<n)->((List.range n).map fun k=>g k*((js.filter fun j=>decide (j=k)).length:Nat)).sum=(js.map g).sum
 | [],_=>Kt _ fun k _=>Int.mul_zero _
 | j::js,h=>by
  have ih:=wv (g:=g) js fun i hi=>h i (mem_cons_of_mem _ hi)
  rw[map_cons,sum_cons,<-ih,<-j0g (g:=g) (h j mem_cons_self),<-xL];congr 1;refine map_congr_left fun k _=>?_
  rw[filter_cons];by_cases c:k=j
  ·subst c;rw[if_pos rfl,if_pos (decide_eq_true rfl),length_cons];rw[show((((js.filter fun j=>decide (j=k)).length+1:Nat)):Int)=((js.filter fun j=>decide (j=k)).length:Nat)+1 from rfl,Int.mul_add,Int.mul_one];omega
  ·rw[if_neg c,if_neg (by rw[decide_eq_false fun z:j=k=>c z.symm];exact Bool.false_ne_true),Int.zero_add]
noncomputable def Fn.tag:Fn->Str
 | .hold _=>"hold"
 | .ring _ _=>"ring"
 | .rise _ _ _=>"raise"
 | .row _=>"row"
 | .side _=>"side"
 | .again _ _=>"again"
noncomputable def Fn.rs:Fn->Bool
 | .row _=>true
 | .side _=>true
 | _=>false
noncomputable def Fn.ag:Fn->Bool
 | .again _ _=>true
 | _=>false
noncomputable def Fn.rz:Fn->Bool
 | .rise _ _ _=>true
 | _=>false
noncomputable def Fn.x:Fn->Str
 | .rise x _ _=>x
 | _=>⟨#[]⟩
noncomputable def tupF(names:List Str)(b:Addr):Fn->List V
 | .hold n=>[.str "hold",.int n]
 | .ring x n=>[.str "ring",.str x,.int n]
 | .rise x h n=>[.str "raise",.str x,.int h,.int n]
 | .row _=>[.str "row",.ref b]
 | .side _=>[.str "side",.ref b]
 | .again k j=>[.str "again",.int k,.str (names.getD j ⟨#[]⟩)]
theorem j1y{H:Hp}{a:Addr}{names:List Str}{f:Fn}(h:FormAt H a (toldF names f)):∃b,H a=some (.tup (tupF names b f))/\(f.rs=true->H b=some (.tup ((f.js.map fun j=>names.getD j ⟨#[]⟩).map V.str))):=by
 cases f with
 | hold n=>exact⟨a,h,fun z=>by cases z⟩
 | ring x n=>exact⟨a,h,fun z=>by cases z⟩
 | rise x v n=>exact⟨a,h,fun z=>by cases z⟩
 | row is=>obtain⟨b,h1,h2⟩:=h;exact⟨b,h1,fun _=>h2⟩
 | side is=>obtain⟨b,h1,h2⟩:=h;exact⟨b,h1,fun _=>h2⟩
 | again k j=>exact⟨a,h,fun z=>by cases z⟩
theorem ya{names:List Str}{b:Addr}{f:Fn}:atI (tupF names b f) 0=some (.str f.tag):=by cases f<;>rfl
theorem j3P{names:List Str}{b:Addr}{f:Fn}(h:f.rs=true):atI (tupF names b f) 1=some (.ref b):=by cases f<;>first | rfl | cases h
theorem j2B{names:List Str}{b:Addr}{f:Fn}(h:f.rz=true):atI (tupF names b f) 1=some (.str f.x):=by cases f<;>first | rfl | cases h
theorem j4J{f:Fn}:decide (f.tag∈[("row" : Str),"side"])=f.rs:=by
 cases f
 ·exact(by decide +kernel:decide (("hold" : Str)∈[("row" : Str),"side"])=false)
 ·exact(by decide +kernel:decide (("ring" : Str)∈[("row" : Str),"side"])=false)
 ·exact(by decide +kernel:decide (("raise" : Str)∈[("row" : Str),"side"])=false)
 ·exact(by decide +kernel:decide (("row" : Str)∈[("row" : Str),"side"])=true)
 ·exact(by decide +kernel:decide (("side" : Str)∈[("row" : Str),"side"])=true)
 ·exact(by decide +kernel:decide (("again" : Str)∈[("row" : Str),"side"])=false)
theorem j2z{f:Fn}:decide (f.tag = "again")=f.ag:=by
 cases f
 ·exact(by decide +kernel:decide (("hold" : Str) = "again")=false)
 ·exact(by decide +kernel:decide (("ring" : Str) = "again")=false)
 ·exact(by decide +kernel:decide (("raise" : Str) = "again")=false)
 ·exact(by decide +kernel:decide (("row" : Str) = "again")=false)
 ·exact(by decide +kernel:decide (("side" : Str) = "again")=false)
 ·exact(by decide +kernel:decide (("again" : Str) = "again")=true)
theorem j4L{f:Fn}:decide (f.tag = "raise")=f.rz:=by
 cases f
 ·exact(by decide +kernel:decide (("hold" : Str) = "raise")=false)
 ·exact(by decide +kernel:decide (("ring" : Str) = "raise")=false)
 ·exact(by decide +kernel:decide (("raise" : Str) = "raise")=true)
 ·exact(by decide +kernel:decide (("row" : Str) = "raise")=false)
 ·exact(by decide +kernel:decide (("side" : Str) = "raise")=false)
 ·exact(by decide +kernel:decide (("again" : Str) = "raise")=false)
noncomputable def Fn.rw:Fn->Bool
 | .row _=>true
 | _=>false
noncomputable def Fn.sd:Fn->Bool
 | .side _=>true
 | _=>false
theorem j4K{f:Fn}:decide (f.tag = "row")=f.rw:=by
 cases f
 ·exact(by decide +kernel:decide (("hold" : Str) = "row")=false)
 ·exact(by decide +kernel:decide (("ring" : Str) = "row")=false)
 ·exact(by decide +kernel:decide (("raise" : Str) = "row")=false)
 ·exact(by decide +kernel:decide (("row" : Str) = "row")=true)
 ·exact(by decide +kernel:decide (("side" : Str) = "row")=false)
 ·exact(by decide +kernel:decide (("again" : Str) = "row")=false)
theorem j4M{f:Fn}:decide (f.tag = "side")=f.sd:=by
 cases f
 ·exact(by decide +kernel:decide (("hold" : Str) = "side")=false)
 ·exact(by decide +kernel:decide (("ring" : Str) = "side")=false)
 ·exact(by decide +kernel:decide (("raise" : Str) = "side")=false)
 ·exact(by decide +kernel:decide (("row" : Str) = "side")=false)
 ·exact(by decide +kernel:decide (("side" : Str) = "side")=true)
 ·exact(by decide +kernel:decide (("again" : Str) = "side")=false)
theorem X1(n:Str):∀hs:List Str,inV (.str n) (hs.map V.str)=decide (n∈hs)
 | []=>by simp[inV]
 | h::r=>by
  have ih:=X1 n r;unfold inV at ih|-;rw[map_cons,any_cons,ih];have e:eqV (.str h) (.str n)=decide (h=n):=by
   show(h==n)=_;by_cases c:h=n
   ·subst c;simp
   ·rw[decide_eq_false c];exact beq_eq_false_iff_ne.mpr c
  rw[e,Bool.eq_iff_iff];simp only[Bool.or_eq_true,decide_eq_true_eq,mem_cons];constructor
  ·rintro(x | x)
   ·exact .inl x.symm
   ·exact .inr x
  ·rintro(x | x)
   ·exact .inl x.symm
   ·exact .inr x
theorem inS(n:Str)(hs:List Str):(if false=true then !inV (.str n) (hs.map V.str)else inV (.str n) (hs.map V.str))=decide (n∈hs):=by rw[if_neg (by decide),X1]
theorem flatS:∀hs:List Str,(hs.map V.str).all flatV=true
 | []=>rfl
 | h::r=>by rw[map_cons,all_cons,flatS r];rfl
theorem inRS(f:Fn):(if false=true then !inV (.str f.tag) [.str "row",.str "side"]else inV (.str f.tag) [.str "row",.str "side"])=f.rs:=(inS f.tag ["row","side"]).trans j4J
theorem iteBl{b:Bool}{A B:Prop}(h1:b=true->A)(h2:b=false->B):if b=true then A else B:=by
 cases b with
 | true=>exact h1 rfl
 | false=>exact h2 rfl
noncomputable def lastF(names:List Str)(b:Addr):Fn->V
 | .hold n=>.int n
 | .ring _ n=>.int n
 | .rise _ _ n=>.int n
 | .row _=>.ref b
 | .side _=>.ref b
 | .again _ j=>.str (names.getD j ⟨#[]⟩)
theorem j3Q{names:List Str}{b:Addr}{f:Fn}:atI (tupF names b f) (-1)=some (lastF names b f):=by cases f<;>rfl
theorem j1G{names:List Str}{b:Addr}{f:Fn}{gs:List Int}:(∃gg,lastF names b f = .int gg/\LenN gs f gg)\/f.ag=true\/f.sd=true\/f.rw=true:=by
 cases f with
 | hold n=>exact .inl ⟨n,rfl,rfl⟩
 | ring x n=>exact .inl ⟨n,rfl,rfl⟩
 | rise x h n=>exact .inl ⟨n,rfl,rfl⟩
 | row is=>exact .inr (.inr (.inr rfl))
 | side is=>exact .inr (.inr (.inl rfl))
 | again k j=>exact .inr (.inl rfl)
theorem j4W{f:Fn}(h:f.rw=true):∃is,f = .row is:=by
 cases f with
 | row is=>exact⟨is,rfl⟩
 | _=>cases h
theorem j4X{f:Fn}(h:f.sd=true):∃is,f = .side is:=by
 cases f with
 | side is=>exact⟨is,rfl⟩
 | _=>cases h
theorem j3Y{f:Fn}(h:f.ag=true):∃k j,f = .again k j:=by
 cases f with
 | again k j=>exact⟨k,j,rfl⟩
 | _=>cases h
noncomputable def numsC(n:Nat)(f:Fn):List Nat:=(List.range n).filter fun k=>decide (k∈f.js)
theorem Z6{n:Nat}{f:Fn}(h:∀j∈f.js,j<n)(k:Nat):k∈numsC n f↔k∈f.js:=by
 unfold numsC;rw[mem_filter,mem_range,decide_eq_true_eq];exact⟨fun z=>z.2,fun z=>⟨h k z,z⟩⟩
theorem Kd{n:Nat}{f:Fn}{k:Nat}(h:k∈numsC n f):k<n:=mem_range.mp (mem_filter.mp h).1
theorem j0P{n:Nat}{f:Fn}:(numsC n f).length<=n:=Nat.le_trans (length_filter_le _ _) (Nat.le_of_eq length_range)
theorem j4h{f:Fn}(h1:f.rs=false)(h2:f.ag=false):f.js=[]:=by
 cases f with
 | row is=>exact absurd h1 Bool.noConfusion
 | side is=>exact absurd h1 Bool.noConfusion
 | again k j=>exact absurd h2 Bool.noConfusion
 | _=>rfl
theorem j3p{n:Nat}{f:Fn}(h:f.ag=false):(List.range n).filter (fun k=>f.rs&&decide (k∈f.js))=numsC n f:=by
 unfold numsC;cases e:f.rs with
 | true=>rfl
 | false=>
  rw[j4h e h];rfl
theorem j0Q{n j:Nat}{k:Int}(h:j<n):numsC n (.again k j)=[j]:=by
 have m:∀x,x∈numsC n (.again k j)↔x∈[j]:=Z6 (f:=.again k j) fun i hi=>by rw[mem_singleton.mp hi];exact h
 have nd:(numsC n (.again k j)).Nodup:=List.nodup_range.filter _;generalize numsC n (.again k j)=l at m nd
 match l,m,nd with
 | [],m,_=>exact absurd ((m j).mpr mem_cons_self) (by simp)
 | [x],m,_=>rw[mem_singleton.mp ((m x).mp mem_cons_self)]
 | x::y::r,m,nd=>
  have a:=mem_singleton.mp ((m x).mp mem_cons_self);have b:=mem_singleton.mp ((m y).mp (mem_cons_of_mem _ mem_cons_self));rw[a,b]at nd;simp at nd
theorem xt{names:List Str}(nd:names.Nodup){is:List Nat}{k:Nat}(hk:k<names.length)(h:∀j∈is,j<names.length):names.getD k ⟨#[]⟩∈(is.map fun j=>names.getD j ⟨#[]⟩)↔k∈is:=by
 constructor
 ·intro z;obtain⟨j,hj,e⟩:=mem_map.mp z;rw[<-getD_inj nd (h j hj) hk e];exact hj
 ·intro z;exact mem_map.mpr ⟨k,z,rfl⟩
theorem qC{p:Nat->Bool}{i:Nat}:((List.range (i+1)).filter p)=if p i=true then(List.range i).filter p++[i]else(List.range i).filter p:=by
 rw[range_succ,filter_append,filter_cons,filter_nil];split<;>simp
def MovU(L:List Str)(M:List (List Int))(f:Fn)(ks:List Int):Prop:=ks.Nodup/\∀k,k∈ks↔(∃j∈f.js,k∈M.getD j [])\/∃(x:Str) (h n:Int) (i:Nat),f = .rise x h n/\L[i]?=some x/\k=(i:Int)
def MvOk(n:Nat)(Mv:List (List Int)):Prop:=∀ks∈Mv,ks.Nodup/\∀k∈ks,0<=k/\k<(n:Int)
theorem j02{n:Nat}{Mv:List (List Int)}(h:MvOk n Mv)(j:Nat):(Mv.getD j []).Nodup/\∀k∈Mv.getD j [],0<=k/\k<(n:Int):=by
 by_cases c:j<Mv.length
 ·refine h _ ?_;rw[getD_eq_getElem?_getD,List.getElem?_eq_getElem c];exact getElem_mem c
 ·rw[getD_eq_getElem?_getD,List.getElem?_eq_none (by omega)];exact⟨nodup_nil,fun k hk=>by cases hk⟩
theorem MovU.ok{L:List Str}{Mv:List (List Int)}{f:Fn}{ks:List Int}(h:MovU L Mv f ks)(m:MvOk L.length Mv):ks.Nodup/\∀k∈ks,0<=k/\k<(L.length:Int):=by
 refine⟨h.1,fun k hk=>?_⟩;rcases(h.2 k).mp hk with⟨j,_,z⟩ | ⟨x,v,n,i,_,e,rfl⟩
 ·exact(j02 m j).2 k z
 ·have:=(List.getElem?_eq_some_iff.mp e).1;omega
theorem MvOk.snoc{n:Nat}{Mv:List (List Int)}{ks:List Int}(h:MvOk n Mv)(k:ks.Nodup/\∀k∈ks,0<=k/\k<(n:Int)):MvOk n (Mv++[ks]):=fun xs hx=>by
 rcases mem_append.mp hx with z | z
 ·exact h xs z
 ·rw[mem_singleton.mp z];exact k
theorem j0L{M:List (List Int)}{is:List Nat}{h0 hs:List Int}{i j:Nat}(hj:is[i]?=some j)(h:∀k,k∈hs↔k∈h0\/∃x∈is.take i,k∈M.getD x [])(nd:hs.Nodup)(nj:(M.getD j []).Nodup) :
  (hs++(M.getD j []).filter fun k=>!decide (k∈hs)).Nodup/\∀k,k∈hs++((M.getD j []).filter fun k=>!decide (k∈hs))↔k∈h0\/∃x∈is.take (i+1),k∈M.getD x []:=by
 rw[take_snoc hj];refine⟨nodup_append.mpr ⟨nd,nj.filter _,fun x hx y hy e=>?_⟩,fun k=>?_⟩
 ·have:=(mem_filter.mp hy).2;rw[<-e]at this;simp[hx]at this
 ·rw[mem_append,mem_filter];constructor
  ·rintro(hh | ⟨hk,_⟩)
   ·rcases(h k).mp hh with z | ⟨x,hx,hk⟩
    ·exact .inl z
    ·exact .inr ⟨x,mem_append_left _ hx,hk⟩
   ·exact .inr ⟨j,mem_append_right _ mem_cons_self,hk⟩
  ·rintro(z | ⟨x,hx,hk⟩)
   ·exact .inl ((h k).mpr (.inl z))
   ·rcases mem_append.mp hx with z | z
    ·exact .inl ((h k).mpr (.inr ⟨x,z,hk⟩))
    ·rw[mem_singleton.mp z]at hk;by_cases c:k∈hs
     ·exact .inl c
     ·exact .inr ⟨hk,by simpa using c⟩
noncomputable def limC(L:List Str)(f:Fn):List Nat:=(List.range L.length).filter fun k=>f.rz&&decide (L.getD k ⟨#[]⟩=f.x)
theorem j3g{L:List Str}{M:List (List Int)}{n:Nat}{f:Fn}{ks:List Int}(hj:∀j∈f.js,j<n)(nd:ks.Nodup)(h:∀k,k∈ks↔k∈(limC L f).map (fun i:Nat=>(i:Int))\/∃x∈numsC n f,k∈M.getD x []):MovU L M f ks:=by
 refine⟨nd,fun k=>(h k).trans ?_⟩;constructor
 ·rintro(z | ⟨x,hx,hk⟩)
  ·obtain⟨i,hi,rfl⟩:=mem_map.mp z;obtain⟨h1,h2⟩:=mem_filter.mp hi;rw[mem_range]at h1;rw[Bool.and_eq_true,decide_eq_true_eq]at h2;refine .inr ?_;cases f with
   | rise x v m=>
    refine⟨x,v,m,i,rfl,?_,rfl⟩;have e:L.getD i ⟨#[]⟩=x:=h2.2;rw[getD_eq_getElem?_getD,List.getElem?_eq_getElem h1]at e;rw[List.getElem?_eq_getElem h1,<-e];rfl
   | hold m=>cases h2.1
   | ring x m=>cases h2.1
   | row is=>cases h2.1
   | side is=>cases h2.1
   | again k j=>cases h2.1
  ·exact .inl ⟨x,(Z6 hj x).mp hx,hk⟩
 ·rintro(⟨j,h1,h2⟩ | ⟨x,v,m,i,rfl,e,rfl⟩)
  ·exact .inr ⟨j,(Z6 hj j).mpr h1,h2⟩
  ·refine .inl (mem_map.mpr ⟨i,mem_filter.mpr ⟨mem_range.mpr (List.getElem?_eq_some_iff.mp e).1,?_⟩,rfl⟩);rw[getD_eq_getElem?_getD,e];show(true&&decide (x=x))=true;simp
theorem j3e{L:List Str}{f:Fn}:((limC L f).map (fun i:Nat=>(i:Int))).Nodup:=by
 have nd:(limC L f).Nodup:=List.nodup_range.filter _;exact(pairwise_map.mpr (nd.imp fun h z=>h (by omega)))
theorem j3d{L:List Str}{f:Fn}:∀k∈(limC L f).map (fun i:Nat=>(i:Int)),0<=k/\k<(L.length:Int):=fun k hk=>by
 obtain⟨i,hi,rfl⟩:=mem_map.mp hk;have:=mem_range.mp (mem_filter.mp hi).1;omega
theorem j3E{gs:List Int}{n:Nat}{is:List Nat}(h:∀j∈is,j<n) :
  ((numsC n (.row is)).map fun k=>gs.getD k 0*((is.filter fun j=>decide (j=k)).length:Nat)).sum=(is.map fun j=>gs.getD j 0).sum:=by
 rw[<-wv (g:=fun j=>gs.getD j 0) is h];unfold numsC;refine Z1 _ fun k hk=>?_
 have e:is.filter (fun j=>decide (j=k))=[]:=List.filter_eq_nil_iff.mpr fun j hj=>by
  have:¬k∈is:=of_decide_eq_false hk;simp only[decide_eq_true_eq];intro z;exact this (z▸hj)
 rw[e];show gs.getD k 0*((0:Nat):Int)=0;rw[show((0:Nat):Int)=0 from rfl,Int.mul_zero]
theorem WH{B:Int}:∀{xs:List Int},(∀x∈xs,0<=x/\x<=B)->0<=xs.sum/\xs.sum<=(xs.length:Int)*B
 | [],_=>⟨Int.le_refl _,by simp⟩
 | x::xs,h=>by
  obtain⟨a,b⟩:=WH (xs:=xs) fun y hy=>h y (mem_cons_of_mem _ hy)
  have c:=h x mem_cons_self;rw[sum_cons,length_cons];refine⟨by omega,?_⟩;rw[show(((xs.length+1:Nat)):Int)=(xs.length:Int)+1 from rfl,Int.add_mul,Int.one_mul];omega
theorem j3b{L:List Str}{Mv:List (List Int)}{gs:List Int}{n:Nat}{f:Fn}{g B:Int}(p:PreN L Mv n f)(ag:AgB gs f)(l:LenN gs f g)(b0:10^40<=B)(b:∀j,j<n->1<=gs.getD j 0/\gs.getD j 0<=B):1<=g/\g<=8*B:=by
 cases f with
 | hold m=>obtain⟨h1,h2⟩:=p;have e:g=m:=l;omega
 | ring x m=>obtain⟨h1,h2,_⟩:=p;have e:g=m:=l;omega
 | rise x v m=>obtain⟨_,_,_,h1,h2⟩:=p;have e:g=m:=l;omega
 | row is=>
  obtain⟨h1,h2,h3⟩:=p;have e:g=(is.map fun j=>gs.getD j 0).sum:=l;have q:=WH (B:=B) (xs:=is.map fun j=>gs.getD j 0) fun x hx=>by
   obtain⟨j,hj,rfl⟩:=mem_map.mp hx;have:=b j (h3 j hj);exact⟨by omega,this.2⟩
  rw[length_map]at q;have r:(is.length:Int)*B<=8*B:=Int.mul_le_mul_of_nonneg_right (by omega) (by omega);refine⟨?_,by omega⟩;cases is with
  | nil=>exact absurd rfl h1
  | cons j js=>
   rw[e,map_cons,sum_cons];have b1:=b j (h3 j mem_cons_self);have:=(WH (B:=B) (xs:=js.map fun j=>gs.getD j 0) fun x hx=>by
    obtain⟨j',hj,rfl⟩:=mem_map.mp hx;have:=b j' (h3 j' (mem_cons_of_mem _ hj));exact⟨by omega,this.2⟩).1
   omega
 | side is=>
  obtain⟨_,_,h3,_⟩:=p;obtain⟨⟨j,hj,e⟩,_⟩:=l;have:=b j (h3 j hj);omega
 | again k j=>
  obtain⟨h1,h2,h3⟩:=p;have e:g=k*gs.getD j 0:=l;have bj:=b j h3;refine⟨?_,?_⟩
  ·have:=Int.mul_le_mul h1 bj.1 (by decide) (by omega);omega
  ·rcases ag k j rfl with z | z
   ·omega
   ·have:=Int.mul_le_mul z bj.2 (by omega) (by decide);omega
theorem Xg{names:List Str}{fs:List Fn}{f:Fn}:drawnPs names (fs++[f])=drawnPs names fs++[(names.getD fs.length ⟨#[]⟩,toldF names f)]:=by
 refine List.ext_getElem? fun i=>?_
 unfold drawnPs;rw[List.length_append,length_singleton,range_succ,map_append];congr 2
 ·refine map_congr_left fun j hj=>?_
  rw[Qr (mem_range.mp hj)]
 ·rw[map_cons,qa];rfl
structure Sep(pl pp m g:Addr)(mas:List Addr):Prop where
 lp:pl≠pp
 lm:pl≠m
 lg:pl≠g
 pm:pp≠m
 pg:pp≠g
 mg:m≠g
 ma:∀a∈mas,a≠pp/\a≠m/\a≠g
inductive sp_putC(vs:List V)(H:Hp)(Q:VK)(xk:XK):Prop
 | mk (b pl pp m g a:Addr) (las pas mas:List Addr) (ls:List (Str×Int)) (names:List Str) (fs:List Fn) (Mv:List (List Int)) (gs:List Int) (f:Fn) (B:Int) (_:vs=[.ref b,.ref m,.ref g,.str (names.getD fs.length ⟨#[]⟩),.ref a]) (_:BkC b pl pp m g las pas mas ls names fs Mv gs H) (_:Sep pl pp m g mas) (_:MvOk ls.length Mv) (_:FormAt H a (toldF names f)) (_:PreN (nmsOf ls) Mv fs.length f) (_:AgB gs f) (_:fs.length<names.length) (_:fs.length<30) (_:names.Nodup) (_:10^40<=B) (_:8*B<=10^60) (_:(∀j,j<fs.length->gs.getD j 0<=B)) (_:∀(c a1:Addr) (ks:List Int) (gg:Int) (H':Hp),(∀x u,x≠pp->x≠m->x≠g->H x=some u->H' x=some u)->BkC b pl pp m g las (pas++[c]) (mas++[a1]) ls names (fs++[f]) (Mv++[ks]) (gs++[gg]) H'->Sep pl pp m g (mas++[a1])->MovU (nmsOf ls) Mv f ks->LenN gs f gg->gg<=8*B->Q .non H'):sp_putC vs H Q xk
noncomputable def ordB(t:Nat):List Str:=match t with
 | 0=>["arm","armm","head"]
 | 1=>["head","armm","arm"]
 | _=>["armm","head","arm"]
noncomputable def ordC(t:Nat):List Str:=ordB t++[("leg" : Str),"wing","tail","eye","paw"]
noncomputable def nmC(p c:Nat)(x:Str):List Str:=(List.range 13).map fun k=>if c=1/\k=1 then x else wdC p k
theorem j3n{p c:Nat}{x:Str}:(nmC p c x).length=13:=by unfold nmC;rw[length_map,length_range]
theorem j3m{p c:Nat}{x:Str}{k:Nat}(h:k<13):(nmC p c x).getD k ⟨#[]⟩=if c=1/\k=1 then x else wdC p k:=by
 unfold nmC;rw[getD_eq_getElem?_getD,List.getElem?_map,List.getElem?_range h];rfl
theorem j3l:∀p,p<4->∀c,c<2->∀t,t<3->(decide (nmC p c ((ordC t).getD 0 ⟨#[]⟩)).Nodup&&(nmC p c ((ordC t).getD 0 ⟨#[]⟩)).all fun x=>Ws.isW x)=true:=by decide +kernel
theorem j4u{p c t:Nat}(hp:p<4)(hc:c<2)(ht:t<3):(nmC p c ((ordC t).getD 0 ⟨#[]⟩)).Nodup/\∀x∈nmC p c ((ordC t).getD 0 ⟨#[]⟩),Ws.isW x=true:=by
 have h:=j3l p hp c hc t ht;rw[Bool.and_eq_true,decide_eq_true_eq,all_eq_true]at h;exact h
theorem j1Y:∀t,t<3->(decide (ordC t).Nodup&&(ordC t).all fun x=>Ws.isW x)=true:=by decide +kernel
theorem j3u{t:Nat}(ht:t<3):(ordC t).Nodup/\∀x∈ordC t,Ws.isW x=true:=by
 have h:=j1Y t ht;rw[Bool.and_eq_true,decide_eq_true_eq,all_eq_true]at h;exact h
theorem xz{t:Nat}:(ordC t).length=8:=by
 unfold ordC ordB;split<;>rfl
structure DUk(L:List Str)(fs:List Fn)(M:List (List Int))(gs:List Int):Prop where
 ml:M.length=fs.length
 gl:gs.length=fs.length
 f:∀(i:Nat) (f:Fn),fs[i]?=some f->PreN L M i f/\MovU L M f (M.getD i [])/\LenN gs f (gs.getD i 0)
 g:∀i,i<fs.length->1<=gs.getD i 0/\gs.getD i 0<=10^40*8^(i+1)
theorem MovU.ext{L:List Str}{M:List (List Int)}{ks hs:List Int}{f:Fn}(hj:∀j∈f.js,j<M.length)(h:MovU L M f hs):MovU L (M++[ks]) f hs:=by
 refine⟨h.1,fun k=>(h.2 k).trans ?_⟩;have:(∃j∈f.js,k∈M.getD j [])↔∃j∈f.js,k∈(M++[ks]).getD j []:=by
  constructor
  ·rintro⟨j,h1,h2⟩;exact⟨j,h1,by rw[Qr (hj j h1)];exact h2⟩
  ·rintro⟨j,h1,h2⟩;exact⟨j,h1,by rw[Qr (hj j h1)]at h2;exact h2⟩
 rw[this]
theorem DUk.nil{L:List Str}:DUk L [] [] []:=⟨rfl,rfl,fun i f h=>by simp at h,fun i h=>absurd h (Nat.not_lt_zero i)⟩
theorem DUk.add{L:List Str}{fs:List Fn}{M:List (List Int)}{gs:List Int}{f:Fn}{ks:List Int}{g:Int}(D:DUk L fs M gs)(h1:PreN L M fs.length f)(h2:MovU L M f ks)(h3:LenN gs f g)(h4:1<=g/\g<=10^40*8^(fs.length+1)):DUk L (fs++[f]) (M++[ks]) (gs++[g]):=by
 have ml:=D.ml;have gl:=D.gl;refine⟨by simp[ml],by simp[gl],fun i f' hf'=>?_,fun i hi=>?_⟩
 ·by_cases hi:i<fs.length
  ·rw[List.getElem?_append_left hi]at hf';obtain⟨a,b,c⟩:=D.f i f' hf';have js:=a.js.2;rw[Qr (by omega),Qr (by omega)];exact⟨a.ext (by omega),b.ext fun j hj=>by have:=js j hj;omega,c.ext fun j hj=>by have:=js j hj;omega⟩
  ·rw[List.getElem?_append_right (by omega)]at hf';have hi':i=fs.length:=by
    have:=(List.getElem?_eq_some_iff.mp hf').1;simp at this;omega
   subst hi';rw[Nat.sub_self]at hf';have e:f'=f:=(Option.some.inj hf').symm;subst e;have js:=h1.js.2;have e1:(M++[ks]).getD fs.length []=ks:=by rw[<-ml];exact qa
   have e2:(gs++[g]).getD fs.length 0=g:=by rw[<-gl];exact qa
   rw[e1,e2];exact⟨h1.ext (by omega),h2.ext fun j hj=>by have:=js j hj;omega,h3.ext fun j hj=>by have:=js j hj;omega⟩
 ·rw[List.length_append]at hi;have hi:i<fs.length+1:=hi;by_cases c:i<fs.length
  ·rw[Qr (by omega)];exact D.g i c
  ·have e:i=fs.length:=by omega
   subst e;have e2:(gs++[g]).getD fs.length 0=g:=by rw[<-gl];exact qa
   rw[e2];exact h4
theorem pow8{i n:Nat}(h:i<=n):(10:Int)^40*8^i<=10^40*8^n:=by
 have:(8:Int)^i<=8^n:=by
  obtain⟨k,rfl⟩:=Nat.exists_eq_add_of_le h;rw[Int.pow_add];have h1:(1:Int)<=8^k:=Int.add_one_le_iff.mpr (Int.pow_pos (by decide));have h2:(0:Int)<8^i:=Int.pow_pos (by decide);have:=Int.mul_le_mul_of_nonneg_left h1 (Int.le_of_lt h2);omega
 exact Int.mul_le_mul_of_nonneg_left this (by decide)
theorem DUk.bnd{L:List Str}{fs:List Fn}{M:List (List Int)}{gs:List Int}(D:DUk L fs M gs):∀j,j<fs.length->gs.getD j 0<=10^40*8^fs.length:=fun j hj=>Int.le_trans (D.g j hj).2 (pow8 hj)
theorem Wz{n:Nat}(h:n<=13):(10:Int)^40*8^n<=10^60:=Int.le_trans (pow8 h) (by decide)
noncomputable def srtC(ks:List Int):List Int:=((List.range 8).filter fun k:Nat=>decide ((k:Int)∈ks)).map fun k:Nat=>(k:Int)
theorem xJ{ks:List Int}(h:∀k∈ks,0<=k/\k<8)(k:Int):k∈srtC ks↔k∈ks:=by
 unfold srtC;constructor
 ·intro z;obtain⟨j,hj,rfl⟩:=mem_map.mp z;exact of_decide_eq_true (mem_filter.mp hj).2
 ·intro z;have:=h k z;refine mem_map.mpr ⟨k.toNat,mem_filter.mpr ⟨mem_range.mpr (by omega),?_⟩,by omega⟩;rw[show((k.toNat:Nat):Int)=k by omega];exact decide_eq_true z
theorem j3L{ks:List Int}:(srtC ks).Pairwise (· < ·):=by
 unfold srtC;refine pairwise_map.mpr ?_;refine(List.Pairwise.filter _ (List.pairwise_lt_range (n:=8))).imp fun {a b} h=>?_
 omega
theorem j2t{ks:List Int}(h:∀k∈ks,0<=k/\k<8)(n:ks≠[]):srtC ks≠[]:=fun z=>by
 obtain⟨k,hk⟩:=List.exists_mem_of_ne_nil ks n;have:=(xJ h k).mpr hk;rw[z]at this;cases this
theorem DUk.sorted{L:List Str}{fs:List Fn}{M:List (List Int)}{gs:List Int}(D:DUk L fs M gs)(mo:MvOk L.length M)(l8:L.length<=8)(n13:fs.length<=12):DOk L fs (M.map srtC) gs:=by
 have ml:=D.ml;have gd:∀j,(M.map srtC).getD j []=srtC (M.getD j []):=fun j=>by
  rw[getD_eq_getElem?_getD,getD_eq_getElem?_getD,List.getElem?_map];cases M[j]? with
  | none=>exact(by decide +kernel:([]:List Int)=srtC [])
  | some x=>rfl
 have r8:∀j,∀k∈M.getD j [],0<=k/\k<8:=fun j k hk=>by
  have:=(j02 mo j).2 k hk;omega
 have mm:∀j k,k∈(M.map srtC).getD j []↔k∈M.getD j []:=fun j k=>by rw[gd];exact xJ (r8 j) k
 refine⟨by rw[length_map];exact ml,D.gl,fun i f hf=>?_,fun i hi=>⟨(D.g i hi).1,Int.le_trans (D.g i hi).2 (Wz (by omega))⟩⟩;obtain⟨a,b,c⟩:=D.f i f hf;refine⟨?_,⟨by rw[gd];exact j3L,fun k=>(mm i k).trans ((b.2 k).trans ?_)⟩,c⟩
 ·cases f with
  | side is=>
   obtain⟨h1,h2,h3,h4,h5⟩:=a;refine⟨h1,h2,h3,fun j hj=>by rw[gd];exact j2t (r8 j) (h4 j hj),h5.imp fun {x y} h k hk hk'=>h k ((mm x k).mp hk) ((mm y k).mp hk')⟩
  | hold m=>exact a
  | ring x m=>exact a
  | rise x v m=>exact a
  | row is=>exact a
  | again k j=>exact a
 ·have:(∃j∈f.js,k∈M.getD j [])↔∃j∈f.js,k∈(M.map srtC).getD j []:=by
   constructor
   ·rintro⟨j,h1,h2⟩;exact⟨j,h1,(mm j k).mpr h2⟩
   ·rintro⟨j,h1,h2⟩;exact⟨j,h1,(mm j k).mp h2⟩
  rw[this]
theorem BkC.same{b pl pp m g:Addr}{las pas mas:List Addr}{ls:List (Str×Int)}{names:List Str}{fs:List Fn}{Mv:List (List Int)}{gs:List Int}{H H':Hp}(C:BkC b pl pp m g las pas mas ls names fs Mv gs H)(s:Same H H'):BkC b pl pp m g las pas mas ls names fs Mv gs H':=
 ⟨C.bk.same s,s _ _ C.em,C.am.mono fun a ks h=>s _ _ h,s _ _ C.eg,C.nn,C.ml,C.gl,C.n60,C.m8,C.g0,C.l1,C.l8⟩
theorem BkC.ex{p b pl pp m g:Addr}{las pas mas:List Addr}{ls:List (Str×Int)}{names:List Str}{fs:List Fn}{Mv:List (List Int)}{gs:List Int}{H H':Hp}{xs:List V}(C:BkC b pl pp m g las pas mas ls names fs Mv gs H)(x:Ex p H H')(ep:H p=some (.lst xs))
  (h1:pl≠p) (h2:pp≠p) (h3:m≠p) (h4:g≠p) (h5:∀a∈mas,a≠p):BkC b pl pp m g las pas mas ls names fs Mv gs H':=by
 have kt:∀c xs,H c=some (.tup xs)->H' c=some (.tup xs):=fun c xs h=>x _ _ (Q5 h ep fun z=>by cases z) h
 exact⟨⟨kt _ _ C.bk.t,x _ _ h1 C.bk.l,C.bk.la.mono fun c u h=>kt _ _ h,x _ _ h2 C.bk.p,C.bk.pa.mono fun c u h=>PartAt.keep kt h⟩,x _ _ h3 C.em,All2.monoM C.am fun a ha ks h=>x _ _ (h5 a ha) h,x _ _ h4 C.eg,C.nn,C.ml,C.gl,C.n60,C.m8,C.g0,C.l1,C.l8⟩
theorem j4Q{xs:List V}:cutV xs (some (-3)) none=xs.drop (xs.length-3):=by
 have e:HT.sIx xs.length 0 (some (-3))=xs.length-3:=by
  have:=HT.wP (-3) xs.length 0;rw[if_pos (by decide)]at this;omega
 unfold cutV;rw[e,HT.j2m];exact List.take_of_length_le (by rw[length_drop];omega)
noncomputable def lastC(n:Nat):List Nat:=(List.range n).drop (n-3)
theorem xb{n j:Nat}(h:j∈lastC n):j<n:=mem_range.mp (List.mem_of_mem_drop h)
theorem j0C{n:Nat}(h:2<=n):2<=(lastC n).length/\(lastC n).length<=3:=by
 unfold lastC;rw[length_drop,length_range];omega
inductive sp_bookC(K:Frg)(vs:List V)(H:Hp)(Q:VK)(xk:XK):Prop
 | mk (a:Addr) (ns:List Int) (start most:Int) (_:vs=[.ref a,.int start,.int most]) (_:SqL K H a (ns.map V.int)) (_:ns.length<=63) (_:0<=start) (_:start<=50) (_:1<=most) (_:most<=10^18) (_:∀(r b pl pp:Addr) (las pas:List Addr) (names:List Str) (ls:List (Str×Int)) (fs:List Fn) (M:List (List Int)) (gs:List Int) (H':Hp),Same H H'->H' r=some (.tup [.ref b,.int (gs.getD (fs.length-1) 0)])->BookAt H' b pl pp las pas ls (drawnPs names fs)->DOk (nmsOf ls) fs M gs->Sn ls (drawnPs names fs) gs M->3<=fs.length->fs.length<=11->names.length=13->names.Nodup->(∀x∈names,Ws.isW x=true)->1<=ls.length->ls.length<=8->(nmsOf ls).Nodup->(∀x∈nmsOf ls,Ws.isW x=true)->pl≠pp->Q (.ref r) H'):sp_bookC K vs H Q xk
section
variable{ls:List (Str×Int)}{ps:List (Str×Fm)}{gs:List Int}{hs:List (List Int)}{E:List (List (Int×Int))}{k:Nat}
end
inductive FRes(ls:List (Str×Int))(ps:List (Str×Fm))(gs:List Int)(E:List (List (Int×Int)))(n m:Int)(H:Hp)(v:V):Prop
 | no (_:v = .non) (_:∀k,k<ls.length->∀s,0<=s->s<n->ab (dlt ls ps gs E k s)<=m):FRes ls ps gs E n m H v
 | at(p:Addr) (t:Int) (k:Nat) (x:Str) (f:Int) (_:ls[k]?=some (x,f)) (_:v = .ref p) (_:H p=some (.tup [.int t,.str x,.int (dlt ls ps gs E k t)])) (_:0<=t) (_:t<n) (_:m<ab (dlt ls ps gs E k t))
   (_:∀k',k'<ls.length->∀s,0<=s->s<t->ab (dlt ls ps gs E k' s)<=m) (_:∀k',k'<k->ab (dlt ls ps gs E k' t)<=m):FRes ls ps gs E n m H v
inductive sp_firstB(vs:List V)(H:Hp)(Q:VK)(xk:XK):Prop
 | mk (b pl pp:Addr) (las pas:List Addr) (ls:List (Str×Int)) (ps:List (Str×Fm)) (gs:List Int) (hs:List (List Int)) (n m:Int) (_:vs=[.ref b,.int n,.int m]) (_:BookAt H b pl pp las pas ls ps) (_:Sn ls ps gs hs) (_:0<=n) (_:n<=100) (_:n<=gs.getD (ps.length-1) 0) (_:∀(v:V) (E:List (List (Int×Int))) (H':Hp),Same H H'->E.length=ps.length->EndOk ls ps E->FRes ls ps gs E n m H' v->Q v H'):sp_firstB vs H Q xk
inductive sp_toldB(vs:List V)(H:Hp)(Q:VK)(xk:XK):Prop
 | mk (b pl pp:Addr) (las pas:List Addr) (ls:List (Str×Int)) (ps:List (Str×Fm)) (gs:List Int) (hs:List (List Int)) (m:Int) (_:vs=[.ref b,.int (gs.getD (ps.length-1) 0),.int m]) (_:BookAt H b pl pp las pas ls ps) (_:Sn ls ps gs hs) (_:0<=m) (_:m<=10^18) (_:1<=ls.length) (_:(∀x∈nmsOf ls,Ws.isW x=true)) (_:∀H',Same H H'->Q (.bl true) H'):sp_toldB vs H Q xk
theorem j4S{H:Hp}{p:Addr}{t d:Int}{x:Str}(h:H p=some (.tup [.int t,.str x,.int d])):DV H (.ref p) (.tuple [.int t,.str x,.int d]):=.tup h (.cons (.int _) (.cons (.str _) (.cons (.int _) .nil)))
theorem j2p{t d:Int}{x:Str}(h:Ws.isW x=true):Shp 1 (.tuple [.int t,.str x,.int d]):=Shp.tup fun e he=>by
 simp only[mem_cons,List.not_mem_nil,or_false]at he;rcases he with rfl | rfl | rfl
 ·exact .int
 ·exact xI (n:=0) (xs:=[x]) (fun y hy=>by rw[mem_singleton.mp hy];exact h) (.str x) mem_cons_self
 ·exact .int
theorem j34{ls:List (Str×Int)}{ps:List (Str×Fm)}{gs:List Int}{E:List (List (Int×Int))}{m t:Int}{k:Nat}{H:Hp}{v:V}(J:JRes ls ps gs E m H v)(t0:0<=t)(t1:t<gs.getD (ps.length-1) 0)(kl:k<ls.length){x:Str}{f:Int}(hk:ls[k]?=some (x,f))
  (hm:m<ab (dlt ls ps gs E k t)) (h1:∀k',k'<ls.length->∀s,0<=s->s<t->ab (dlt ls ps gs E k' s)<=m) (h2:∀k',k'<k->ab (dlt ls ps gs E k' t)<=m):∃p,v = .ref p/\H p=some (.tup [.int t,.str x,.int (dlt ls ps gs E k t)]):=by
 cases J with
 | no e z=>exact absurd (z k kl t t0 t1) (by omega)
 | «at» p t' k' x' f' hk' e ht t0' t1' hm' h1' h2'=>
  have kl':=(List.getElem?_eq_some_iff.mp hk').1;have et:t'=t:=by
   rcases Int.lt_trichotomy t t' with z | z | z
   ·exact absurd (h1' k kl t t0 z) (by omega)
   ·exact z.symm
   ·exact absurd (h1 k' kl' t' t0' z) (by omega)
  subst et;have ek:k'=k:=by
   rcases Nat.lt_trichotomy k k' with z | z | z
   ·exact absurd (h2' k z) (by omega)
   ·exact z.symm
   ·exact absurd (h2 k' z) (by omega)
  subst ek;rw[hk]at hk';cases hk';exact⟨p,e,ht⟩
noncomputable def twF(lo ri c:Int):List Fn:=[.rise "wing" (lo+ri) 1,.rise "wing" lo ri,.row [0,1],.again c 2,.rise "arm" (lo+ri) 1,.rise "arm" lo ri,.row [4,5],.again c 6,.side [3,7]]
noncomputable def twM:List (List Int):=[[1],[1],[1],[1],[2],[2],[2],[2],[1,2]]
noncomputable def twG(ri c:Int):List Int:=[1,ri,1+ri,c*(1+ri),1,ri,1+ri,c*(1+ri),c*(1+ri)]
noncomputable def twN:List Str:=["upa","upb","upc","upd","ona","onb","onc","ond","all"]
noncomputable def twL(lo ri:Int):List (Str×Int):=[("head",lo),("wing",lo+ri),("arm",lo+ri)]
noncomputable def twS:List Str:=["head","wing","arm"]
theorem yZ{L:List Str}{M:List (List Int)}{x:Str}{v n:Int}{i:Nat}(nd:L.Nodup)(h:L[i]?=some x):MovN L M (.rise x v n) [(i:Int)]:=by
 refine⟨pairwise_singleton _ _,fun k=>?_⟩;constructor
 ·intro z;exact .inr ⟨x,v,n,i,rfl,h,mem_singleton.mp z⟩
 ·rintro(⟨j,hj,_⟩ | ⟨x',v',n',i',e,h',rfl⟩)
  ·cases hj
  ·cases e;have e1:=Qs nd h;have e2:=Qs nd h';rw[mem_singleton];omega
theorem Ka{L:List Str}{M:List (List Int)}{f:Fn}{ks:List Int}(up:ks.Pairwise (· < ·))(nr:∀x h n,f≠.rise x h n)(h:∀k,k∈ks↔∃j∈f.js,k∈M.getD j []):MovN L M f ks:=by
 refine⟨up,fun k=>(h k).trans ⟨.inl,?_⟩⟩;rintro(z | ⟨x,v,n,i,e,_⟩)
 ·exact z
 ·exact absurd e (nr x v n)
theorem j2E{lo ri c:Int}(l0:0<=lo)(l1:lo<=10)(r0:2<=ri)(r1:ri<=40)(c0:1<=c)(c1:c<=10):DOk twS (twF lo ri c) twM (twG ri c):=by
 have nd:twS.Nodup:=by decide +kernel
 have cr:=Int.mul_le_mul c1 (show 1+ri<=41 by omega) (by omega) (by decide);have cr0:=Int.mul_le_mul c0 (show 1<=1+ri by omega) (by decide) (by omega);refine⟨rfl,rfl,fun i f hf=>?_,fun i hi=>?_⟩
 ·match i,hf with
  | 0,hf=>cases hf;exact⟨⟨⟨1,rfl⟩,by omega,by omega,by decide,by decide⟩,yZ (i:=1) nd rfl,rfl⟩
  | 1,hf=>cases hf;exact⟨⟨⟨1,rfl⟩,by omega,by omega,by omega,by omega⟩,yZ (i:=1) nd rfl,rfl⟩
  | 2,hf=>
   cases hf;refine⟨⟨by simp,by decide,by decide⟩,Ka (pairwise_singleton _ _) (fun _ _ _ z=>by cases z) fun k=>⟨fun z=>⟨0,by decide,z⟩,?_⟩,?_⟩
   ·rintro⟨j,hj,z⟩;rcases mem_cons.mp hj with rfl | hj
    ·exact z
    ·rw[mem_singleton.mp hj]at z;exact z
   ·show 1+ri=1+(ri+0);omega
  | 3,hf=>
   cases hf;refine⟨⟨c0,by omega,by decide⟩,Ka (pairwise_singleton _ _) (fun _ _ _ z=>by cases z) fun k=>⟨fun z=>⟨2,mem_cons_self,z⟩,?_⟩,rfl⟩;rintro⟨j,hj,z⟩;rw[mem_singleton.mp hj]at z;exact z
  | 4,hf=>cases hf;exact⟨⟨⟨2,rfl⟩,by omega,by omega,by decide,by decide⟩,yZ (i:=2) nd rfl,rfl⟩
  | 5,hf=>cases hf;exact⟨⟨⟨2,rfl⟩,by omega,by omega,by omega,by omega⟩,yZ (i:=2) nd rfl,rfl⟩
  | 6,hf=>
   cases hf;refine⟨⟨by simp,by decide,by decide⟩,Ka (pairwise_singleton _ _) (fun _ _ _ z=>by cases z) fun k=>⟨fun z=>⟨4,by decide,z⟩,?_⟩,?_⟩
   ·rintro⟨j,hj,z⟩;rcases mem_cons.mp hj with rfl | hj
    ·exact z
    ·rw[mem_singleton.mp hj]at z;exact z
   ·show 1+ri=1+(ri+0);omega
  | 7,hf=>
   cases hf;refine⟨⟨c0,by omega,by decide⟩,Ka (pairwise_singleton _ _) (fun _ _ _ z=>by cases z) fun k=>⟨fun z=>⟨6,mem_cons_self,z⟩,?_⟩,rfl⟩;rintro⟨j,hj,z⟩;rw[mem_singleton.mp hj]at z;exact z
  | 8,hf=>
   cases hf;refine⟨⟨by decide,by decide,by decide,by decide,?_⟩,Ka (by decide) (fun _ _ _ z=>by cases z) fun k=>?_,⟨3,by decide,rfl⟩,fun j hj=>?_⟩
   ·refine pairwise_cons.mpr ⟨fun j hj=>?_,pairwise_singleton _ _⟩;rw[mem_singleton.mp hj];intro k (hk:k∈[(1:Int)]) (hk':k∈[(2:Int)]);have a:=mem_singleton.mp hk;have b:=mem_singleton.mp hk';omega
   ·constructor
    ·intro(z:k∈[(1:Int),2]);rcases mem_cons.mp z with z | z
     ·exact⟨3,by decide,show k∈[(1:Int)]from mem_singleton.mpr z⟩
     ·exact⟨7,by decide,z⟩
    ·rintro⟨j,hj,z⟩;rcases mem_cons.mp hj with rfl | hj
     ·exact mem_cons.mpr (.inl (mem_singleton.mp (show k∈[(1:Int)]from z)))
     ·rw[mem_singleton.mp hj]at z;exact mem_cons_of_mem _ z
   ·rcases mem_cons.mp hj with rfl | hj
    ·exact Int.le_refl _
    ·rw[mem_singleton.mp hj];exact Int.le_refl _
  | n+9,hf=>cases hf
 ·have hi:i<9:=hi;have e:∀x∈twG ri c,1<=x/\x<=10^60:=fun x hx=>by
   unfold twG at hx;simp only[mem_cons,List.not_mem_nil,or_false]at hx;rcases hx with rfl | rfl | rfl | rfl | rfl | rfl | rfl | rfl | rfl<;>omega
  refine e _ ?_;rw[getD_eq_getElem?_getD,List.getElem?_eq_getElem (show i<(twG ri c).length from hi)];exact getElem_mem _
inductive sp_twice(K:Frg)(vs:List V)(H:Hp)(Q:VK)(xk:XK):Prop
 | mk (a:Addr) (ns:List Int) (_:vs=[.ref a]) (_:SqL K H a (ns.map V.int)) (_:ns.length<=63) (_:(∀x∈ns,Builtin.Int.intBits x<=1048576)) (_:∀(r b pl pp:Addr) (las pas:List Addr) (names:List Str) (ls:List (Str×Int)) (fs:List Fn) (M:List (List Int)) (gs:List Int) (m:Int) (H':Hp),Same H H'->H' r=some (.lst [.ref b,.int (gs.getD ((drawnPs names fs).length-1) 0),.int m])->BookAt H' b pl pp las pas ls (drawnPs names fs)->Sn ls (drawnPs names fs) gs M->1<=m->m<=1000->1<=ls.length->(∀x∈nmsOf ls,Ws.isW x=true)->Q (.ref r) H'):sp_twice K vs H Q xk
theorem j2F{lo ri c:Int}(l0:0<=lo)(l1:lo<=10)(r0:2<=ri)(r1:ri<=40)(c0:1<=c)(c1:c<=10):Sn (twL lo ri) (drawnPs twN (twF lo ri c)) (twG ri c) twM:=by
 have D:DOk (nmsOf (twL lo ri)) (twF lo ri c) twM (twG ri c):=j2E l0 l1 r0 r1 c0 c1;refine D.sn (show 9<=9 by decide) (by decide +kernel) (show twS.Nodup by decide +kernel) (show 3<=8 by decide) (show 9<=61 by decide) (show 1<=9 by decide) fun q hq=>?_
 unfold twL at hq;simp only[mem_cons,List.not_mem_nil,or_false]at hq;rcases hq with rfl | rfl | rfl
 ·exact⟨l0,by show lo<=_;omega⟩
 ·exact⟨by show 0<=lo+ri;omega,by show lo+ri<=_;omega⟩
 ·exact⟨by show 0<=lo+ri;omega,by show lo+ri<=_;omega⟩
noncomputable def twP(wd lb:Str)(lo ri c:Int):List (Str×Fm):=[(wd++"a",.rise lb (lo+ri) 1),(wd++"b",.rise lb lo ri),(wd++"c",.row [wd++"a",wd++"b"]),(wd++"d",.again c (wd++"c"))]
theorem j2D{lo ri c:Int}:drawnPs twN (twF lo ri c)=twP "up" "wing" lo ri c++twP "on" "arm" lo ri c++[(("all" : Str),Fm.side ["upd","ond"])]:=by
 have e1:("up" : Str)++"a"= "upa":=by decide +kernel
 have e2:("up" : Str)++"b"= "upb":=by decide +kernel
 have e3:("up" : Str)++"c"= "upc":=by decide +kernel
 have e4:("up" : Str)++"d"= "upd":=by decide +kernel
 have e5:("on" : Str)++"a"= "ona":=by decide +kernel
 have e6:("on" : Str)++"b"= "onb":=by decide +kernel
 have e7:("on" : Str)++"c"= "onc":=by decide +kernel
 have e8:("on" : Str)++"d"= "ond":=by decide +kernel
 unfold twP;rw[e1,e2,e3,e4,e5,e6,e7,e8];rfl
noncomputable def twT(i:Nat)(lo ri c:Int):List (Str×Fm):=match i with
 | 0=>[]
 | 1=>twP "up" "wing" lo ri c
 | _=>twP "up" "wing" lo ri c++twP "on" "arm" lo ri c
theorem ZI{H:Hp}{pp c:Addr}{pas:List Addr}{ps:List (Str×Fm)}{p:Str×Fm}(e:H pp=some (.lst (pas.map V.ref)))(al:All2 (PartAt H) pas ps)(hc:PartAt H c p) :
  upd H pp (.lst (pas.map V.ref++[.ref c])) pp=some (.lst ((pas++[c]).map V.ref))/\All2 (PartAt (upd H pp (.lst (pas.map V.ref++[.ref c])))) (pas++[c]) (ps++[p])/\∀x u,x≠pp->H x=some u->upd H pp (.lst (pas.map V.ref++[.ref c])) x=some u:=by
 have k:∀x u,x≠pp->H x=some u->upd H pp (.lst (pas.map V.ref++[.ref c])) x=some u:=fun x u hx h=>(jh hx).trans h
 have kt:∀c' xs,H c'=some (.tup xs)->upd H pp (.lst (pas.map V.ref++[.ref c])) c'=some (.tup xs):=fun c' xs h=>k _ _ (Q5 h e fun z=>by cases z) h
 exact⟨by rw[jA,map_append];rfl,(al.mono fun c' x h=>PartAt.keep kt h).snoc (PartAt.keep kt hc),k⟩
end Rm
namespace L2
open PySem PySem.Spec PyProof.Rows
theorem j4D{K:Frg}{i j k:Nat}{a:Addr}{x y z:V}{σ:St}{H:Hp}{R:St->Hp->Prop}(e:SqL K H a [x,y,z])(h:gName i x σ H fun σ' H'=>gName j y σ' H' fun σ' H'=>gName k z σ' H' R):gTupL K 3 (gCons (gName i) (gCons (gName j) (gCons (gName k) gNil))) (.ref a) σ H R:=
 ⟨a,[x,y,z],rfl,e,rfl,x,[y,z],rfl,y,[z],rfl,z,[],rfl,rfl,h⟩
end L2
theorem L2.fsc{N P:List PySem.Str}{sc:PySem.Scope}(a:sc.kind = .function:=by rfl)(b:sc.isCoroutine=false:=by rfl)(c:sc.isGenerator=false:=by rfl)(d:N.Nodup:=by decide +kernel)(e:N.take P.length=P:=by rfl)(f:∀x∈P,sc.names.lookup x=some .local\/sc.names.lookup x=some .cell:=by decide +kernel)(g:∀y∈sc.names,y.2≠.free:=by decide +kernel):L2.FnScope N P sc:=⟨a,b,c,d,e,f,g⟩
structure PySem.W.Fast:Prop where
  (tw4664698550748160604 tw16052904023178674277 tw6761184574521277345 tw57804056864321915 tw7529073791265887730 tw14855008160607065544 tw17362498903024538853 tw15050885865818079629 tw11208583473760226205 tw1653757125892067935 tw2539222711129674637 tw12242821675660665292 tw15766244691884353303 tw637313653699173640 tw10178683491978390321 tw12602488385636716156 tw6743131610917656053 tw1306333708927393305 tw15956312403619821077 tw7577936437721502406 tw8705374679947278782 tw6357542550751545320 tw11797769273963176695 tw8154276908699707561 tw7575158081823805909 tw14451236994813981553 tw9830390415532460311 tw9200600224946214487 tw14325090820811197149 tw8700805282666259421 tw15909292068074888310 tw9203231478938967356 tw1172209703741515726 tw6883240678230197893 tw1736063256526074162 tw12585659117232004092 tw12362455456295123571 tw12388780253814263882 tw16513402240955470141 tw7704808581821926155 tw5297204521017130575 tw13167802780672219869 tw12583374779180634027 tw6217430056632051373 tw11796718228813362968 tw12757751983692588128 tw2227025838068348637 tw7658605134704515621 tw5208723369735026481 tw6412392848227184365 tw4838625234114575937 tw2359367951341419357 tw11398273073079901694 tw8315334604996951260 tw12720639466965276833 tw15416261129916479046 tw2229803478030722700 tw18131371507597896220 tw11936726052394144153 tw2414837377686864552 tw2274429603006801266 tw545924446375495191 tw9552782862816717281 tw9835006955356509571 tw13739389219471992306 tw12915651820455727951 tw3405336171293866388 tw17464075124360179821 tw16131827143236290331 tw5155477149461896134 tw17191758030905483496 tw14035165892475443783 tw12980103527063698330 tw15442591550928088662 tw6501379851772837699 tw1560675519327968470 tw14704655566732923897 tw8421804268272463197 tw798817871844340783 tw15657871843910775436 tw1456849004740441283 tw3619685900539394742 tw10480691877677034198 tw11156693566853164664 tw13713647093676957396 tw16302749580976329870 tw9318095388770924560 tw15976605439874836008 tw13699657249224156560 tw4649655174467554033 tw10851759100927327849 tw15185538693625012100 tw5782035804139446309 tw4735473705270082008 tw17860233665292773497 tw5404262628292671379 tw11861985009992405096 tw7611922691508957765 tw12403228467564256569 tw9555392375574123757 tw4475618367843905181 tw15217478725760261520 tw5928393291595605874 tw1067247690265839031 tw9673971248403435474 tw17024163605824615356 tw5212246101281409395 tw8367836284737507648 tw6911667927693413365 tw13661171641437678305 tw6422004899179076880 tw15084033773392317937 tw4100983141905489172 tw6189863731447586613 tw9036474372407770050 tw16806380118972021959 tw4431770365469566168 tw8614470618473300622 tw10446438530753770858 tw12566932122953708188 tw5059324005313016478 tw7030230716113154976 tw5096905788276882728 tw1264458306710288365 tw4324865231190647133 tw16782464525969444672 tw14794995132066086045 tw9148911098858788161 tw4977564691248514205 tw3568738265006849159 tw17438143370002329666 tw16422756846469996459 tw6726136347362236363 tw12268193382731887498 tw14918302560225174546 tw17227140788010945431 tw13751994899102013789 tw14115377928683544650 tw16025257346178083508 tw7939801498220005905 tw17214082408561909853 tw16622232614767677159 tw16735964831569031456 tw17495296025441882800 tw10356870614400012542 tw16460813138195030826 tw16489833996041830935 tw17842631495770655071 tw16496686401732339358 tw13036982436853191848 tw9252893549487135300 tw10296021466872205257 tw7546152459667571424 tw6278880225082848388 tw9553027738039357847 tw11150893536930560890 tw13522974041369997529 tw957167509045481834 tw12995970016439802065 tw2025207282529223118 tw11057899371945833873 tw10690341340408190973 tw1819614235442619217 tw494285170024505928 tw10152528965441555554 tw10154693659279456023 tw13477409724466918129 tw6878372849709109043 tw9174377848822952706 tw12051544896165340635 tw10365222461225140591 tw6167610441486580760 tw2298114964414502280 tw17707767351915721547 tw15335179068673478529 tw3021217057697919914 tw13426626869235381135 tw15648619253323872921 tw16438217819887758478 tw1256424641749771058 tw10568123640140263000 tw140695363925320246 tw6997198528992808044 tw2828510679710744095 tw6273999364180727012 tw1462198802659398655 tw9169324643062002 tw18177185444032475625 tw16741215533308592268 tw13815566733108838802 tw8771858083622014523 tw16087128582316066137 tw4453443710181075932 tw299044314330128525 tw4979569476346643440 tw10141288334839992518 tw3608053564001268585 tw13045743432109389091 tw5934782189552940874 tw12200509428104632242 tw18085554444664598179 tw2459250409984575985 tw13803296907470996878 tw2083425313585994403 tw16498221734662130966 tw6760282286670352871 tw1936063628914556178 tw10800841608230729300 tw329738547287118579 tw9835711250537390732 tw4541674666824356411 tw12790988918415929047 tw5255443506841029302 tw5337121733863134590 tw3210717899017213705:True)
theorem Rm.iteE0{b:Bool}{A B:Prop}(h:B)(e:b=false:=by decide +kernel):if b=true then A else B:=Rm.iteB0 e h
theorem Rm.iteE1{b:Bool}{A B:Prop}(h:A)(e:b=true:=by decide +kernel):if b=true then A else B:=Rm.iteB1 e h
namespace K30
open PySem L2 Rm
noncomputable def top(i:Nat):Stmt:=PySem.Challenge.pw_camplay_k30_jumps_among_first_beats.main.body.getD i (.Pass ⟨0,0,0,0⟩)
noncomputable abbrev WA:Stmt:=top 0
theorem j53:FnScope ["k"] ["k"] (defScope WA):=fsc
noncomputable abbrev Zs:Stmt:=top 9
theorem QD:FnScope ["named","numbers","number","one"] ["named"] (defScope Zs):=fsc
noncomputable abbrev yF:Stmt:=top 10
theorem xF:FnScope ["form"] ["form"] (defScope yF):=fsc
noncomputable abbrev ku:Stmt:=top 12
theorem Z0:FnScope ["book","numbers","found","name","form"] ["book"] (defScope ku):=fsc
noncomputable abbrev XE:Stmt:=top 13
theorem zK:FnScope ["book","limbs","found","part","inside","form","left","other"] ["book"] (defScope XE):=fsc
noncomputable abbrev kx:Stmt:=top 14
theorem Kp:FnScope ["book","found","left"] ["book"] (defScope kx):=fsc
noncomputable abbrev Q9:Stmt:=top 15
theorem zS:FnScope ["row","moves","limbs","number","limb"] ["row","moves","limbs"] (defScope Q9):=fsc
noncomputable abbrev ZV:Stmt:=top 16
theorem WD:FnScope ["form","inside"] ["form","inside"] (defScope ZV):=fsc
noncomputable abbrev Za:Stmt:=top 17
theorem qW:FnScope ["book","moves","found","row","inside","form","length"] ["book"] (defScope Za):=fsc
noncomputable abbrev XF:Stmt:=top 19
theorem j3I:FnScope ["start","goal","beats","j"] ["start","goal","beats","j"] (defScope XF):=fsc
noncomputable abbrev ZX:Stmt:=top 21
theorem qg:FnScope ["form","inside","sizes","part","later","found","begin"] ["form","inside","sizes"] (defScope ZX):=fsc
noncomputable abbrev zJ:Stmt:=top 22
theorem WE:FnScope ["book","sizes"] ["book","sizes"] (defScope zJ):=fsc
noncomputable abbrev yG:Stmt:=top 23
theorem qE:FnScope ["pieces","sizes","gone","found","part","turns","begin","over","rest"] ["pieces","sizes","gone"] (defScope yG):=fsc
noncomputable abbrev qR:Stmt:=top 24
theorem jT:FnScope ["pieces","left","first","found","part","height","now","other","turns","begin"] ["pieces","left","first"] (defScope qR):=fsc
noncomputable abbrev JJ:Stmt:=(inClass (top 25) 0)
theorem qe:FnScope ["self","book","name","limb","left","inside"] ["self","book","name"] (defScope JJ):=fsc
noncomputable abbrev Q4:Stmt:=(inClass (top 25) 1)
theorem YI:FnScope ["self","part"] ["self","part"] (defScope Q4):=fsc
noncomputable abbrev Ko:Stmt:=top 27
theorem ze:FnScope ["pieces","sizes","gone","found","part","begin","over","rest"] ["pieces","sizes","gone"] (defScope Ko):=fsc
noncomputable abbrev JX:Stmt:=(inClass (top 28) 0)
theorem Yh:FnScope ["self","book"] ["self","book"] (defScope JX):=fsc
noncomputable abbrev zQ:Stmt:=(inClass (top 28) 1)
theorem Jz:FnScope ["self","beat","starts","playing","todo","now","limb","height"] ["self","beat"] (defScope zQ):=fsc
noncomputable abbrev qU:Stmt:=(inClass (top 28) 2)
theorem jV:FnScope ["self","beat","scene","heights","part","gone","form","limb"] ["self","beat"] (defScope qU):=fsc
noncomputable abbrev QB:Stmt:=(inClass (top 28) 3)
theorem j0c:FnScope ["self","beat"] ["self","beat"] (defScope QB):=fsc
noncomputable abbrev WB:Stmt:=top 29
theorem j2o:FnScope ["book","beat"] ["book","beat"] (defScope WB):=fsc
noncomputable abbrev ZY:Stmt:=top 31
theorem Zu:FnScope ["start","goal","beats","most","even","rest"] ["start","goal","beats","most"] (defScope ZY):=fsc
noncomputable abbrev ZW:Stmt:=top 32
theorem Qx:FnScope ["strand","jumps","most","part","height","other","turns","begin"] ["strand","jumps","most","part","height"] (defScope ZW):=fsc
noncomputable abbrev zI:Stmt:=top 33
theorem za:FnScope ["strand","most","jumps","part","begun"] ["strand","most"] (defScope zI):=fsc
noncomputable abbrev Zr:Stmt:=top 34
theorem JQ:FnScope ["book","most","found","number","limb","beat","first","change"] ["book","most"] (defScope Zr):=fsc
noncomputable abbrev zx:Stmt:=top 36
theorem ke:FnScope ["_law_script","_law_k"] ["_law_script","_law_k"] (defScope zx):=fsc
noncomputable abbrev ZS:Stmt:=top 37
theorem Jn:FnScope ["_law_script","_law_k","_law_cell","_law_number_here","_law_found","_law_turn"] ["_law_script","_law_k"] (defScope ZS):=fsc
noncomputable abbrev ZT:Stmt:=top 38
theorem Yi:FnScope ["_law_pool_here","_law_many","_law_found"] ["_law_pool_here","_law_many"] (defScope ZT):=fsc
noncomputable abbrev ZU:Stmt:=top 39
theorem WC:FnScope ["_law_place","_law_k"] ["_law_place","_law_k"] (defScope ZU):=fsc
noncomputable abbrev zR:Stmt:=top 40
theorem ZZ:FnScope ["_law_pool_here","_law_most","_law_way"] ["_law_pool_here","_law_most"] (defScope zR):=fsc
noncomputable abbrev zH:Stmt:=top 41
theorem Qw:FnScope ["_law_moves","_law_at","_law_many","_law_k","_law_one","_law_other"] ["_law_moves","_law_at"] (defScope zH):=fsc
noncomputable abbrev qP:Stmt:=top 42
theorem qD:FnScope ["_law_pool_here","_law_way","_law_names","_law_moves","_law_longs","_law_most","_law_pair_here","_law_at","_law_times"] ["_law_pool_here","_law_way","_law_names","_law_moves","_law_longs","_law_most"] (defScope qP):=fsc
noncomputable abbrev zG:Stmt:=top 43
theorem qf:FnScope ["_law_pool_here","_law_book_here","_law_moves","_law_longs","_law_most","_law_way","_law_names","_law_limb","_law_goal","_law_some","_law_word_here"] ["_law_pool_here","_law_book_here","_law_moves","_law_longs","_law_most"] (defScope zG):=fsc
noncomputable abbrev qc:Stmt:=top 44
theorem Jr:FnScope ["_law_book_here","_law_moves","_law_longs","_law_name","_law_form_here","_law_numbers","_law_limbs","_law_k","_law_long"] ["_law_book_here","_law_moves","_law_longs","_law_name","_law_form_here"] (defScope qc):=fsc
noncomputable abbrev QZ:Stmt:=top 45
theorem jQ:FnScope ["_law_script","_law_start","_law_most","_law_pool_here","_law_place","_law_called","_law_order","_law_many","_law_book_here","_law_moves","_law_longs","_law_k","_law_name","_law_last"] ["_law_script","_law_start","_law_most"] (defScope QZ):=fsc
noncomputable abbrev Zp:Stmt:=top 46
theorem qv:FnScope ["_law_book_here","_law_last","_law_bound","_law_heights","_law_beat","_law_behind","_law_limb"] ["_law_book_here","_law_last","_law_bound"] (defScope Zp):=fsc
noncomputable abbrev Zq:Stmt:=top 47
theorem Js:FnScope ["_law_script","_law_cell","_law_low","_law_rise","_law_parts","_law_word_here","_law_limb","_law_limbs"] ["_law_script"] (defScope Zq):=fsc
noncomputable abbrev Qv:Stmt:=top 48
theorem qV:FnScope ["_law_book_here","_law_long","_law_bound","_law_found","_law_due"] ["_law_book_here","_law_long","_law_bound"] (defScope Qv):=fsc
noncomputable abbrev j2n:Stmt:=top 49
theorem Zt:FnScope ["_law_script","_law_most","_law_book_here","_law_long","_law_bound","_law_twice_here","_law_far","_law_less"] ["_law_script"] (defScope j2n):=fsc
set_option genInjectivity false in
set_option genSizeOf false in
structure Ad where
 XN:Addr
 XU:FuncData
 JD:Addr
 JH:FuncData
 zi:Addr
 zm:FuncData
 Zi:Addr
 Zj:FuncData
 yv:Addr
 yx:FuncData
 yO:Addr
 yT:FuncData
 Qj:Addr
 Qp:FuncData
 QJ:Addr
 QU:FuncData
 zc:Addr
 zd:FuncData
 kD:Addr
 kJ:FuncData
 QM:Addr
 QX:FuncData
 qY:Addr
 qZ:FuncData
 zj:Addr
 zn:FuncData
 qi:Addr
 qk:FuncData
 Ji:Addr
 JF:FuncData
 qh:Addr
 qj:FuncData
 ZH:Addr
 ZL:FuncData
 Jt:Addr
 JS:FuncData
 qL:Addr
 qN:FuncData
 Jv:Addr
 Jw:FuncData
 zU:Addr
 zV:FuncData
 Z2:Addr
 Z4:FuncData
 QN:Addr
 QY:FuncData
 QL:Addr
 QW:FuncData
 QK:Addr
 QV:FuncData
 Qk:Addr
 Qq:FuncData
 JR:Addr
 JT:FuncData
 QH:Addr
 QS:FuncData
 JY:Addr
 JZ:FuncData
 QI:Addr
 QT:FuncData
 JL:Addr
 JM:FuncData
 QG:Addr
 QR:FuncData
 qM:Addr
 qO:FuncData
 QF:Addr
 QQ:FuncData
 zh:Addr
 zl:FuncData
 QE:Addr
 QP:FuncData
 Qh:Addr
 Qn:FuncData
 Qi:Addr
 Qo:FuncData
 JC:Addr
 JG:FuncData
 XO:Addr
 W1:FuncData
 jX:Addr
 Jc:Addr
 qH:Addr
structure Txt(K:Frg)(mg:Str->Option Value)(t:Ad):Prop where
 j56:Fun K "_wall" "_wall" WA t.XN t.XU
 j57:mg "_wall"= some (.ref t.XN)
 j55:Binds K t.XU ["k"] []
 Qf:Fun K "numbers_of" "numbers_of" Zs t.JD t.JH
 Q8:mg "numbers_of"= some (.ref t.JD)
 Q6:Binds K t.JH ["named"] []
 kA:Fun K "names_in" "names_in" yF t.zi t.zm
 Xq:mg "names_in"= some (.ref t.zi)
 xT:Binds K t.zm ["form"] []
 kg:Fun K "inner" "inner" ku t.Zi t.Zj
 Wc:mg "inner"= some (.ref t.Zi)
 wE:Binds K t.Zj ["book"] []
 wF:Fun K "ends" "ends" XE t.yv t.yx
 Xp:mg "ends"= some (.ref t.yv)
 xS:Binds K t.yx ["book"] []
 XM:Fun K "moved" "moved" kx t.yO t.yT
 j3f:mg "moved"= some (.ref t.yO)
 j2N:Binds K t.yT ["book"] []
 yL:Fun K "check_side" "check_side" Q9 t.Qj t.Qp
 Wa:mg "check_side"= some (.ref t.Qj)
 wC:Binds K t.Qp ["row","moves","limbs"] []
 YU:Fun K "length_of" "length_of" ZV t.QJ t.QU
 xl:mg "length_of"= some (.ref t.QJ)
 WO:Binds K t.QU ["form","inside"] []
 Yp:Fun K "lengths" "lengths" Za t.zc t.zd
 K8:mg "lengths"= some (.ref t.zc)
 KJ:Binds K t.zd ["book"] []
 j1b:Fun K "ramp" "ramp" XF t.kD t.kJ
 j4q:mg "ramp"= some (.ref t.kD)
 j44:Binds K t.kJ ["start","goal","beats","j"] []
 YX:Fun K "pieces_in" "pieces_in" ZX t.QM t.QX
 xo:mg "pieces_in"= some (.ref t.QM)
 WR:Binds K t.QX ["form","inside","sizes"] []
 Zy:Fun K "pieces_of" "pieces_of" zJ t.qY t.qZ
 Y4:mg "pieces_of"= some (.ref t.qY)
 YQ:Binds K t.qZ ["book","sizes"] []
 kB:Fun K "progress" "progress" yG t.zj t.zn
 Xr:mg "progress"= some (.ref t.zj)
 xU:Binds K t.zn ["pieces","sizes","gone"] []
 Zv:Fun K "heights_begun" "heights_begun" qR t.qi t.qk
 ka:mg "heights_begun"= some (.ref t.qi)
 Y7:Binds K t.qk ["pieces","left","first"] []
 yI:Fun K "__init__" "Strand.__init__" JJ t.Ji t.JF
 Xv:Meth K t.jX "__init__" t.Ji
 yH:Binds K t.JF ["self","book","name"] []
 Y8:Fun K "raises" "Strand.raises" Q4 t.qh t.qj
 YE:Meth K t.jX "raises" t.qh
 Y6:Binds K t.qj ["self","part"] []
 WT:Fun K "within" "within" Ko t.ZH t.ZL
 j1J:mg "within"= some (.ref t.ZH)
 j1a:Binds K t.ZL ["pieces","sizes","gone"] []
 Yo:Fun K "__init__" "Stage.__init__" JX t.Jt t.JS
 j00:Meth K t.Jc "__init__" t.Jt
 Yn:Binds K t.JS ["self","book"] []
 Kz:Fun K "scene" "Stage.scene" zQ t.qL t.qN
 kY:Meth K t.Jc "scene" t.qL
 Kx:Binds K t.qN ["self","beat"] []
 yq:Fun K "heights_at" "Stage.heights_at" qU t.Jv t.Jw
 yd:Meth K t.Jc "heights_at" t.Jv
 yp:Binds K t.Jw ["self","beat"] []
 j0m:Fun K "words_at" "Stage.words_at" QB t.zU t.zV
 j01:Meth K t.Jc "words_at" t.zU
 j0l:Binds K t.zV ["self","beat"] []
 yN:Fun K "stand" "stand" WB t.Z2 t.Z4
 km:mg "stand"= some (.ref t.Z2)
 kf:Binds K t.Z4 ["book","beat"] []
 YY:Fun K "ramp_jump" "ramp_jump" ZY t.QN t.QY
 xp:mg "ramp_jump"= some (.ref t.QN)
 WS:Binds K t.QY ["start","goal","beats","most"] []
 YW:Fun K "part_jump" "part_jump" ZW t.QL t.QW
 xn:mg "part_jump"= some (.ref t.QL)
 WQ:Binds K t.QW ["strand","jumps","most","part","height"] []
 YV:Fun K "limb_jump" "limb_jump" zI t.QK t.QV
 xm:mg "limb_jump"= some (.ref t.QK)
 WP:Binds K t.QV ["strand","most"] []
 yM:Fun K "first_jump" "first_jump" Zr t.Qk t.Qq
 Wb:mg "first_jump"= some (.ref t.Qk)
 wD:Binds K t.Qq ["book","most"] []
 Qd:Fun K "_law_cell_at" "_law_cell_at" zx t.JR t.JT
 zr:mg "_law_cell_at"= some (.ref t.JR)
 zg:Binds K t.JT ["_law_script","_law_k"] []
 Zw:Fun K "_law_pool" "_law_pool" ZS t.QH t.QS
 Y2:mg "_law_pool"= some (.ref t.QH)
 YM:Binds K t.QS ["_law_script","_law_k"] []
 jL:Fun K "_law_take" "_law_take" ZT t.JY t.JZ
 jO:mg "_law_take"= some (.ref t.JY)
 jN:Binds K t.JZ ["_law_pool_here","_law_many"] []
 Zx:Fun K "_law_word" "_law_word" ZU t.QI t.QT
 Y3:mg "_law_word"= some (.ref t.QI)
 YO:Binds K t.QT ["_law_place","_law_k"] []
 Jo:Fun K "_law_number" "_law_number" zR t.JL t.JM
 JN:mg "_law_number"= some (.ref t.JL)
 JK:Binds K t.JM ["_law_pool_here","_law_most"] []
 YT:Fun K "_law_pair" "_law_pair" zH t.QG t.QR
 xj:mg "_law_pair"= some (.ref t.QG)
 WN:Binds K t.QR ["_law_moves","_law_at"] []
 yf:Fun K "_law_naming" "_law_naming" qP t.qM t.qO
 KA:mg "_law_naming"= some (.ref t.qM)
 Ky:Binds K t.qO ["_law_pool_here","_law_way","_law_names","_law_moves","_law_longs","_law_most"] []
 YS:Fun K "_law_form" "_law_form" zG t.QF t.QQ
 xi:mg "_law_form"= some (.ref t.QF)
 WM:Binds K t.QQ ["_law_pool_here","_law_book_here","_law_moves","_law_longs","_law_most"] []
 yr:Fun K "_law_put" "_law_put" qc t.zh t.zl
 kW:mg "_law_put"= some (.ref t.zh)
 kz:Binds K t.zl ["_law_book_here","_law_moves","_law_longs","_law_name","_law_form_here"] []
 YR:Fun K "_law_book" "_law_book" QZ t.QE t.QP
 xg:mg "_law_book"= some (.ref t.QE)
 WL:Binds K t.QP ["_law_script","_law_start","_law_most"] []
 yJ:Fun K "_law_first" "_law_first" Zp t.Qh t.Qn
 wY:mg "_law_first"= some (.ref t.Qh)
 wA:Binds K t.Qn ["_law_book_here","_law_last","_law_bound"] []
 yK:Fun K "_law_twice" "_law_twice" Zq t.Qi t.Qo
 wZ:mg "_law_twice"= some (.ref t.Qi)
 wB:Binds K t.Qo ["_law_script"] []
 Qe:Fun K "_law_told_first" "_law_told_first" Qv t.JC t.JG
 zF:mg "_law_told_first"= some (.ref t.JC)
 zA:Binds K t.JG ["_law_book_here","_law_long","_law_bound"] []
 j3T:Fun K "law" "law" j2n t.XO t.W1
 j4Z:mg "law"= some (.ref t.XO)
 j59:Binds K t.W1 ["_law_script"] []
 jW:Cls K t.jX
 j1c:Mk K t.jX t.Ji
 j0H:mg "Strand"= some (.ref t.jX)
 Jx:NoAttr K t.jX "first"
 Jy:NoAttr K t.jX "sizes"
 Jq:NoAttr K t.jX "left"
 j7:NoAttr K t.jX "pieces"
 JW:NoAttr K t.jX "begun"
 Jd:Cls K t.Jc
 j2O:Mk K t.Jc t.Jt
 j1N:mg "Stage"= some (.ref t.Jc)
 qt:NoAttr K t.Jc "limbs"
 qq:NoAttr K t.Jc "first"
 qr:NoAttr K t.Jc "forms"
 j9:NoAttr K t.Jc "sizes"
 qG:NoAttr K t.Jc "left"
 JV:NoAttr K t.Jc "pieces"
 j3U:mg "abs"= none
 x9:mg "dict"= none
 QO:mg "enumerate"= none
 yQ:mg "isinstance"= none
 Qy:mg "len"= none
 j1h:mg "list"= none
 j3V:mg "max"= none
 WW:mg "min"= none
 Qm:mg "range"= none
 j1i:mg "sorted"= none
 j3W:mg "sum"= none
 yR:mg "tuple"= none
 j3X:mg "zip"= none
 wL:mg "MOST_NAMES"= some (.ref t.qH)
 qF:TabK K t.qH [("row",.flat (.int 8)),("side",.flat (.int 4))]
section
variable{P:Program}{w:World}{K:Frg}{mg:Str->Option Value}{base:Heap}{t:Ad}
theorem kc(T:Txt K mg t):FnOk P w K mg base CX0 1 t.JR t.JT ["_law_script","_law_k"] (Pr.sp_cell_at K):=by
 refine T.Qd.ok ke (fun vs H Q E h=>?_) (fun cdv A outer s H vs Q E hr h=>?_)
 ·cases h;subst_vars;rfl
 obtain⟨a,ns,k,rfl,hS,h63,h0,q⟩:=h;refine⟨_,(jc (Jl (jw wp (pv 1) (jH Jg (by rfl) T.Qy qw (jb (pv 0) jd)) (nomark _))
   (jk (jC (jm jx (pv 0) (pv 1))))
   jG)
  (jk (jC jf))),?_⟩
 refine jB (σ':=[some _,some _]) rfl ?_;exists⟨_,_,rfl,.inl ⟨_,hS,rfl⟩,?_⟩;exists iteD (fun c=>?_) (fun c=>?_)
 ·walk_at"g";exact⟨a,_,k,_,rfl,rfl,hS,Pr.j2R h0 (by rw[length_map]at c;exact c),q⟩
 ·walk_at"g";have e:Pr.cell ns k=0:=by
   rw[length_map]at c;unfold Pr.cell;rw[getD_eq_getElem?_getD,List.getElem?_eq_none (by omega)];rfl
  rw[e]at q;exact q
theorem Wk(T:Txt K mg t):FnOk P w K mg base CX0 1 t.QH t.QS ["_law_script","_law_k"] (sp_poolC K):=by
 refine T.Zw.ok Jn (fun vs H Q E h=>?_) (fun cdv A outer s H vs Q E hr h=>?_)
 ·cases h;subst_vars;rfl
 obtain⟨a,ns,k,rfl,hS,h63,k0,k1,q⟩:=h;refine⟨_,(jc (jr (i:=2) Jn.nd rfl (.inl rfl) jf)
  (jc (zw (jw wp (pv 1) (jH Jg (by rfl) T.Qy qw (jb (pv 0) jd)) (nomark _))
   (jk (jr (i:=2) Jn.nd rfl (.inl rfl) (jm jx (pv 0) (pv 1))))
   jG)
  (jc (Jl (jw j50 (pv 2) (ju Wv jf jf) (nomark _))
   (jk (jC (jR (jb (ju qA (pv 2) (ju Wv jf jf)) jd))))
   jG)
  (jc (jr (i:=3) Jn.nd rfl (.inl rfl) (ju jY (ju jY (ju qA (pv 2) jf) (ju qy (ju qy jf (pv 1)) (pv 1))) jf))
  (jc (jr (i:=4) Jn.nd rfl (.inl rfl) jf)
  (jc (Jh PassesOwn.never rfl (qu (by rfl) T.Qm (jb jf jd)) (jq (i:=5) Jn.nd rfl (.inl rfl))
   (jc (jr (i:=3) Jn.nd rfl (.inl rfl) (ju qA (ju jY (ju qy (pv 3) jf) (ju qy jf (pv 5))) jf))
   (jc (jr (i:=3) Jn.nd rfl (.inl rfl) (ju qA (ju qy (pv 3) (pv 3)) jf))
   (jk (jr (i:=4) Jn.nd rfl (.inl rfl) (ju jY (ju j3t (pv 4) jf) (pv 3)))))))
  (jk (jC (jR (jb (pv 4) jd)))))))))),?_⟩
 refine jB (σ':=[some _,some _,none,none,none,none]) rfl ?_;have sz:(200:Nat)<sizeLine:=by decide
 exists⟨fun σ' H'=>∃c:Int,σ'=[some (.ref a),some (.int k),some (.int c),none,none,none]/\H=H',?_,?_⟩
 rotate_left
 ·exists⟨_,_,rfl,.inl ⟨_,hS,rfl⟩,?_⟩;rw[length_map];exists iteD (fun c=>?_) (fun c=>?_)
  ·walk_at"g";have hk:ns[k.toNat]?=some ns[k.toNat]:=List.getElem?_eq_getElem (by omega);refine⟨a,_,_,_,rfl,rfl,hS,(show atI (ns.map V.int) k=some (.int ns[k.toNat])from ?_),?_⟩
   ·have:=jD (xs:=ns.map V.int) (j:=k.toNat) (v:=.int ns[k.toNat]) (by rw[List.getElem?_map,hk];rfl);rw[Int.toNat_of_nonneg k0]at this;exact this
   exact⟨_,rfl,rfl⟩
  ·walk_at"g";exact⟨_,rfl,rfl⟩
 rintro σ' H' ⟨c,rfl,rfl⟩;exists iteD (fun _=>?_) (fun _=>?_)
 ·exists⟨(by show 1<=sizeLine;omega),?_⟩;walk_at"f p hp H1 s1 t1";exact q _ _ _ s1 hp t1
 have kk:=Xw (A:=4827100) (B:=100) (show -4827100<=48271*k by omega) (by omega) (show -100<=k by omega) (by omega);walk_at"g";have c0:0<=c%2147483647/\c%2147483647<2147483647:=by omega
 have n0 : -10^12<=c%2147483647+48271*k*k+11/\c%2147483647+48271*k*k+11<=10^12:=by omega
 generalize c%2147483647+48271*k*k+11=sd0 at n0|-;refine⟨_,rfl,by omega,by omega,?_⟩;refine zW (fun i σ H'=>∃(o5:Option V) (sd nm:Int),σ=[some (.ref a),some (.int k),some (.int c),some (.int sd),some (.int nm),o5]/\H=H'/\-10^12<=sd/\sd<=10^12) ⟨_,_,_,rfl,rfl,n0.1,n0.2⟩ ?_ ?_
 ·rintro i σ H' hi ⟨o5,sd,nm,rfl,rfl,d0,d1⟩;have hi:i<7:=by omega
  walk_at"g";have e0:=Int.emod_nonneg (sd*69621+7919*(0+(i:Int))) (show(2147483629:Int)≠0 by decide);have e1:=Int.emod_lt_of_pos (sd*69621+7919*(0+(i:Int))) (show(0:Int)<2147483629 by decide);generalize(sd*69621+7919*(0+(i:Int)))%2147483629=s2 at e0 e1|-;walk_at"g";have f0:=Int.emod_nonneg (s2*s2) (show(2147483587:Int)≠0 by decide);have f1:=Int.emod_lt_of_pos (s2*s2) (show(0:Int)<2147483587 by decide);generalize s2*s2%2147483587=s3 at f0 f1|-;walk_at"g";exact⟨_,_,_,rfl,rfl,by omega,by omega⟩
 rintro σ' H' ⟨o5,sd,nm,rfl,rfl,d0,d1⟩;exists⟨(by show 1<=sizeLine;omega),?_⟩;walk_at"f p hp H1 s1 t1";exact q _ _ _ s1 hp t1
theorem Wl(T:Txt K mg t):FnOk P w K mg base CX0 1 t.JY t.JZ ["_law_pool_here","_law_many"] (sp_takeD):=by
 refine T.jL.ok Yi (fun vs H Q E h=>?_) (fun cdv A outer s H vs Q E hr h=>?_)
 ·cases h;subst_vars;rfl
 obtain⟨p,x,m,rfl,ep,m0,m1,q⟩:=h;refine⟨_,(jc (jr (i:=2) Yi.nd rfl (.inl rfl) (ju qA (jm jx (pv 0) jf) (pv 1)))
  (jc (Kk (ju ql (jm jx (pv 0) jf) (pv 1)) (Xz (pv 0) jf set_list))
  (jk (jC (pv 2))))),?_⟩
 refine jB (σ':=[some _,some _,none]) rfl ?_;exists ixLm (SqL.of ep) rfl ?_;exists ixLm (SqL.of ep) rfl ?_;exists⟨p,_,_,0,rfl,rfl,ep,rfl,?_⟩;walk_at"g";exact q _ _ _ (Int.emod_nonneg x (by omega)) (Int.emod_lt_of_pos x m0) (fun c u hc h=>(jh hc).trans h) jA
theorem Wm(T:Txt K mg t):FnOk P w K mg base CX0 1 t.QI t.QT ["_law_place","_law_k"] (sp_wordC):=by
 refine T.Zx.ok WC (fun vs H Q E h=>?_) (fun cdv A outer s H vs Q E hr h=>?_)
 ·cases h;subst_vars;rfl
 obtain⟨p,k,rfl,hp,hk,q⟩:=h;refine⟨_,(jk (jC (ju JO (ju JO (ju JO (zY j2r jz Z8 (Zo (pv 0))) (jm j4g jz (ju qA (pv 1) jf))) (zY j2r jz (Zo (pv 0)) Z8)) (jm jx (jR (jb jz (jb jz (jb jz jd)))) (ju ql (pv 1) jf))))),?_⟩;refine jB (σ':=[some _,some _]) rfl ?_;have sz:(200:Nat)<sizeLine:=by decide
 have hc:(Str.ofString "abcdefghijklnopqrstuvwxyz").cps.toList[((k:Nat):Int).toNat]?=some (abcC.cps.toList.getD k 97):=by
  have l:(Str.ofString "abcdefghijklnopqrstuvwxyz").cps.toList.length=25:=by decide +kernel
  show _=some ((Str.ofString "abcdefghijklnopqrstuvwxyz").cps.toList.getD k 97);rw[Int.toNat_natCast,getD_eq_getElem?_getD,List.getElem?_eq_getElem (by omega)];rfl
 have l1:(Txt.slice (Str.ofString "mmmm") none (some ((p:Nat):Int))).length<=4:=Nat.le_trans XT (by decide +kernel);have l2:(Txt.slice (Str.ofString "mmm") (some ((p:Nat):Int)) none).length<=4:=Nat.le_trans XT (by decide +kernel);have l3:∀c,(⟨#[c]⟩:Str).length=1:=fun c=>rfl
 exists⟨(by decide +kernel),?_⟩;walk_at"g";rw[show((k:Nat):Int)%25=((k:Nat):Int) by omega];refine⟨_,_,_,rfl,rfl,(by decide +kernel),j1e (by omega) hc,?_⟩;refine⟨_,_,rfl,rfl,by rw[l3];omega,?_⟩;exists⟨(by decide +kernel),?_⟩;refine⟨_,_,rfl,rfl,by rw[Str.length_append,l3];omega,?_⟩;exists⟨(by show 3<=sizeLine;omega),?_⟩;walk_at"f 5 t";walk_at"g";rw[show((k:Nat):Int)/25=0 by omega];refine ixLm (SqL.of t5) rfl ?_;refine⟨_,_,rfl,rfl,by rw[Str.length_append,Str.length_append,l3,show(Str.ofString "").length=0 by decide +kernel];omega,?_⟩;exact q H5 s5
theorem Kg(T:Txt K mg t)(jE:FnOk P w K mg base CX0 1 t.JY t.JZ ["_law_pool_here","_law_many"] (sp_takeD)):FnOk P w K mg base CX0 2 t.JL t.JM ["_law_pool_here","_law_most"] (sp_takeD):=by
 refine T.Jo.ok ZZ (fun vs H Q E h=>?_) (fun cdv A outer s H vs Q E hr h=>?_)
 ·cases h;subst_vars;rfl
 obtain⟨p,x,m,rfl,ep,m0,m1,q⟩:=h;refine⟨_,(jc (jr (i:=2) ZZ.nd rfl (.inl rfl) (jt (jE.mono (by decide)) hr (by rfl) T.jO T.jL.kp T.jN .nil pass0 (jb (pv 0) (jb jf jd))))
  (jc (Jl (jw J0 (pv 2) jf (nomark _))
   (jk (jC (jt (jE.mono (by decide)) hr (by rfl) T.jO T.jL.kp T.jN .nil pass0 (jb (pv 0) (jb (jH (Z3 rfl) (by rfl) T.WW kE (jb (pv 1) (jb jf jd))) jd)))))
   jG)
  (jc (Jl (jw J0 (pv 2) jf (nomark _))
   (jk (jC (jt (jE.mono (by decide)) hr (by rfl) T.jO T.jL.kp T.jN .nil pass0 (jb (pv 0) (jb (jH (Z3 rfl) (by rfl) T.WW kE (jb (pv 1) (jb jf jd))) jd)))))
   jG)
  (jk (jC (jt (jE.mono (by decide)) hr (by rfl) T.jO T.jL.kp T.jN .nil pass0 (jb (pv 0) (jb (pv 1) jd)))))))),?_⟩
 refine jB (σ':=[some _,some _,none]) rfl ?_;exists⟨p,x,3,rfl,ep,by omega,by omega,fun w y H1 w0 w1 x1 e1=>?_⟩;exists iteD (fun _=>?_) (fun _=>?_)
 ·exists⟨_,_,rfl,?_⟩;exists⟨p,y,_,rfl,e1,by omega,by omega,fun r y2 H2 r0 r1 x2 e2=>q r y2 H2 r0 (by omega) (x1.trans x2) e2⟩
 exists iteD (fun _=>?_) (fun _=>?_)
 ·exists⟨_,_,rfl,?_⟩;exists⟨p,y,_,rfl,e1,by omega,by omega,fun r y2 H2 r0 r1 x2 e2=>q r y2 H2 r0 (by omega) (x1.trans x2) e2⟩
 walk_at"g";exact⟨p,y,m,rfl,e1,m0,m1,fun r y2 H2 r0 r1 x2 e2=>q r y2 H2 r0 r1 (x1.trans x2) e2⟩
theorem Wj(T:Txt K mg t):FnOk P w K mg base CX0 1 t.QG t.QR ["_law_moves","_law_at"] (sp_pairC):=by
 refine T.YT.ok Qw (fun vs H Q E h=>?_) (fun cdv A outer s H vs Q E hr h=>?_)
 ·cases h;subst_vars;rfl
 obtain⟨m,mas,M,at',rfl,em,am,m8,n1,n60,a0,a1,q⟩:=h;refine⟨_,(jc (jr (i:=2) Qw.nd rfl (.inl rfl) (jH Jg (by rfl) T.Qy qw (jb (pv 0) jd)))
  (jc (Jh PassesOwn.never rfl (qu (by rfl) T.Qm (jb (ju qy (pv 2) (pv 2)) jd)) (jq (i:=3) Qw.nd rfl (.inl rfl))
   (jc (jr (i:=4) Qw.nd rfl (.inl rfl) (ju qA (ju ql (ju jY (pv 1) (pv 3)) (pv 2)) (pv 2)))
   (jc (jr (i:=5) Qw.nd rfl (.inr rfl) (ju qA (ju jY (pv 1) (pv 3)) (pv 2)))
   (jk (Jl (PW.pt (yE (jw (Xy hr.units) (jm jx (pv 0) (pv 4)) (jR jd) (nomark _)) (yE (jw (Xy hr.units) (jm jx (pv 0) (pv 5)) (jR jd) (nomark _)) (Z9 (jw (j1V hr.units) (Jj (ow:=["_law_limb"]) (ci:=[0,5]) rfl (CompScope.of (defScope zH) ["_law_moves","_law_at","_law_many","_law_k","_law_one","_law_other"] rfl rfl (by decide +kernel)) (Jf (by decide)) (jP (jm jx (pv 0) (pv 4))) (fun _ _ _ _ _=>⟨(jq (i:=0) (Ja ["_law_moves","_law_at","_law_many","_law_k","_law_one","_law_other"] rfl (by decide +kernel)) rfl (.inl rfl)),(ZR (jw (Zm (K:=K) rfl) (pv 0) (jm (JU (K:=K) rfl) (pv 1) (pv 2)) (by with_unfolding_all rfl))),(pv 0)⟩)) (jR jd) (nomark _))))))
    (jk (jC (jI (jb (pv 4) (jb (pv 5) jd)))))
    jG)))))
  (jk (jC Qu)))),?_⟩
 refine jB (σ':=[some _,some _,none,none,none,none]) rfl ?_;have sz:(200:Nat)<sizeLine:=by decide
 have aml:=am.1;have nn:=Xw (A:=60) (B:=60) (show -60<=(mas.length:Int) by omega) (by omega) (show -60<=(mas.length:Int) by omega) (by omega);have hM:∀{u:Nat},u<M.length->M[u]?=some (M.getD u []):=fun {u} hu=>by rw[getD_eq_getElem?_getD,List.getElem?_eq_getElem hu];rfl
 exists⟨_,_,rfl,.inl ⟨_,SqL.of em,rfl⟩,?_⟩;rw[length_map];exists⟨_,rfl,by omega,by omega,?_⟩;refine zW (fun i σ H'=>∃(o3 o4 o5:Option V),σ=[some (.ref m),some (.int at'),some (.int (mas.length:Nat)),o3,o4,o5]/\Same H H') ⟨_,_,_,rfl,Same.refl _⟩ ?_ ?_
 ·rintro i σ H' hi ⟨o3,o4,o5,rfl,sm⟩;have hi4:(i:Int)<=3600:=by omega
  walk_at"g";have u0:=Int.emod_nonneg ((at'+(0+(i:Int)))/(mas.length:Nat)) (show((mas.length:Nat):Int)≠0 by omega);have u1:=Int.emod_lt_of_pos ((at'+(0+(i:Int)))/(mas.length:Nat)) (show(0:Int)<((mas.length:Nat):Int) by omega);have w0:=Int.emod_nonneg (at'+(0+(i:Int))) (show((mas.length:Nat):Int)≠0 by omega);have w1:=Int.emod_lt_of_pos (at'+(0+(i:Int))) (show(0:Int)<((mas.length:Nat):Int) by omega);generalize(at'+(0+(i:Int)))/(mas.length:Nat)%(mas.length:Nat)=uu at u0 u1|-;generalize(at'+(0+(i:Int)))%(mas.length:Nat)=ww at w0 w1|-;obtain⟨u,rfl⟩:∃u:Nat,uu=(u:Int):=⟨uu.toNat,by omega⟩
  obtain⟨w',rfl⟩:∃w':Nat,ww=(w':Int):=⟨ww.toNat,by omega⟩
  have ul:u<M.length:=by omega
  have wl:w'<M.length:=by omega
  obtain⟨ua,eua,hua⟩:=am.get (hM ul);obtain⟨wa,ewa,hwa⟩:=am.get (hM wl);have k8:=m8 _ (List.mem_of_getElem? (hM ul));have k8':=m8 _ (List.mem_of_getElem? (hM wl));refine ixLm (SqL.of (sm _ _ em)) (Ql (i:=(u:Int)) (by omega) eua) ?_;exists⟨Nat.zero_le _,?_⟩;walk_at"f 3 t";have s03:=sm.trans s3;refine⟨_,_,j1q (s03 _ _ hua),j2Y t3,shp _,shp0,?_⟩;rw[j1t];exists iteN (fun d1=>?_) (fun d1=>?_)
  ·exists ixLm (SqL.of (s03 _ _ em)) (Ql (i:=(w':Int)) (by omega) ewa) ?_;exists⟨Nat.zero_le _,?_⟩;walk_at"f 4 t";have s04:=s03.trans s4;refine⟨_,_,j1q (s04 _ _ hwa),j2Y t4,shp _,shp0,?_⟩;rw[j1t];exists iteN (fun d2=>?_) (fun d2=>?_)
   ·exists ixLm (SqL.of (s04 _ _ em)) (Ql (i:=(u:Int)) (by omega) eua) ?_;refine⟨ua,rfl,⟨_,SqL.of (s04 _ _ hua)⟩,?_⟩;refine Je (xs:=(M.getD u []).map V.int) (fun i ys H'=>ys=(((M.getD u []).take i).filter fun k=>decide (k∈M.getD w' [])).map V.int/\H4=H') ⟨rfl,rfl⟩ ?_ ?_ ?_
    ·rintro i ys H' _ ⟨rfl,rfl⟩;exact SqL.of (s04 _ _ hua)
    ·rintro i x ys H' hx ⟨rfl,rfl⟩;rw[List.getElem?_map]at hx;obtain⟨k,hk,rfl⟩:=Option.map_eq_some_iff.mp hx;have ik:=(List.getElem?_eq_some_iff.mp hk).1;refine Jm (σ':=[none,some _,some _]) rfl ?_;exists ixLm (SqL.of (s04 _ _ em)) (Ql (i:=(w':Int)) (by omega) ewa) ?_;refine⟨wa,_,rfl,.inl (SqL.of (s04 _ _ hwa)),rfl,flats _,?_⟩;rw[inI];walk_at"g";rw[take_snoc hk,filter_append];have lf:(((M.getD u []).take i).filter fun k=>decide (k∈M.getD w' [])).length<=8:=Nat.le_trans (length_filter_le _ _) (by rw[length_take];omega);refine iteD (fun c=>?_) (fun c=>?_)
     ·exists⟨by rw[length_map];omega,?_,rfl⟩;rw[map_append,filter_cons,if_pos (decide_eq_true c),filter_nil];rfl
     ·refine⟨?_,rfl⟩;rw[filter_cons,if_neg (by rw[decide_eq_false c];exact Bool.false_ne_true),filter_nil,append_nil]
    rintro ys H' ⟨rfl,rfl⟩;rw[show((M.getD u []).map V.int).length=(M.getD u []).length from length_map _,take_length];have lf:((M.getD u []).filter fun k=>decide (k∈M.getD w' [])).length<=8:=Nat.le_trans (length_filter_le _ _) k8;refine⟨by rw[length_map];omega,?_⟩;walk_at"f 5 t";exists⟨Nat.zero_le _,?_⟩;walk_at"f 6 t";have s06:=s04.trans (s5.trans s6);refine⟨_,_,j1q (s6 _ _ t5),j2Y t6,shp _,shp0,?_⟩;rw[j1t];exists iteD (fun c=>?_) (fun c=>?_)
    ·have hno:∀k∈M.getD u [],¬k∈M.getD w' []:=fun k hk hkt=>by
      have:k∈(M.getD u []).filter fun k=>decide (k∈M.getD w' []):=mem_filter.mpr ⟨hk,decide_eq_true hkt⟩
      rw[c]at this;exact nomatch this
     exists⟨(by show 2<=sizeLine;omega),?_⟩;walk_at"f 7 t";exact q _ H7 (s06.trans s7) (.inr ⟨p7,u,w',rfl,t7,ul,wl,d1,d2,hno⟩)
    ·walk_at"g";exact⟨_,_,_,rfl,s06⟩
   ·walk_at"g";exact⟨_,_,_,rfl,s04⟩
  ·walk_at"g";exact⟨_,_,_,rfl,s03⟩
 rintro σ' H' ⟨o3,o4,o5,rfl,sm⟩;walk_at"g";exact q _ H' sm (.inl rfl)
theorem Kf(T:Txt K mg t)(jE:FnOk P w K mg base CX0 1 t.JY t.JZ ["_law_pool_here","_law_many"] (sp_takeD))(jM:FnOk P w K mg base CX0 2 t.JL t.JM ["_law_pool_here","_law_most"] (sp_takeD))(ZB:FnOk P w K mg base CX0 1 t.QG t.QR ["_law_moves","_law_at"] (sp_pairC)):FnOk P w K mg base CX0 3 t.qM t.qO ["_law_pool_here","_law_way","_law_names","_law_moves","_law_longs","_law_most"] (sp_namingC):=by
 refine T.yf.ok qD (fun vs H Q E h=>?_) (fun cdv A outer s H vs Q E hr h=>?_)
 ·cases h;subst_vars;rfl
 obtain⟨p,nl,m,g,x,way,most,names,n,mas,Mv,gs,rfl,ep,C,m1,m2,q⟩:=h;refine⟨_,(jc (Jl (jw J0 (pv 1) jf (nomark _))
   (jk (jC (jI (jb jz (jb (Qc zN (by rfl) T.yR ZJ (jb (Jj (ow:=["_law_k"]) (ci:=[2,0]) rfl (CompScope.of (defScope qP) ["_law_pool_here","_law_way","_law_names","_law_moves","_law_longs","_law_most","_law_pair_here","_law_at","_law_times"] rfl rfl (by decide +kernel)) (Jf (by decide)) (qu (by rfl) T.Qm (jb (ju jY jf (jt (jE.mono (by decide)) hr (by rfl) T.jO T.jL.kp T.jN .nil pass0 (jb (pv 0) (jb jf jd)))) jd)) (fun _ _ _ _ _=>⟨(jq (i:=0) (Ja ["_law_pool_here","_law_way","_law_names","_law_moves","_law_longs","_law_most","_law_pair_here","_law_at","_law_times"] rfl (by decide +kernel)) rfl (.inl rfl)),qB,(jm (JU (K:=K) rfl) (pv 1) (jt (jE.mono (by decide)) hr (by rfl) T.jO T.jL.kp T.jN .nil pass0 (jb (pv 2) (jb (jH (KP (K:=K) rfl) (by rfl) T.Qy qw (jb (pv 1) jd)) jd))))⟩)) jd)) jd)))))
   jG)
  (jc (Jl (jw J0 (pv 1) jf (nomark _))
   (jc (jr (i:=6) qD.nd rfl (.inl rfl) (jt (ZB.mono (by decide)) hr (by rfl) T.xj T.YT.kp T.WN .nil pass0 (jb (pv 3) (jb (jt (jE.mono (by decide)) hr (by rfl) T.jO T.jL.kp T.jN .nil pass0 (jb (pv 0) (jb (ju qy (jH Jg (by rfl) T.Qy qw (jb (pv 2) jd)) (jH Jg (by rfl) T.Qy qw (jb (pv 2) jd))) jd))) jd))))
   (jc (Jl (jw j1W (pv 6) Qu (nomark _))
    (jk (jC (jI (jb jz (jb (ju jY jf (jt (jM.mono (by decide)) hr (by rfl) T.JN T.Jo.kp T.JK .nil pass0 (jb (pv 0) (jb (pv 5) jd)))) jd)))))
    jG)
   (jk (jC (jI (jb jz (jb (Qc zN (by rfl) T.yR ZJ (jb (Jj (ow:=["_law_one"]) (ci:=[2]) rfl (CompScope.of (defScope qP) ["_law_pool_here","_law_way","_law_names","_law_moves","_law_longs","_law_most","_law_pair_here","_law_at","_law_times"] rfl rfl (by decide +kernel)) (Jf (by decide)) (XA (pv 6)) (fun _ _ _ _ _=>⟨(jq (i:=0) (Ja ["_law_pool_here","_law_way","_law_names","_law_moves","_law_longs","_law_most","_law_pair_here","_law_at","_law_times"] rfl (by decide +kernel)) rfl (.inl rfl)),qB,(jm (JU (K:=K) rfl) (pv 1) (pv 0))⟩)) jd)) jd)))))))
   jG)
  (jc (jr (i:=7) qD.nd rfl (.inl rfl) (jt (jE.mono (by decide)) hr (by rfl) T.jO T.jL.kp T.jN .nil pass0 (jb (pv 0) (jb (jH Jg (by rfl) T.Qy qw (jb (pv 2) jd)) jd))))
  (jc (jr (i:=8) qD.nd rfl (.inl rfl) (ju jY jf (jt (jM.mono (by decide)) hr (by rfl) T.JN T.Jo.kp T.JK .nil pass0 (jb (pv 0) (jb (pv 5) jd)))))
  (jc (zw (jw yk (ju qy (pv 8) (jm jx (pv 4) (pv 7))) (ju Wv jf jf) (nomark _))
   (jk (jr (i:=8) qD.nd rfl (.inl rfl) (ju jY jf (ju qA (pv 8) jf))))
   jG)
  (jk (jC (jI (jb jz (jb (pv 8) (jb (jm jx (pv 2) (pv 7)) jd))))))))))),?_⟩
 refine jB (σ':=[some _,some _,some _,some _,some _,some _,none,none,none]) rfl ?_;have sz:(200:Nat)<sizeLine:=by decide
 have n1:=C.n1;have n60:=C.n60;have nn:=C.nn;have nl':((names.take n).map V.str).length=n:=by rw[length_map,length_take];omega
 exists iteD (fun c5=>?_) (fun c5=>?_)
 ·exists⟨p,x,4,rfl,ep,by omega,by omega,fun r y1 H1 r0 r1 x1 ep1=>?_⟩;have C1:=C.ex x1;exists⟨_,rfl,by omega,by omega,?_⟩;refine zk (fun i ys H'=>∃(is:List Nat) (y:Int),ys=is.map (fun j=>V.str (names.getD j ⟨#[]⟩))/\is.length=i/\(∀j∈is,j<n)/\Ex p H1 H'/\H' p=some (.lst [.int y])) ⟨[],y1,rfl,rfl,(fun j h=>nomatch h),.refl _,ep1⟩ ?_ ?_
  ·rintro i ys H' hi ⟨is,y,rfl,il,jl,xx,epx⟩;have C2:=C1.ex xx;refine Jm (σ':=[none,some _,some _]) rfl ?_;exists iteT ?_;exists⟨_,_,rfl,.inl ⟨_,SqL.of C2.en,rfl⟩,?_⟩;rw[nl'];exists⟨p,y,_,rfl,epx,by omega,by omega,fun r' y3 H3 r0' r1' x3 ep3=>?_⟩;obtain⟨j,hj⟩:∃j:Nat,r'=(j:Int):=⟨r'.toNat,by omega⟩
   subst hj;have jn:j<n:=by omega
   refine ixLm (SqL.of (C2.ex x3).en) (C.at' jn) ?_;refine⟨by rw[length_map];omega,is++[j],y3,by rw[map_append];rfl,by rw[List.length_append,il];rfl,fun j' hj'=>?_,xx.trans x3,ep3⟩;rcases mem_append.mp hj' with z | z
   ·exact jl j' z
   ·rw[mem_singleton.mp z];exact jn
  rintro ys H3 ⟨is,y3,rfl,il,jl,x3,ep3⟩;refine⟨by rw[length_map];omega,?_⟩;walk_at"f b hb H4 s4 t4";exists⟨b,_,rfl,.inl ⟨SqL.of t4,?_⟩⟩;walk_at"f b5 hb5 H5 s5 t5";exists⟨(by show 2<=sizeLine;omega),?_⟩;walk_at"f b6 hb6 H6 s6 t6";have ep6:=s6 _ _ (s5 _ _ (s4 _ _ ep3));refine q b6 (.row is) y3 H6 (x1.trans (x3.trans (.of (s4.trans (s5.trans s6))))) ep6 ⟨b5,t6,?_⟩ (fun Ls=>⟨fun z=>?_,by omega,jl⟩) (fun k j e=>by cases e)
  ·rw[s6 _ _ t5,map_map];rfl
  ·rw[z]at il;have:(0:Nat)=_:=il;omega
 exists iteD (fun c6=>?_) (fun c6=>?_)
 ·walk_at"g";have np1:0<(n:Int)*(n:Int):=Int.mul_pos (by omega) (by omega);have np2:=Xw (A:=60) (B:=60) (show -60<=(n:Int) by omega) (by omega) (show -60<=(n:Int) by omega) (by omega);refine⟨_,_,rfl,.inl ⟨_,SqL.of C.en,rfl⟩,?_⟩;rw[nl'];exists⟨_,_,rfl,.inl ⟨_,SqL.of C.en,rfl⟩,?_⟩;rw[nl'];exists⟨p,x,_,rfl,ep,by omega,by omega,fun r y1 H1 r0 r1 x1 ep1=>?_⟩;have C1:=C.ex x1;exists⟨m,mas,Mv,r,rfl,C1.em,C1.am,C.m8,by rw[C.ml];omega,by rw[C.ml];omega,r0,by omega,fun v H2 s2 pr=>?_⟩;have x2:=x1.trans (.of s2);have ep2:=s2 _ _ ep1;have C2:=C.ex x2;exists⟨rfl,?_⟩;refine⟨_,rfl,?_⟩;rcases pr with rfl | ⟨pa,i,j,rfl,epa,il,jl,d1,d2,dis⟩
  ·rw[decide_eq_true (show V.non=V.non from rfl)];refine iteT ?_;exists⟨p,y1,most,rfl,ep2,by omega,by omega,fun r2 y2 H3 r20 r21 x3 ep3=>?_⟩;exists⟨(by show 2<=sizeLine;omega),?_⟩;walk_at"f b6 hb6 H6 s6 t6";exact q b6 (.hold (1+r2)) y2 H6 (x2.trans (x3.trans (.of s6))) (s6 _ _ ep3) t6 (fun Ls=>⟨by omega,by omega⟩) (fun k j e=>by cases e)
  ·rw[decide_eq_false (show¬V.ref pa=V.non from fun z=>by cases z)];refine iteF ?_;exists⟨pa,rfl,⟨_,SqT.of epa⟩,?_⟩;have iln:i<n:=by rw[<-C.ml];exact il
   have jln:j<n:=by rw[<-C.ml];exact jl
   refine kI (xs:=[V.int (i:Nat),V.int (j:Nat)]) (fun t ys H'=>ys=(([i,j]:List Nat).take t).map (fun j=>V.str (names.getD j ⟨#[]⟩))/\H2=H') ⟨rfl,rfl⟩ ?_ ?_ ?_
   ·rintro t ys H' _ ⟨rfl,rfl⟩;exact SqT.of epa
   ·rintro t v ys H' hv ⟨rfl,rfl⟩;obtain⟨k,hk,rfl,kn⟩:∃k:Nat,([i,j]:List Nat)[t]?=some k/\v = .int (k:Nat)/\k<n:=by
     match t,hv with
     | 0,hv=>exact⟨i,rfl,(Option.some.inj hv).symm,iln⟩
     | 1,hv=>exact⟨j,rfl,(Option.some.inj hv).symm,jln⟩
    have t2:t<2:=(List.getElem?_eq_some_iff.mp hk).1;refine Jm (σ':=[none,some _]) rfl ?_;exists iteT ?_;exists ixLm (SqL.of C2.en) (C.at' kn) ?_;refine⟨by rw[length_map,length_take];exact Nat.lt_of_le_of_lt (Nat.min_le_left _ _) (by omega),?_,rfl⟩;rw[take_snoc hk,map_append];rfl
   rintro ys H' ⟨rfl,rfl⟩;refine⟨by show 2<=sizeLine;omega,?_⟩;walk_at"f b4 hb4 H4 s4 t4";exists⟨b4,_,rfl,.inl ⟨SqL.of t4,?_⟩⟩;walk_at"f b5 hb5 H5 s5 t5";exists⟨(by show 2<=sizeLine;omega),?_⟩;walk_at"f b6 hb6 H6 s6 t6";refine q b6 (.side [i,j]) y1 H6 (x2.trans (.of (s4.trans (s5.trans s6)))) (s6 _ _ (s5 _ _ (s4 _ _ ep2))) ⟨b5,t6,s6 _ _ t5⟩ (fun Ls=>⟨by show 2<=2;omega,by show 2<=8;omega,fun k hk=>?_,fun k hk=>?_,?_⟩) (fun k j e=>by cases e)
   ·rcases mem_cons.mp hk with rfl | hk
    ·exact iln
    ·rw[mem_singleton.mp hk];exact jln
   ·rcases mem_cons.mp hk with rfl | hk
    ·exact d1
    ·rw[mem_singleton.mp hk];exact d2
   ·refine pairwise_cons.mpr ⟨fun b hb=>?_,pairwise_singleton ..⟩;rw[mem_singleton.mp hb];exact dis
 exists⟨_,_,rfl,.inl ⟨_,SqL.of C.en,rfl⟩,?_⟩;rw[nl'];exists⟨p,x,_,rfl,ep,by omega,by omega,fun r y1 H1 r0 r1 x1 ep1=>?_⟩;obtain⟨j,hj⟩:∃j:Nat,r=(j:Int):=⟨r.toNat,by omega⟩
 subst hj;have jn:j<n:=by omega
 have g0:=C.g0 j jn;have egj:gs[j]?=some (gs.getD j 0):=by
  have:=C.gl;rw[getD_eq_getElem?_getD,List.getElem?_eq_getElem (by omega)];rfl
 exists⟨p,y1,most,rfl,ep1,by omega,by omega,fun r2 y2 H2 r20 r21 x2 ep2=>?_⟩;have x02:=x1.trans x2;have C2:=C.ex x02;exists⟨fun σ' H'=>∃k:Int,σ'=[some (.ref p),some (.int way),some (.ref nl),some (.ref m),some (.ref g),some (.int most),none,some (.int (j:Nat)),some (.int k)]/\H2=H'/\1<=k/\k<=10^18/\(k*gs.getD j 0<=10^40\/k<=3),?_,?_⟩
 rotate_left
 ·exists ixLm (SqL.of C2.eg) (jD (j:=j) (by rw[List.getElem?_map,egj];rfl)) ?_;exists iteD (fun c=>?_) (fun c=>?_)
  ·walk_at"g";exact⟨_,rfl,rfl,by omega,by omega,.inr (by omega)⟩
  ·walk_at"g";exact⟨_,rfl,rfl,by omega,by omega,.inl (by omega)⟩
 rintro σ' H' ⟨k,rfl,rfl,k1,k18,kb⟩;exists ixLm (SqL.of C2.en) (C.at' jn) ?_;exists⟨(by show 3<=sizeLine;omega),?_⟩;walk_at"f b6 hb6 H6 s6 t6";exact q b6 (.again k j) y2 H6 (x02.trans (.of s6)) (s6 _ _ ep2) t6 (fun Ls=>⟨k1,k18,jn⟩) (fun k' j' e=>by cases e;exact kb)
theorem Wi(T:Txt K mg t)(jE:FnOk P w K mg base CX0 1 t.JY t.JZ ["_law_pool_here","_law_many"] (sp_takeD))(jM:FnOk P w K mg base CX0 2 t.JL t.JM ["_law_pool_here","_law_most"] (sp_takeD))(zM:FnOk P w K mg base CX0 3 t.qM t.qO ["_law_pool_here","_law_way","_law_names","_law_moves","_law_longs","_law_most"] (sp_namingC)):FnOk P w K mg base CX0 4 t.QF t.QQ ["_law_pool_here","_law_book_here","_law_moves","_law_longs","_law_most"] (sp_formC):=by
 refine T.YS.ok qf (fun vs H Q E h=>?_) (fun cdv A outer s H vs Q E hr h=>?_)
 ·cases h;subst_vars;rfl
 obtain⟨p,b,pl,pp,m,g,x,most,las,pas,mas,ls,names,fs,Mv,gs,rfl,ep,C,nb,npl,npp,nmp,ngp,nap,m1,m2,hW,q⟩:=h;refine⟨_,(jc (jr (i:=5) qf.nd rfl (.inl rfl) (jt (jE.mono (by decide)) hr (by rfl) T.jO T.jL.kp T.jN .nil pass0 (jb (pv 0) (jb jf jd))))
  (jc (Ye (i:=6) (ow:=["_law_part"]) (ci:=[]) rfl (CompScope.of (defScope zG) ["_law_pool_here","_law_book_here","_law_moves","_law_longs","_law_most","_law_way","_law_names","_law_limb","_law_goal","_law_some","_law_word_here"] rfl rfl (by decide +kernel)) (Jf (by decide)) qf.nd rfl (.inl rfl) (jP (jm jv (pv 1) jf)) (fun _ _ _ _ _=>⟨(jq (i:=0) (Ja ["_law_pool_here","_law_book_here","_law_moves","_law_longs","_law_most","_law_way","_law_names","_law_limb","_law_goal","_law_some","_law_word_here"] rfl (by decide +kernel)) rfl (.inl rfl)),qB,(jm (JA (K:=K) rfl) (pv 0) jf)⟩))
  (jc (Jl (PW.pt (yE (jw yk (pv 5) jf (nomark _)) (Z9 (jw (Xy hr.units) (pv 6) (jR jd) (nomark _)))))
   (jk (jC (jt (zM.mono (by decide)) hr (by rfl) T.KA T.yf.kp T.Ky .nil pass0 (jb (pv 0) (jb (pv 5) (jb (pv 6) (jb (pv 2) (jb (pv 3) (jb (pv 4) jd)))))))))
   jG)
  (jc (Jl (jw wp (pv 5) jf (nomark _))
   (jc (jr (i:=7) qf.nd rfl (.inl rfl) (jm jv (jm jx (jm jv (pv 1) jf) (jt (jE.mono (by decide)) hr (by rfl) T.jO T.jL.kp T.jN .nil pass0 (jb (pv 0) (jb (jH Jg (by rfl) T.Qy qw (jb (jm jv (pv 1) jf) jd)) jd)))) jf))
   (jc (jr (i:=8) qf.nd rfl (.inl rfl) (jt (jM.mono (by decide)) hr (by rfl) T.JN T.Jo.kp T.JK .nil pass0 (jb (pv 0) (jb (ju jY (pv 4) jf) jd))))
   (jk (jC (jI (jb jz (jb (pv 7) (jb (pv 8) (jb (ju jY jf (jt (jM.mono (by decide)) hr (by rfl) T.JN T.Jo.kp T.JK .nil pass0 (jb (pv 0) (jb (pv 4) jd)))) jd)))))))))
   jG)
  (jc (Jl (jw J0 (pv 5) jf (nomark _))
   (jc (jr (i:=9) qf.nd rfl (.inl rfl) (ju Kh (jR (jb jz (jb jz (jb jz jd)))) (zY WF (pv 6) Z8 (Zo jf))))
   (jc (jr (i:=10) qf.nd rfl (.inl rfl) (jm jx (pv 9) (jt (jE.mono (by decide)) hr (by rfl) T.jO T.jL.kp T.jN .nil pass0 (jb (pv 0) (jb (jH Jg (by rfl) T.Qy qw (jb (pv 9) jd)) jd)))))
   (jk (jC (jI (jb jz (jb (pv 10) (jb (ju jY jf (jt (jM.mono (by decide)) hr (by rfl) T.JN T.Jo.kp T.JK .nil pass0 (jb (pv 0) (jb (pv 4) jd)))) jd))))))))
   jG)
  (jk (jC (jI (jb jz (jb (ju jY jf (jt (jM.mono (by decide)) hr (by rfl) T.JN T.Jo.kp T.JK .nil pass0 (jb (pv 0) (jb (pv 4) jd)))) jd)))))))))),?_⟩
 refine jB (σ':=[some _,some _,some _,some _,some _,none,none,none,none,none,none]) rfl ?_;have sz:(200:Nat)<sizeLine:=by decide
 have B:=C.bk;have pal:pas.length=fs.length:=B.pa.1.trans Qa;have lal:=B.la.1;have n60:=C.n60;have nn:=C.nn;have l1:=C.l1;have l8:=C.l8;exists⟨p,x,8,rfl,ep,by omega,by omega,fun way y1 H1 w0 w1 x1 ep1=>?_⟩;have nt:∀{c:Addr} {xs:List V},H c=some (.tup xs)->c≠p:=fun h=>Q5 h ep (fun z=>by cases z)
 exists ixTm (SqT.of (x1 _ _ nb B.t)) rfl ?_;exists⟨pp,rfl,⟨_,SqL.of (x1 _ _ npp B.p)⟩,?_⟩;refine Je (xs:=pas.map V.ref) (fun i ys H'=>ys=(names.take i).map V.str/\H1=H') ⟨rfl,rfl⟩ ?_ ?_ ?_
 ·rintro i ys H' _ ⟨rfl,rfl⟩;exact SqL.of (x1 _ _ npp B.p)
 ·rintro i v ys H' hv ⟨rfl,rfl⟩;obtain⟨c,pt,rfl,hpt,fb,hat,hf⟩:=B.pa.at_ref hv;obtain⟨f,hf',rfl⟩:=qp hpt;have il:=(List.getElem?_eq_some_iff.mp hf').1;refine Jm (σ':=[none]) rfl ?_;exists iteT ?_;exists ixTm (SqT.of (x1 _ _ (nt hat) hat)) rfl ?_;refine⟨by rw[length_map,length_take];omega,?_,rfl⟩;rw[take_snoc (show names[i]?=some (names.getD i ⟨#[]⟩) by rw[getD_eq_getElem?_getD,List.getElem?_eq_getElem (by omega)];rfl),map_append];rfl
 rintro ys H' ⟨rfl,rfl⟩;rw[show(pas.map V.ref).length=fs.length by rw[length_map];exact pal];refine⟨by rw[length_map,length_take];omega,?_⟩;walk_at"f nl hnl H2 s2 t2";have x2:=x1.trans (.of s2);have ep2:=s2 _ _ ep1;have nlp:nl≠p:=(jg ep1 hnl).symm;have hWn:∀w∈names.take fs.length,Ws.isW w=true:=fun w hw=>hW w (mem_of_mem_take hw)
 exists iteD (fun c4=>?_) (fun c4=>?_)
 ·exists⟨Nat.zero_le _,?_⟩;walk_at"f e3 he3 H3 s3 t3";have x3:=x2.trans (.of s3);have ep3:=s3 _ _ ep2;refine⟨_,_,.lst (s3 _ _ t2) (XW _),j2Y t3,j54 hWn,shp0,?_⟩;rw[j4T];exists iteN (fun d=>?_) (fun d=>?_)
  ·have n1:1<=fs.length:=by
    rcases Nat.eq_zero_or_pos fs.length with z | z
    ·rw[z]at d;exact absurd rfl d
    ·exact z
   walk_at"g";exact⟨p,nl,m,g,y1,way,most,names,fs.length,mas,Mv,gs,rfl,ep3,⟨s3 _ _ t2,x3 _ _ nmp C.em,All2.monoM C.am fun a ha ks h=>x3 _ _ (nap a ha) h,x3 _ _ ngp C.eg,nn,C.ml,C.gl,n1,n60,C.m8,C.g0,nlp,nmp,ngp,nap⟩,m1,m2,fun a f y H' x' e' hf pre ag=>q a f y H' (x3.trans x') e' hf (pre _) ag⟩
  ·exists iteD (fun c=>?_) (fun _=>?_)
   ·exact absurd c (by omega)
   exists iteD (fun c=>?_) (fun _=>?_)
   ·exact absurd c (by omega)
   exists⟨p,y1,most,rfl,ep3,by omega,by omega,fun r2 y2 H4 r20 r21 x4 ep4=>?_⟩;exists⟨(by show 2<=sizeLine;omega),?_⟩;walk_at"f b6 hb6 H6 s6 t6";exact q b6 (.hold (1+r2)) y2 H6 (x3.trans (x4.trans (.of s6))) (s6 _ _ ep4) t6 ⟨by omega,by omega⟩ (fun k j e=>by cases e)
 refine iteF ?_;exists iteD (fun c3=>?_) (fun c3=>?_)
 ·exists ixTm (SqT.of (x2 _ _ nb B.t)) rfl ?_;exists ixTm (SqT.of (x2 _ _ nb B.t)) rfl ?_;refine⟨_,_,rfl,.inl ⟨_,SqL.of (x2 _ _ npl B.l),rfl⟩,?_⟩;rw[show(las.map V.ref).length=ls.length by rw[length_map];exact lal];exists⟨p,y1,_,rfl,ep2,by omega,by omega,fun r y3 H3 r0 r1 x3 ep3=>?_⟩;obtain⟨j,hj⟩:∃j:Nat,r=(j:Int):=⟨r.toNat,by omega⟩
  subst hj;have x03:=x2.trans x3;obtain⟨lk,hlk,elk⟩:=B.la.get (List.getElem?_eq_getElem (show j<ls.length by omega));refine ixLm (SqL.of (x03 _ _ npl B.l)) (jD (j:=j) (by rw[List.getElem?_map,hlk];rfl)) ?_;exists ixTm (SqT.of (x03 _ _ (nt elk) elk)) rfl ?_;exists⟨p,y3,_,rfl,ep3,by omega,by omega,fun r4 y4 H4 r40 r41 x4 ep4=>?_⟩;exists⟨p,y4,_,rfl,ep4,by omega,by omega,fun r5 y5 H5 r50 r51 x5 ep5=>?_⟩;exists⟨(by show 4<=sizeLine;omega),?_⟩;walk_at"f b6 hb6 H6 s6 t6";refine q b6 (.rise ls[j].1 r4 (1+r5)) y5 H6 (x03.trans (x4.trans (x5.trans (.of s6)))) (s6 _ _ ep5) t6 ⟨⟨j,?_⟩,r40,by omega,by omega,by omega⟩ (fun k j e=>by cases e);unfold nmsOf;rw[List.getElem?_map,List.getElem?_eq_getElem (show j<ls.length by omega)];rfl
 exists iteD (fun c=>?_) (fun c=>?_)
 ·exists⟨(by show 3<=sizeLine;omega),?_⟩;walk_at"f b3 hb3 H3 s3 t3";exists⟨nl,_,rfl,SqL.of (s3 _ _ t2),?_⟩;walk_at"f b4 hb4 H4 s4 t4";have cl:=ZK ((names.take fs.length).map V.str) none (some 2);rw[length_map,length_take]at cl;refine⟨b3,b4,_,_,rfl,rfl,s4 _ _ t3,t4,by show 3+_<=sizeLine;omega,?_⟩;walk_at"f b5 hb5 H5 s5 t5";have x5:=x2.trans (.of (s3.trans (s4.trans s5)));have ep5:=s5 _ _ (s4 _ _ (s3 _ _ ep2));exists⟨_,_,rfl,.inl ⟨_,SqL.of t5,rfl⟩,?_⟩;exists⟨p,y1,_,rfl,ep5,by rw[List.length_append];show 0<(((3+_:Nat)):Int);omega,by rw[List.length_append];show(((3+_:Nat)):Int)<=_;omega,fun r y6 H6 r0 r1 x6 ep6=>?_⟩;have nb5:b5≠p:=(jg (s4 _ _ (s3 _ _ ep2)) hb5).symm;have hw0:∀v∈[V.str "bell",V.str "bells",V.str "gong"]++cutV ((names.take fs.length).map V.str) none (some 2),∃w:Str,v = .str w/\Ws.isW w=true:=fun v hv=>by
   rcases mem_append.mp hv with z | z
   ·rcases mem_cons.mp z with rfl | z
    ·exact⟨_,rfl,by decide +kernel⟩
    ·rcases mem_cons.mp z with rfl | z
     ·exact⟨_,rfl,by decide +kernel⟩
     ·rw[mem_singleton.mp z];exact⟨_,rfl,by decide +kernel⟩
   ·obtain⟨w',hw',rfl⟩:=mem_map.mp (j48 z);exact⟨w',rfl,hWn w' hw'⟩
  obtain⟨w',hw',ww⟩:=j2S hw0 r0 r1;refine ixLm (SqL.of (x6 _ _ nb5 t5)) (hw') ?_;exists⟨p,y6,_,rfl,ep6,by omega,by omega,fun r7 y7 H7 r70 r71 x7 ep7=>?_⟩;exists⟨(by show 3<=sizeLine;omega),?_⟩;walk_at"f b8 hb8 H8 s8 t8";exact q b8 (.ring w' (1+r7)) y7 H8 (x5.trans (x6.trans (x7.trans (.of s8)))) (s8 _ _ ep7) t8 ⟨by omega,by omega,ww⟩ (fun k j e=>by cases e)
 exists⟨p,y1,most,rfl,ep2,by omega,by omega,fun r2 y2 H4 r20 r21 x4 ep4=>?_⟩;exists⟨(by show 2<=sizeLine;omega),?_⟩;walk_at"f b6 hb6 H6 s6 t6";exact q b6 (.hold (1+r2)) y2 H6 (x2.trans (x4.trans (.of s6))) (s6 _ _ ep4) t6 ⟨by omega,by omega⟩ (fun k j e=>by cases e)
theorem xv(T:Txt K mg t):FnOk P w K mg base CX0 1 t.zh t.zl ["_law_book_here","_law_moves","_law_longs","_law_name","_law_form_here"] (sp_putC):=by
 refine T.yr.ok Jr (fun vs H Q E h=>?_) (fun cdv A outer s H vs Q E hr h=>?_)
 ·cases h;subst_vars;rfl
 obtain⟨b,pl,pp,m,g,a,las,pas,mas,ls,names,fs,Mv,gs,f,B,rfl,C,S,mo,hf,pre,ag,nl,n30,nd,B0,B1,gB,q⟩:=h;refine⟨_,(jc (Ye (i:=5) (ow:=["_law_k"]) (ci:=[4,0]) rfl (CompScope.of (defScope qc) ["_law_book_here","_law_moves","_law_longs","_law_name","_law_form_here","_law_numbers","_law_limbs","_law_k","_law_long"] rfl rfl (by decide +kernel)) (Jf (by decide)) Jr.nd rfl (.inl rfl) (qu (by rfl) T.Qm (jb (jH Jg (by rfl) T.Qy qw (jb (jm jv (pv 0) jf) jd)) jd)) (fun _ _ _ _ _=>⟨(jq (i:=0) (Ja ["_law_book_here","_law_moves","_law_longs","_law_name","_law_form_here","_law_numbers","_law_limbs","_law_k","_law_long"] rfl (by decide +kernel)) rfl (.inl rfl)),(ZR (PW.pt (yE (jw (Zm (K:=K) rfl) (jm (JA (K:=K) rfl) (pv 1) jf) (jI (jb jz (jb jz jd))) (by with_unfolding_all rfl)) (Z9 (jw (Zm (K:=K) rfl) (jm (JA (K:=K) rfl) (jm (JU (K:=K) rfl) (jm (JA (K:=K) rfl) (pv 2) jf) (pv 0)) jf) (jm (JA (K:=K) rfl) (pv 1) jf) (by with_unfolding_all rfl)))))),(pv 0)⟩))
  (jc (zw (jw J0 (jm jv (pv 4) jf) jz (nomark _))
   (jk (Ye (i:=5) (ow:=["_law_k"]) (ci:=[4,0]) rfl (CompScope.of (defScope qc) ["_law_book_here","_law_moves","_law_longs","_law_name","_law_form_here","_law_numbers","_law_limbs","_law_k","_law_long"] rfl rfl (by decide +kernel)) (Jf (by decide)) Jr.nd rfl (.inl rfl) (qu (by rfl) T.Qm (jb (jH Jg (by rfl) T.Qy qw (jb (jm jv (pv 0) jf) jd)) jd)) (fun _ _ _ _ _=>⟨(jq (i:=0) (Ja ["_law_book_here","_law_moves","_law_longs","_law_name","_law_form_here","_law_numbers","_law_limbs","_law_k","_law_long"] rfl (by decide +kernel)) rfl (.inl rfl)),(ZR (jw J0 (jm (JA (K:=K) rfl) (jm (JU (K:=K) rfl) (jm (JA (K:=K) rfl) (pv 2) jf) (pv 0)) jf) (jm (JA (K:=K) rfl) (pv 1) jf) (nomark _))),(pv 0)⟩)))
   jG)
  (jc (jr (i:=6) Jr.nd rfl (.inr rfl) (Jj (ow:=["_law_k"]) (ci:=[4,0]) rfl (CompScope.of (defScope qc) ["_law_book_here","_law_moves","_law_longs","_law_name","_law_form_here","_law_numbers","_law_limbs","_law_k","_law_long"] rfl rfl (by decide +kernel)) (Jf (by decide)) (qu (by rfl) T.Qm (jb (jH Jg (by rfl) T.Qy qw (jb (jm jv (pv 0) jf) jd)) jd)) (fun _ _ _ _ _=>⟨(jq (i:=0) (Ja ["_law_book_here","_law_moves","_law_longs","_law_name","_law_form_here","_law_numbers","_law_limbs","_law_k","_law_long"] rfl (by decide +kernel)) rfl (.inl rfl)),(ZR (PW.pt (yE (jw J0 (jm (JA (K:=K) rfl) (pv 1) jf) jz (nomark _)) (Z9 (jw J0 (jm (JA (K:=K) rfl) (jm (JU (K:=K) rfl) (jm (JA (K:=K) rfl) (pv 2) jf) (pv 0)) jf) (jm (JA (K:=K) rfl) (pv 1) jf) (nomark _)))))),(pv 0)⟩)))
  (jc (Jh PassesOwn.never rfl (jP (pv 5)) (jq (i:=7) Jr.nd rfl (.inl rfl))
   (jk (jr (i:=6) Jr.nd rfl (.inr rfl) (ju Kh (pv 6) (Jj (ow:=["_law_limb"]) (ci:=[6]) rfl (CompScope.of (defScope qc) ["_law_book_here","_law_moves","_law_longs","_law_name","_law_form_here","_law_numbers","_law_limbs","_law_k","_law_long"] rfl rfl (by decide +kernel)) (Jf (by decide)) (jP (jm jx (pv 1) (pv 7))) (fun _ _ _ _ _=>⟨(jq (i:=0) (Ja ["_law_book_here","_law_moves","_law_longs","_law_name","_law_form_here","_law_numbers","_law_limbs","_law_k","_law_long"] rfl (by decide +kernel)) rfl (.inl rfl)),(ZR (jw (KH (K:=K) rfl) (pv 0) (pv 1) (by with_unfolding_all rfl))),(pv 0)⟩))))))
  (jc (jr (i:=8) Jr.nd rfl (.inl rfl) (jm jv (pv 4) (ym zT jf)))
  (jc (zw (jw J0 (jm jv (pv 4) jf) jz (nomark _))
   (jk (jr (i:=8) Jr.nd rfl (.inl rfl) (jH (KR rfl) (by rfl) T.j3W j1l (jb (Jj (ow:=["_law_k"]) (ci:=[2,4,0]) rfl (CompScope.of (defScope qc) ["_law_book_here","_law_moves","_law_longs","_law_name","_law_form_here","_law_numbers","_law_limbs","_law_k","_law_long"] rfl rfl (by decide +kernel)) (Jf (by decide)) (jP (pv 5)) (fun _ _ _ _ _=>⟨(jq (i:=0) (Ja ["_law_book_here","_law_moves","_law_longs","_law_name","_law_form_here","_law_numbers","_law_limbs","_law_k","_law_long"] rfl (by decide +kernel)) rfl (.inr rfl)),qB,(ju qy (jm (JU (K:=K) rfl) (pv 1) (pv 0)) (jH (KP (K:=K) rfl) (by rfl) T.Qy qw (jb (Jj (ow:=["_law_one"]) (ci:=[0,3]) rfl (CompScope.ofB ["_law_k","_law_longs","_law_form_here","_law_book_here"] rfl (by decide +kernel)) (Jf (by decide)) (j3z (K:=K) rfl (jm (JA (K:=K) rfl) (pv 2) jf)) (fun _ _ _ _ _=>⟨(jq (i:=0) (Ja ["_law_k","_law_longs","_law_form_here","_law_book_here"] rfl (by decide +kernel)) rfl (.inl rfl)),(ZR (jw J0 (pv 0) (jm (JA (K:=K) rfl) (jm (JU (K:=K) rfl) (jm (JA (K:=K) rfl) (pv 2) jf) (pv 1)) jf) (nomark _))),(pv 0)⟩)) jd)))⟩)) jd))))
   jG)
  (jc (zw (jw J0 (jm jv (pv 4) jf) jz (nomark _))
   (jk (jr (i:=8) Jr.nd rfl (.inl rfl) (jH (KQ rfl) (by rfl) T.j3V j1k (jb (Jj (ow:=["_law_k"]) (ci:=[2]) rfl (CompScope.of (defScope qc) ["_law_book_here","_law_moves","_law_longs","_law_name","_law_form_here","_law_numbers","_law_limbs","_law_k","_law_long"] rfl rfl (by decide +kernel)) (Jf (by decide)) (jP (pv 5)) (fun _ _ _ _ _=>⟨(jq (i:=0) (Ja ["_law_book_here","_law_moves","_law_longs","_law_name","_law_form_here","_law_numbers","_law_limbs","_law_k","_law_long"] rfl (by decide +kernel)) rfl (.inl rfl)),qB,(jm (JU (K:=K) rfl) (pv 1) (pv 0))⟩)) jd))))
   jG)
  (jc (zw (jw J0 (jm jv (pv 4) jf) jz (nomark _))
   (jk (jr (i:=8) Jr.nd rfl (.inl rfl) (ju qy (jm jv (pv 4) jf) (jm jx (pv 2) (jm jx (pv 5) jf)))))
   jG)
  (jc (j8 (qI PySem.F.plainAttrs_list PySem.F.slot_list_append PySem.F.type_list_append jS (jm jv (pv 0) jf) (jb (jI (jb (pv 3) (jb (pv 4) jd))) jd)))
  (jc (j8 (qI PySem.F.plainAttrs_list PySem.F.slot_list_append PySem.F.type_list_append jS (pv 1) (jb (pv 6) jd)))
  (jk (j8 (qI PySem.F.plainAttrs_list PySem.F.slot_list_append PySem.F.type_list_append jS (pv 2) (jb (pv 8) jd)))))))))))))),?_⟩
 refine jB (σ':=[some _,some _,some _,some _,some _,none,none,none,none]) rfl ?_;have sz:(200:Nat)<sizeLine:=by decide
 have Bk:=C.bk;have pal:pas.length=fs.length:=Bk.pa.1.trans Qa;have lal:=Bk.la.1;have n60:=C.n60;have nn:=C.nn;have l1:=C.l1;have l8:=C.l8;obtain⟨fb,hft,hfb⟩:=j1y hf;have js:=pre.js;have hn:∀{k:Nat},k<fs.length->k<names.length:=fun h=>by omega
 have hjn:∀j∈f.js,j<names.length:=fun j hj=>hn (js.2 j hj)
 have gat:∀j,j<fs.length->gs[j]?=some (gs.getD j 0):=fun j h=>by
  rw[getD_eq_getElem?_getD,List.getElem?_eq_getElem (by rw[C.gl];exact h)];rfl
 have gpos:=C.g0;have pat:∀{k:Nat},k<fs.length->∃c fc,atI (pas.map V.ref) (0+(k:Int))=some (.ref c)/\H c=some (.tup [.str (names.getD k ⟨#[]⟩),.ref fc]):=fun {k} hk=>by
  have hk':k<(drawnPs names fs).length:=by rw[Qa];exact hk
  obtain⟨c,ec,fc,hc,_⟩:=Bk.pa.get (List.getElem?_eq_getElem hk');obtain⟨f',_,e'⟩:=qp (List.getElem?_eq_getElem hk');rw[e']at hc;exact⟨c,fc,by rw[Int.zero_add];exact jD (by rw[List.getElem?_map,ec];rfl),hc⟩
 exists ixTm (SqT.of Bk.t) rfl ?_;refine⟨_,_,rfl,.inl ⟨_,SqL.of Bk.p,rfl⟩,?_⟩;rw[show(pas.map V.ref).length=fs.length by rw[length_map];exact pal];refine⟨_,rfl,by omega,by omega,?_⟩;rw[show((fs.length:Nat):Int).toNat=fs.length from Int.toNat_natCast _];refine zk (fun i ys H'=>ys=((List.range i).filter fun k=>f.rs&&decide (k∈f.js)).map vN/\Same H H') ⟨rfl,Same.refl _⟩ ?_ ?_
 ·rintro i ys H' hi ⟨rfl,sm⟩;obtain⟨c,fc,ec,hc⟩:=pat hi;refine Jm (σ':=[none,some _,some _]) rfl ?_;exists ixTm (SqT.of (sm _ _ hft)) (ya) ?_;exists⟨by show 2<=sizeLine;omega,?_⟩;walk_at"f 1 t";have sm1:=sm.trans s1;refine⟨p1,_,rfl,.inr (SqT.of t1),rfl,flatS ["row","side"],?_⟩;rw[inRS];walk_at"g";have lf:((List.range i).filter fun k=>f.rs&&decide (k∈f.js)).length<=30:=Nat.le_trans (length_filter_le _ _) (by rw[length_range];omega);refine iteBl (fun c=>?_) (fun c=>?_)
  ·exists ixTm (SqT.of (sm1 _ _ Bk.t)) rfl ?_;exists ixLm (SqL.of (sm1 _ _ Bk.p)) (ec) ?_;exists ixTm (SqT.of (sm1 _ _ hc)) rfl ?_;exists ixTm (SqT.of (sm1 _ _ hft)) (j3P c) ?_;refine⟨fb,_,rfl,.inr (SqT.of (sm1 _ _ (hfb c))),rfl,flatS _,?_⟩;rw[inS];exists iteD (fun d=>?_) (fun d=>?_)
   ·have d':=(xt nd (hn hi) hjn).mp d;exists⟨by rw[length_map];omega,?_,sm1⟩;rw[qC,if_pos (by rw[c,decide_eq_true d'];rfl),map_append,Int.zero_add];rfl
   ·have d':=fun z=>d ((xt nd (hn hi) hjn).mpr z)
    refine⟨?_,sm1⟩;rw[qC,if_neg (by rw[decide_eq_false d',Bool.and_false];exact Bool.false_ne_true)]
  ·refine iteF ?_;refine⟨?_,sm1⟩;rw[qC,if_neg (by rw[c,Bool.false_and];exact Bool.false_ne_true)]
 rintro ys H1 ⟨rfl,sm1⟩;have lf:((List.range fs.length).filter fun k=>f.rs&&decide (k∈f.js)).length<=30:=Nat.le_trans (length_filter_le _ _) (by rw[length_range];omega);refine⟨by rw[length_map];omega,?_⟩;walk_at"f nu1 hnu1 H2 s2 t2";have sm2:=sm1.trans s2;clear lf;exists⟨fun σ H'=>∃nu,σ=[some (.ref b),some (.ref m),some (.ref g),some (.str (names.getD fs.length ⟨#[]⟩)),some (.ref a),some (.ref nu),none,none,none]/\Same H H'/\H' nu=some (.lst ((numsC fs.length f).map vN)),?_,?_⟩
 rotate_left
 ·exists ixTm (SqT.of (sm2 _ _ hft)) (ya) ?_;walk_at"g";rw[j2z];refine iteBl (fun c=>?_) (fun c=>?_)
  ·obtain⟨k0,j0,rfl⟩:=j3Y c;have hj0:=js.2 j0 mem_cons_self;exists ixTm (SqT.of (sm2 _ _ Bk.t)) rfl ?_;refine⟨_,_,rfl,.inl ⟨_,SqL.of (sm2 _ _ Bk.p),rfl⟩,?_⟩;rw[show(pas.map V.ref).length=fs.length by rw[length_map];exact pal];refine⟨_,rfl,by omega,by omega,?_⟩;rw[show((fs.length:Nat):Int).toNat=fs.length from Int.toNat_natCast _];refine zk (fun i ys H'=>ys=((List.range i).filter fun k=>decide (k∈[j0])).map vN/\H2=H') ⟨rfl,rfl⟩ ?_ ?_
   ·rintro i ys H' hi ⟨rfl,rfl⟩;obtain⟨c',fc,ec,hc⟩:=pat hi;have lf:((List.range i).filter fun k=>decide (k∈[j0])).length<=30:=Nat.le_trans (length_filter_le _ _) (by rw[length_range];omega);refine Jm (σ':=[none,some _,some _]) rfl ?_;exists ixTm (SqT.of (sm2 _ _ Bk.t)) rfl ?_;exists ixLm (SqL.of (sm2 _ _ Bk.p)) (ec) ?_;exists ixTm (SqT.of (sm2 _ _ hc)) rfl ?_;exists ixTm (SqT.of (sm2 _ _ hft)) rfl ?_;exists iteD (fun d=>?_) (fun d=>?_)
    ·have d':i∈[j0]:=mem_singleton.mpr (getD_inj nd (hn hi) (hn hj0) d);exists⟨by rw[length_map];omega,?_,rfl⟩;rw[qC,if_pos (decide_eq_true d'),map_append,Int.zero_add];rfl
    ·have d':¬i∈[j0]:=fun z=>d (by rw[mem_singleton.mp z])
     refine⟨?_,rfl⟩;rw[qC,if_neg (by rw[decide_eq_false d'];exact Bool.false_ne_true)]
   rintro ys H' ⟨rfl,rfl⟩;have lf:((List.range fs.length).filter fun k=>decide (k∈[j0])).length<=30:=Nat.le_trans (length_filter_le _ _) (by rw[length_range];omega);refine⟨by rw[length_map];omega,?_⟩;walk_at"f nu2 hnu2 H3 s3 t3";walk_at"g";exact⟨nu2,rfl,sm2.trans s3,t3⟩
  ·exact⟨nu1,rfl,sm2,by rw[t2,j3p c]⟩
 clear t2 s2 hnu1 sm2 sm1;rintro σ' H3 ⟨nu,rfl,sm3,hnu⟩;clear H2 H1 nu1;have lat:∀{k:Nat},k<ls.length->∃c v,atI (las.map V.ref) (0+(k:Int))=some (.ref c)/\H c=some (.tup [.str ((nmsOf ls).getD k ⟨#[]⟩),.int v]):=fun {k} hk=>by
  obtain⟨c,ec,hc⟩:=Bk.la.get (List.getElem?_eq_getElem hk);refine⟨c,ls[k].2,by rw[Int.zero_add];exact jD (by rw[List.getElem?_map,ec];rfl),?_⟩;have e:(nmsOf ls).getD k ⟨#[]⟩=ls[k].1:=by
   unfold nmsOf;rw[getD_eq_getElem?_getD,List.getElem?_map,List.getElem?_eq_getElem hk];rfl
  rw[e];exact hc
 have Ll:(nmsOf ls).length=ls.length:=length_map _;exists ixTm (SqT.of (sm3 _ _ Bk.t)) rfl ?_;refine⟨_,_,rfl,.inl ⟨_,SqL.of (sm3 _ _ Bk.l),rfl⟩,?_⟩;rw[show(las.map V.ref).length=ls.length by rw[length_map];exact lal];refine⟨_,rfl,by omega,by omega,?_⟩;rw[show((ls.length:Nat):Int).toNat=ls.length from Int.toNat_natCast _];refine zk (fun i ys H'=>ys=((List.range i).filter fun k=>f.rz&&decide ((nmsOf ls).getD k ⟨#[]⟩=f.x)).map vN/\H3=H') ⟨rfl,rfl⟩ ?_ ?_
 ·rintro i ys H' hi ⟨rfl,rfl⟩;obtain⟨c',v',ec,hc⟩:=lat hi;have lf:((List.range i).filter fun k=>f.rz&&decide ((nmsOf ls).getD k ⟨#[]⟩=f.x)).length<=30:=Nat.le_trans (length_filter_le _ _) (by rw[length_range];omega);refine Jm (σ':=[none,some _,some _]) rfl ?_;exists ixTm (SqT.of (sm3 _ _ hft)) (ya) ?_;walk_at"g";rw[j4L];refine iteBl (fun c=>?_) (fun c=>?_)
  ·exists ixTm (SqT.of (sm3 _ _ Bk.t)) rfl ?_;exists ixLm (SqL.of (sm3 _ _ Bk.l)) (ec) ?_;exists ixTm (SqT.of (sm3 _ _ hc)) rfl ?_;exists ixTm (SqT.of (sm3 _ _ hft)) (j2B c) ?_;exists iteD (fun d=>?_) (fun d=>?_)
   ·exists⟨by rw[length_map];omega,?_,rfl⟩;rw[qC,if_pos (by rw[c,decide_eq_true d];rfl),map_append,Int.zero_add];rfl
   ·refine⟨?_,rfl⟩;rw[qC,if_neg (by rw[decide_eq_false d,Bool.and_false];exact Bool.false_ne_true)]
  ·refine iteF ?_;refine⟨?_,rfl⟩;rw[qC,if_neg (by rw[c,Bool.false_and];exact Bool.false_ne_true)]
 rintro ys H' ⟨rfl,rfl⟩;rw[show((List.range ls.length).filter fun k=>f.rz&&decide ((nmsOf ls).getD k ⟨#[]⟩=f.x))=limC (nmsOf ls) f by unfold limC;rw[Ll]];rw[show(limC (nmsOf ls) f).map vN=((limC (nmsOf ls) f).map fun i:Nat=>(i:Int)).map V.int by rw[map_map];rfl];have lnd:=j3e (L:=nmsOf ls) (f:=f);have lr:=j3d (L:=nmsOf ls) (f:=f);have mvu:=fun ks=>j3g (L:=nmsOf ls) (M:=Mv) (f:=f) (ks:=ks) js.2
 generalize(limC (nmsOf ls) f).map (fun i:Nat=>(i:Int))=h0 at lnd lr mvu|-;rw[Ll]at lr;have hl0:=Qb lnd lr;refine⟨by rw[length_map];omega,?_⟩;walk_at"f lb0 hlb0 H4 s4 t4";have sm4:=sm3.trans s4;have hnu4:=s4 _ _ hnu;have nlen:=j0P (n:=fs.length) (f:=f);exists⟨nu,rfl,⟨_,SqL.of hnu4⟩,?_⟩;refine JI (xs:=(numsC fs.length f).map vN) (fun i σ H'=>∃(o7:Option V) (lb:Addr) (hs:List Int),σ=[some (.ref b),some (.ref m),some (.ref g),some (.str (names.getD fs.length ⟨#[]⟩)),some (.ref a),some (.ref nu),some (.ref lb),o7,none]/\Same H4 H'/\H' lb=some (.lst (hs.map V.int))/\lb≠pp/\lb≠m/\lb≠g/\hs.Nodup/\∀k,k∈hs↔k∈h0\/∃x∈(numsC fs.length f).take i,k∈Mv.getD x [])
  ⟨_,lb0,h0,rfl,Same.refl _,t4,(jg (sm3 _ _ Bk.p) hlb0).symm,(jg (sm3 _ _ C.em) hlb0).symm,(jg (sm3 _ _ C.eg) hlb0).symm,lnd,fun k=>⟨.inl,fun z=>z.elim id fun⟨x,hx,_⟩=>by simp at hx⟩⟩ ?_ ?_ ?_
 ·rintro i σ H' _ ⟨o7,lb,hs,rfl,sm,et,z1,z2,z3,tn,tm⟩;exact SqL.of (sm _ _ hnu4)
 ·rintro i v σ H' hv ⟨o7,lb,hs,rfl,sm,et,z1,z2,z3,tn,tm⟩;obtain⟨j,hj,rfl,hjm⟩:=j2I hv;have hjl:=Kd hjm;have sm5:=sm4.trans sm;obtain⟨aj,eaj,haj⟩:=C.am.get (show Mv[j]?=some (Mv.getD j []) by rw[getD_eq_getElem?_getD,List.getElem?_eq_getElem (by rw[C.ml];exact hjl)];rfl);have mj:=j02 mo j;have k8:=Qb mj.1 mj.2;have hs8:=Qb (n:=ls.length) tn fun k hk=>by
   rcases(tm k).mp hk with z | ⟨x,_,z⟩
   ·exact lr k z
   ·exact(j02 mo x).2 k z
  exists ixLm (SqL.of (sm5 _ _ C.em)) (Ql (i:=(j:Int)) (by omega) eaj) ?_;refine⟨aj,rfl,⟨_,SqL.of (sm5 _ _ haj)⟩,?_⟩;refine Je (xs:=(Mv.getD j []).map V.int) (fun i ys H''=>ys=(((Mv.getD j []).take i).filter fun k=>!decide (k∈hs)).map V.int/\H'=H'') ⟨rfl,rfl⟩ ?_ ?_ ?_
  ·rintro i ys H'' _ ⟨rfl,rfl⟩;exact SqL.of (sm5 _ _ haj)
  ·rintro i x ys H'' hx ⟨rfl,rfl⟩;rw[List.getElem?_map]at hx;obtain⟨k,hk,rfl⟩:=Option.map_eq_some_iff.mp hx;have ik:=(List.getElem?_eq_some_iff.mp hk).1;refine Jm (σ':=[none,some _]) rfl ?_;exists⟨lb,_,rfl,.inl (SqL.of et),rfl,flats _,?_⟩;rw[notInI];walk_at"g";rw[take_snoc hk,filter_append];have lf:(((Mv.getD j []).take i).filter fun k=>!decide (k∈hs)).length<=8:=Nat.le_trans (length_filter_le _ _) (by rw[length_take];omega);refine iteN (fun c=>?_) (fun c=>?_)
   ·exists⟨by rw[length_map];omega,?_,rfl⟩;rw[map_append];simp[c]
   ·refine⟨?_,rfl⟩;simp[c]
  rintro ys H'' ⟨rfl,rfl⟩;rw[show((Mv.getD j []).map V.int).length=(Mv.getD j []).length from length_map _,take_length];have lf:((Mv.getD j []).filter fun k=>!decide (k∈hs)).length<=8:=Nat.le_trans (length_filter_le _ _) (by omega);refine⟨by rw[length_map];omega,?_⟩;walk_at"f 5 t";refine⟨lb,p5,_,_,rfl,rfl,s5 _ _ et,t5,by rw[length_map,length_map];omega,?_⟩;walk_at"f 6 t";have sm6:=sm5.trans s5;obtain⟨n1,n2⟩:=j0L hj tm tn mj.1;walk_at"g";exact⟨_,p6,hs++((Mv.getD j []).filter fun k=>!decide (k∈hs)),rfl,sm.trans (s5.trans s6),by rw[t6,map_append],(jg (sm6 _ _ Bk.p) hp6).symm,(jg (sm6 _ _ C.em) hp6).symm,(jg (sm6 _ _ C.eg) hp6).symm,n1,n2⟩
 rintro σ' H5 ⟨o7,lb,hs,rfl,s5,et,z1,z2,z3,tn,tm⟩;rw[show((numsC fs.length f).map vN).length=(numsC fs.length f).length from length_map _,take_length]at tm;have hmv:=mvu hs tn tm;have sm5:=sm4.trans s5;have hnu5:=s5 _ _ hnu4;clear tm tn mvu lr lnd hl0 t4 hlb0 s4 s5 hnu4 sm4;exists ixTm (SqT.of (sm5 _ _ hft)) (j3Q) ?_;walk_at"g";have ll:=j1G (names:=names) (b:=fb) (f:=f) (gs:=gs);generalize lastF names fb f=v0 at ll|-;refine⟨fun σ H'=>∃v1,σ=[some (.ref b),some (.ref m),some (.ref g),some (.str (names.getD fs.length ⟨#[]⟩)),some (.ref a),some (.ref nu),some (.ref lb),o7,some v1]/\Same H5 H'/\((∃gg,v1 = .int gg/\LenN gs f gg)\/f.ag=true\/f.sd=true),?_,?_⟩
 rotate_left
 ·exists ixTm (SqT.of (sm5 _ _ hft)) (ya) ?_;walk_at"g";rw[j4K];refine iteBl (fun c=>?_) (fun c=>?_)
  ·obtain⟨is,rfl⟩:=j4W c;have i8:is.length<=8:=js.1;have hjl:∀j∈is,j<fs.length:=js.2;exists⟨nu,rfl,⟨_,SqL.of hnu5⟩,?_⟩;refine Je (xs:=(numsC fs.length (.row is)).map vN) (fun i ys H'=>ys=(((numsC fs.length (.row is)).take i).map fun k=>gs.getD k 0*((is.filter fun j=>decide (j=k)).length:Nat)).map V.int/\Same H5 H') ⟨rfl,Same.refl _⟩ ?_ ?_ ?_
   ·rintro i ys H' _ ⟨rfl,sm⟩;exact SqL.of (sm _ _ hnu5)
   ·rintro i x ys H' hx ⟨rfl,sm⟩;obtain⟨k,hk,rfl,hkm⟩:=j2I hx;have il:=(List.getElem?_eq_some_iff.mp hk).1;have hkl:=Kd hkm;have sm':=sm5.trans sm;obtain⟨c',fc,ec,hc⟩:=pat hkl;rw[Int.zero_add]at ec;refine Jm (σ':=[none,some _,some _,some _]) rfl ?_;exists iteT ?_;exists ixLm (SqL.of (sm' _ _ C.eg)) (jD (j:=k) (by rw[List.getElem?_map,gat k hkl];rfl)) ?_;exists ixTm (SqT.of (sm' _ _ hft)) rfl ?_;refine⟨fb,rfl,⟨_,SqT.of (sm' _ _ (hfb rfl))⟩,?_⟩;refine kI (xs:=(is.map fun j=>names.getD j ⟨#[]⟩).map V.str) (fun i ys H''=>ys=(((is.take i).filter fun j=>decide (j=k)).map fun j=>V.str (names.getD j ⟨#[]⟩))/\H'=H'') ⟨rfl,rfl⟩ ?_ ?_ ?_
    ·rintro i ys H'' _ ⟨rfl,rfl⟩;exact SqT.of (sm' _ _ (hfb rfl))
    ·rintro i x ys H'' hx ⟨rfl,rfl⟩;rw[List.getElem?_map,List.getElem?_map]at hx;obtain⟨y,hy,rfl⟩:=Option.map_eq_some_iff.mp hx;obtain⟨j,hj,rfl⟩:=Option.map_eq_some_iff.mp hy;have ij:=(List.getElem?_eq_some_iff.mp hj).1;have lf:((is.take i).filter fun j=>decide (j=k)).length<=8:=Nat.le_trans (length_filter_le _ _) (by rw[length_take];omega);refine Jm (σ':=[none,some _,some _]) rfl ?_;exists ixTm (SqT.of (sm' _ _ Bk.t)) rfl ?_;exists ixLm (SqL.of (sm' _ _ Bk.p)) (ec) ?_;exists ixTm (SqT.of (sm' _ _ hc)) rfl ?_;walk_at"g";rw[take_snoc hj,filter_append];refine iteD (fun d=>?_) (fun d=>?_)
     ·have d':j=k:=getD_inj nd (hn (hjl j (List.mem_of_getElem? hj))) (hn hkl) d;exists⟨by rw[length_map];omega,?_,rfl⟩;rw[map_append,filter_cons,if_pos (decide_eq_true d'),filter_nil];rfl
     ·have d':¬j=k:=fun z=>d (by rw[z])
      refine⟨?_,rfl⟩;rw[filter_cons,if_neg (by rw[decide_eq_false d'];exact Bool.false_ne_true),filter_nil,append_nil]
    rintro ys H'' ⟨rfl,rfl⟩;rw[show((is.map fun j=>names.getD j ⟨#[]⟩).map V.str).length=is.length by rw[length_map,length_map],take_length];have lf:(is.filter fun j=>decide (j=k)).length<=8:=Nat.le_trans (length_filter_le _ _) i8;refine⟨by rw[length_map];omega,?_⟩;walk_at"f 6 t";exists⟨_,_,rfl,.inl ⟨_,SqL.of t6,rfl⟩,?_⟩;rw[show(List.map (fun j=>V.str (names.getD j ⟨#[]⟩)) (is.filter fun j=>decide (j=k))).length=(is.filter fun j=>decide (j=k)).length from length_map _];have gk:=gpos k hkl;exists⟨by rw[length_map,length_map,length_take];omega,?_,sm.trans s6⟩;rw[take_snoc hk,map_append,map_append];rfl
   rintro ys H' ⟨rfl,sm⟩;rw[show((numsC fs.length (.row is)).map vN).length=(numsC fs.length (.row is)).length from length_map _,take_length];refine⟨by rw[length_map,length_map];omega,?_⟩;walk_at"f 7 t";exists⟨p7,_,rfl,SqL.of t7,?_⟩;walk_at"g";exact⟨_,rfl,sm.trans s7,.inl ⟨_,rfl,j3E (gs:=gs) hjl⟩⟩
  ·refine⟨v0,rfl,Same.refl _,?_⟩;rcases ll with z | z | z | z
   ·exact .inl z
   ·exact .inr (.inl z)
   ·exact .inr (.inr z)
   ·rw[c]at z;cases z
 rintro σ' H6 ⟨v1,rfl,s6,l1'⟩;have sm6:=sm5.trans s6;have hnu6:=s6 _ _ hnu5;exists⟨fun σ H'=>∃v2,σ=[some (.ref b),some (.ref m),some (.ref g),some (.str (names.getD fs.length ⟨#[]⟩)),some (.ref a),some (.ref nu),some (.ref lb),o7,some v2]/\Same H6 H'/\((∃gg,v2 = .int gg/\LenN gs f gg)\/f.ag=true),?_,?_⟩
 rotate_left
 ·exists ixTm (SqT.of (sm6 _ _ hft)) (ya) ?_;walk_at"g";rw[j4M];refine iteBl (fun c=>?_) (fun c=>?_)
  ·obtain⟨is,rfl⟩:=j4X c;have hjl:∀j∈is,j<fs.length:=js.2;have ne:is≠[]:=fun z=>by have:=pre.1;rw[z]at this;exact absurd this (by decide)
   exists⟨nu,rfl,⟨_,SqL.of hnu6⟩,?_⟩;refine Je (xs:=(numsC fs.length (.side is)).map vN) (fun i ys H'=>ys=(((numsC fs.length (.side is)).take i).map fun k=>gs.getD k 0).map V.int/\H6=H') ⟨rfl,rfl⟩ ?_ ?_ ?_
   ·rintro i ys H' _ ⟨rfl,rfl⟩;exact SqL.of hnu6
   ·rintro i x ys H' hx ⟨rfl,rfl⟩;obtain⟨k,hk,rfl,hkm⟩:=j2I hx;have il:=(List.getElem?_eq_some_iff.mp hk).1;have hkl:=Kd hkm;refine Jm (σ':=[none,some _]) rfl ?_;exists iteT ?_;exists ixLm (SqL.of (sm6 _ _ C.eg)) (jD (j:=k) (by rw[List.getElem?_map,gat k hkl];rfl)) ?_;refine⟨by rw[length_map,length_map,length_take];omega,?_,rfl⟩;rw[take_snoc hk,map_append,map_append];rfl
   rintro ys H' ⟨rfl,rfl⟩;rw[show((numsC fs.length (.side is)).map vN).length=(numsC fs.length (.side is)).length from length_map _,take_length];refine⟨by rw[length_map,length_map];omega,?_⟩;walk_at"f 7 t";have nm:=Z6 (f:=.side is) hjl;exists⟨p7,_,rfl,SqL.of t7,?_,fun mx hm hmax=>?_⟩
   ·rw[length_map];obtain⟨j,hj⟩:=List.exists_mem_of_ne_nil is ne;exact length_pos_of_mem ((nm j).mpr hj)
   obtain⟨j,hj,rfl⟩:=mem_map.mp hm;walk_at"g";exact⟨_,rfl,s7,.inl ⟨_,rfl,⟨j,(nm j).mp hj,rfl⟩,fun j' hj'=>hmax _ (mem_map.mpr ⟨j',(nm j').mpr hj',rfl⟩)⟩⟩
  ·refine⟨v1,rfl,Same.refl _,?_⟩;rcases l1' with z | z | z
   ·exact .inl z
   ·exact .inr z
   ·rw[c]at z;cases z
 rintro σ' H7 ⟨v2,rfl,s7,l2'⟩;have sm7:=sm6.trans s7;have hnu7:=s7 _ _ hnu6;exists⟨fun σ H'=>∃gg,σ=[some (.ref b),some (.ref m),some (.ref g),some (.str (names.getD fs.length ⟨#[]⟩)),some (.ref a),some (.ref nu),some (.ref lb),o7,some (.int gg)]/\H7=H'/\LenN gs f gg,?_,?_⟩
 rotate_left
 ·exists ixTm (SqT.of (sm7 _ _ hft)) (ya) ?_;walk_at"g";rw[j2z];refine iteBl (fun c=>?_) (fun c=>?_)
  ·obtain⟨k0,j0,rfl⟩:=j3Y c;have hj0:=js.2 j0 mem_cons_self;obtain⟨k1,k2,_⟩:=pre;have gk:=gpos j0 hj0;rw[j0Q hj0]at hnu7;exists ixTm (SqT.of (sm7 _ _ hft)) rfl ?_;exists ixLm (SqL.of hnu7) rfl ?_;refine ixLm (SqL.of (sm7 _ _ C.eg)) (jD (j:=j0) (by rw[List.getElem?_map,gat j0 hj0];rfl)) ?_;walk_at"g";exact⟨_,rfl,rfl,rfl⟩
  ·rcases l2' with⟨gg,rfl,z⟩ | z
   ·exact⟨gg,rfl,rfl,z⟩
   ·rw[c]at z;cases z
 rintro σ' H8 ⟨gg,rfl,rfl,lng⟩;have lb3:=j3b pre ag lng B0 fun j hj=>⟨(gpos j hj).1,gB j hj⟩
 have mok:=hmv.ok (by rw[Ll];exact mo);have hs8:=Qb mok.1 mok.2;rw[Ll]at hs8 mok;have ml:=C.ml;have gl:=C.gl;have aml:=C.am.1;have ets:=(s6.trans s7) _ _ et;exists ixTm (SqT.of (sm7 _ _ Bk.t)) rfl ?_;refine⟨.inl ⟨rfl,_,SqL.of (sm7 _ _ Bk.p)⟩,?_⟩;exists⟨by show 2<=sizeLine;omega,?_⟩;walk_at"f pc hpc H9 s9 t9";have sm9:=sm7.trans s9;have nt:∀{c:Addr} {xs:List V},H c=some (.tup xs)->c≠pp/\c≠m/\c≠g:=fun h=>⟨Q5 h Bk.p (fun z=>by cases z),Q5 h C.em (fun z=>by cases z),Q5 h C.eg (fun z=>by cases z)⟩
 have pcp:pc≠pp:=(jg (sm7 _ _ Bk.p) hpc).symm;have pcm:pc≠m:=(jg (sm7 _ _ C.em) hpc).symm;have pcg:pc≠g:=(jg (sm7 _ _ C.eg) hpc).symm;refine⟨pp,_,_,rfl,rfl,sm9 _ _ Bk.p,by rw[length_map];omega,?_⟩;exists⟨.inl ⟨rfl,_,SqL.of ((jh S.pm.symm).trans (sm9 _ _ C.em))⟩,?_⟩;exists⟨m,_,_,rfl,rfl,(jh S.pm.symm).trans (sm9 _ _ C.em),by rw[length_map];omega,?_⟩;exists⟨.inl ⟨rfl,_,SqL.of ((jh S.mg.symm).trans ((jh S.pg.symm).trans (sm9 _ _ C.eg)))⟩,?_⟩;exists⟨g,_,_,rfl,rfl,(jh S.mg.symm).trans ((jh S.pg.symm).trans (sm9 _ _ C.eg)),by rw[length_map];omega,?_⟩;walk_at"g";show Q V.non _;have k9:∀x u,x≠pp->x≠m->x≠g->H9 x=some u->upd (upd (upd H9 pp (.lst (pas.map V.ref++[.ref pc]))) m (.lst (mas.map V.ref++[.ref lb]))) g (.lst (gs.map V.int++[.int gg])) x=some u:=fun x u h1 h2 h3 h=>(jh h3).trans ((jh h2).trans ((jh h1).trans h))
 have ep:upd (upd (upd H9 pp (.lst (pas.map V.ref++[.ref pc]))) m (.lst (mas.map V.ref++[.ref lb]))) g (.lst (gs.map V.int++[.int gg])) pp=some (.lst ((pas++[pc]).map V.ref)):=(jh S.pg).trans ((jh S.pm).trans (by rw[jA,map_append];rfl));have em:upd (upd (upd H9 pp (.lst (pas.map V.ref++[.ref pc]))) m (.lst (mas.map V.ref++[.ref lb]))) g (.lst (gs.map V.int++[.int gg])) m=some (.lst ((mas++[lb]).map V.ref)):=(jh S.mg).trans (by rw[jA,map_append];rfl);have eg:upd (upd (upd H9 pp (.lst (pas.map V.ref++[.ref pc]))) m (.lst (mas.map V.ref++[.ref lb]))) g (.lst (gs.map V.int++[.int gg])) g=some (.lst ((gs++[gg]).map V.int)):=by rw[jA,map_append];rfl
 generalize upd (upd (upd H9 pp (.lst (pas.map V.ref++[.ref pc]))) m (.lst (mas.map V.ref++[.ref lb]))) g (.lst (gs.map V.int++[.int gg]))=Hf at k9 ep em eg|-;have kt:∀c xs,H c=some (.tup xs)->Hf c=some (.tup xs):=fun c xs h=>k9 _ _ (nt h).1 (nt h).2.1 (nt h).2.2 (sm9 _ _ h)
 refine q pc lb hs gg Hf (fun x u h1 h2 h3 h=>k9 x u h1 h2 h3 (sm9 _ _ h)) ⟨⟨kt _ _ Bk.t,k9 _ _ S.lp S.lm S.lg (sm9 _ _ Bk.l),Bk.la.mono fun c x h=>kt _ _ h,ep,?_⟩,em,?_,eg,by rw[List.length_append];exact nl,by rw[List.length_append,List.length_append,ml];rfl,by rw[List.length_append,List.length_append,gl];rfl,by rw[List.length_append];show fs.length+1<=60;omega,fun ks hk=>?_,fun j hj=>?_,l1,l8⟩ ⟨S.lp,S.lm,S.lg,S.pm,S.pg,S.mg,fun x hx=>?_⟩ hmv lng lb3.2
 ·rw[Xg];exact(Bk.pa.mono fun c x h=>PartAt.keep kt h).snoc ⟨a,k9 _ _ pcp pcm pcg t9,FormAt.keep kt hf⟩
 ·exact(All2.monoM C.am fun c hc ks h=>k9 _ _ (S.ma c hc).1 (S.ma c hc).2.1 (S.ma c hc).2.2 (sm9 _ _ h)).snoc (k9 _ _ z1 z2 z3 (s9 _ _ ets))
 ·rcases mem_append.mp hk with z | z
  ·exact C.m8 ks z
  ·rw[mem_singleton.mp z];omega
 ·rw[List.length_append]at hj;have hj':j<fs.length+1:=hj;by_cases c:j<fs.length
  ·rw[Qr (by omega)];exact gpos j c
  ·rw[show j=gs.length by omega,qa];exact⟨lb3.1,by omega⟩
 ·rcases mem_append.mp hx with z | z
  ·exact S.ma x z
  ·rw[mem_singleton.mp z];exact⟨z1,z2,z3⟩
theorem Wh(T:Txt K mg t)(zB:FnOk P w K mg base CX0 1 t.QH t.QS ["_law_script","_law_k"] (sp_poolC K))(jE:FnOk P w K mg base CX0 1 t.JY t.JZ ["_law_pool_here","_law_many"] (sp_takeD))(zC:FnOk P w K mg base CX0 1 t.QI t.QT ["_law_place","_law_k"] (sp_wordC))(jM:FnOk P w K mg base CX0 2 t.JL t.JM ["_law_pool_here","_law_most"] (sp_takeD))(ZA:FnOk P w K mg base CX0 4 t.QF t.QQ ["_law_pool_here","_law_book_here","_law_moves","_law_longs","_law_most"] (sp_formC))(Zd:FnOk P w K mg base CX0 1 t.zh t.zl ["_law_book_here","_law_moves","_law_longs","_law_name","_law_form_here"] (sp_putC)):FnOk P w K mg base CX0 5 t.QE t.QP ["_law_script","_law_start","_law_most"] (sp_bookC K):=by
 refine T.YR.ok jQ (fun vs H Q E h=>?_) (fun cdv A outer s H vs Q E hr h=>?_)
 ·cases h;subst_vars;rfl
 obtain⟨a,ns,start,most,rfl,hS,h63,st0,st1,ms1,ms2,q⟩:=h;refine⟨_,(jc (jr (i:=3) jQ.nd rfl (.inr rfl) (jt (zB.mono (by decide)) hr (by rfl) T.Y2 T.Zw.kp T.YM .nil pass0 (jb (pv 0) (jb (pv 1) jd))))
  (jc (jr (i:=4) jQ.nd rfl (.inl rfl) (jt (jE.mono (by decide)) hr (by rfl) T.jO T.jL.kp T.jN .nil pass0 (jb (pv 3) (jb jf jd))))
  (jc (jr (i:=5) jQ.nd rfl (.inl rfl) (jt (jE.mono (by decide)) hr (by rfl) T.jO T.jL.kp T.jN .nil pass0 (jb (pv 3) (jb jf jd))))
  (jc (jr (i:=6) jQ.nd rfl (.inr rfl) (jm jx (jR (jb (jR (jb jz (jb jz (jb jz jd)))) (jb (jR (jb jz (jb jz (jb jz jd)))) (jb (jR (jb jz (jb jz (jb jz jd)))) jd)))) (jt (jE.mono (by decide)) hr (by rfl) T.jO T.jL.kp T.jN .nil pass0 (jb (pv 3) (jb jf jd)))))
  (jc (jr (i:=6) jQ.nd rfl (.inr rfl) (ju Kh (pv 6) (jR (jb jz (jb jz (jb jz (jb jz (jb jz jd))))))))
  (jc (jr (i:=7) jQ.nd rfl (.inl rfl) (ju jY jf (jt (jE.mono (by decide)) hr (by rfl) T.jO T.jL.kp T.jN .nil pass0 (jb (pv 3) (jb jf jd)))))
  (jc (jr (i:=8) jQ.nd rfl (.inl rfl) (jI (jb (Jj (ow:=["_law_k"]) (ci:=[6,3,2]) rfl (CompScope.of (defScope QZ) ["_law_script","_law_start","_law_most","_law_pool_here","_law_place","_law_called","_law_order","_law_many","_law_book_here","_law_moves","_law_longs","_law_k","_law_name","_law_last"] rfl rfl (by decide +kernel)) (Jf (by decide)) (qu (by rfl) T.Qm (jb (ju jY jf (jt (jE.mono (by decide)) hr (by rfl) T.jO T.jL.kp T.jN .nil pass0 (jb (pv 3) (jb jf jd)))) jd)) (fun _ _ _ _ _=>⟨(jq (i:=0) (Ja ["_law_script","_law_start","_law_most","_law_pool_here","_law_place","_law_called","_law_order","_law_many","_law_book_here","_law_moves","_law_longs","_law_k","_law_name","_law_last"] rfl (by decide +kernel)) rfl (.inl rfl)),qB,(jI (jb (jm (JU (K:=K) rfl) (pv 1) (pv 0)) (jb (jt (jM.mono (by decide)) hr (by rfl) T.JN T.Jo.kp T.JK .nil pass0 (jb (pv 2) (jb (ju jY (pv 3) jf) jd))) jd)))⟩)) (jb (jR jd) jd))))
  (jc (jr (i:=9) jQ.nd rfl (.inl rfl) (jR jd))
  (jc (jr (i:=10) jQ.nd rfl (.inl rfl) (jR jd))
  (jc (Jh PassesOwn.never rfl (qu (by rfl) T.Qm (jb (pv 7) jd)) (jq (i:=11) jQ.nd rfl (.inl rfl))
   (jc (jr (i:=12) jQ.nd rfl (.inl rfl) (jt (zC.mono (by decide)) hr (by rfl) T.Y3 T.Zx.kp T.YO .nil pass0 (jb (pv 4) (jb (pv 11) jd))))
   (jc (zw (PW.pt (yE (jw J0 (pv 5) jf (nomark _)) (Z9 (jw J0 (pv 11) jf (nomark _)))))
    (jk (jr (i:=12) jQ.nd rfl (.inl rfl) (jm jv (jm jx (jm jv (pv 8) jf) jf) jf)))
    jG)
   (jk (j8 (jt (Zd.mono (by decide)) hr (by rfl) T.kW T.yr.kp T.kz .nil pass0 (jb (pv 8) (jb (pv 9) (jb (pv 10) (jb (pv 12) (jb (jt (ZA.mono (by decide)) hr (by rfl) T.xi T.YS.kp T.WM .nil pass0 (jb (jt (zB.mono (by decide)) hr (by rfl) T.Y2 T.Zw.kp T.YM .nil pass0 (jb (pv 0) (jb (ju jY (ju jY (pv 1) jf) (pv 11)) jd))) (jb (pv 8) (jb (pv 9) (jb (pv 10) (jb (pv 2) jd)))))) jd)))))))))))
  (jc (Ye (i:=13) (ow:=["_law_part"]) (ci:=[]) rfl (CompScope.of (defScope QZ) ["_law_script","_law_start","_law_most","_law_pool_here","_law_place","_law_called","_law_order","_law_many","_law_book_here","_law_moves","_law_longs","_law_k","_law_name","_law_last"] rfl rfl (by decide +kernel)) (Jf (by decide)) jQ.nd rfl (.inl rfl) (jP (zY WF (jm jv (pv 8) jf) (Zo (ym zT jf)) Z8)) (fun _ _ _ _ _=>⟨(jq (i:=0) (Ja ["_law_script","_law_start","_law_most","_law_pool_here","_law_place","_law_called","_law_order","_law_many","_law_book_here","_law_moves","_law_longs","_law_k","_law_name","_law_last"] rfl (by decide +kernel)) rfl (.inl rfl)),qB,(jm (JA (K:=K) rfl) (pv 0) jf)⟩))
  (jc (j8 (jt (Zd.mono (by decide)) hr (by rfl) T.kW T.yr.kp T.kz .nil pass0 (jb (pv 8) (jb (pv 9) (jb (pv 10) (jb (jt (zC.mono (by decide)) hr (by rfl) T.Y3 T.Zx.kp T.YO .nil pass0 (jb (pv 4) (jb (pv 7) jd))) (jb (jI (jb jz (jb (Qc zN (by rfl) T.yR ZJ (jb (ju Kh (pv 13) (zY WF (pv 13) Z8 (Zo jf))) jd)) jd))) jd)))))))
  (jk (jC (jI (jb (pv 8) (jb (jm jx (pv 10) (ym zT jf)) jd))))))))))))))))),?_⟩
 refine jB (σ':=[some _,some _,some _,none,none,none,none,none,none,none,none,none,none,none]) rfl ?_;have sz:(200:Nat)<sizeLine:=by decide
 exists⟨a,ns,start,rfl,hS,h63,st0,by omega,fun p y0 H1 s1 hp e1=>?_⟩;exists⟨p,y0,4,rfl,e1,by omega,by omega,fun pl4 y1 H2 l0 l1 x2 e2=>?_⟩;exists⟨p,y1,2,rfl,e2,by omega,by omega,fun cl y2 H3 c0 c1 x3 e3=>?_⟩;obtain⟨P4,rfl,hP4⟩:∃P4:Nat,pl4=(P4:Int)/\P4<4:=⟨pl4.toNat,by omega,by omega⟩
 obtain⟨C2,rfl,hC2⟩:∃C2:Nat,cl=(C2:Int)/\C2<2:=⟨cl.toNat,by omega,by omega⟩
 have sp:∀{G G':Hp},Same H G->Ex p G G'->Same H G':=fun s x c u h=>x _ _ (jg h hp) (s _ _ h)
 have s3:Same H H3:=sp (sp s1 x2) x3;clear x2 x3 e1 e2 s1;clear H1 H2;exists⟨by show 3<=sizeLine;omega,?_⟩;walk_at"f o0 ho0 H4 s4 t4";exists⟨by show 3<=sizeLine;omega,?_⟩;walk_at"f o1 ho1 H5 s5 t5";exists⟨by show 3<=sizeLine;omega,?_⟩;walk_at"f o2 ho2 H6 s6 t6";exists⟨by show 3<=sizeLine;omega,?_⟩;walk_at"f oo hoo H7 s7 t7";have s37:=s4.trans (s5.trans (s6.trans s7));exists⟨p,y2,3,rfl,s37 _ _ e3,by omega,by omega,fun tt y3 H8 t0 t1 x8 e8=>?_⟩;obtain⟨T3,rfl,hT3⟩:∃T3:Nat,tt=(T3:Int)/\T3<3:=⟨tt.toNat,by omega,by omega⟩
 have s8:=sp (s3.trans s37) x8;have np:∀{c u} {G:Hp},G p=some u->G c=none->c≠p:=fun h1 h2=>(jg h1 h2).symm
 have z0:o0≠p:=np e3 ho0;have z1:o1≠p:=np (s4 _ _ e3) ho1;have z2:o2≠p:=np (s5 _ _ (s4 _ _ e3)) ho2;have z3:oo≠p:=np (s6 _ _ (s5 _ _ (s4 _ _ e3))) hoo;have hoi:∃oi,atI [V.ref o0,V.ref o1,V.ref o2] (T3:Int)=some (.ref oi)/\H8 oi=some (.lst ((ordB T3).map V.str))/\oi≠p:=by
  have h:T3=0\/T3=1\/T3=2:=by omega
  rcases h with rfl | rfl | rfl
  ·exact⟨o0,rfl,x8 _ _ z0 (s7 _ _ (s6 _ _ (s5 _ _ t4))),z0⟩
  ·exact⟨o1,rfl,x8 _ _ z1 (s7 _ _ (s6 _ _ t5)),z1⟩
  ·exact⟨o2,rfl,x8 _ _ z2 (s7 _ _ t6),z2⟩
 obtain⟨oi,eoi,hoi,zoi⟩:=hoi;refine ixLm (SqL.of (x8 _ _ z3 t7)) (eoi) ?_;clear z0 z1 z2 z3 hoo ho2 ho1 ho0 t4 t5 t6 t7 eoi;exists⟨by show 5<=sizeLine;omega,?_⟩;walk_at"f o5 ho5 H9 s9 t9";refine⟨oi,o5,_,_,rfl,rfl,s9 _ _ hoi,t9,?_,?_⟩
 ·rw[length_map];show(ordB T3).length+5<=sizeLine;have:=xz (t:=T3);unfold ordC at this;rw[List.length_append]at this;omega
 walk_at"f od hod H10 s10 t10";have hod':H10 od=some (.lst ((ordC T3).map V.str)):=by rw[t10];unfold ordC;rw[map_append];rfl
 have s10':=s8.trans (s9.trans s10);have e10:=s10 _ _ (s9 _ _ e8);have zod:od≠p:=np (s9 _ _ e8) hod;clear t10 hod ho5 t9 hoi zoi s9 s10 e8 e3 s8 s37 s3;exists⟨p,y3,9,rfl,e10,by omega,by omega,fun mn y4 H11 mn0 mn1 x11 e11=>?_⟩;have s11:=sp s10' x11;have hod1:=x11 _ _ zod hod';clear s10' e10 x11 hod';obtain⟨mm,rfl,m2,m10⟩:∃mm:Nat,mn=(mm:Int)-2/\2<=mm/\mm<=10:=⟨(mn+2).toNat,by omega,by omega,by omega⟩
 exists⟨p,y4,8,rfl,e11,by omega,by omega,fun lm y5 H12 lm0 lm1 x12 e12=>?_⟩;have s12:=sp s11 x12;have hod2:=x12 _ _ zod hod1;clear s11 hod1 e11 x12;obtain⟨LL,hLL,L1,L8⟩:∃LL:Nat,1+lm=(LL:Int)/\1<=LL/\LL<=8:=⟨(1+lm).toNat,by omega,by omega,by omega⟩
 have o8:=xz (t:=T3);have Lat:∀{k:Nat},k<8->(ordC T3)[k]?=some ((ordC T3).getD k ⟨#[]⟩):=fun {k} hk=>by
  rw[getD_eq_getElem?_getD,List.getElem?_eq_getElem (by omega)];rfl
 walk_at"g";rw[hLL];refine⟨_,rfl,by omega,by omega,?_⟩;rw[Int.toNat_natCast];refine zk (fun i ys H'=>∃(las:List Addr) (ls:List (Str×Int)) (y:Int),ys=las.map V.ref/\las.length=i/\All2 (LimbAt H') las ls/\nmsOf ls=(ordC T3).take i/\(∀q∈ls,0<=q.2/\q.2<=10^18)/\Same H H'/\H' od=some (.lst ((ordC T3).map V.str))/\H' p=some (.lst [.int y])) ⟨[],[],y5,rfl,rfl,.nil,rfl,(fun q hq=>nomatch hq),s12,hod2,e12⟩ ?_ ?_
 ·rintro i ys H' hi ⟨las,ls,y,rfl,ll,al,nm,lh,sm,eo,ep⟩;have i8:i<8:=by omega
  refine Jm (σ':=[none,some _,some _,some _]) rfl ?_;exists iteT ?_;exists ixLm (SqL.of eo) (by rw[Int.zero_add];exact jD (by rw[List.getElem?_map,Lat i8];rfl)) ?_;exists⟨p,y,most+1,rfl,ep,by omega,by omega,fun v y' H'' v0 v1 x' ep'=>?_⟩;exists⟨by show 2<=sizeLine;omega,?_⟩;walk_at"f pc hpc H3 s3 t3";have kt:∀c xs,H' c=some (.tup xs)->H3 c=some (.tup xs):=fun c xs h=>s3 _ _ (x' _ _ (Q5 h ep fun z=>by cases z) h)
  refine⟨by rw[length_map];omega,las++[pc],ls++[((ordC T3).getD i ⟨#[]⟩,v)],y',by rw[map_append];rfl,by rw[List.length_append,ll];rfl,(al.mono fun c x h=>kt _ _ h).snoc t3,?_,fun q hq=>?_,(sp sm x').trans s3,s3 _ _ (x' _ _ zod eo),s3 _ _ ep'⟩
  ·rw[take_snoc (Lat i8),<-nm];unfold nmsOf;rw[map_append];rfl
  ·rcases mem_append.mp hq with z | z
   ·exact lh q z
   ·rw[mem_singleton.mp z];exact⟨v0,by show v<=10^18;omega⟩
 rintro ys H13 ⟨las,ls,y6,rfl,ll,al,nm,lh,sm,eo,ep⟩;clear s12 hod2 e12 H12;have lsl:ls.length=LL:=by rw[<-al.1];exact ll
 refine⟨by rw[length_map];omega,?_⟩;walk_at"f pl hpl H14 s14 t14";exists⟨Nat.zero_le _,?_⟩;walk_at"f pp hpp H15 s15 t15";exists⟨by show 2<=sizeLine;omega,?_⟩;walk_at"f b hb H16 s16 t16";exists⟨Nat.zero_le _,?_⟩;walk_at"f m hm H17 s17 t17";exists⟨Nat.zero_le _,?_⟩;walk_at"f g hg H18 s18 t18";obtain⟨nd,nW⟩:=j4u hP4 hC2 hT3;obtain⟨lnd,lW⟩:=j3u hT3;have ng:∀{k:Nat},k<13->(nmC P4 C2 ((ordC T3).getD 0 ⟨#[]⟩)).getD k ⟨#[]⟩=if C2=1/\k=1 then(ordC T3).getD 0 ⟨#[]⟩else wdC P4 k:=fun h=>j3m h
 have nl:=j3n (p:=P4) (c:=C2) (x:=(ordC T3).getD 0 ⟨#[]⟩);generalize nmC P4 C2 ((ordC T3).getD 0 ⟨#[]⟩)=names at nd nW ng nl;have lnd':(nmsOf ls).Nodup:=by rw[nm];exact lnd.sublist (List.take_sublist _ _)
 have lW':∀x∈nmsOf ls,Ws.isW x=true:=fun x hx=>lW x (by rw[nm]at hx;exact mem_of_mem_take hx)
 have f0:∃v0,ls[0]?=some ((ordC T3).getD 0 ⟨#[]⟩,v0):=by
  have e:(nmsOf ls)[0]?=some ((ordC T3).getD 0 ⟨#[]⟩):=by rw[nm,List.getElem?_take_of_lt (by omega),Lat (by omega)]
  unfold nmsOf at e;rw[List.getElem?_map]at e;obtain⟨z,hz,ez⟩:=Option.map_eq_some_iff.mp e;exact⟨z.2,by rw[hz,<-ez]⟩
 obtain⟨v0,f0⟩:=f0;have s18':=sm.trans (s14.trans (s15.trans (s16.trans (s17.trans s18))));have BC:BkC b pl pp m g las [] [] ls names [] [] [] H18:=⟨⟨s18 _ _ (s17 _ _ t16),s18 _ _ (s17 _ _ (s16 _ _ (s15 _ _ t14))),al.mono fun c x h=>s18 _ _ (s17 _ _ (s16 _ _ (s15 _ _ (s14 _ _ h)))),s18 _ _ (s17 _ _ (s16 _ _ t15)),.nil⟩,s18 _ _ t17,.nil,t18,Nat.zero_le _,rfl,rfl,Nat.zero_le _,(fun ks hk=>nomatch hk),fun j hj=>absurd hj (Nat.not_lt_zero j),by omega,by omega⟩
 have SP:Sep pl pp m g []:=⟨jg t14 hpp,jg (s16 _ _ (s15 _ _ t14)) hm,jg (s17 _ _ (s16 _ _ (s15 _ _ t14))) hg,jg (s16 _ _ t15) hm,jg (s17 _ _ (s16 _ _ t15)) hg,jg t17 hg,fun x hx=>by cases hx⟩
 have hpp':H pp=none:=by
  cases e:H pp with
  | none=>rfl
  | some u=>rw[s14 _ _ (sm _ _ e)]at hpp;cases hpp
 have hm':H m=none:=by
  cases e:H m with
  | none=>rfl
  | some u=>rw[s16 _ _ (s15 _ _ (s14 _ _ (sm _ _ e)))]at hm;cases hm
 have hg':H g=none:=by
  cases e:H g with
  | none=>rfl
  | some u=>rw[s17 _ _ (s16 _ _ (s15 _ _ (s14 _ _ (sm _ _ e))))]at hg;cases hg
 clear sm eo ep hpl hpp hb hm hg t14 t15 t16 t17 t18 s14 s15 s16 s17 s18 al ll;exists⟨_,rfl,by omega,by omega,?_⟩;refine zW (fun i σ H'=>∃(o11 o12:Option V) (pas mas:List Addr) (fs:List Fn) (Mv:List (List Int)) (gs:List Int),σ=[some (.ref a),some (.int start),some (.int most),some (.ref p),some (.int (P4:Nat)),some (.int (C2:Nat)),some (.ref od),some (.int (2+((mm:Nat)-2))),some (.ref b),some (.ref m),some (.ref g),o11,o12,none]/\Same H H'/\BkC b pl pp m g las pas mas ls names fs Mv gs H'/\Sep pl pp m g mas/\MvOk ls.length Mv/\DUk (nmsOf ls) fs Mv gs/\fs.length=i)
  ⟨_,_,[],[],[],[],[],rfl,s18',BC,SP,(fun ks hk=>nomatch hk),.nil,rfl⟩ ?_ ?_
 ·rintro i σ H' hi ⟨o11,o12,pas,mas,fs,Mv,gs,rfl,sm,C,S,mo,D,fl⟩;have i10:i<10:=by omega
  exists⟨P4,i,by rw[Int.zero_add];rfl,hP4,by omega,fun H1 s1=>?_⟩;have C1:=C.same s1;exists⟨fun σ H''=>σ=[some (.ref a),some (.int start),some (.int most),some (.ref p),some (.int (P4:Nat)),some (.int (C2:Nat)),some (.ref od),some (.int (2+((mm:Nat)-2))),some (.ref b),some (.ref m),some (.ref g),some (.int (0+(i:Int))),some (.str (names.getD i ⟨#[]⟩)),none]/\H1=H'',?_,?_⟩
  rotate_left
  ·exists iteD (fun c=>?_) (fun c=>?_)
   ·exists iteD (fun d=>?_) (fun d=>?_)
    ·exists ixTm (SqT.of C1.bk.t) rfl ?_;walk_at"g";obtain⟨c0,ec0,hc0⟩:=C1.bk.la.get f0
     replace hc0:H1 c0=some (.tup [.str ((ordC T3).getD 0 ⟨#[]⟩),.int v0]):=hc0
     refine ixLm (SqL.of C1.bk.l) (jD (j:=0) (by rw[List.getElem?_map,ec0];rfl)) ?_;exists ixTm (SqT.of hc0) rfl ?_;exists⟨?_,rfl⟩;rw[ng (by omega),if_pos ⟨by omega,by omega⟩]
    ·refine⟨?_,rfl⟩;rw[ng (by omega),if_neg (by omega)]
   ·refine iteF ?_;refine⟨?_,rfl⟩;rw[ng (by omega),if_neg (by omega)]
  rintro σ' H2 ⟨rfl,rfl⟩;have sm1:=sm.trans s1;have hpow:(10:Int)^40*8^fs.length>=10^40:=Int.le_trans (by decide) (pow8 (Nat.zero_le fs.length));have hpow2:8*((10:Int)^40*8^fs.length)=10^40*8^(fs.length+1):=by
   have e:(8:Int)^(fs.length+1)=8^fs.length*8:=Int.pow_succ _ _;rw[e];omega
  have hpow3:=Wz (n:=fs.length+1) (by omega);exists⟨a,ns,_,rfl,sm1.seq hS,h63,by omega,by omega,fun p' y2 H2 s2 hp' e2=>?_⟩;have C2':=C1.same s2;have n1:∀{c u},H1 c=some u->c≠p':=fun h=>jg h hp'
  have nma:∀c∈mas,c≠p':=fun c hc=>by
   obtain⟨j,hj⟩:=List.mem_iff_getElem?.mp hc;have jl:=(List.getElem?_eq_some_iff.mp hj).1;have aml:=C1.am.1;exact n1 (C1.am.2 j c (Mv.getD j []) hj (by rw[getD_eq_getElem?_getD,List.getElem?_eq_getElem (by omega)];rfl))
  exists⟨p',b,pl,pp,m,g,y2,most,las,pas,mas,ls,names,fs,Mv,gs,rfl,e2,C2',n1 C1.bk.t,n1 C1.bk.l,n1 C1.bk.p,n1 C1.em,n1 C1.eg,nma,ms1,ms2,nW,fun fa f y3 H3 x3 e3 hf pre ag=>?_⟩;have C3:=C2'.ex x3 e2 (n1 C1.bk.l) (n1 C1.bk.p) (n1 C1.em) (n1 C1.eg) nma;have sm3:Same H H3:=fun c u h=>x3 _ _ (n1 (sm1 _ _ h)) (s2 _ _ (sm1 _ _ h))
  exists⟨b,pl,pp,m,g,fa,las,pas,mas,ls,names,fs,Mv,gs,f,10^40*8^fs.length,by rw[fl];rfl,C3,S,mo,hf,pre,ag,by omega,by omega,nd,hpow,by omega,D.bnd,fun c a1 ks gg H4 k4 C4 S4 mv lg gb=>?_⟩;have gg1:=C4.g0 fs.length (by rw[List.length_append];exact Nat.lt_succ_self _);rw[<-D.gl,qa]at gg1;refine⟨_,_,pas++[c],mas++[a1],fs++[f],Mv++[ks],gs++[gg],rfl,fun x u h=>k4 x u (jg h hpp') (jg h hm') (jg h hg') (sm3 _ _ h),C4,S4,mo.snoc (by have:=mv.ok (by rw[show(nmsOf ls).length=ls.length from length_map _];exact mo);rw[show(nmsOf ls).length=ls.length from length_map _]at this;exact this),D.add pre mv lg ⟨gg1.1,by omega⟩,by rw[List.length_append,fl];rfl⟩
 rintro σ' H19 ⟨o11,o12,pas,mas,fs,Mv,gs,rfl,sm,C,S,mo,D,fl⟩
 replace fl:fs.length=mm:=by omega
 clear BC SP s18';have pal:pas.length=fs.length:=C.bk.pa.1.trans Qa;exists ixTm (SqT.of C.bk.t) rfl ?_;exists⟨pp,_,rfl,SqL.of C.bk.p,?_⟩;walk_at"f pc hpc H20 s20 t20";rw[j4Q]at t20;rw[length_map,pal,fl]at t20;have C20:=C.same s20;have lc:=j0C m2;have ldl:((pas.map V.ref).drop (mm-3)).length=(lastC mm).length:=by
  unfold lastC;rw[length_drop,length_drop,length_map,length_range];omega
 exists⟨pc,rfl,⟨_,SqL.of t20⟩,?_⟩;refine Je (xs:=(pas.map V.ref).drop (mm-3)) (fun i ys H'=>ys=(((lastC mm).take i).map fun j=>names.getD j ⟨#[]⟩).map V.str/\H20=H') ⟨rfl,rfl⟩ ?_ ?_ ?_
 ·rintro i ys H' _ ⟨rfl,rfl⟩;exact SqL.of t20
 ·rintro i v ys H' hv ⟨rfl,rfl⟩;have il:=(List.getElem?_eq_some_iff.mp hv).1;rw[List.getElem?_drop]at hv;obtain⟨c,pt,rfl,hpt,fb,hat,hf⟩:=C20.bk.pa.at_ref hv;obtain⟨f,hf',rfl⟩:=qp hpt;have hlt:=(List.getElem?_eq_some_iff.mp hf').1;refine Jm (σ':=[none]) rfl ?_;exists iteT ?_;exists ixTm (SqT.of hat) rfl ?_;refine⟨by rw[length_map,length_map,length_take];omega,?_,rfl⟩;rw[take_snoc (show(lastC mm)[i]?=some (mm-3+i) by unfold lastC;rw[List.getElem?_drop,List.getElem?_range (by omega)]),map_append,map_append];rfl
 rintro ys H' ⟨rfl,rfl⟩;rw[ldl,take_length];refine⟨by rw[length_map,length_map];omega,?_⟩;walk_at"f la hla H21 s21 t21";have C21:=C20.same s21;exists⟨P4,mm,by rw[show(2+((mm:Int)-2))=mm by omega];rfl,hP4,by omega,fun H22 s22=>?_⟩;exists⟨la,_,rfl,SqL.of (s22 _ _ t21),?_⟩;walk_at"f l1 hl1 H23 s23 t23";rw[show(some 1:Option Int)=some ((1:Nat):Int)from rfl,j49]at t23;refine⟨la,l1,_,_,rfl,rfl,s23 _ _ (s22 _ _ t21),t23,by rw[length_take,length_map,length_map];omega,?_⟩;walk_at"f l2 hl2 H24 s24 t24";exists⟨l2,_,rfl,.inl ⟨SqL.of t24,?_⟩⟩;walk_at"f tp htp H25 s25 t25";exists⟨by show 2<=sizeLine;omega,?_⟩;walk_at"f fa hfa H26 s26 t26";have s2126:=s22.trans (s23.trans (s24.trans (s25.trans s26)));have C26:=C21.same s2126;have sm26:=sm.trans (s20.trans (s21.trans s2126));have hf:FormAt H26 fa (toldF names (.row (lastC mm++(lastC mm).take 1))):=by
  refine⟨tp,t26,?_⟩;rw[s26 _ _ t25,map_append,map_append,List.map_take,List.map_take]
 have hpow:(10:Int)^40*8^fs.length>=10^40:=Int.le_trans (by decide) (pow8 (Nat.zero_le fs.length));have hpow2:8*((10:Int)^40*8^fs.length)=10^40*8^(fs.length+1):=by
  have e:(8:Int)^(fs.length+1)=8^fs.length*8:=Int.pow_succ _ _;rw[e];omega
 have hpow3:=Wz (n:=fs.length+1) (by omega);have pre:PreN (nmsOf ls) Mv fs.length (.row (lastC mm++(lastC mm).take 1)):=by
  refine⟨fun z=>?_,?_,fun j hj=>?_⟩
  ·have:(lastC mm++(lastC mm).take 1).length=0:=by rw[z];rfl
   rw[List.length_append]at this;omega
  ·rw[List.length_append,length_take];omega
  ·rw[fl];rcases mem_append.mp hj with z | z
   ·exact xb z
   ·exact xb (mem_of_mem_take z)
 have nme:names.getD fs.length ⟨#[]⟩=wdC P4 mm:=by rw[fl,ng (by omega),if_neg (by omega)]
 exists⟨b,pl,pp,m,g,fa,las,pas,mas,ls,names,fs,Mv,gs,_,10^40*8^fs.length,by rw[nme];rfl,C26,S,mo,hf,pre,(fun k j z=>by cases z),by omega,by omega,nd,hpow,by omega,D.bnd,fun c a1 ks gg H27 k27 C27 S27 mv lg gb=>?_⟩;have gg1:=C27.g0 fs.length (by rw[List.length_append];exact Nat.lt_succ_self _);rw[<-D.gl,qa]at gg1;have Ll:(nmsOf ls).length=ls.length:=length_map _;have mok:=mv.ok (by rw[Ll];exact mo);rw[Ll]at mok;have mo':=mo.snoc mok;have D':=D.add pre mv lg ⟨gg1.1,by omega⟩;have sm27:Same H H27:=fun x u h=>k27 x u (jg h hpp') (jg h hm') (jg h hg') (sm26 _ _ h)
 have fl':(fs++[Fn.row (lastC mm++(lastC mm).take 1)]).length=mm+1:=by rw[List.length_append,fl];rfl
 have gl':(gs++[gg]).length=mm+1:=by rw[D'.gl];exact fl'
 have gla:(gs++[gg]).getD ((fs++[Fn.row (lastC mm++(lastC mm).take 1)]).length-1) 0=gg:=by
  rw[fl',Nat.add_sub_cancel,<-fl,<-D.gl,qa]
 have hgL:atI ((gs++[gg]).map V.int) (-1)=some (.int gg):=by
  rw[XR (gs:=gs++[gg]) (n:=mm+1) (by omega) gl',Nat.add_sub_cancel,<-fl,<-D.gl,qa]
 have dok:=D'.sorted (by rw[Ll];exact mo') (by rw[Ll];omega) (by rw[fl'];omega);exists ixLm (SqL.of C27.eg) (hgL) ?_;exists⟨by show 2<=sizeLine;omega,?_⟩;walk_at"f r hr' H28 s28 t28";exact q r b pl pp las _ names ls _ _ _ H28 (sm27.trans s28) (by rw[gla];exact t28) (C27.bk.same s28) dok (dok.sn (by rw[fl'];omega) nd lnd' (by omega) (by rw[fl'];omega) (by rw[fl'];omega) lh) (by rw[fl'];omega) (by rw[fl'];omega) nl nd nW (by omega) (by omega) lnd' lW' S.lp
theorem KD(T:Txt K mg t)(Ju:FnOk P w K mg base CX0 1 t.JR t.JT ["_law_script","_law_k"] (Pr.sp_cell_at K)):FnOk P w K mg base CX0 2 t.Qi t.Qo ["_law_script"] (sp_twice K):=by
 refine T.yK.ok Js (fun vs H Q E h=>?_) (fun cdv A outer s H vs Q E hr h=>?_)
 ·cases h;subst_vars;rfl
 obtain⟨a,ns,rfl,hS,h63,hB,q⟩:=h;refine⟨_,(jc (jr (i:=1) Js.nd rfl (.inl rfl) (jt (Ju.mono (by decide)) hr (by rfl) T.zr T.Qd.kp T.zg .nil pass0 (jb (pv 0) (jb jf jd))))
  (jc (jr (i:=2) Js.nd rfl (.inl rfl) (ju qA (ju ql (pv 1) jf) jf))
  (jc (jr (i:=3) Js.nd rfl (.inl rfl) (ju jY jf (ju qA (ju ql (pv 1) jf) jf)))
  (jc (jr (i:=4) Js.nd rfl (.inl rfl) (jR jd))
  (jc (Jh PassesOwn.never rfl (jP (jR (jb (jI (jb jz (jb jz jd))) (jb (jI (jb jz (jb jz jd))) jd)))) (qb rfl (jy (jq (i:=5) Js.nd rfl (.inl rfl)) (jy (jq (i:=6) Js.nd rfl (.inl rfl)) Jk)))
   (jc (j8 (qI PySem.F.plainAttrs_list PySem.F.slot_list_append PySem.F.type_list_append jS (pv 4) (jb (jI (jb (ju JO (pv 5) jz) (jb (jI (jb jz (jb (pv 6) (jb (ju jY (pv 2) (pv 3)) (jb jf jd))))) jd))) jd)))
   (jc (j8 (qI PySem.F.plainAttrs_list PySem.F.slot_list_append PySem.F.type_list_append jS (pv 4) (jb (jI (jb (ju JO (pv 5) jz) (jb (jI (jb jz (jb (pv 6) (jb (pv 2) (jb (pv 3) jd))))) jd))) jd)))
   (jc (j8 (qI PySem.F.plainAttrs_list PySem.F.slot_list_append PySem.F.type_list_append jS (pv 4) (jb (jI (jb (ju JO (pv 5) jz) (jb (jI (jb jz (jb (jI (jb (ju JO (pv 5) jz) (jb (ju JO (pv 5) jz) jd))) jd))) jd))) jd)))
   (jk (j8 (qI PySem.F.plainAttrs_list PySem.F.slot_list_append PySem.F.type_list_append jS (pv 4) (jb (jI (jb (ju JO (pv 5) jz) (jb (jI (jb jz (jb (ju jY jf (ju qA (ju ql (pv 1) jf) jf)) (jb (ju JO (pv 5) jz) jd)))) jd))) jd))))))))
  (jc (j8 (qI PySem.F.plainAttrs_list PySem.F.slot_list_append PySem.F.type_list_append jS (pv 4) (jb (jI (jb jz (jb (jI (jb jz (jb (jI (jb jz (jb jz jd))) jd))) jd))) jd)))
  (jc (jr (i:=7) Js.nd rfl (.inl rfl) (jR (jb (jI (jb jz (jb (pv 2) jd))) (jb (jI (jb jz (jb (ju jY (pv 2) (pv 3)) jd))) (jb (jI (jb jz (jb (ju jY (pv 2) (pv 3)) jd))) jd)))))
  (jk (jC (jR (jb (jI (jb (pv 7) (jb (pv 4) jd))) (jb (ju qy (ju jY (pv 3) jf) (ju jY jf (ju qA (ju ql (pv 1) jf) jf))) (jb (ju jY jf (ju qA (ju ql (pv 1) jf) (ju Qt (pv 3) jf))) jd))))))))))))),?_⟩
 refine jB (σ':=[some _,none,none,none,none,none,none,none]) rfl ?_;have sz:(200:Nat)<sizeLine:=by decide
 have cb:=Pr.KO hB 1;exists⟨a,ns,_,rfl,hS,h63,by omega,?_⟩;exists⟨Nat.zero_le _,?_⟩;walk_at"f pp hpp H1 s1 t1";exists⟨by show 2<=sizeLine;omega,?_⟩;walk_at"f a1 ha1 H2 s2 t2";exists⟨by show 2<=sizeLine;omega,?_⟩;walk_at"f a2 ha2 H3 s3 t3";exists⟨by show 2<=sizeLine;omega,?_⟩;walk_at"f li hli H4 s4 t4";have e4:=s4 _ _ (s3 _ _ (s2 _ _ t1));have u1:=s4 _ _ (s3 _ _ t2);have u2:=s4 _ _ t3;have nli:li≠pp:=(jg (s3 _ _ (s2 _ _ t1)) hli).symm;have n1:a1≠pp:=(jg t1 ha1).symm;have n2:a2≠pp:=(jg (s2 _ _ t1) ha2).symm;have s14:=s1.trans (s2.trans (s3.trans s4));obtain⟨lo,hlo,lo0,lo1⟩:∃lo,Pr.cell ns 1/6%5=lo/\0<=lo/\lo<=10:=⟨_,rfl,by omega,by omega⟩
 obtain⟨ri,hri,ri0,ri1⟩:∃ri,2+Pr.cell ns 1/30%30=ri/\2<=ri/\ri<=40:=⟨_,rfl,by omega,by omega⟩
 obtain⟨c,hc',c0,c1⟩:∃c,2+Pr.cell ns 1/900%3=c/\1<=c/\c<=10:=⟨_,rfl,by omega,by omega⟩
 rw[hlo,hri];exists⟨li,rfl,⟨_,SqL.of t4⟩,?_⟩;refine JI (xs:=[V.ref a1,V.ref a2]) (fun i σ H'=>∃(o5 o6:Option V) (pas:List Addr),σ=[some (.ref a),some (.int (Pr.cell ns 1)),some (.int lo),some (.int ri),some (.ref pp),o5,o6,none]/\(∀x u,x≠pp->H4 x=some u->H' x=some u)/\H' pp=some (.lst (pas.map V.ref))/\All2 (PartAt H') pas (twT i lo ri c))
  ⟨_,_,[],rfl,fun x u _ h=>h,e4,.nil⟩ ?_ ?_ ?_
 ·rintro i σ H' _ ⟨o5,o6,pas,rfl,kk,ep,al⟩;exact SqL.of (kk _ _ nli t4)
 ·rintro i v σ H' hv ⟨o5,o6,pas,rfl,kk,ep,al⟩;obtain⟨wd,lb,ai,rfl,wl,hai,ett⟩:∃(wd lb:Str) (ai:Addr),v = .ref ai/\wd.length<=2/\H' ai=some (.tup [.str wd,.str lb])/\twT (i+1) lo ri c=twT i lo ri c++twP wd lb lo ri c:=by
   match i,hv with
   | 0,hv=>cases hv;exact⟨"up","wing",a1,rfl,by decide +kernel,kk _ _ n1 u1,rfl⟩
   | 1,hv=>cases hv;exact⟨"on","arm",a2,rfl,by decide +kernel,kk _ _ n2 u2,rfl⟩
   | n+2,hv=>cases hv
  refine qT (SqT.of hai) ?_;have tl:(twT i lo ri c).length<=8:=by
   unfold twT;split
   ·exact Nat.zero_le _
   ·exact(show 4<=8 by decide)
   ·exact(show 8<=8 by decide)
  have pal:=al.1;have la1:(("a" : Str)).length=1:=by decide +kernel
  have lb1:(("b" : Str)).length=1:=by decide +kernel
  have lc1:(("c" : Str)).length=1:=by decide +kernel
  have ld1:(("d" : Str)).length=1:=by decide +kernel
  exists⟨.inl ⟨rfl,_,SqL.of ep⟩,?_⟩;exists⟨_,_,rfl,rfl,by omega,?_⟩;exists⟨by show 4<=sizeLine;omega,?_⟩;walk_at"f f1 hf1 G1 sf1 tf1";exists⟨by show 2<=sizeLine;omega,?_⟩;walk_at"f d1 hd1 G2 sd1 td1";have sG:=sf1.trans sd1;refine⟨pp,_,_,rfl,rfl,sG _ _ ep,by rw[length_map];omega,?_⟩;obtain⟨ep1,al1,k1⟩:=ZI (sG _ _ ep) (al.mono fun _ _ h=>h.same sG) (p:=(wd++"a",.rise lb (lo+ri) 1)) ⟨f1,td1,sd1 _ _ tf1⟩;generalize upd G2 pp (.lst (pas.map V.ref++[.ref d1]))=K1 at ep1 al1 k1|-;have kk1:∀x u,x≠pp->H' x=some u->K1 x=some u:=fun x u hx h=>k1 x u hx (sG _ _ h)
  clear k1 sG sf1 sd1 tf1 td1 hf1 hd1;exists⟨.inl ⟨rfl,_,SqL.of ep1⟩,?_⟩;exists⟨_,_,rfl,rfl,by omega,?_⟩;exists⟨by show 4<=sizeLine;omega,?_⟩;walk_at"f f2 hf2 G3 sf2 tf2";exists⟨by show 2<=sizeLine;omega,?_⟩;walk_at"f d2 hd2 G4 sd td";have sG:=sf2.trans sd;refine⟨pp,_,_,rfl,rfl,sG _ _ ep1,by rw[length_map];simp only[List.length_append,length_singleton];omega,?_⟩;obtain⟨ep2,al2,k2⟩:=ZI (sG _ _ ep1) (al1.mono fun _ _ h=>h.same sG) (p:=(wd++"b",.rise lb lo ri)) ⟨f2,td,sd _ _ tf2⟩;generalize upd G4 pp (.lst ((pas++[d1]).map V.ref++[.ref d2]))=K2 at ep2 al2 k2|-;have kk2:∀x u,x≠pp->H' x=some u->K2 x=some u:=fun x u hx h=>k2 x u hx (sG _ _ (kk1 x u hx h))
  clear sG sd td k2;exists⟨.inl ⟨rfl,_,SqL.of ep2⟩,?_⟩;exists⟨_,_,rfl,rfl,by omega,?_⟩;exists⟨_,_,rfl,rfl,by omega,?_⟩;exists⟨_,_,rfl,rfl,by omega,?_⟩;exists⟨by show 2<=sizeLine;omega,?_⟩;walk_at"f g3 hg3 G5 sg3 tg3";exists⟨by show 2<=sizeLine;omega,?_⟩;walk_at"f f3 hf3 G6 sf3 tf3";exists⟨by show 2<=sizeLine;omega,?_⟩;walk_at"f d3 hd3 G7 sd td";have sG:=sg3.trans (sf3.trans sd);refine⟨pp,_,_,rfl,rfl,sG _ _ ep2,by rw[length_map];simp only[List.length_append,length_singleton];omega,?_⟩;obtain⟨ep3,al3,k3⟩:=ZI (sG _ _ ep2) (al2.mono fun _ _ h=>h.same sG) (p:=(wd++"c",.row [wd++"a",wd++"b"])) ⟨f3,td,g3,sd _ _ tf3,sd _ _ (sf3 _ _ tg3)⟩;generalize upd G7 pp (.lst ((pas++[d1]++[d2]).map V.ref++[.ref d3]))=K3 at ep3 al3 k3|-;have kk3:∀x u,x≠pp->H' x=some u->K3 x=some u:=fun x u hx h=>k3 x u hx (sG _ _ (kk2 x u hx h))
  clear sG sd td k3;exists⟨.inl ⟨rfl,_,SqL.of ep3⟩,?_⟩;exists⟨_,_,rfl,rfl,by omega,?_⟩;walk_at"g";rw[hc'];refine⟨_,_,rfl,rfl,by omega,?_⟩;exists⟨by show 3<=sizeLine;omega,?_⟩;walk_at"f f4 hf4 G8 sf4 tf4";exists⟨by show 2<=sizeLine;omega,?_⟩;walk_at"f d4 hd4 G9 sd td";have sG:=sf4.trans sd;refine⟨pp,_,_,rfl,rfl,sG _ _ ep3,by rw[length_map];simp only[List.length_append,length_singleton];omega,?_⟩;obtain⟨ep4,al4,k4⟩:=ZI (sG _ _ ep3) (al3.mono fun _ _ h=>h.same sG) (p:=(wd++"d",.again c (wd++"c"))) ⟨f4,td,sd _ _ tf4⟩;generalize upd G9 pp (.lst ((pas++[d1]++[d2]++[d3]).map V.ref++[.ref d4]))=K4 at ep4 al4 k4|-;have kk4:∀x u,x≠pp->H' x=some u->K4 x=some u:=fun x u hx h=>k4 x u hx (sG _ _ (kk3 x u hx h))
  exists⟨_,_,pas++[d1]++[d2]++[d3]++[d4],rfl,fun x u hx h=>kk4 x u hx (kk x u hx h),ep4,?_⟩;rw[ett];have e:twT i lo ri c++twP wd lb lo ri c=twT i lo ri c++[(wd++"a",.rise lb (lo+ri) 1)]++[(wd++"b",.rise lb lo ri)]++[(wd++"c",.row [wd++"a",wd++"b"])]++[(wd++"d",.again c (wd++"c"))]:=by unfold twP;simp only[List.append_assoc,List.cons_append,List.nil_append]
  rw[e];exact al4
 rintro σ' H5 ⟨o5,o6,pas,rfl,kk,ep,al⟩
 replace al:All2 (PartAt H5) pas (twP "up" "wing" lo ri c++twP "on" "arm" lo ri c):=al
 have pal:pas.length=8:=al.1;have sm5:Same H H5:=fun x u h=>kk x u (jg h hpp) (s14 _ _ h)
 exists⟨.inl ⟨rfl,_,SqL.of ep⟩,?_⟩;exists⟨by show 2<=sizeLine;omega,?_⟩;walk_at"f g5 hg5 H6 s6 t6";exists⟨by show 2<=sizeLine;omega,?_⟩;walk_at"f f5 hf5 H7 s7 t7";exists⟨by show 2<=sizeLine;omega,?_⟩;walk_at"f d5 hd5 H8 s8 t8";have sG:=s6.trans (s7.trans s8);refine⟨pp,_,_,rfl,rfl,sG _ _ ep,by rw[length_map];omega,?_⟩;obtain⟨ep1,al1,k1⟩:=ZI (sG _ _ ep) (al.mono fun _ _ h=>h.same sG) (p:=("all",.side ["upd","ond"])) ⟨f5,t8,g5,s8 _ _ t7,s8 _ _ (s7 _ _ t6)⟩;generalize upd H8 pp (.lst (pas.map V.ref++[.ref d5]))=H9 at ep1 al1 k1|-;rw[<-j2D]at al1;have sm9:Same H H9:=fun x u h=>k1 x u (jg h hpp) (sG _ _ (sm5 _ _ h))
 clear k1 sG t8 t7 t6 s6 s7 s8 al ep kk sm5;exists⟨by show 2<=sizeLine;omega,?_⟩;walk_at"f l1 hl1 J1 j1 w1";exists⟨by show 2<=sizeLine;omega,?_⟩;walk_at"f l2 hl2 J2 j2 w2";exists⟨by show 2<=sizeLine;omega,?_⟩;walk_at"f l3 hl3 J3 j3 w3";exists⟨by show 3<=sizeLine;omega,?_⟩;walk_at"f pl hpl J4 j4 w4";exists⟨by show 2<=sizeLine;omega,?_⟩;walk_at"f b hb J5 j5 w5";exists⟨by show 3<=sizeLine;omega,?_⟩;walk_at"f r hr' J6 j6 w6";have sJ:=j1.trans (j2.trans (j3.trans (j4.trans (j5.trans j6))));have m0:=Int.emod_nonneg (Pr.cell ns 1/2700) (show ri-1≠0 by omega);have m1:=Int.emod_lt_of_pos (Pr.cell ns 1/2700) (show 0<ri-1 by omega);have gl:(twG ri c).getD ((drawnPs twN (twF lo ri c)).length-1) 0=(ri+1)*(2+Pr.cell ns 1/900%3):=by
  rw[hc'];show c*(1+ri)=(ri+1)*c;rw[Int.mul_comm,Int.add_comm]
 have q1:J6 l1=some (.tup [.str "head",.int lo]):=j6 _ _ (j5 _ _ (j4 _ _ (j3 _ _ (j2 _ _ w1))));have q2:J6 l2=some (.tup [.str "wing",.int (lo+ri)]):=j6 _ _ (j5 _ _ (j4 _ _ (j3 _ _ w2)));have q3:J6 l3=some (.tup [.str "arm",.int (lo+ri)]):=j6 _ _ (j5 _ _ (j4 _ _ w3));refine q r b pl pp [l1,l2,l3] _ twN (twL lo ri) (twF lo ri c) twM (twG ri c) _ J6 (sm9.trans sJ) (by rw[gl];exact w6) ⟨j6 _ _ w5,j6 _ _ (j5 _ _ w4),?_,sJ _ _ ep1,al1.mono fun _ _ h=>h.same sJ⟩ (j2F lo0 lo1 ri0 ri1 c0 c1) (by omega) (by omega) (show 1<=3 by decide) (show∀x∈twS,Ws.isW x=true by decide +kernel);exact All2.cons q1 (All2.cons q2 (All2.cons q3 .nil))
theorem KG(T:Txt K mg t):FnOk P w K mg base CX0 1 t.JD t.JH ["named"] (sp_numbers_of):=by
 refine T.Qf.ok QD (fun vs H Q E h=>?_) (fun cdv A outer s H vs Q E hr h=>?_)
 ·cases h;subst_vars;rfl
 obtain⟨l,as,xs,rfl,el,hl,ha,nd,h100,q⟩:=h;refine⟨_,(jc (jr (i:=1) QD.nd rfl (.inl rfl) Kj)
  (jc (Jh PassesOwn.never rfl (Yb (by rfl) T.QO (jb (pv 0) jd)) (qb rfl (jy (jq (i:=2) QD.nd rfl (.inl rfl)) (jy (jq (i:=3) QD.nd rfl (.inl rfl)) Jk)))
   (jk (kq (zX hr) (pv 1) (jm jv (pv 3) jf) (pv 2) rfl)))
  (jk (jC (pv 1))))),?_⟩
 refine jB (σ':=[some _,none,none,none]) rfl ?_;have sz:(200:Nat)<sizeLine:=by decide
 walk_at"g";walk_at"f d hd H1 s1 t1";exists⟨l,_,rfl,SqL.of (s1 _ _ el),?_⟩;refine ZO (xs:=as.map V.ref) (fun i σ H'=>∃o2 o3:Option V,σ=[some (.ref l),some (.ref d),o2,o3]/\Same H H'/\H' d=some (.dK (numK (xs.take i)))) ⟨_,_,rfl,s1,t1⟩ ?_ ?_ ?_
 ·rintro i σ H' _ ⟨o2,o3,rfl,sm,ed⟩;exact SqL.of (sm _ _ el)
 ·rintro i v σ H' P H'' hx ⟨o2,o3,rfl,sm,ed⟩ sP tP;rw[List.getElem?_map]at hx;obtain⟨a,ea,rfl⟩:=Option.map_eq_some_iff.mp hx;have hi:=(List.getElem?_eq_some_iff.mp ea).1;have ex:xs[i]?=some xs[i]:=List.getElem?_eq_getElem (by omega);obtain⟨r,er⟩:=ha i a _ ea ex;have s2:=sm.trans sP;have tl:(xs.take i).length=i:=by rw[length_take];omega
  refine qT (SqT.of tP) ?_;exists ixTm (SqT.of (s2 _ _ er)) rfl ?_;refine⟨d,_,rfl,DPut.k (k:=Sum.inr xs[i]) (sP _ _ ed) (by rw[j1R,tl];omega),?_⟩;have hk:(Sum.inr xs[i]:Key)∉(numK (xs.take i)).map (·.1):=fun z=>by
   rw[wo]at z;obtain⟨y,hy,e⟩:=mem_map.mp z;have e':y=xs[i]:=Sum.inr.inj e;subst e';obtain⟨j,hj,e⟩:=mem_iff_getElem.mp hy;rw[List.getElem_take]at e;rw[tl]at hj;exact absurd e (pairwise_iff_getElem.mp nd j i (by omega) (by omega) hj)
  refine⟨_,_,rfl,fun b u h=>(jh (jg h hd)).trans (s2 _ _ h),?_⟩;rw[jA,Rm.Kl hk,take_snoc ex,j0O,tl]
 rintro σ' H' ⟨o2,o3,rfl,sm,ed⟩;rw[length_map,hl,take_length]at ed;walk_at"g";exact q d H' sm hd ed
theorem xw(T:Txt K mg t):FnOk P w K mg base CX0 1 t.zi t.zm ["form"] (sp_names_in):=by
 refine T.kA.ok xF (fun vs H Q E h=>?_) (fun cdv A outer s H vs Q E hr h=>?_)
 ·cases h;subst_vars;rfl
 obtain⟨a,f,rfl,hF,q⟩:=h;refine⟨_,(jc (Jl (jw j4x (jm jv (pv 0) jf) (j3v (v:=.ref t.qH) (by rfl) T.wL rfl) (by with_unfolding_all rfl))
   (jk (jC (jm jv (pv 0) jf)))
   jG)
  (jk (jC (Ya (jw J0 (jm jv (pv 0) jf) jz (nomark _)) (zY j4H (pv 0) (Zo jf) Z8) (jI jd))))),?_⟩
 refine jB (σ':=[some _]) rfl ?_;have sz:(200:Nat)<sizeLine:=by decide
 cases f with
 | hold n=>
  have ha:H a=some (.tup _):=hF;exists ixTm (SqT.of ha) rfl ?_;exists⟨_,_,_,rfl,rfl,T.qF,?_⟩;exists iteE0 ?_;exists ixTm (SqT.of ha) rfl ?_;exists iteE0 ?_;exists⟨Nat.zero_le _,?_⟩;walk_at"f b hb H1 s1 t1";exact q b H1 s1 t1
 | ring x n=>
  have ha:H a=some (.tup _):=hF;exists ixTm (SqT.of ha) rfl ?_;exists⟨_,_,_,rfl,rfl,T.qF,?_⟩;exists iteE0 ?_;exists ixTm (SqT.of ha) rfl ?_;exists iteE0 ?_;exists⟨Nat.zero_le _,?_⟩;walk_at"f b hb H1 s1 t1";exact q b H1 s1 t1
 | rise x v n=>
  have ha:H a=some (.tup _):=hF;exists ixTm (SqT.of ha) rfl ?_;exists⟨_,_,_,rfl,rfl,T.qF,?_⟩;exists iteE0 ?_;exists ixTm (SqT.of ha) rfl ?_;exists iteE0 ?_;exists⟨Nat.zero_le _,?_⟩;walk_at"f b hb H1 s1 t1";exact q b H1 s1 t1
 | row ps=>
  obtain⟨b,ha,hb⟩:=hF;exists ixTm (SqT.of ha) rfl ?_;exists⟨_,_,_,rfl,rfl,T.qF,?_⟩;exists iteE1 ?_;exists ixTm (SqT.of ha) rfl ?_;exact q b H (Same.refl _) hb
 | side ps=>
  obtain⟨b,ha,hb⟩:=hF;exists ixTm (SqT.of ha) rfl ?_;exists⟨_,_,_,rfl,rfl,T.qF,?_⟩;exists iteE1 ?_;exists ixTm (SqT.of ha) rfl ?_;exact q b H (Same.refl _) hb
 | again k x=>
  have ha:H a=some (.tup _):=hF;exists ixTm (SqT.of ha) rfl ?_;exists⟨_,_,_,rfl,rfl,T.qF,?_⟩;exists iteE0 ?_;exists ixTm (SqT.of ha) rfl ?_;exists iteE1 ?_;exists⟨a,_,rfl,SqT.of ha,(by show¬(HT.sIx 3 0 (some 2)=0/\HT.sIx 3 3 none=3);decide),?_⟩;walk_at"f b hb H1 s1 t1";exact q b H1 s1 t1
theorem j1S(T:Txt K mg t)(jZ:FnOk P w K mg base CX0 1 t.JD t.JH ["named"] (sp_numbers_of))(yt:FnOk P w K mg base CX0 1 t.zi t.zm ["form"] (sp_names_in)):FnOk P w K mg base CX0 2 t.Zi t.Zj ["book"] (sp_inner):=by
 refine T.kg.ok Z0 (fun vs H Q E h=>?_) (fun cdv A outer s H vs Q E hr h=>?_)
 ·cases h;subst_vars;rfl
 obtain⟨b,pl,pp,las,pas,ls,ps,rfl,B,W,q⟩:=h;refine⟨_,(jc (jr (i:=1) Z0.nd rfl (.inr rfl) (jt (jZ.mono (by decide)) hr (by rfl) T.Q8 T.Qf.kp T.Q6 .nil pass0 (jb (jm jv (pv 0) jf) jd)))
  (jc (jr (i:=2) Z0.nd rfl (.inl rfl) (jR jd))
  (jc (Jh PassesOwn.never rfl (jP (jm jv (pv 0) jf)) (qb rfl (jy (jq (i:=3) Z0.nd rfl (.inl rfl)) (jy (jq (i:=4) Z0.nd rfl (.inl rfl)) Jk)))
   (jk (j8 (qI PySem.F.plainAttrs_list PySem.F.slot_list_append PySem.F.type_list_append jS (pv 2) (jb (Jj (ow:=["other"]) (ci:=[1]) rfl (CompScope.of (defScope ku) ["book","numbers","found","name","form"] rfl rfl (by decide +kernel)) (Jf (by decide)) (XA (jt (yt.mono (by decide)) hr (by rfl) T.Xq T.kA.kp T.xT .nil pass0 (jb (pv 4) jd))) (fun _ _ _ _ _=>⟨(jq (i:=0) (Ja ["book","numbers","found","name","form"] rfl (by decide +kernel)) rfl (.inl rfl)),qB,(Zn (zX hr) (pv 1) (pv 0))⟩)) jd)))))
  (jk (jC (pv 2)))))),?_⟩
 refine jB (σ':=[some _,none,none,none,none]) rfl ?_;have sz:(200:Nat)<sizeLine:=by decide
 have p61:=W.p61;have pa:=B.pa.1;exists ixTm (SqT.of B.t) rfl ?_;exists⟨pp,pas,nmsOf ps,rfl,B.p,by rw[nmsOf,length_map];exact pa,fun i a x ea ex=>?_,W.pn,by rw[nmsOf,length_map];omega,fun d H1 s1 hd ed=>?_⟩
 ·unfold nmsOf at ex;rw[List.getElem?_map]at ex;obtain⟨p,ep,rfl⟩:=Option.map_eq_some_iff.mp ex;obtain⟨fb,hb,_⟩:=B.pa.2 i a p ea ep;exact⟨_,hb⟩
 exists⟨Nat.zero_le _,?_⟩;walk_at"f l hl H2 s2 t2";have nl:=none_of s1 hl;have s12:=s1.trans s2;exists ixTm (SqT.of (s12 _ _ B.t)) rfl ?_;refine⟨pp,rfl,⟨_,SqL.of (s12 _ _ B.p)⟩,?_⟩;refine JI (xs:=pas.map V.ref) (fun i σ H'=>∃(as:List Addr) (o3 o4:Option V),σ=[some (.ref b),some (.ref d),some (.ref l),o3,o4]/\Same H1 H'/\H' l=some (.lst (as.map V.ref))/\(∀a∈as,H a=none/\a≠l)/\ListsAt H' as ((ps.take i).map fun p=>(inP ps p.2).map fun j:Nat=>(j:Int)))
  ⟨[],_,_,rfl,s2,t2,(fun a h=>nomatch h),.nil⟩ ?_ ?_ ?_
 ·rintro i σ H' _ ⟨as,o3,o4,rfl,sm,e1,na,la⟩;exact SqL.of ((s1.trans sm) _ _ B.p)
 ·rintro i x σ H' hx ⟨as,o3,o4,rfl,sm,e1,na,la⟩;obtain⟨a,p,rfl,hp,fb,hat,hf⟩:=B.pa.at_ref hx;have hi:=(List.getElem?_eq_some_iff.mp hp).1;have s0:=s1.trans sm;obtain⟨wn,w8⟩:=W.f i p hp;have lal:=la.1;rw[length_map,length_take]at lal;refine qT (SqT.of (s0 _ _ hat)) ?_;exists⟨.inl ⟨rfl,_,SqL.of e1⟩,?_⟩;exists⟨fb,p.2,rfl,FormAt.same s0 hf,fun c H3 s3 hc=>?_⟩;refine⟨c,rfl,⟨_,SqT.of hc⟩,?_⟩;refine kI (xs:=p.2.ns.map V.str) (fun j ys H'=>ys=((p.2.ns.take j).map fun x=>(ixOf (nmsOf ps) x:Int)).map V.int/\H3=H') ⟨rfl,rfl⟩ ?_ ?_ ?_
  ·rintro j ys H' _ ⟨rfl,rfl⟩;exact SqT.of hc
  ·rintro j x ys H' hx ⟨rfl,rfl⟩;rw[List.getElem?_map]at hx;obtain⟨y,ey,rfl⟩:=Option.map_eq_some_iff.mp hx;have hj:=(List.getElem?_eq_some_iff.mp ey).1;obtain⟨k,hk,ek⟩:=wn y (List.mem_of_getElem? ey);refine Jm (σ':=[none,some _]) rfl ?_;exists iteT ?_;walk_at"g";have g:DGet H3 d (.str y) (some (.int (k:Nat))):=by
    have g:=DGet.k (k:=Sum.inr y) ((sm.trans s3) _ _ ed);rw[y8 W.pn ek]at g;exact g
   refine⟨d,_,rfl,g,?_⟩;refine⟨by rw[length_map,length_map,length_take];omega,?_,rfl⟩;rw[take_snoc ey,map_append,map_append,<-Qs W.pn ek];rfl
  rintro ys H' ⟨rfl,rfl⟩;rw[show(p.2.ns.map V.str).length=p.2.ns.length from length_map _,take_length];refine⟨by rw[length_map,length_map];omega,?_⟩;walk_at"f 4 t";have s34:=s3.trans s4;exists⟨l,_,_,rfl,rfl,s34 _ _ e1,by rw[length_map];omega,?_⟩;have hne:p4≠l:=(jg (s3 _ _ e1) hp4).symm;have n4:H p4=none:=none_of (s0.trans s3) hp4;refine⟨as++[p4],_,_,rfl,fun c u h=>(jh (jg h hl)).trans ((sm.trans s34) _ _ h),?_,fun c hc'=>?_,?_⟩
  ·rw[jA,map_append];rfl
  ·rcases mem_append.mp hc' with e | e
   ·exact na c e
   ·rw[mem_singleton.mp e];exact⟨n4,hne⟩
  ·rw[take_snoc hp,map_append];refine All2.snoc (All2.monoM la fun c hc' ks h=>(jh (na c hc').2).trans (s34 _ _ h)) ?_;have eq:List.map (fun j:Nat=>(j:Int)) (inP ps p.2)=p.2.ns.map fun x=>(ixOf (nmsOf ps) x:Int):=by
    unfold inP;rw[map_map];rfl
   show upd H4 l _ p4=some (.lst (List.map V.int (List.map (fun j:Nat=>(j:Int)) (inP ps p.2))));rw[jh hne,t4,eq]
 rintro σ' H3 ⟨as,o3,o4,rfl,sm,e1,na,la⟩;rw[length_map,pa,take_length]at la;walk_at"g";exact q l as H3 (s1.trans sm) nl e1 (fun a ha=>(na a ha).1) la
theorem j3r(T:Txt K mg t)(jZ:FnOk P w K mg base CX0 1 t.JD t.JH ["named"] (sp_numbers_of))(Q7:FnOk P w K mg base CX0 2 t.Zi t.Zj ["book"] (sp_inner)):FnOk P w K mg base CX0 3 t.yv t.yx ["book"] (sp_ends):=by
 refine T.wF.ok zK (fun vs H Q E h=>?_) (fun cdv A outer s H vs Q E hr h=>?_)
 ·cases h;subst_vars;rfl
 obtain⟨b,pl,pp,las,pas,ls,ps,rfl,B,W,q⟩:=h;refine⟨_,(jc (jr (i:=1) zK.nd rfl (.inl rfl) (jt (jZ.mono (by decide)) hr (by rfl) T.Q8 T.Qf.kp T.Q6 .nil pass0 (jb (jm jv (pv 0) jf) jd)))
  (jc (jr (i:=2) zK.nd rfl (.inl rfl) (jR jd))
  (jc (Jh PassesOwn.never rfl (j23 (by rfl) T.j3X (jb (jm jv (pv 0) jf) (jb (jt (Q7.mono (by decide)) hr (by rfl) T.Wc T.kg.kp T.wE .nil pass0 (jb (pv 0) jd)) jd))) (qb rfl (jy (jq (i:=3) zK.nd rfl (.inl rfl)) (jy (jq (i:=4) zK.nd rfl (.inl rfl)) Jk)))
   (jc (jr (i:=5) zK.nd rfl (.inl rfl) (jm jv (pv 3) jf))
   (jc (jr (i:=6) zK.nd rfl (.inl rfl) Kj)
   (jc (zw (jw J0 (jm jv (pv 5) jf) jz (nomark _))
    (jk (kq (zX hr) (pv 6) (Zn (zX hr) (pv 1) (jm jv (pv 5) jf)) (jm jv (pv 5) jf) rfl))
    jG)
   (jc (Jh PassesOwn.never rfl (jP (pv 4)) (jq (i:=7) zK.nd rfl (.inl rfl))
    (jk (j8 (qI PySem.F.plainAttrs_dict PySem.F.slot_dict_update PySem.F.type_dict_update j0N (pv 6) (jb (Qc (kF rfl) (by rfl) T.x9 wJ (jb (jm jx (pv 2) (pv 7)) jd)) jd)))))
   (jk (j8 (qI PySem.F.plainAttrs_list PySem.F.slot_list_append PySem.F.type_list_append jS (pv 2) (jb (jH (wN rfl) (by rfl) T.j1i j0p (jb (j20 PySem.F.plainAttrs_dict PySem.F.slot_dict_items PySem.F.type_dict_items j1P (pv 6)) jd)) jd)))))))))
  (jk (jC (pv 2)))))),?_⟩
 refine jB (σ':=[some _,none,none,none,none,none,none,none]) rfl ?_;have sz:(200:Nat)<sizeLine:=by decide
 have p61:=W.p61;have l8:=W.l8;have pa:=B.pa.1;have la:=B.la.1;exists ixTm (SqT.of B.t) rfl ?_;exists⟨pl,las,nmsOf ls,rfl,B.l,by rw[nmsOf,length_map];exact la,fun i a x ea ex=>?_,W.ln,by rw[nmsOf,length_map];omega,fun d H1 s1 hd ed=>?_⟩
 ·unfold nmsOf at ex;rw[List.getElem?_map]at ex;obtain⟨p,ep,rfl⟩:=Option.map_eq_some_iff.mp ex;exact⟨_,B.la.2 i a p ea ep⟩
 exists⟨Nat.zero_le _,?_⟩;walk_at"f l hl H2 s2 t2";have nl:=none_of s1 hl;have s12:=s1.trans s2;have ndl:d≠l:=jg ed hl;exists ixTm (SqT.of (s12 _ _ B.t)) rfl ?_;exists⟨b,pl,pp,las,pas,ls,ps,rfl,B.same s12,W,fun li ias H3 s3 hli eli nia lia=>?_⟩;walk_at"g";have s13:=s12.trans s3;have lial:=lia.1;rw[length_map]at lial;have nli:li≠l:=fun z=>by rw[z,t2]at hli;cases hli
 refine⟨pp,li,_,_,rfl,SqL.of (s13 _ _ B.p),SqL.of eli,?_⟩;have npl:∀{c u},H c=some u->c≠l:=fun h=>jg h nl
 have t3:H3 l=some (.lst []):=s3 _ _ t2;refine j33 (xs:=pas.map V.ref) (ys:=ias.map V.ref) (fun i σ H'=>∃(as:List Addr) (E:List (List (Int×Int))) (o3 o4 o5 o6 o7:Option V),σ=[some (.ref b),some (.ref d),some (.ref l),o3,o4,o5,o6,o7]/\(∀c u,c≠l->H3 c=some u->H' c=some u)/\H' l=some (.lst (as.map V.ref))/\(∀a∈as,H a=none/\a≠l)/\E.length=i/\EndsAt H' as E/\EndOk ls ps E)
  (by rw[length_map,length_map];omega) ⟨[],[],_,_,_,_,_,rfl,fun c u _ h=>h,t3,(fun a h=>nomatch h),rfl,.nil,fun i p e _ h=>by simp at h⟩ ?_ ?_ ?_
 ·rintro i σ H' _ ⟨as,E,o3,o4,o5,o6,o7,rfl,sm,e1,na,lE,aE,oE⟩;exact⟨SqL.of (sm _ _ (npl B.p) (s13 _ _ B.p)),SqL.of (sm _ _ nli eli)⟩
 ·rintro i u v σ H' P H4 hu hv ⟨as,E,o3,o4,o5,o6,o7,rfl,sm,e1,na,lE,aE,oE⟩ sP tP;obtain⟨a,p,rfl,hp,fb,hat,hf⟩:=B.pa.at_ref hu;obtain⟨ia,is,rfl,his,hia⟩:=lia.at_ref hv;rw[List.getElem?_map,hp]at his;cases his;have hi:=(List.getElem?_eq_some_iff.mp hp).1;have iam:ia∈ias:=by
   rw[List.getElem?_map]at hv;obtain⟨a',ea,e'⟩:=Option.map_eq_some_iff.mp hv;injection e' with e';subst e';exact List.mem_of_getElem? ea
  have nial:ia≠l:=fun z=>by have:=nia ia iam;rw[z,t2]at this;cases this
  have k4:∀c u,c≠l->H3 c=some u->H4 c=some u:=fun c u hc h=>sP _ _ (sm _ _ hc h)
  have hat4:H4 a=_:=k4 _ _ (npl hat) (s13 _ _ hat);have hia4:H4 ia=_:=k4 _ _ nial hia;have ed4:H4 d=_:=k4 _ _ ndl (s3 _ _ (s2 _ _ ed));have e14:=sP _ _ e1;have hf4:FormAt H4 fb p.2:=by
   have h0:=FormAt.same s13 hf;generalize p.2=f at h0;have np:∀{c:Addr} {xs:List V},H3 c=some (.tup xs)->c≠l:=fun h=>Q5 h t3 (fun z=>by cases z)
   cases f with
   | row ps=>obtain⟨c,h1,h2⟩:=h0;exact⟨c,k4 _ _ (np h1) h1,k4 _ _ (np h2) h2⟩
   | side ps=>obtain⟨c,h1,h2⟩:=h0;exact⟨c,k4 _ _ (np h1) h1,k4 _ _ (np h2) h2⟩
   | hold n=>exact k4 _ _ (np h0) h0
   | ring x n=>exact k4 _ _ (np h0) h0
   | rise x g n=>exact k4 _ _ (np h0) h0
   | again x n=>exact k4 _ _ (np h0) h0
  have w8:=(W.f i p hp).2;have wr:=fun x h n (e:p.2 = .rise x h n)=>W.r i p.1 x h n (by rw[hp,<-e])
  have inl:=fun j=>W.inP_lt (j:=j) hp
  have bnd:=ZN W (by omega) oE;have elen:∀(j:Nat) (e:List (Int×Int)),E[j]?=some e->e.length<=8:=fun j e h=>W6 W (by omega) oE h
  refine qT (SqT.of tP) ?_;exists ixTm (SqT.of hat4) rfl ?_;walk_at"g";walk_at"f dl hdl H5 s5 t5";exists⟨fun σ' H6=>σ'=[some (.ref b),some (.ref d),some (.ref l),some (.ref a),some (.ref ia),some (.ref fb),some (.ref dl),o7]/\Same H4 H6/\H6 dl=some (.dK ((kv0 ls p.2).map iiK)),?_,?_⟩
  rotate_left
  ·by_cases hr':∃x h n,p.2 = .rise x h n
   ·obtain⟨x,h,n,e⟩:=hr';rw[e]at hf4;have hf5:H5 fb=some (.tup [.str "raise",.str x,.int h,.int n]):=s5 _ _ hf4;obtain⟨j,hj⟩:=wr x h n e;exists ixTm (SqT.of hf5) rfl ?_;exists iteE1 ?_;exists ixTm (SqT.of hf5) rfl ?_;exists ixTm (SqT.of hf5) rfl ?_;have g:DGet H5 d (.str x) (some (.int (j:Nat))):=by
     have g:=DGet.k (k:=Sum.inr x) (s5 _ _ ed4);rw[y8 W.ln hj]at g;exact g
    refine⟨d,_,rfl,g,?_⟩;refine⟨dl,_,rfl,DPut.k (k:=Sum.inl (j:Int)) t5 (by show 0<sizeLine;omega),?_⟩;refine⟨rfl,fun c u h=>(jh (jg h hdl)).trans (s5 _ _ h),?_⟩;rw[jA,e];show _=some (HO.dK [iiK ((ixOf (nmsOf ls) x:Nat),h)]);rw[Qs W.ln hj];rfl
   ·obtain⟨k,xs,hk,dk⟩:=W9 hf4 fun x v n e=>hr' ⟨x,v,n,e⟩
    exists ixTm (SqT.of (s5 _ _ hk)) (at0) ?_;exists iteB0 dk ?_;exists⟨rfl,s5,?_⟩;rw[j39 fun x v n e=>hr' ⟨x,v,n,e⟩];exact t5
  rintro σ' H6 ⟨rfl,s6,t6⟩;walk_at"g";have hia6:=s6 _ _ hia4;have nlist:∀{c u},H4 c=some u->c≠dl:=fun h=>jg h hdl
  refine⟨ia,rfl,⟨_,SqL.of hia6⟩,?_⟩;refine JI (xs:=((inP ps p.2).map fun j:Nat=>(j:Int)).map V.int) (fun t σ H7=>∃(kvs:List (Int×Int)) (o7:Option V),σ=[some (.ref b),some (.ref d),some (.ref l),some (.ref a),some (.ref ia),some (.ref fb),some (.ref dl),o7]/\Same H4 H7/\H7 dl=some (.dK (kvs.map iiK))/\(kvs.map (·.1)).Nodup/\∀k v,(k,v)∈kvs↔LastIn E ((inP ps p.2).take t) k v\/(k,v)∈kv0 ls p.2)
   ⟨_,_,rfl,s6,t6,j4n _,fun k v=>⟨.inr,fun h=>h.elim (fun⟨pre,j,post,e,_⟩=>by cases pre<;>simp at e) id⟩⟩ ?_ ?_ ?_
  ·rintro t σ H7 _ ⟨kvs,o7,rfl,s7,t7,nd7,m7⟩;exact SqL.of (s7 _ _ hia4)
  ·rintro t x σ H7 hx ⟨kvs,o7,rfl,s7,t7,nd7,m7⟩;rw[List.getElem?_map,List.getElem?_map]at hx;obtain⟨jj,hjj,rfl⟩:=Option.map_eq_some_iff.mp hx;obtain⟨j,hj,rfl⟩:=Option.map_eq_some_iff.mp hjj;have jlt:=inl j (List.mem_of_getElem? hj);have e0:kv0 ls p.2=[]:=by
    rcases j4m (ps:=ps) (ls:=ls) p.2 with z | z
    ·rw[z]at hj;simp at hj
    ·exact z
   rw[e0]at m7;have hE:E[j]?=some (E.getD j []):=by rw[getD_eq_getElem?_getD,List.getElem?_eq_getElem (by omega)];rfl
   obtain⟨aj,haj,bs,hbs,prs⟩:=aE.get hE;have ndE:((E.getD j []).map (·.1)).Nodup:=((oE j _ _ (List.getElem?_eq_getElem (by omega)) hE).1).imp fun h=>Int.ne_of_lt h
   have e8:=elen j _ hE;have k8:kvs.length<=8:=by
    have z:=Qb (n:=ls.length) nd7 fun k hk=>by
     obtain⟨q',hq',rfl⟩:=mem_map.mp hk;rcases(m7 q'.1 q'.2).mp hq' with⟨pre,i',post,_,hin,_⟩ | hin
     ·exact bnd i' _ hin
     ·exact nomatch hin
    rw[length_map]at z;omega
   exists⟨.inr (.inr (.inl ⟨rfl,.inl ⟨_,t7⟩⟩)),?_⟩;exists ixLm (SqL.of (s7 _ _ e14)) (Ql (i:=(j:Int)) (by omega) haj) ?_;exists⟨aj,bs,E.getD j [],rfl,s7 _ _ (sP _ _ hbs),prs.1,fun i' c q' h1 h2=>s7 _ _ (sP _ _ (prs.2 i' c q' h1 h2)),?_⟩;walk_at"f d2 hd2 H8 s8 t8";walk_at"g";rw[show([]:List (Key×V))=([]:List (Int×Int)).map iiK from rfl,Zl,kZ ndE]at t8;have n2:dl≠d2:=jg t7 hd2;refine⟨dl,d2,_,_,rfl,rfl,s8 _ _ t7,t8,n2,by rw[length_map,length_map];omega,?_⟩;rw[Zl];obtain⟨mn,mm⟩:=wc nd7 ndE;refine⟨mergeI kvs (E.getD j []),_,rfl,fun c u h=>(jh (nlist h)).trans (s8 _ _ (s7 _ _ h)),jA,mn,fun k v=>?_⟩;rw[mm,m7,e0,take_snoc hj,j0D];constructor
   ·rintro(h | ⟨h1,h | h⟩)
    ·exact .inl (.inl h)
    ·exact .inl (.inr ⟨h1,h⟩)
    ·exact nomatch h
   ·rintro((h | ⟨h1,h⟩) | h)
    ·exact .inl h
    ·exact .inr ⟨h1,.inl h⟩
    ·exact nomatch h
  rintro σ' H7 ⟨kvs,o7',rfl,s7,t7,nd7,m7⟩;rw[length_map,length_map,take_length]at m7;have k8:kvs.length<=8:=by
   have z:=Qb (n:=ls.length) nd7 fun k hk=>by
    obtain⟨q',hq',rfl⟩:=mem_map.mp hk;rcases(m7 q'.1 q'.2).mp hq' with⟨pre,i',post,_,hin,_⟩ | hin
    ·exact bnd i' _ hin
    ·obtain⟨x,n,e,ek⟩:=We.mp hin;obtain⟨j,hj⟩:=wr x _ n e;have h3:=X3 (List.mem_of_getElem? hj);have h4:(nmsOf ls).length=ls.length:=length_map _;rw[ek];omega
   rw[length_map]at z;omega
  exists⟨.inl ⟨rfl,_,SqL.of (s7 _ _ e14)⟩,?_⟩;exists⟨.inr (.inr (.inl ⟨rfl,.inl ⟨_,t7⟩⟩)),dl,_,rfl,rfl,t7,?_⟩;walk_at"f vw hvw H8 s8 t8";exists⟨vw,dl,kvs,rfl,t8,s8 _ _ t7,by omega,fun r cs ms H9 s9 hr9 e9 n9 perm pw len tup=>?_⟩;walk_at"g";have asl:=aE.1;refine⟨l,_,_,rfl,rfl,s9 _ _ (s8 _ _ (s7 _ _ e14)),by rw[length_map];omega,?_⟩;have s49:=s7.trans (s8.trans s9);have nrl:r≠l:=(jg (s8 _ _ (s7 _ _ e14)) hr9).symm;have nr:H r=none:=by
   cases z:H r with
   | none=>rfl
   | some u=>rw[s8 _ _ (s7 _ _ (k4 _ _ nrl (s13 _ _ z)))]at hr9;cases hr9
  have ntl:∀{c:Addr} {xs:List V},H9 c=some (.tup xs)->c≠l:=fun h=>Q5 h (s49 _ _ e14) (fun z=>by cases z)
  refine⟨as++[r],E++[ms],_,_,_,_,_,rfl,fun c u hc h=>(jh hc).trans (s49 _ _ (k4 _ _ hc h)),?_,fun c hc=>?_,by rw[List.length_append,lE];rfl,?_,?_⟩
  ·rw[jA,map_append];rfl
  ·rcases mem_append.mp hc with z | z
   ·exact na c z
   ·rw[mem_singleton.mp z];exact⟨nr,nrl⟩
  ·refine All2.snoc (All2.monoM aE fun c hc e h=>?_) ?_
   ·obtain⟨bs,hbs,prs⟩:=h;refine⟨bs,(jh (na c hc).2).trans (s49 _ _ (sP _ _ hbs)),All2.mono prs fun c' q' h'=>?_⟩;have h9:=s49 _ _ (sP _ _ h');exact(jh (ntl h9)).trans h9
   ·exact⟨cs,(jh nrl).trans e9,len,fun i' c q' h1 h2=>(jh (ntl (tup i' c q' h1 h2))).trans (tup i' c q' h1 h2)⟩
  ·refine EndOk.snoc W oE (p:=p) (by rw[lE];exact hp) ?_ fun k v=>?_
   ·exact j13 (perm.map _) nd7 pw
   ·rw[perm.mem_iff,m7];exact⟨fun h=>h.imp id We.mp,fun h=>h.imp id We.mpr⟩
 rintro σ' H' ⟨as,E,o3,o4,o5,o6,o7,rfl,sm,e1,na,lE,aE,oE⟩;rw[length_map]at lE;walk_at"g";exact q l as E H' (fun c u h=>sm _ _ (npl h) (s13 _ _ h)) nl e1 (fun a ha=>(na a ha).1) (by omega) aE oE
theorem j1T(T:Txt K mg t)(Zg:FnOk P w K mg base CX0 3 t.yv t.yx ["book"] (sp_ends)):FnOk P w K mg base CX0 4 t.yO t.yT ["book"] (sp_moved):=by
 refine T.XM.ok Kp (fun vs H Q E h=>?_) (fun cdv A outer s H vs Q E hr h=>?_)
 ·cases h;subst_vars;rfl
 obtain⟨b,pl,pp,las,pas,ls,ps,rfl,B,W,q⟩:=h;refine⟨_,(jc (jr (i:=1) Kp.nd rfl (.inl rfl) (jR jd))
  (jc (Jh PassesOwn.never rfl (jP (jt (Zg.mono (by decide)) hr (by rfl) T.Xp T.wF.kp T.xS .nil pass0 (jb (pv 0) jd))) (jq (i:=2) Kp.nd rfl (.inl rfl))
   (jk (j8 (qI PySem.F.plainAttrs_list PySem.F.slot_list_append PySem.F.type_list_append jS (pv 1) (jb (Jj (ow:=["limb","height"]) (ci:=[]) rfl (CompScope.of (defScope kx) ["book","found","left"] rfl rfl (by decide +kernel)) (kh (by decide) (by decide)) (jP (pv 2)) (fun _ _ _ _ _=>⟨(qb rfl (jy (jq (i:=0) (Ja ["book","found","left"] rfl (by decide +kernel)) rfl (.inl rfl)) (jy (jq (i:=1) (Ja ["book","found","left"] rfl (by decide +kernel)) rfl (.inl rfl)) Jk))),qB,(pv 0)⟩)) jd)))))
  (jk (jC (pv 1))))),?_⟩
 refine jB (σ':=[some _,none,none]) rfl ?_;have sz:(200:Nat)<sizeLine:=by decide
 have p61:=W.p61;exists⟨Nat.zero_le _,?_⟩;walk_at"f l hl H1 s1 t1";exists⟨b,pl,pp,las,pas,ls,ps,rfl,B.same s1,W,fun e as E H2 s2 he ee ne lE aE oE=>?_⟩;have aE1:=aE.1;have s12:=s1.trans s2;have l2:H2 l=some (.lst []):=s2 _ _ t1;have nle:l≠e:=fun z=>by rw[z,he]at t1;cases t1
 refine⟨e,rfl,⟨_,SqL.of ee⟩,?_⟩;refine JI (xs:=as.map V.ref) (fun i σ H'=>∃(cs:List Addr) (o2:Option V),σ=[some (.ref b),some (.ref l),o2]/\(∀c u,c≠l->H2 c=some u->H' c=some u)/\H' l=some (.lst (cs.map V.ref))/\(∀c∈cs,H1 c=none/\c≠l)/\ListsAt H' cs ((E.take i).map fun e=>e.map (·.1)))
  ⟨[],_,rfl,fun c u _ h=>h,l2,(fun c h=>nomatch h),.nil⟩ ?_ ?_ ?_
 ·rintro i σ H' _ ⟨cs,o2,rfl,sm,e1,na,la⟩;exact SqL.of (sm _ _ nle.symm ee)
 ·rintro i x σ H' hx ⟨cs,o2,rfl,sm,e1,na,la⟩;obtain⟨a,ev,rfl,hev,bs,hbs,prs⟩:=aE.at_ref hx;have hi:=(List.getElem?_eq_some_iff.mp hev).1;have lal:=la.1;rw[length_map,length_take]at lal;have am:a∈as:=by
   rw[List.getElem?_map]at hx;obtain⟨a',ea,e'⟩:=Option.map_eq_some_iff.mp hx;injection e' with e';subst e';exact List.mem_of_getElem? ea
  have nal:a≠l:=fun z=>by have:=ne a am;rw[z,t1]at this;cases this
  have hb':H' a=some (.lst (bs.map V.ref)):=sm _ _ nal hbs;have evl:=(oE i _ ev (List.getElem?_eq_getElem (by omega)) hev).1;have ev100:=W6 W (by omega) oE hev;exists⟨.inl ⟨rfl,_,SqL.of e1⟩,?_⟩;exists⟨a,rfl,⟨_,SqL.of hb'⟩,?_⟩;refine Je (xs:=bs.map V.ref) (fun j ys H''=>ys=((ev.take j).map (·.1)).map V.int/\H'=H'') ⟨rfl,rfl⟩ ?_ ?_ ?_
  ·rintro j ys H'' _ ⟨rfl,rfl⟩;exact SqL.of hb'
  ·rintro j x ys H'' hx2 ⟨rfl,rfl⟩;obtain⟨c,kv,rfl,hkv,ht⟩:=prs.at_ref hx2;have hj:=(List.getElem?_eq_some_iff.mp hkv).1;have ncl:c≠l:=fun z=>by rw[z,l2]at ht;cases ht
   refine Jm (σ':=[none,none]) rfl ?_;refine qT (SqT.of (sm _ _ ncl ht)) ?_;exists iteT ?_;exists⟨by rw[length_map,length_map,length_take];omega,?_,rfl⟩;rw[take_snoc hkv,map_append,map_append];rfl
  rintro ys H'' ⟨rfl,rfl⟩;rw[show(bs.map V.ref).length=ev.length by rw[length_map];exact prs.1,take_length];refine⟨by rw[length_map,length_map];omega,?_⟩;walk_at"f 4 t";exists⟨l,_,_,rfl,rfl,s4 _ _ e1,by rw[length_map];omega,?_⟩;have hne:p4≠l:=(jg e1 hp4).symm;have n4:H1 p4=none:=by
   cases z:H1 p4 with
   | none=>rfl
   | some u=>rw[sm _ _ hne (s2 _ _ z)]at hp4;cases hp4
  refine⟨cs++[p4],_,rfl,fun c u hc h=>(jh hc).trans (s4 _ _ (sm _ _ hc h)),?_,fun c hc=>?_,?_⟩
  ·rw[jA,map_append];rfl
  ·rcases mem_append.mp hc with z | z
   ·exact na c z
   ·rw[mem_singleton.mp z];exact⟨n4,hne⟩
  ·rw[take_snoc hev,map_append];exact All2.snoc (All2.monoM la fun c hc ks h=>(jh (na c hc).2).trans (s4 _ _ h)) ((jh hne).trans t4)
 rintro σ' H3 ⟨cs,o2,rfl,sm,e1,na,la⟩;rw[length_map,aE1,take_length]at la;exists q l cs (E.map fun e=>e.map (·.1)) H3 (fun c u h=>sm _ _ (jg h hl) (s12 _ _ h)) hl e1 (fun c hc=>none_of s1 (na c hc).1) (by rw[length_map];exact lE) la (j1O lE oE)
theorem KE(T:Txt K mg t):FnOk P w K mg base CX0 1 t.Qj t.Qp ["row","moves","limbs"] (sp_check_side):=by
 refine T.yL.ok zS (fun vs H Q E h=>?_) (fun cdv A outer s H vs Q E hr h=>?_)
 ·cases h;subst_vars;rfl
 obtain⟨r,l,ll,as,las,M,rfl,el,la,ne,M8,ell,one,q⟩:=h;refine⟨_,(jc (Jl (jw (j4w hr.units) (jR jd) (pv 1) (by with_unfolding_all rfl))
   (jk Yd)
   jG)
  (jk (Jh PassesOwn.never rfl (Yb (by rfl) T.QO (jb (pv 2) jd)) (qb rfl (jy (jq (i:=3) zS.nd rfl (.inr rfl)) (jy (jq (i:=4) zS.nd rfl (.inl rfl)) Jk)))
   (jk (Jl (jw yk (jH Jg (by rfl) T.Qy qw (jb (Jj (ow:=["move"]) (ci:=[3]) rfl (CompScope.of (defScope Q9) ["row","moves","limbs","number","limb"] rfl rfl (by decide +kernel)) (Jf (by decide)) (jP (pv 1)) (fun _ _ _ _ _=>⟨(jq (i:=0) (Ja ["row","moves","limbs","number","limb"] rfl (by decide +kernel)) rfl (.inl rfl)),(ZR (jw (Zm (K:=K) rfl) (pv 1) (pv 0) (by with_unfolding_all rfl))),j06⟩)) jd)) jf (nomark _))
    (jk Yd)
    jG))))),?_⟩
 refine jB (σ':=[some _,some _,some _,none,none]) rfl ?_;have sz:(200:Nat)<sizeLine:=by decide
 have lal:=la.1;exists⟨Nat.zero_le _,?_⟩;walk_at"f 0 t";exists⟨p0,l,as,M,rfl,rfl,t0,s0 _ _ el,lal,fun i b ks e1 e2=>s0 _ _ (la.2 i b ks e1 e2),?_⟩;exists iteB0 (any_empty ne) ?_;exists⟨ll,_,rfl,SqL.of (s0 _ _ ell),?_⟩;refine ZO (xs:=las.map V.ref) (fun i σ H'=>∃o3 o4:Option V,σ=[some (.int r),some (.ref l),some (.ref ll),o3,o4]/\Same H H') ⟨_,_,rfl,s0⟩ ?_ ?_ ?_
 ·rintro i σ H' _ ⟨o3,o4,rfl,sm⟩;exact SqL.of (sm _ _ ell)
 ·rintro i v σ H' P H1 hx ⟨o3,o4,rfl,sm⟩ sP tP;have s1:=sm.trans sP;refine qT (SqT.of tP) ?_;exists⟨l,rfl,⟨_,SqL.of (s1 _ _ el)⟩,?_⟩;refine Je (xs:=as.map V.ref) (fun j ys H''=>ys.length=((M.take j).filter fun ks=>decide ((i:Int)∈ks)).length/\H1=H'') ⟨rfl,rfl⟩ ?_ ?_ ?_
  ·rintro j ys H'' _ ⟨_,rfl⟩;exact SqL.of (s1 _ _ el)
  ·rintro j x ys H'' hx2 ⟨hy,rfl⟩;obtain⟨a,ks,rfl,hks,ha⟩:=la.at_ref hx2;refine Jm (σ':=[none,some _]) rfl ?_;exists⟨a,_,rfl,.inl (SqL.of (s1 _ _ ha)),rfl,flats ks,?_⟩;rw[inI];walk_at"g";have hle:((M.take j).filter fun ks=>decide ((i:Int)∈ks)).length<=8:=Nat.le_trans (length_filter_le _ _) (Nat.le_trans (List.length_take_le' _ _) M8);refine iteD (fun d=>?_) (fun d=>?_)
   ·exists⟨by omega,?_,rfl⟩;rw[take_snoc hks,filter_append,filter_cons,if_pos (decide_eq_true d),List.length_append,List.length_append,hy];rfl
   ·refine⟨?_,rfl⟩;rw[take_snoc hks,filter_append,filter_cons,if_neg (by simpa using d),List.length_append,hy];rfl
  rintro ys H'' ⟨hy,rfl⟩;rw[length_map,lal,take_length]at hy;have o1:=one (i:Int);refine⟨by omega,?_⟩;walk_at"f 2 t";exists⟨_,_,rfl,.inl ⟨_,SqL.of t2,rfl⟩,?_⟩;exists iteD (fun d=>?_) (fun d=>?_)
  ·exfalso;omega
  ·walk_at"g";exact⟨_,_,rfl,s1.trans s2⟩
 rintro σ' H' ⟨o3,o4,rfl,sm⟩;exact q H' sm
theorem Wn(T:Txt K mg t):FnOk P w K mg base CX0 1 t.QJ t.QU ["form","inside"] (sp_length_of):=by
 refine T.YU.ok WD (fun vs H Q E h=>?_) (fun cdv A outer s H vs Q E hr h=>?_)
 ·cases h;subst_vars;rfl
 obtain⟨a,l,f,gs,rfl,hF,el,pre,q⟩:=h;refine⟨_,(jc (Jl (jw J0 (jm jv (pv 0) jf) jz (nomark _))
   (jk (jC (jH (KR rfl) (by rfl) T.j3W j1l (jb (pv 1) jd))))
   jG)
  (jc (Jl (jw J0 (jm jv (pv 0) jf) jz (nomark _))
   (jk (jC (jH (KQ rfl) (by rfl) T.j3V j1k (jb (pv 1) jd))))
   jG)
  (jc (Jl (jw J0 (jm jv (pv 0) jf) jz (nomark _))
   (jk (jC (ju qy (jm jv (pv 0) jf) (jm jx (pv 1) jf))))
   jG)
  (jk (jC (jm jv (pv 0) (ym zT jf))))))),?_⟩
 refine jB (σ':=[some _,some _]) rfl ?_;have sz:(200:Nat)<sizeLine:=by decide
 cases f with
 | hold n=>
  have ha:H a=some (.tup _):=hF;exists ixTm (SqT.of ha) rfl ?_;exists iteE0 ?_;exists ixTm (SqT.of ha) rfl ?_;exists iteE0 ?_;exists ixTm (SqT.of ha) rfl ?_;exists iteE0 ?_;exists ixTm (SqT.of ha) rfl ?_;exact q _ rfl
 | ring x n=>
  have ha:H a=some (.tup _):=hF;exists ixTm (SqT.of ha) rfl ?_;exists iteE0 ?_;exists ixTm (SqT.of ha) rfl ?_;exists iteE0 ?_;exists ixTm (SqT.of ha) rfl ?_;exists iteE0 ?_;exists ixTm (SqT.of ha) rfl ?_;exact q _ rfl
 | rise x v n=>
  have ha:H a=some (.tup _):=hF;exists ixTm (SqT.of ha) rfl ?_;exists iteE0 ?_;exists ixTm (SqT.of ha) rfl ?_;exists iteE0 ?_;exists ixTm (SqT.of ha) rfl ?_;exists iteE0 ?_;exists ixTm (SqT.of ha) rfl ?_;exact q _ rfl
 | row ps=>
  obtain⟨b,ha,hb⟩:=hF;exists ixTm (SqT.of ha) rfl ?_;exists iteE1 ?_;exists⟨l,gs,rfl,SqL.of el,?_⟩;exact q _ rfl
 | side ps=>
  obtain⟨b,ha,hb⟩:=hF;exists ixTm (SqT.of ha) rfl ?_;exists iteE0 ?_;exists ixTm (SqT.of ha) rfl ?_;exists iteE1 ?_;exists⟨l,gs,rfl,SqL.of el,List.length_pos_iff.mpr pre,fun g h1 h2=>?_⟩;exact q g ⟨h1,h2⟩
 | again k x=>
  have ha:H a=some (.tup _):=hF;obtain⟨y,r,rfl,k1,k2,y1,y2⟩:=pre;exists ixTm (SqT.of ha) rfl ?_;exists iteE0 ?_;exists ixTm (SqT.of ha) rfl ?_;exists iteE0 ?_;exists ixTm (SqT.of ha) rfl ?_;exists iteE1 ?_;exists ixTm (SqT.of ha) rfl ?_;exists ixLm (SqL.of el) (at0) ?_;walk_at"g";exact q _ ⟨y,rfl,rfl⟩
theorem Xx(T:Txt K mg t)(Q7:FnOk P w K mg base CX0 2 t.Zi t.Zj ["book"] (sp_inner))(wG:FnOk P w K mg base CX0 4 t.yO t.yT ["book"] (sp_moved))(Zf:FnOk P w K mg base CX0 1 t.Qj t.Qp ["row","moves","limbs"] (sp_check_side))(ZC:FnOk P w K mg base CX0 1 t.QJ t.QU ["form","inside"] (sp_length_of)):FnOk P w K mg base CX0 5 t.zc t.zd ["book"] (sp_lengths):=by
 refine T.Yp.ok qW (fun vs H Q E h=>?_) (fun cdv A outer s H vs Q E hr h=>?_)
 ·cases h;subst_vars;rfl
 obtain⟨b,pl,pp,las,pas,ls,ps,gs,hs,rfl,B,S,q⟩:=h;refine⟨_,(jc (jr (i:=1) qW.nd rfl (.inr rfl) (jt (wG.mono (by decide)) hr (by rfl) T.j3f T.XM.kp T.j2N .nil pass0 (jb (pv 0) jd)))
  (jc (jr (i:=2) qW.nd rfl (.inr rfl) (jR jd))
  (jc (Jh PassesOwn.never rfl (Yb (by rfl) T.QO (jb (jt (Q7.mono (by decide)) hr (by rfl) T.Wc T.kg.kp T.wE .nil pass0 (jb (pv 0) jd)) jd)) (qb rfl (jy (jq (i:=3) qW.nd rfl (.inl rfl)) (jy (jq (i:=4) qW.nd rfl (.inl rfl)) Jk)))
   (jc (jr (i:=5) qW.nd rfl (.inl rfl) (jm jv (jm jx (jm jv (pv 0) jf) (pv 3)) jf))
   (jc (zw (jw J0 (jm jv (pv 5) jf) jz (nomark _))
    (jk (j8 (jt (Zf.mono (by decide)) hr (by rfl) T.Wa T.yL.kp T.wC .nil pass0 (jb (pv 3) (jb (Jj (ow:=["part"]) (ci:=[1]) rfl (CompScope.of (defScope Za) ["book","moves","found","row","inside","form","length"] rfl rfl (by decide +kernel)) (Jf (by decide)) (jP (pv 4)) (fun _ _ _ _ _=>⟨(jq (i:=0) (Ja ["book","moves","found","row","inside","form","length"] rfl (by decide +kernel)) rfl (.inl rfl)),qB,(jm (JU (K:=K) rfl) (pv 1) (pv 0))⟩)) (jb (jm jv (pv 0) jf) jd))))))
    jG)
   (jc (jr (i:=6) qW.nd rfl (.inl rfl) (jt (ZC.mono (by decide)) hr (by rfl) T.xl T.YU.kp T.WO .nil pass0 (jb (pv 5) (jb (Jj (ow:=["part"]) (ci:=[2]) rfl (CompScope.of (defScope Za) ["book","moves","found","row","inside","form","length"] rfl rfl (by decide +kernel)) (Jf (by decide)) (jP (pv 4)) (fun _ _ _ _ _=>⟨(jq (i:=0) (Ja ["book","moves","found","row","inside","form","length"] rfl (by decide +kernel)) rfl (.inl rfl)),qB,(jm (JU (K:=K) rfl) (pv 1) (pv 0))⟩)) jd))))
   (jc (Jl (jw yk (pv 6) (ju Wv jf jf) (nomark _))
    (jk Yd)
    jG)
   (jk (j8 (qI PySem.F.plainAttrs_list PySem.F.slot_list_append PySem.F.type_list_append jS (pv 2) (jb (pv 6) jd)))))))))
  (jk (jC (pv 2)))))),?_⟩
 refine jB (σ':=[some _,none,none,none,none,none,none]) rfl ?_;have sz:(200:Nat)<sizeLine:=by decide
 have W:=S.w;have pa:=B.pa.1;have gl:=S.gl;have p61:=W.p61;exists⟨b,pl,pp,las,pas,_,_,rfl,B,W,fun lm cms M H1 s1 hlm elm nlm Ml aM oM=>?_⟩;have mg:=S.mv M Ml oM;have aMl:=aM.1;exists⟨Nat.zero_le _,?_⟩;walk_at"f l hl H2 s2 t2";have nl:=none_of s1 hl;have s12:=s1.trans s2;exists⟨b,pl,pp,las,pas,_,_,rfl,B.same s12,W,fun li ias H3 s3 hli eli nia lia=>?_⟩;walk_at"g";have s13:=s12.trans s3;have s23:=s2.trans s3;have lial:=lia.1;rw[length_map]at lial;have nli:li≠l:=fun z=>by rw[z,t2]at hli;cases hli
 have t3:H3 l=some (.lst []):=s3 _ _ t2;have npl:∀{c u},H c=some u->c≠l:=fun h=>jg h nl
 have np1:∀{c u},H1 c=some u->c≠l:=fun h=>jg h hl
 refine⟨li,_,rfl,SqL.of eli,?_⟩;refine ZO (xs:=ias.map V.ref) (fun i σ H'=>∃(o3 o4 o5 o6:Option V),σ=[some (.ref b),some (.ref lm),some (.ref l),o3,o4,o5,o6]/\(∀c u,c≠l->H3 c=some u->H' c=some u)/\H' l=some (.lst ((gs.take i).map V.int)))
  ⟨_,_,_,_,rfl,fun c u _ h=>h,t3⟩ ?_ ?_ ?_
 ·rintro i σ H' _ ⟨o3,o4,o5,o6,rfl,sm,e1⟩;exact SqL.of (sm _ _ nli eli)
 ·rintro i v σ H' P H4 hv ⟨o3,o4,o5,o6,rfl,sm,e1⟩ sP tP;obtain⟨ia,is',rfl,his,hia⟩:=lia.at_ref hv;have hi:i<ps.length:=by
   have:=(List.getElem?_eq_some_iff.mp his).1;rw[length_map]at this;exact this
  obtain⟨p,hp⟩:∃p,ps[i]?=some p:=⟨_,List.getElem?_eq_getElem hi⟩
  rw[List.getElem?_map,hp]at his;cases his;obtain⟨a,ea,fb,hat,hf⟩:=B.pa.get hp;have iam:ia∈ias:=by
   rw[List.getElem?_map]at hv;obtain⟨a',ea',e'⟩:=Option.map_eq_some_iff.mp hv;injection e' with e';subst e';exact List.mem_of_getElem? ea'
  have nial:ia≠l:=fun z=>by have:=nia ia iam;rw[z,t2]at this;cases this
  have k4:∀c u,c≠l->H3 c=some u->H4 c=some u:=fun c u hc h=>sP _ _ (sm _ _ hc h)
  have k04:∀c u,H c=some u->H4 c=some u:=fun c u h=>k4 _ _ (npl h) (s13 _ _ h)
  have k14:∀c u,H1 c=some u->H4 c=some u:=fun c u h=>k4 _ _ (np1 h) (s23 _ _ h)
  have hia4:H4 ia=some (.lst (((inP ps p.2).map fun j:Nat=>(j:Int)).map V.int)):=k4 _ _ nial hia;have e14:=sP _ _ e1;have hf4:FormAt H4 fb p.2:=FormAt.same k04 hf;have inl:=fun j=>W.inP_lt (j:=j) hp
  have w8:(inP ps p.2).length<=8:=by unfold inP;rw[length_map];exact(W.f i p hp).2
  obtain⟨lp,lgd⟩:=S.ln i p hp;have lgi:=S.gb i hi;refine qT (SqT.of tP) ?_;exists ixTm (SqT.of (k04 _ _ B.t)) rfl ?_;exists ixLm (SqL.of (k04 _ _ B.p)) (Ql (i:=(i:Int)) (by omega) ea) ?_;exists ixTm (SqT.of (k04 _ _ hat)) rfl ?_;exists⟨fun σ' H5=>σ'=[some (.ref b),some (.ref lm),some (.ref l),some (.int i),some (.ref ia),some (.ref fb),o6]/\Same H4 H5,?_,?_⟩
  rotate_left
  ·by_cases hs0:∃qs,p.2 = .side qs
   ·obtain⟨qs,e⟩:=hs0;have ap:=S.sd i p qs hp e;generalize inP ps p.2=is at hia4 inl ap w8;rw[e]at hf4;obtain⟨nb,hf5,_⟩:=hf4;exists ixTm (SqT.of hf5) rfl ?_;exists iteE1 ?_;exists⟨ia,rfl,⟨_,SqL.of hia4⟩,?_⟩;have cat:∀j∈is,∃c,cms[j]?=some c/\H4 c=some (.lst ((hs.getD j []).map V.int)):=fun j hj=>by
     have jl:=inl j hj;obtain⟨c,hc,h1⟩:=aM.get (i:=j) (x:=M.getD j []) (by rw[getD_eq_getElem?_getD,List.getElem?_eq_getElem (by omega)];rfl);rw[mg j (by omega)]at h1;exact⟨c,hc,k14 _ _ h1⟩
    refine Je (xs:=(is.map fun j:Nat=>(j:Int)).map V.int) (fun t ys H'=>∃cs:List Addr,ys=cs.map V.ref/\ListsAt H4 cs ((is.take t).map fun j=>hs.getD j [])/\H4=H') ⟨[],rfl,.nil,rfl⟩ ?_ ?_ ?_
    ·rintro t ys H' _ ⟨cs,rfl,lc,rfl⟩;exact SqL.of hia4
    ·rintro t x ys H' hx ⟨cs,rfl,lc,rfl⟩;rw[List.getElem?_map,List.getElem?_map]at hx;obtain⟨jj,hjj,rfl⟩:=Option.map_eq_some_iff.mp hx;obtain⟨j,hj,rfl⟩:=Option.map_eq_some_iff.mp hjj;obtain⟨c,hc,h1⟩:=cat j (List.mem_of_getElem? hj);have lcl:=lc.1;rw[length_map,length_take]at lcl;refine Jm (σ':=[none,some _]) rfl ?_;exists iteT ?_;exists ixLm (SqL.of (k14 _ _ elm)) (Ql (i:=(j:Int)) (by omega) hc) ?_;refine⟨by rw[length_map];omega,cs++[c],by rw[map_append];rfl,?_,rfl⟩;rw[take_snoc hj,map_append];exact All2.snoc lc h1
    rintro ys H' ⟨cs,rfl,lc,rfl⟩;rw[length_map,length_map,take_length]at lc;have lcl:=lc.1;rw[length_map]at lcl;refine⟨by rw[length_map];omega,?_⟩;walk_at"f 5 t";exists ixTm (SqT.of (s5 _ _ (k04 _ _ B.t))) rfl ?_;exists⟨_,p5,pl,cs,las,(is.map fun j=>hs.getD j []),rfl,t5,All2.mono lc fun c ks h=>s5 _ _ h,fun ks hks=>?_,by rw[length_map];omega,s5 _ _ (k04 _ _ B.l),ap.2,fun H6 s6=>?_⟩
    ·obtain⟨j,hj,rfl⟩:=mem_map.mp hks;exact ap.1 j hj
    walk_at"g";exact⟨rfl,s5.trans s6⟩
   ·have kd:∃k xs,H4 fb=some (.tup (.str k::xs))/\decide (k=("side" : Str))=false:=by
     generalize p.2=f at hf4 hs0;cases f with
     | side qs=>exact absurd ⟨qs,rfl⟩ hs0
     | hold n=>exact⟨_,_,hf4,by decide +kernel⟩
     | ring x n=>exact⟨_,_,hf4,by decide +kernel⟩
     | rise x v n=>exact⟨_,_,hf4,by decide +kernel⟩
     | row qs=>obtain⟨_,h1,_⟩:=hf4;exact⟨_,_,h1,by decide +kernel⟩
     | again k x=>exact⟨_,_,hf4,by decide +kernel⟩
    obtain⟨k,xs,hk,dk⟩:=kd;exists ixTm (SqT.of hk) (at0) ?_;exists iteB0 dk ?_;walk_at"g";exact⟨rfl,Same.refl _⟩
  rintro σ' H5 ⟨rfl,s5⟩;exists⟨ia,rfl,⟨_,SqL.of (s5 _ _ hia4)⟩,?_⟩;have e15:=s5 _ _ e14;refine Je (xs:=((inP ps p.2).map fun j:Nat=>(j:Int)).map V.int) (fun t ys H'=>ys=(((inP ps p.2).take t).map fun j=>gs.getD j 0).map V.int/\H5=H') ⟨rfl,rfl⟩ ?_ ?_ ?_
  ·rintro t ys H' _ ⟨rfl,rfl⟩;exact SqL.of (s5 _ _ hia4)
  ·rintro t x ys H' hx ⟨rfl,rfl⟩;rw[List.getElem?_map,List.getElem?_map]at hx;obtain⟨jj,hjj,rfl⟩:=Option.map_eq_some_iff.mp hx;obtain⟨j,hj,rfl⟩:=Option.map_eq_some_iff.mp hjj;have jl:=inl j (List.mem_of_getElem? hj);refine Jm (σ':=[none,some _]) rfl ?_;exists iteT ?_;exists ixLm (SqL.of e15) (j1D (by omega) jl) ?_;refine⟨by rw[length_map,length_map,length_take];omega,?_,rfl⟩;rw[take_snoc hj,map_append,map_append];rfl
  rintro ys H' ⟨rfl,rfl⟩;rw[show(((inP ps p.2).map fun j:Nat=>(j:Int)).map V.int).length=(inP ps p.2).length by rw[length_map,length_map],take_length];refine⟨by rw[length_map,length_map];omega,?_⟩;walk_at"f 6 t";exists⟨fb,p6,p.2,_,rfl,FormAt.same (s5.trans s6) hf4,t6,lp,fun g hg=>?_⟩;have eg:=lgd g hg;subst eg;exists iteD (fun d=>?_) (fun d=>?_)
  ·exfalso;omega
  exists⟨.inl ⟨rfl,_,SqL.of (s6 _ _ e15)⟩,?_⟩;exists⟨l,_,_,rfl,rfl,s6 _ _ e15,by rw[length_map,length_take];omega,?_⟩;refine⟨_,_,_,_,rfl,fun c u hc h=>(jh hc).trans (s6 _ _ (s5 _ _ (k4 _ _ hc h))),?_⟩;rw[jA,j36 (by omega),map_append];rfl
 rintro σ' H' ⟨o3,o4,o5,o6,rfl,sm,e1⟩;rw[length_map,lial,<-gl,take_length]at e1;walk_at"g";exact q l H' (fun c u h=>sm _ _ (npl h) (s13 _ _ h)) nl e1
theorem Wq(T:Txt K mg t):FnOk P w K mg base CX0 1 t.QM t.QX ["form","inside","sizes"] (sp_pieces_in):=by
 refine T.YX.ok qg (fun vs H Q E h=>?_) (fun cdv A outer s H vs Q E hr h=>?_)
 ·cases h;subst_vars;rfl
 obtain⟨a,l,s0,f,is,gs,rfl,hf,el,es,i8,hj,hne,q⟩:=h;refine⟨_,(jc (Jl (jw J0 (jm jv (pv 0) jf) jz (nomark _))
   (jc (jr (i:=3) qg.nd rfl (.inl rfl) (jm jx (pv 1) jf))
   (jc (jr (i:=4) qg.nd rfl (.inl rfl) (Ya (jw yk (jm jv (pv 0) jf) jf (nomark _)) (jR (jb (jI (jb (pv 3) (jb (ju Qt (jm jv (pv 0) jf) jf) (jb (jm jx (pv 2) (pv 3)) jd)))) jd)) (jR jd)))
   (jk (jC (ju Kh (jR (jb (jI (jb (pv 3) (jb jf (jb jf jd)))) jd)) (pv 4))))))
   jG)
  (jc (jr (i:=5) qg.nd rfl (.inl rfl) (jR jd))
  (jc (jr (i:=6) qg.nd rfl (.inl rfl) jf)
  (jc (Jh PassesOwn.never rfl (jP (pv 1)) (jq (i:=3) qg.nd rfl (.inl rfl))
   (jc (j8 (qI PySem.F.plainAttrs_list PySem.F.slot_list_append PySem.F.type_list_append jS (pv 5) (jb (jI (jb (pv 3) (jb jf (jb (pv 6) jd)))) jd)))
   (jk (Jl (jw J0 (jm jv (pv 0) jf) jz (nomark _))
    (jk (j4B (i:=6) qg.nd rfl (.inl rfl) (jm jx (pv 2) (pv 3)) j4e))
    jG))))
  (jk (jC (pv 5))))))),?_⟩
 refine jB (σ':=[some _,some _,some _,none,none,none,none]) rfl ?_;have sz:(10000:Nat)<sizeLine:=by decide
 have gat:∀j,j<gs.length->gs[j]?=some (gs.getD j 0):=fun j h=>by
  rw[getD_eq_getElem?_getD,List.getElem?_eq_getElem h];rfl
 by_cases ha:∃k x,f = .again k x
 ·obtain⟨k,x,rfl⟩:=ha;have hf:H a=some (.tup [.str "again",.int k,.str x]):=hf;obtain⟨j,r,rfl⟩:=List.exists_cons_of_ne_nil (hne k x rfl);have lj:=hj j mem_cons_self;exists ixTm (SqT.of hf) rfl ?_;exists iteE1 ?_;exists ixLm (SqL.of el) (at0) ?_;exists ixTm (SqT.of hf) rfl ?_;exists iteD (fun c=>?_) (fun c=>?_)
  ·exists ixTm (SqT.of hf) rfl ?_;exists ixLm (SqL.of es) (jD (j:=j) (by rw[List.getElem?_map,gat j lj];rfl)) ?_;exists⟨(by show 3<=sizeLine;omega),?_⟩;walk_at"f 1 t";exists⟨(by show 1<=sizeLine;omega),?_⟩;walk_at"f 2 t";exists⟨(by show 3<=sizeLine;omega),?_⟩;walk_at"f 3 t";exists⟨(by show 1<=sizeLine;omega),?_⟩;walk_at"f 4 t";exists⟨p4,p2,_,_,rfl,rfl,t4,s4 _ _ (s3 _ _ t2),(by show 2<=sizeLine;omega),?_⟩;walk_at"f 5 t";have s15:=s1.trans (s2.trans (s3.trans (s4.trans s5)));refine q p5 [p3,p1] _ s15 (none_of (s1.trans (s2.trans (s3.trans s4))) hp5) t5 ?_;show PcsAt H5 _ ((j,1,0)::(if 1<k then[(j,k-1,gs.getD j 0)]else[]));rw[if_pos c];exact .cons (s5 _ _ (s4 _ _ t3)) (.cons (s5 _ _ (s4 _ _ (s3 _ _ (s2 _ _ t1)))) .nil)
  ·exists⟨Nat.zero_le _,?_⟩;walk_at"f 2 t";exists⟨(by show 3<=sizeLine;omega),?_⟩;walk_at"f 3 t";exists⟨(by show 1<=sizeLine;omega),?_⟩;walk_at"f 4 t";exists⟨p4,p2,_,_,rfl,rfl,t4,s4 _ _ (s3 _ _ t2),(by show 1<=sizeLine;omega),?_⟩;walk_at"f 5 t";have s15:=s2.trans (s3.trans (s4.trans s5));refine q p5 [p3] _ s15 (none_of (s2.trans (s3.trans s4)) hp5) t5 ?_;show PcsAt H5 _ ((j,1,0)::(if 1<k then[(j,k-1,gs.getD j 0)]else[]));rw[if_neg c];exact .cons (s5 _ _ (s4 _ _ t3)) .nil
 have key:∃kw xs,H a=some (.tup (.str kw::xs))/\decide (kw=("again" : Str))=false/\((decide (kw=("row" : Str))=true/\∃xs,f = .row xs)\/(decide (kw=("row" : Str))=false/\∀is,pcsI gs f is=is.map fun j=>(j,1,0))):=by
  cases f with
  | hold n=>exact⟨_,_,hf,by decide +kernel,.inr ⟨by decide +kernel,fun _=>rfl⟩⟩
  | ring x n=>exact⟨_,_,hf,by decide +kernel,.inr ⟨by decide +kernel,fun _=>rfl⟩⟩
  | rise x v n=>exact⟨_,_,hf,by decide +kernel,.inr ⟨by decide +kernel,fun _=>rfl⟩⟩
  | row ps=>obtain⟨b,h1,_⟩:=hf;exact⟨_,_,h1,by decide +kernel,.inl ⟨by decide +kernel,_,rfl⟩⟩
  | side ps=>obtain⟨b,h1,_⟩:=hf;exact⟨_,_,h1,by decide +kernel,.inr ⟨by decide +kernel,fun _=>rfl⟩⟩
  | again k x=>exact absurd ⟨k,x,rfl⟩ ha
 obtain⟨kw,xs,hk,dk,hkind⟩:=key;exists ixTm (SqT.of hk) (at0) ?_;exists iteB0 dk ?_;exists⟨Nat.zero_le _,?_⟩;walk_at"f p hp H1 s1 t1";walk_at"g";have np:∀{c u},H c=some u->c≠p:=fun h=>jg h hp
 refine⟨l,rfl,⟨_,SqL.of (s1 _ _ el)⟩,?_⟩;refine JI (xs:=(is.map fun j:Nat=>(j:Int)).map V.int) (fun i σ H'=>∃(o3:Option V) (bg:Int) (as:List Addr) (qs:List Pc),σ=[some (.ref a),some (.ref l),some (.ref s0),o3,none,some (.ref p),some (.int bg)]/\Same H H'/\H' p=some (.lst (as.map V.ref))/\as.length=i/\PcsAt H' as qs/\((∃xs,f = .row xs)->rowPc gs is 0=qs++rowPc gs (is.drop i) bg)/\(¬(∃xs,f = .row xs)->bg=0/\qs=(is.take i).map fun j=>(j,1,0)))
  ⟨_,0,[],[],rfl,s1,t1,rfl,.nil,fun _=>rfl,fun _=>⟨rfl,rfl⟩⟩ ?_ ?_ ?_
 ·rintro i σ H' _ ⟨o3,bg,as,qs,rfl,sm,e1,la,hq,h1,h2⟩;exact SqL.of (sm _ _ el)
 ·rintro i v σ H' hv ⟨o3,bg,as,qs,rfl,sm,e1,la,hq,h1,h2⟩;rw[List.getElem?_map,List.getElem?_map]at hv;obtain⟨jj,hjj,rfl⟩:=Option.map_eq_some_iff.mp hv;obtain⟨j,hij,rfl⟩:=Option.map_eq_some_iff.mp hjj;have il:=(List.getElem?_eq_some_iff.mp hij).1;have ed:is.drop i=j::is.drop (i+1):=by
   obtain⟨h,rfl⟩:=List.getElem?_eq_some_iff.mp hij;exact List.drop_eq_getElem_cons h
  have lj:=hj j (List.mem_of_getElem? hij);exists⟨.inl ⟨rfl,_,SqL.of e1⟩,?_⟩;exists⟨(by show 3<=sizeLine;omega),?_⟩;walk_at"f 2 t";exists⟨p,_,_,rfl,rfl,s2 _ _ e1,by rw[length_map];omega,?_⟩;have n2:p2≠p:=fun z=>by rw[z,s2 _ _ e1]at t2;cases t2
  have s3:Same H (upd H2 p (.lst (as.map V.ref++[.ref p2]))):=fun c u h=>(jh (np h)).trans (s2 _ _ (sm _ _ h))
  have e3:upd H2 p (.lst (as.map V.ref++[.ref p2])) p=some (.lst ((as++[p2]).map V.ref)):=by rw[jA,map_append];rfl
  have hq3:PcsAt (upd H2 p (.lst (as.map V.ref++[.ref p2]))) (as++[p2]) (qs++[(j,1,bg)]):=by
   refine All2.snoc (All2.mono hq fun c x h=>?_) ((jh n2).trans t2);exact(jh (fun z=>by rw[z,e1]at h;cases h)).trans (s2 _ _ h)
  generalize upd H2 p (.lst (as.map V.ref++[.ref p2]))=H3 at s3 e3 hq3|-;exists ixTm (SqT.of (s3 _ _ hk)) (at0) ?_;walk_at"g";rcases hkind with⟨dr,xs',ef⟩ | ⟨dr,hp'⟩
  ·refine iteB1 dr ?_;exists ixLm (SqL.of (s3 _ _ es)) (jD (j:=j) (by rw[List.getElem?_map,gat j lj];rfl)) ?_;exists⟨_,_,as++[p2],qs++[(j,1,bg)],rfl,s3,e3,by rw[List.length_append,la];rfl,hq3,fun h=>?_,fun h=>absurd ⟨xs',ef⟩ h⟩;rw[h1 h,ed,List.append_assoc];rfl
  ·refine iteB0 dr ?_;exists⟨_,_,as++[p2],qs++[(j,1,bg)],rfl,s3,e3,by rw[List.length_append,la];rfl,hq3,fun h=>?_,fun h=>?_⟩
   ·obtain⟨xs',ef⟩:=h;subst ef;have:=hp' [0,0];obtain⟨bb,hb1,_⟩:=hf;rw[hb1]at hk;cases hk;exact absurd dr (by decide +kernel)
   ·obtain⟨b0,eq⟩:=h2 h;refine⟨b0,?_⟩;rw[take_snoc hij,map_append,eq,b0];rfl
 rintro σ' H' ⟨o3,bg,as,qs,rfl,sm,e1,la,hq,h1,h2⟩;rw[show((is.map fun j:Nat=>(j:Int)).map V.int).length=is.length by rw[length_map,length_map]]at h1 h2;exists q p as H' sm hp e1 ?_;have e:pcsI gs f is=qs:=by
  by_cases hr':∃xs,f = .row xs
  ·obtain⟨xs',rfl⟩:=hr';show rowPc gs is 0=qs;rw[h1 ⟨xs',rfl⟩,List.drop_length];exact append_nil _
  ·rcases hkind with⟨_,xs',ef⟩ | ⟨_,hp'⟩
   ·exact absurd ⟨xs',ef⟩ hr'
   ·rw[hp',(h2 hr').2,take_length]
 rw[e];exact hq
theorem Wr(T:Txt K mg t)(Q7:FnOk P w K mg base CX0 2 t.Zi t.Zj ["book"] (sp_inner))(ZF:FnOk P w K mg base CX0 1 t.QM t.QX ["form","inside","sizes"] (sp_pieces_in)):FnOk P w K mg base CX0 3 t.qY t.qZ ["book","sizes"] (sp_pieces_of):=by
 refine T.Zy.ok WE (fun vs H Q E h=>?_) (fun cdv A outer s H vs Q E hr h=>?_)
 ·cases h;subst_vars;rfl
 obtain⟨b,pl,pp,s0,las,pas,ls,ps,gs,rfl,B,W,es,gl,q⟩:=h;refine⟨_,(jk (jC (Jj (ow:=["part","inside"]) (ci:=[1]) rfl (CompScope.of (defScope zJ) ["book","sizes"] rfl rfl (by decide +kernel)) (kh (by decide) (by decide)) (j23 (by rfl) T.j3X (jb (jm jv (pv 0) jf) (jb (jt (Q7.mono (by decide)) hr (by rfl) T.Wc T.kg.kp T.wE .nil pass0 (jb (pv 0) jd)) jd))) (fun _ _ _ _ _=>⟨(qb rfl (jy (jq (i:=0) (Ja ["book","sizes"] rfl (by decide +kernel)) rfl (.inl rfl)) (jy (jq (i:=1) (Ja ["book","sizes"] rfl (by decide +kernel)) rfl (.inl rfl)) Jk))),qB,(jt (ZF.mono (by decide)) hr (by rfl) T.xo T.YX.kp T.WR .nil pass0 (jb (jm (JA (K:=K) rfl) (pv 0) jf) (jb (pv 1) (jb (pv 2) jd))))⟩)))),?_⟩;refine jB (σ':=[some _,some _]) rfl ?_;have sz:(10000:Nat)<sizeLine:=by decide
 have p61:=W.p61;have pa:=B.pa.1;exists ixTm (SqT.of B.t) rfl ?_;exists⟨b,pl,pp,las,pas,ls,ps,rfl,B,W,fun li ias H3 s3 hli eli nia lia=>?_⟩;walk_at"g";have lial:=lia.1;rw[length_map]at lial;refine⟨pp,li,_,_,rfl,SqL.of (s3 _ _ B.p),SqL.of eli,?_⟩;refine j1m (xs:=pas.map V.ref) (zs:=ias.map V.ref) (fun i ys H'=>∃as:List Addr,ys=as.map V.ref/\as.length=i/\Same H3 H'/\(∀a∈as,H a=none)/\PssAt H' as ((ps.take i).map fun p=>pcsI gs p.2 (inP ps p.2))) (by rw[length_map,length_map];omega) ⟨[],rfl,rfl,Same.refl _,(fun a h=>nomatch h),.nil⟩ ?_ ?_ ?_
 ·rintro i ys H' _ ⟨as,rfl,hl,sm,na,ha⟩;exact⟨SqL.of (sm _ _ (s3 _ _ B.p)),SqL.of (sm _ _ eli)⟩
 ·rintro i u v ys H' T0 H4 hu hv ⟨as,rfl,hl,sm,na,ha⟩ sP tP;have hi:=(List.getElem?_eq_some_iff.mp hu).1;rw[length_map]at hi;obtain⟨a,p,rfl,hp,fb,hat,hf⟩:=B.pa.at_ref hu;obtain⟨ia,is,rfl,his,hia⟩:=lia.at_ref hv;rw[List.getElem?_map,hp]at his;cases his;have hpi:=(List.getElem?_eq_some_iff.mp hp).1;have s4:=sm.trans sP;have s04:=s3.trans s4;have i8:(inP ps p.2).length<=8:=by unfold inP;rw[length_map];exact(W.f i p hp).2
  refine Jm (σ':=[none,none,some _]) rfl ?_;refine qT (SqT.of tP) ?_;exists iteT ?_;exists ixTm (SqT.of (s04 _ _ hat)) rfl ?_;exists⟨fb,ia,s0,p.2,inP ps p.2,gs,rfl,FormAt.same s04 hf,s4 _ _ hia,s04 _ _ es,i8,fun j hj=>by have:=W.inP_lt hp hj;omega,fun k x e=>by rw[e];exact cons_ne_nil _ _,fun p5 as5 H5 s5 hp5 e5 hq5=>?_⟩;refine⟨by rw[length_map];omega,as++[p5],by rw[map_append];rfl,by rw[List.length_append,hl];rfl,s4.trans s5,fun c hc=>(mem_append.mp hc).elim (na c) fun z=>by rw[mem_singleton.mp z];exact none_of s04 hp5,?_⟩;rw[take_snoc hp,map_append];refine All2.snoc (All2.mono ha fun c x h=>?_) ⟨as5,e5,hq5⟩;obtain⟨bs,h1,h2⟩:=h;exact⟨bs,s5 _ _ (sP _ _ h1),All2.mono h2 fun c x h=>s5 _ _ (sP _ _ h)⟩
 rintro ys H' ⟨as,rfl,hl,sm,na,ha⟩;rw[length_map]at hl ha;refine⟨by rw[length_map];omega,?_⟩;walk_at"f 4 t";refine q _ as _ (s3.trans (sm.trans s4)) (none_of (s3.trans sm) hp4) t4 ?_ na;rw[pa,take_length]at ha;refine All2.mono ha fun c x h=>?_
 obtain⟨bs,h1,h2⟩:=h;exact⟨bs,s4 _ _ h1,All2.mono h2 fun c x h=>s4 _ _ h⟩
theorem YG(T:Txt K mg t):FnOk P w K mg base CX0 1 t.qi t.qk ["pieces","left","first"] (sp_begunH):=by
 refine T.Zv.ok jT (fun vs H Q E h=>?_) (fun cdv A outer s H vs Q E hr h=>?_)
 ·cases h;subst_vars;rfl
 obtain⟨pp,pl,pa,f,L,gs,PC,rfl,ep,hpa,el,K0,q⟩:=h;refine⟨_,(jc (Ye (i:=3) (ow:=["inside"]) (ci:=[]) rfl (CompScope.of (defScope qR) ["pieces","left","first","found","part","height","now","other","turns","begin"] rfl rfl (by decide +kernel)) (Jf (by decide)) jT.nd rfl (.inl rfl) (jP (pv 0)) (fun _ _ _ _ _=>⟨(jq (i:=0) (Ja ["pieces","left","first","found","part","height","now","other","turns","begin"] rfl (by decide +kernel)) rfl (.inl rfl)),qB,Kj⟩))
  (jc (kq (zX hr) (jm jx (pv 3) (ym zT jf)) (pv 2) j06 rfl)
  (jc (Jh PassesOwn.never rfl (j0U (by rfl) T.Qm (jb (ju Qt (jH Jg (by rfl) T.Qy qw (jb (pv 0) jd)) jf) (jb (ym zT jf) (jb (ym zT jf) jd)))) (jq (i:=4) jT.nd rfl (.inl rfl))
   (jk (Jh PassesOwn.never rfl (jP (Qc (Xb rfl) (by rfl) T.j1h XS (jb (jm jx (pv 3) (pv 4)) jd))) (jq (i:=5) jT.nd rfl (.inl rfl))
    (jc (jr (i:=6) jT.nd rfl (.inl rfl) (pv 5))
    (jk (Jh PassesOwn.never rfl (jP (jm jx (pv 0) (pv 4))) (qb rfl (jy (jq (i:=7) jT.nd rfl (.inl rfl)) (jy (jq (i:=8) jT.nd rfl (.inl rfl)) (jy (jq (i:=9) jT.nd rfl (.inl rfl)) Jk))))
     (jc (kq (zX hr) (jm jx (pv 3) (pv 7)) (pv 6) j06 rfl)
     (jk (jr (i:=6) jT.nd rfl (.inl rfl) (jm jx (pv 1) (pv 7)))))))))))
  (jk (jC (j4y (pv 3))))))),?_⟩
 refine jB (σ':=[some _,some _,some _,none,none,none,none,none,none,none]) rfl ?_;have sz:(10000:Nat)<sizeLine:=by decide
 have n1:=K0.n1;have n61:=K0.n61;have lL:=K0.lL;have pal:=hpa.1;exists⟨pp,rfl,⟨_,SqL.of ep⟩,?_⟩;refine Je (xs:=pa.map V.ref) (fun i ys H'=>∃as:List Addr,ys=as.map V.ref/\as.length=i/\Same H H'/\as.Nodup/\∀a∈as,H a=none/\H' a=some (.dK [])) ⟨[],rfl,rfl,Same.refl _,nodup_nil,fun a h=>nomatch h⟩ ?_ ?_ ?_
 ·rintro i ys H' _ ⟨as,rfl,hl,sm,nd,na⟩;exact SqL.of (sm _ _ ep)
 ·rintro i v ys H' hv ⟨as,rfl,hl,sm,nd,na⟩;have hi:=(List.getElem?_eq_some_iff.mp hv).1;rw[length_map]at hi;refine Jm (σ':=[none]) rfl ?_;exists iteT ?_;walk_at"g";walk_at"f d hd H1 s1 t1";refine⟨by rw[length_map];omega,as++[d],by rw[map_append];rfl,by rw[List.length_append,hl];rfl,sm.trans s1,?_,fun a ha=>?_⟩
  ·refine nodup_append.mpr ⟨nd,nodup_cons.mpr ⟨(fun z=>nomatch z),nodup_nil⟩,fun x hx y hy z=>?_⟩;rw[mem_singleton.mp hy]at z;rw[z]at hx;rw[(na d hx).2]at hd;cases hd
  ·rcases mem_append.mp ha with ha | ha
   ·exact⟨(na a ha).1,s1 _ _ (na a ha).2⟩
   ·rw[mem_singleton.mp ha];exact⟨none_of sm hd,t1⟩
 rintro ys H' ⟨as,rfl,hl,sm,nd,na⟩;rw[length_map]at hl;refine⟨by rw[length_map];omega,?_⟩;walk_at"f l hl2 H2 s2 t2";have nl:=none_of sm hl2;have b0:Beg H l as (List.replicate as.length []) H2:=⟨sm.trans s2,t2,⟨by rw[length_replicate],fun i a x h1 h2=>by
  obtain⟨_,e⟩:=List.getElem?_eq_some_iff.mp h2;rw[List.getElem_replicate]at e;subst e;exact s2 _ _ (na a (List.mem_of_getElem? h1)).2⟩,nd,fun a h=>(na a h).1,nl⟩
 clear s2 t2 hl2 na;have al:=hl.trans pal;walk_at"g";obtain⟨a0,ha0,da0⟩:=b0.last (j:=PC.length-1) (by rw[length_replicate];omega);refine ixLm (SqL.of b0.el) (j1g (n:=PC.length) n1 (by rw[length_map];omega) (by rw[List.getElem?_map,ha0];rfl)) ?_;exists⟨a0,_,rfl,DPut.k (k:=Sum.inl f) da0 (Nat.lt_of_le_of_lt ((KB.none (f:=f) (L:=L)).len _) (by omega)),?_⟩;have b1:=b0.put ha0 f;have h0:PC.length-1<(List.replicate as.length ([]:Tb)).length:=by rw[length_replicate];omega
 have k1:KB f L (putB (List.replicate as.length []) (PC.length-1) f):=KB.none.put h0 (.inl rfl);have t1:Has (putB (List.replicate as.length []) (PC.length-1) f) (PC.length-1) f:=xC h0;have l1:(putB (List.replicate as.length []) (PC.length-1) f).length=PC.length:=by rw[xc,length_replicate,al]
 generalize upd H2 a0 _=H3 at b1|-;generalize putB (List.replicate as.length []) (PC.length-1) f=B1 at b1 k1 t1 l1;clear b0 da0 h0;exists⟨_,_,rfl,.inl ⟨_,SqL.of (b1.sm _ _ ep),rfl⟩,?_⟩;rw[length_map];exists⟨_,_,rfl,⟨by omega,by omega,by omega,by omega⟩,?_⟩;refine j1x (fun i σ H'=>∃(o4 o5 o6 o7 o8 o9:Option V) (B:List Tb),σ=[some (.ref pp),some (.ref pl),some (.int f),some (.ref l),o4,o5,o6,o7,o8,o9]/\Beg H l as B H'/\KB f L B/\B.length=PC.length/\Has B (PC.length-1) f/\∀p,p<PC.length->PC.length<=p+i->∀h,Has B p h->Run L B h (PC.getD p []))
  ⟨_,_,_,_,_,_,B1,rfl,b1,k1,l1,t1,fun p hp hi=>absurd hi (by omega)⟩ ?_ ?_
 ·rintro i σ H' hi ⟨o4,o5,o6,o7,o8,o9,B,rfl,b,kb,lB,tp,cl⟩;obtain⟨p,hp⟩:∃p:Nat,(pa.length:Int)-1-(i:Int)=(p:Int):=⟨PC.length-1-i,by omega⟩
  have pn:p+i+1=PC.length:=by omega
  rw[hp];obtain⟨ap,hap,dap⟩:=b.last (j:=p) (by omega);obtain⟨pc,hpc,bs,hbs,hqs⟩:=hpa.get (i:=p) (x:=PC.getD p []) (by rw[getD_eq_getElem?_getD,List.getElem?_eq_getElem (by omega)];rfl);exists ixLm (SqL.of b.el) (jD (j:=p) (by rw[List.getElem?_map,hap];rfl)) ?_;exists⟨ap,_,rfl,dap,?_⟩;walk_at"f kl hkl H4 s4 t4";have nkl:∀{j a},as[j]?=some a->kl≠a:=fun {j a} ha z=>by
   obtain⟨hj,e⟩:=List.getElem?_eq_some_iff.mp ha;obtain⟨a',h1,h2⟩:=b.last (j:=j) (by rw[lB];omega);rw[ha]at h1;cases h1;rw[<-z,hkl]at h2;cases h2
  exists⟨kl,rfl,⟨_,SqL.of t4⟩,?_⟩;refine JI (xs:=(B.getD p []).map fun q=>kV q.1) (fun t σ H'=>∃(o5 o6 o7 o8 o9:Option V) (B':List Tb),σ=[some (.ref pp),some (.ref pl),some (.int f),some (.ref l),some (.int (p:Nat)),o5,o6,o7,o8,o9]/\Beg H l as B' H'/\H' kl=some (.lst ((B.getD p []).map fun q=>kV q.1))/\KB f L B'/\B'.length=PC.length/\Has B' (PC.length-1) f/\
   (∀p,p<PC.length->PC.length<=p+i->∀h,Has B' p h->Run L B' h (PC.getD p []))/\B'.getD p []=B.getD p []/\∀j q h,j<t->(B.getD p [])[j]?=some q->q.1=Sum.inl h->Run L B' h (PC.getD p []))
   ⟨_,_,_,_,_,B,rfl,b.more s4,t4,kb,lB,tp,cl,rfl,fun j q h z=>absurd z (Nat.not_lt_zero _)⟩ ?_ ?_ ?_
  ·rintro t σ H5 _ ⟨o5,o6,o7,o8,o9,B5,rfl,b5,e5,_⟩;exact SqL.of e5
  ·rintro t x σ H5 hx ⟨o5,o6,o7,o8,o9,B5,rfl,b5,e5,k5,l5,t5,c5,p5,r5⟩;rw[List.getElem?_map]at hx;obtain⟨q0,hq0,rfl⟩:=Option.map_eq_some_iff.mp hx;obtain⟨h,eh,ah⟩:=kb.al p q0 (List.mem_of_getElem? hq0);rw[eh];show gName 5 (.int h) _ _ _;exists ixLm (SqL.of (b5.sm _ _ ep)) (jD (j:=p) (by rw[List.getElem?_map,hpc];rfl)) ?_;exists⟨pc,rfl,⟨_,SqL.of (b5.sm _ _ hbs)⟩,?_⟩;refine JI (xs:=bs.map V.ref) (fun u σ H'=>∃(o7 o8 o9:Option V) (B':List Tb),σ=[some (.ref pp),some (.ref pl),some (.int f),some (.ref l),some (.int (p:Nat)),some (.int h),some (.int (nowH L h ((PC.getD p []).take u))),o7,o8,o9]/\Beg H l as B' H'/\H' kl=some (.lst ((B.getD p []).map fun q=>kV q.1))/\KB f L B'/\B'.length=PC.length/\Has B' (PC.length-1) f/\
    (∀p,p<PC.length->PC.length<=p+i->∀h,Has B' p h->Run L B' h (PC.getD p []))/\B'.getD p []=B.getD p []/\(∀j q h,j<t->(B.getD p [])[j]?=some q->q.1=Sum.inl h->Run L B' h (PC.getD p []))/\Run L B' h ((PC.getD p []).take u))
    ⟨_,_,_,B5,rfl,b5,e5,k5,l5,t5,c5,p5,r5,trivial⟩ ?_ ?_ ?_
   ·rintro u σ H6 _ ⟨o7,o8,o9,B6,rfl,b6,_⟩;exact SqL.of (b6.sm _ _ hbs)
   ·rintro u v σ H6 hv ⟨o7,o8,o9,B6,rfl,b6,e6,k6,l6,t6,c6,p6,r6,u6⟩;obtain⟨c,y,rfl,hy,hc⟩:=hqs.at_ref hv;obtain⟨yl,ys,yo⟩:=K0.pc p y (List.mem_of_getElem? hy);have yB:y.1<B6.length:=by omega
    obtain⟨aj,haj,daj⟩:=b6.last yB;have grow:=j0W (h:=nowH L h ((PC.getD p []).take u)) yB;refine XD (SqT.of (b6.sm _ _ hc)) ?_;exists ixLm (SqL.of b6.el) (jD (j:=y.1) (by rw[List.getElem?_map,haj];rfl)) ?_;exists⟨aj,_,rfl,DPut.k (k:=Sum.inl (nowH L h ((PC.getD p []).take u))) daj (Nat.lt_of_le_of_lt (k6.len _) (by omega)),?_⟩;have b7:=b6.put haj (nowH L h ((PC.getD p []).take u));have e7:=(jh (o:=.dK (putK (B6.getD y.1 []) (Sum.inl (nowH L h ((PC.getD p []).take u))) (.bl true))) (nkl haj)).trans e6;generalize upd H6 aj _=H7 at b7 e7|-;exists ixLm (SqL.of (b7.sm _ _ el)) (jD (j:=y.1) (by rw[List.getElem?_map,(yX ys).2];rfl)) ?_;refine⟨some (.int (y.1:Nat)),some (.int y.2.1),some (.int y.2.2),_,?_,b7,e7,k6.put yB (XQ ah fun q' h'=>(K0.pc p q' (mem_of_mem_take h')).2.1),xc.trans l6,grow _ _ t6,fun p' hp' hi' h' hh=>?_,(Yf (by omega)).trans p6,fun j q' h' hj hq' hh=>(r6 j q' h' hj hq' hh).mono grow,?_⟩
    ·rw[take_snoc hy,wm];rfl
    ·refine(c6 p' hp' hi' h' ?_).mono grow;unfold Has at hh|-;rw[Yf (by omega)]at hh;exact hh
    ·rw[take_snoc hy];exact(u6.mono grow).snoc (xC yB)
   ·rintro σ H6 ⟨o7,o8,o9,B6,rfl,b6,e6,k6,l6,t6,c6,p6,r6,u6⟩;rw[length_map,hqs.1,take_length]at u6;refine⟨_,_,_,_,_,B6,rfl,b6,e6,k6,l6,t6,c6,p6,fun j q' h' hj hq' hh=>?_⟩;rcases Nat.lt_or_ge j t with z | z
    ·exact r6 j q' h' z hq' hh
    ·have:j=t:=by omega
     subst this;rw[hq0]at hq';cases hq';rw[eh]at hh;cases hh;exact u6
  rintro σ H5 ⟨o5,o6,o7,o8,o9,B5,rfl,b5,e5,k5,l5,t5,c5,p5,r5⟩;rw[length_map]at r5;refine⟨_,_,_,_,_,_,B5,rfl,b5,k5,l5,t5,fun p' hp' hi' h' hh=>?_⟩;rcases Nat.lt_or_ge p p' with z | z
  ·exact c5 p' hp' (by omega) h' hh
  ·have:p'=p:=by omega
   subst this;unfold Has at hh;rw[p5]at hh;obtain⟨v,hv⟩:=Option.isSome_iff_exists.mp hh;obtain⟨q',hq',e'⟩:=mem_map.mp (j0i hv);obtain⟨j,hj,ej⟩:=mem_iff_getElem.mp hq';exact r5 j q' h' hj (by rw[List.getElem?_eq_getElem hj,ej]) e'
 rintro σ H' ⟨o4,o5,o6,o7,o8,o9,B,rfl,b,kb,lB,tp,cl⟩;exists j4C ?_;exists⟨as,b.nd,fun a ha=>?_,fun H8 fr=>?_⟩
 ·obtain⟨j,hj,e⟩:=mem_iff_getElem.mp ha;obtain⟨a',h1,h2⟩:=b.last (j:=j) (by omega);rw[List.getElem?_eq_getElem hj,e]at h1;cases h1;exact⟨_,h2⟩
 have nla:l∉as:=fun z=>by
  obtain⟨j,hj,e⟩:=mem_iff_getElem.mp z;obtain⟨a',h1,h2⟩:=b.last (j:=j) (by omega);rw[List.getElem?_eq_getElem hj,e]at h1;cases h1;rw[b.el]at h2;cases h2
 refine q l as B H8 (fun c u hc=>(fr.1 c fun z=>?_).trans (b.sm _ _ hc)) nl ((fr.1 l nla).trans b.el) ⟨b.at'.1,fun i a x h1 h2=>fr.2 a (List.mem_of_getElem? h1) x (b.at'.2 i a x h1 h2)⟩ ⟨lB,kb,tp,fun p hp h hh=>cl p hp (by omega) h hh⟩;rw[b.nw c z]at hc;cases hc
theorem yC(T:Txt K mg t)(jZ:FnOk P w K mg base CX0 1 t.JD t.JH ["named"] (sp_numbers_of))(Zg:FnOk P w K mg base CX0 3 t.yv t.yx ["book"] (sp_ends))(zb:FnOk P w K mg base CX0 5 t.zc t.zd ["book"] (sp_lengths))(qX:FnOk P w K mg base CX0 3 t.qY t.qZ ["book","sizes"] (sp_pieces_of))(Q2:FnOk P w K mg base CX0 1 t.qi t.qk ["pieces","left","first"] (sp_begunH)):FnOk P w K mg base CX0 6 t.Ji t.JF ["self","book","name"] (sp_initT t.jX):=by
 refine T.yI.ok qe (fun vs H Q E h=>?_) (fun cdv A outer s H vs Q E hr h=>?_)
 ·cases h;subst_vars;rfl
 obtain⟨a,dx,b,pl,pp,las,pas,ls,ps,gs,hs,x,f,k,rfl,ha,B,N,hk,q⟩:=h;refine⟨_,(jc (jr (i:=3) qe.nd rfl (.inr rfl) (Zn (zX hr) (jt (jZ.mono (by decide)) hr (by rfl) T.Q8 T.Qf.kp T.Q6 .nil pass0 (jb (jm jv (pv 1) jf) jd)) (pv 2)))
  (jc (jr (i:=4) qe.nd rfl (.inr rfl) (Jj (ow:=["pairs"]) (ci:=[3]) rfl (CompScope.of (defScope JJ) ["self","book","name","limb","left","inside"] rfl rfl (by decide +kernel)) (Jf (by decide)) (jP (jt (Zg.mono (by decide)) hr (by rfl) T.Xp T.wF.kp T.xS .nil pass0 (jb (pv 1) jd))) (fun _ _ _ _ _=>⟨(jq (i:=0) (Ja ["self","book","name","limb","left","inside"] rfl (by decide +kernel)) rfl (.inl rfl)),qB,(j22 (zX hr) (Qc (kF rfl) (by rfl) T.x9 wJ (jb (pv 0) jd)) (pv 1) ⟨rfl,rfl,rfl,rfl⟩)⟩)))
  (jc (zu (pv 0) (jm jv (jm jx (jm jv (pv 1) jf) (pv 3)) jf) rfl)
  (jc (zu (pv 0) (jt (zb.mono (by decide)) hr (by rfl) T.K8 T.Yp.kp T.KJ .nil pass0 (jb (pv 1) jd)) rfl)
  (jc (zu (pv 0) (pv 4) rfl)
  (jc (zu (pv 0) (jR jd) rfl)
  (jc (Jh PassesOwn.never rfl (jP (jt (qX.mono (by decide)) hr (by rfl) T.Y4 T.Zy.kp T.YQ .nil pass0 (jb (pv 1) (jb (JB (pv 0) rfl) jd)))) (jq (i:=5) qe.nd rfl (.inl rfl))
   (jk (j8 (qI PySem.F.plainAttrs_list PySem.F.slot_list_append PySem.F.type_list_append jS (JB (pv 0) rfl) (jb (Jj (ow:=["piece"]) (ci:=[4]) rfl (CompScope.of (defScope JJ) ["self","book","name","limb","left","inside"] rfl rfl (by decide +kernel)) (Jf (by decide)) (jP (pv 5)) (fun _ _ _ _ _=>⟨(jq (i:=0) (Ja ["self","book","name","limb","left","inside"] rfl (by decide +kernel)) rfl (.inl rfl)),(ZR (jw Z7 (jm (JU (K:=K) rfl) (pv 1) (jm (JA (K:=K) rfl) (pv 0) jf)) Qu (nomark _))),(pv 0)⟩)) jd)))))
  (jk (zu (pv 0) (jt (Q2.mono (by decide)) hr (by rfl) T.ka T.Zv.kp T.Y7 .nil pass0 (jb (JB (pv 0) rfl) (jb (pv 4) (jb (JB (pv 0) rfl) jd)))) rfl))))))))),?_⟩
 refine jB (σ':=[some _,some _,some _,none,none,none]) rfl ?_;have sz:(200:Nat)<sizeLine:=by decide
 have W:=N.s.w;have gl:=N.s.gl;have l8:=W.l8;have p61:=W.p61;have la:=B.la.1;have pal:=B.pa.1;have kl:=(List.getElem?_eq_some_iff.mp hk).1;have hj:(nmsOf ls)[k]?=some x:=by unfold nmsOf;rw[List.getElem?_map,hk];rfl
 obtain⟨H0,less,n0,B0⟩:=B.less ha;have z0:Same H0 H:=less H fun c u _ h=>h
 exists ixTm (SqT.of B.t) rfl ?_;exists⟨pl,las,nmsOf ls,rfl,B.l,by rw[nmsOf,length_map];exact la,fun i a x ea ex=>?_,W.ln,by rw[nmsOf,length_map];omega,fun d H1 s1 hd ed=>?_⟩
 ·unfold nmsOf at ex;rw[List.getElem?_map]at ex;obtain⟨p,ep,rfl⟩:=Option.map_eq_some_iff.mp ex;exact⟨_,B.la.2 i a p ea ep⟩
 walk_at"g";have g:DGet H1 d (.str x) (some (.int (k:Nat))):=by
  have g:=DGet.k (k:=Sum.inr x) ed;rw[y8 W.ln hj]at g;exact g
 refine⟨d,_,rfl,g,?_⟩;exists⟨b,pl,pp,las,pas,ls,ps,rfl,B.same s1,W,fun l2 as E H2 s2 hl2 e2 na lE aE oE=>?_⟩;exists⟨l2,rfl,⟨_,SqL.of e2⟩,?_⟩;have asl:=aE.1;have lvl:(lvE E (k:Nat)).length=ps.length:=(length_map _).trans lE;refine Je (xs:=as.map V.ref) (fun i ys H'=>ys=((lvE E (k:Nat)).take i).map optV/\Same H2 H') ⟨rfl,Same.refl _⟩ ?_ ?_ ?_
 ·rintro i ys H' _ ⟨rfl,sm⟩;exact SqL.of (sm _ _ e2)
 ·rintro i v ys H' hv ⟨rfl,sm⟩;obtain⟨ae,e,rfl,he,bs,hbs,prs⟩:=aE.at_ref hv;have hi:=(List.getElem?_eq_some_iff.mp he).1;have oi:=(oE i _ _ (List.getElem?_eq_getElem (by omega)) he).1;refine Jm (σ':=[none,some (.int (k:Nat))]) rfl ?_;exists iteT ?_;refine j2e ?_;exists⟨ae,bs,e,rfl,sm _ _ hbs,prs.1,fun i' c q' h1 h2=>sm _ _ (prs.2 i' c q' h1 h2),?_⟩;walk_at"f d2 hd2 H3 s3 t3";rw[show([]:List (Key×V))=([]:List (Int×Int)).map iiK from rfl,Zl,kZ (oi.imp fun h=>Int.ne_of_lt h)]at t3;refine⟨d2,rfl,.inl ⟨_,.inl t3⟩,?_⟩;exists⟨_,DGet.k (k:=Sum.inl (k:Int)) t3,?_⟩;rw[XL];refine⟨by rw[length_map,length_take,lvl];omega,?_,sm.trans s3⟩;rw[take_snoc (show(lvE E (k:Nat))[i]?=some (e.lookup (k:Int)) by unfold lvE;rw[List.getElem?_map,he];rfl),map_append];rfl
 rintro ys H' ⟨rfl,sm⟩;rw[show(as.map V.ref).length=(lvE E (k:Nat)).length by rw[length_map,lvl];omega,take_length];refine⟨by rw[length_map,lvl];omega,?_⟩;walk_at"f 3 t";have s13:Same H H3:=s1.trans (s2.trans (sm.trans s3));obtain⟨lk,hlk,ek⟩:=B.la.get hk;have np3:p3≠a:=fun z=>by rw[z,sm _ _ (s2 _ _ (s1 _ _ ha))]at hp3;cases hp3
 exists ixTm (SqT.of (s13 _ _ B.t)) rfl ?_;exists ixLm (SqL.of (s13 _ _ B.l)) (jD (j:=k) (by rw[List.getElem?_map,hlk];rfl)) ?_;exists ixTm (SqT.of (s13 _ _ ek)) rfl ?_;exists⟨a,_,dx,[],rfl,s13 _ _ ha,T.jW,T.Jx,(by show 0<1000;decide),?_⟩;generalize e4:upd H3 a _=H4;have k4:∀c u,c≠a->H3 c=some u->H4 c=some u:=fun c u n h=>e4▸(jh n).trans h
 have a4:=yg e4;clear e4;have z4:Same H0 H4:=less H4 fun c u n h=>k4 _ _ n (s13 _ _ h)
 exists⟨b,pl,pp,las,pas,ls,ps,gs,hs,rfl,B0.same z4,N.s,fun l5 H5 s5 hl5 e5=>?_⟩;exists⟨a,_,dx,_,rfl,s5 _ _ a4,T.jW,T.Jy,few (Jb _ _ _) (by decide),?_⟩;have n5:l5≠a:=fun z=>by rw[z,a4]at hl5;cases hl5
 generalize e6:upd H5 a _=H6;have k6:∀c u,c≠a->H5 c=some u->H6 c=some u:=fun c u n h=>e6▸(jh n).trans h
 have a6:=yg e6;clear e6;have z6:Same H0 H6:=fun c u h=>k6 _ _ (n0 h) (s5 _ _ (z4 _ _ h))
 exists⟨a,_,dx,_,rfl,a6,T.jW,T.Jq,Nat.lt_of_le_of_lt (Jb _ _ _) (Nat.lt_of_le_of_lt (Nat.succ_le_succ (Jb _ _ _)) (by decide)),?_⟩;generalize e7:upd H6 a _=H7;have k7:∀c u,c≠a->H6 c=some u->H7 c=some u:=fun c u n h=>e7▸(jh n).trans h
 have a7:=yg e7;clear e7;exists⟨Nat.zero_le _,?_⟩;walk_at"f 8 t";have n8:p8≠a:=fun z=>by rw[z,a7]at hp8;cases hp8
 exists⟨a,_,dx,_,rfl,s8 _ _ a7,T.jW,T.j7,few3,?_⟩;generalize e9:upd H8 a _=H9;have k9:∀c u,c≠a->H8 c=some u->H9 c=some u:=fun c u n h=>e9▸(jh n).trans h
 have a9:=yg e9;clear e9;have w5:∀c u,c≠a->H5 c=some u->H9 c=some u:=fun c u n h=>k9 _ _ n (s8 _ _ (k7 _ _ n (k6 _ _ n h)))
 have w3:∀c u,c≠a->H3 c=some u->H9 c=some u:=fun c u n h=>w5 _ _ n (s5 _ _ (k4 _ _ n h))
 have z9:Same H0 H9:=fun c u h=>w5 _ _ (n0 h) (s5 _ _ (z4 _ _ h))
 have n8':∀{c u},H7 c=some u->c≠p8:=fun h=>jg h hp8
 exists⟨a,_,dx,_,_,rfl,a9,T.jW,T.Jy,(jJ (by decide +kernel)).trans ((jJ (by decide +kernel)).trans qK),?_⟩;exists⟨b,pl,pp,l5,las,pas,ls,ps,gs,rfl,B0.same z9,W,w5 _ _ n5 e5,gl,fun l10 as10 H10 s10 hl10 e10 ha10 na10=>?_⟩;have t10:H10 p8=some (.lst []):=s10 _ _ (k9 _ _ n8 t8);have a10:=s10 _ _ a9;have p10:H10 p3=_:=s10 _ _ (w3 _ _ np3 t3);have np38:p3≠p8:=n8' (k7 _ _ np3 (k6 _ _ np3 (s5 _ _ (k4 _ _ np3 t3))));have nl10:l10≠p8:=fun z=>by rw[z,k9 _ _ n8 t8]at hl10;cases hl10
 have pl10:=ha10.1;rw[length_map]at pl10;exists⟨l10,rfl,⟨_,SqL.of e10⟩,?_⟩;refine JI (xs:=as10.map V.ref) (fun i σ H'=>∃(o5:Option V) (pa:List Addr),σ=[some (.ref a),some (.ref b),some (.str x),some (.int (k:Nat)),some (.ref p3),o5]/\(∀c u,c≠p8->H10 c=some u->H' c=some u)/\H' p8=some (.lst (pa.map V.ref))/\(∀c∈pa,c≠p8)/\PssAt H' pa ((fPc ps gs (lvE E (k:Nat))).take i))
  ⟨_,[],rfl,fun c u _ h=>h,t10,(fun c h=>nomatch h),.nil⟩ ?_ ?_ ?_
 ·rintro i σ H' _ ⟨o5,pa,rfl,sm',e8,n8,hpa⟩;exact SqL.of (sm' _ _ nl10 e10)
 ·rintro i v σ H11 hv ⟨o5,pa,rfl,sm',e8,npa,hpa⟩;obtain⟨c0,qs,rfl,hq0,bs,hbs,hbq⟩:=ha10.at_ref hv;have c0m:c0∈as10:=by
   rw[List.getElem?_map]at hv;obtain⟨a',ea,e'⟩:=Option.map_eq_some_iff.mp hv;injection e' with e';subst e';exact List.mem_of_getElem? ea
  have nc0:c0≠p8:=fun z=>by have:=na10 c0 c0m;rw[z,k9 _ _ n8 t8]at this;cases this
  have nt8:∀{c:Addr} {xs:List V},H10 c=some (.tup xs)->c≠p8:=fun h=>Q5 h t10 (fun z=>by cases z)
  have hi:i<ps.length:=by
   have:=(List.getElem?_eq_some_iff.mp hq0).1;rw[length_map]at this;exact this
  rw[List.getElem?_map,List.getElem?_eq_getElem hi]at hq0;have eqs:qs=pcsI gs ps[i].2 (inP ps ps[i].2):=(Option.some.inj hq0).symm;have q8:qs.length<=8:=eqs▸kT (N.i8 (List.getElem?_eq_getElem hi));have qlt:∀y∈qs,y.1<ps.length:=fun y hy=>by
   have:y∈pcB ps gs i:=by unfold pcB;rw[List.getElem?_eq_getElem hi];rw[eqs]at hy;exact hy
   have:=Ki W this;omega
  have hbl:=hbq.1;have pal2:=hpa.1;rw[length_take]at pal2;have fpl:(fPc ps gs (lvE E (k:Nat))).length=ps.length:=length_map _;have efp:(fPc ps gs (lvE E (k:Nat)))[i]?=some (qs.filter fun q=>((lvE E (k:Nat)).getD q.1 none).isSome):=by
   unfold fPc;rw[List.getElem?_map,List.getElem?_eq_getElem hi,eqs];rfl
  exists⟨a,_,dx,_,_,rfl,sm' _ _ (Ne.symm n8) a10,T.jW,T.j7,qK,.inl ⟨rfl,_,SqL.of e8⟩,?_⟩;exists⟨c0,rfl,⟨_,SqL.of (sm' _ _ nc0 hbs)⟩,?_⟩;refine Je (xs:=bs.map V.ref) (fun j ys H''=>∃fb:List Addr,ys=fb.map V.ref/\fb.length<=j/\PcsAt H11 fb ((qs.take j).filter fun q=>((lvE E (k:Nat)).getD q.1 none).isSome)/\H11=H'') ⟨[],rfl,Nat.le_refl _,.nil,rfl⟩ ?_ ?_ ?_
  ·rintro j ys H'' _ ⟨fb,rfl,fl,hf,rfl⟩;exact SqL.of (sm' _ _ nc0 hbs)
  ·rintro j v ys H'' hv' ⟨fb,rfl,fl,hf,rfl⟩;obtain⟨c,y,rfl,hy,hc⟩:=hbq.at_ref hv';have hjl:=(List.getElem?_eq_some_iff.mp hy).1;have hc':H11 c=_:=sm' _ _ (nt8 hc) hc;have yl:=qlt y (List.mem_of_getElem? hy);have ey:(lvE E (k:Nat))[y.1]?=some ((lvE E (k:Nat)).getD y.1 none):=by rw[getD_eq_getElem?_getD,List.getElem?_eq_getElem (by omega)];rfl
   refine Jm (σ':=[none,some (.ref p3)]) rfl ?_;exists ixTm (SqT.of hc') rfl ?_;exists ixLm (SqL.of (sm' _ _ np38 p10)) (jD (j:=y.1) (by rw[List.getElem?_map,ey];rfl)) ?_;exists⟨rfl,?_⟩;refine⟨_,rfl,?_⟩;rw[notN];have ef:(qs.take (j+1)).filter (fun q=>((lvE E (k:Nat)).getD q.1 none).isSome)=((qs.take j).filter fun q=>((lvE E (k:Nat)).getD q.1 none).isSome)++(if((lvE E (k:Nat)).getD y.1 none).isSome=true then[y]else[]):=by
    rw[take_snoc hy,filter_append];congr 1;rw[filter_cons,filter_nil]
   cases eo:(lvE E (k:Nat)).getD y.1 none with
   | none=>
    rw[eo]at ef;refine iteF ?_;refine⟨fb,rfl,by omega,?_,rfl⟩;rw[ef];exact(append_nil _).symm▸hf
   | some h=>
    rw[eo]at ef;refine iteT ?_;exists⟨by rw[length_map];omega,fb++[c],by rw[map_append];rfl,by rw[List.length_append,length_singleton];omega,?_,rfl⟩;rw[ef];exact All2.snoc hf hc'
  rintro ys H'' ⟨fb,rfl,fl,hf,rfl⟩;rw[length_map]at fl hf;rw[hbl,take_length]at hf;refine⟨by rw[length_map];omega,?_⟩;walk_at"f 12 t";exists⟨p8,_,_,rfl,rfl,s12 _ _ e8,by rw[length_map];omega,?_⟩;have n12:p12≠p8:=(jg e8 hp12).symm;have nt12:∀{c:Addr} {xs:List V},H12 c=some (.tup xs)->c≠p8:=fun h=>Q5 h (s12 _ _ e8) (fun z=>by cases z)
  refine⟨some (.ref c0),pa++[p12],rfl,fun c u hc h=>(jh hc).trans (s12 _ _ (sm' _ _ hc h)),?_,fun c hc=>(mem_append.mp hc).elim (npa c) fun z=>by rw[mem_singleton.mp z];exact n12,?_⟩
  ·rw[jA,map_append];rfl
  ·rw[take_snoc efp];refine All2.snoc (All2.monoM hpa fun c hc e h=>?_) ⟨fb,(jh n12).trans t12,All2.mono hf fun b q h=>(jh (nt12 (s12 _ _ h))).trans (s12 _ _ h)⟩;obtain⟨bs',h1,h2⟩:=h;exact⟨bs',(jh (npa c hc)).trans (s12 _ _ h1),All2.mono h2 fun b q h=>(jh (nt12 (s12 _ _ h))).trans (s12 _ _ h)⟩
 rintro σ H11 ⟨o5,pa,rfl,sm',e8,npa,hpa⟩;rw[length_map,pl10,show(fPc ps gs (lvE E (k:Nat))).take ps.length=fPc ps gs (lvE E (k:Nat))from by rw[<-show(fPc ps gs (lvE E (k:Nat))).length=ps.length from length_map _,take_length]]at hpa;have S:=N.strand lE oE hk;have a11:=sm' _ _ (Ne.symm n8) a10;exists⟨a,_,dx,_,_,rfl,a11,T.jW,T.j7,qK,?_⟩;exists⟨a,_,dx,_,_,rfl,a11,T.jW,T.Jx,(jJ (by decide +kernel)).trans ((jJ (by decide +kernel)).trans ((jJ (by decide +kernel)).trans qK)),?_⟩;exists⟨p8,p3,pa,f,lvE E (k:Nat),gs,_,rfl,e8,hpa,sm' _ _ np38 p10,S,fun l13 ba Bt H13 s13' hl13 e13 fz ok=>?_⟩;exists⟨a,_,dx,_,rfl,s13' _ _ a11,T.jW,T.JW,few4,?_⟩;have n13:l13≠a:=fun z=>by rw[z,a11]at hl13;cases hl13
 have u13:∀c u,c≠a->H13 c=some u->upd H13 a (.ins t.jX dx (fldT ⟨l5,p3,p8,l13,pa,ba⟩ f)) c=some u:=fun c u n h=>(jh n).trans h
 have u9:∀c u,c≠a->c≠p8->H9 c=some u->upd H13 a (.ins t.jX dx (fldT ⟨l5,p3,p8,l13,pa,ba⟩ f)) c=some u:=fun c u n m h=>u13 _ _ n (s13' _ _ (sm' _ _ m (s10 _ _ h)))
 have nla:∀{c:Addr} {xs:List V},H13 c=some (.lst xs)->c≠a:=fun h=>Q5 h (s13' _ _ a11) (fun z=>by cases z)
 have nta:∀{c:Addr} {xs:List V},H13 c=some (.tup xs)->c≠a:=fun h=>Q5 h (s13' _ _ a11) (fun z=>by cases z)
 have nfa:∀{c:Addr} {o:Obj} {u:HO},H13 c=some (.frz o u)->c≠a:=fun h=>Q5 h (s13' _ _ a11) (fun z=>by cases z)
 have n58:l5≠p8:=n8' (k7 _ _ n5 (k6 _ _ n5 e5));have h7:∀c u,c≠a->H c=some u->H7 c=some u:=fun c u n h=>k7 _ _ n (k6 _ _ n (s5 _ _ (k4 _ _ n (s13 _ _ h))))
 refine q ⟨l5,p3,p8,l13,pa,ba⟩ E Bt _ (fun c u n h=>u9 _ _ n (n8' (h7 _ _ n h)) (w3 _ _ n (s13 _ _ h))) lE oE S ⟨⟨dx,jA⟩,u9 _ _ n5 n58 (w5 _ _ n5 e5),u9 _ _ np3 np38 (w3 _ _ np3 t3),u13 _ _ n8 (s13' _ _ e8),?_,u13 _ _ n13 e13,All2.mono fz fun c kvs ⟨o,h⟩=>⟨o,u13 _ _ (nfa h) h⟩⟩ ok;exact All2.mono hpa fun c e ⟨bs,h1,h2⟩=>⟨bs,u13 _ _ (nla (s13' _ _ h1)) (s13' _ _ h1),All2.mono h2 fun b q h=>u13 _ _ (nta (s13' _ _ h)) (s13' _ _ h)⟩
theorem y9(T:Txt K mg t)(jZ:FnOk P w K mg base CX0 1 t.JD t.JH ["named"] (sp_numbers_of))(Zg:FnOk P w K mg base CX0 3 t.yv t.yx ["book"] (sp_ends))(zb:FnOk P w K mg base CX0 5 t.zc t.zd ["book"] (sp_lengths))(qX:FnOk P w K mg base CX0 3 t.qY t.qZ ["book","sizes"] (sp_pieces_of)):FnOk P w K mg base CX0 6 t.Jt t.JS ["self","book"] (sp_initS t.Jc):=by
 refine T.Yo.ok Yh (fun vs H Q E h=>?_) (fun cdv A outer s H vs Q E hr h=>?_)
 ·cases h;subst_vars;rfl
 obtain⟨a,dx,b,pl,pp,las,pas,ls,ps,gs,hs,rfl,ha,B,N,q⟩:=h;refine⟨_,(jc (zu (pv 0) (jt (jZ.mono (by decide)) hr (by rfl) T.Q8 T.Qf.kp T.Q6 .nil pass0 (jb (jm jv (pv 1) jf) jd)) rfl)
  (jc (zu (pv 0) (Jj (ow:=["name","height"]) (ci:=[]) rfl (CompScope.of (defScope JX) ["self","book"] rfl rfl (by decide +kernel)) (kh (by decide) (by decide)) (jP (jm jv (pv 1) jf)) (fun _ _ _ _ _=>⟨(qb rfl (jy (jq (i:=0) (Ja ["self","book"] rfl (by decide +kernel)) rfl (.inl rfl)) (jy (jq (i:=1) (Ja ["self","book"] rfl (by decide +kernel)) rfl (.inl rfl)) Jk))),qB,(pv 1)⟩)) rfl)
  (jc (zu (pv 0) (Jj (ow:=["name","form"]) (ci:=[]) rfl (CompScope.of (defScope JX) ["self","book"] rfl rfl (by decide +kernel)) (kh (by decide) (by decide)) (jP (jm jv (pv 1) jf)) (fun _ _ _ _ _=>⟨(qb rfl (jy (jq (i:=0) (Ja ["self","book"] rfl (by decide +kernel)) rfl (.inl rfl)) (jy (jq (i:=1) (Ja ["self","book"] rfl (by decide +kernel)) rfl (.inl rfl)) Jk))),qB,(pv 1)⟩)) rfl)
  (jc (zu (pv 0) (jt (zb.mono (by decide)) hr (by rfl) T.K8 T.Yp.kp T.KJ .nil pass0 (jb (pv 1) jd)) rfl)
  (jc (zu (pv 0) (jt (Zg.mono (by decide)) hr (by rfl) T.Xp T.wF.kp T.xS .nil pass0 (jb (pv 1) jd)) rfl)
  (jk (zu (pv 0) (jt (qX.mono (by decide)) hr (by rfl) T.Y4 T.Zy.kp T.YQ .nil pass0 (jb (pv 1) (jb (JB (pv 0) rfl) jd))) rfl))))))),?_⟩
 refine jB (σ':=[some _,some _]) rfl ?_;have sz:(200:Nat)<sizeLine:=by decide
 have W:=N.s.w;have gl:=N.s.gl;have l8:=W.l8;have p61:=W.p61;have la:=B.la.1;have pal:=B.pa.1;obtain⟨H0,less,n0,B0⟩:=B.less ha;have z0:Same H0 H:=less H fun c u _ h=>h
 exists ixTm (SqT.of B.t) rfl ?_;exists⟨pl,las,nmsOf ls,rfl,B.l,by rw[nmsOf,length_map];exact la,fun i a x ea ex=>?_,W.ln,by rw[nmsOf,length_map];omega,fun d H1 s1 hd ed=>?_⟩
 ·unfold nmsOf at ex;rw[List.getElem?_map]at ex;obtain⟨p,ep,rfl⟩:=Option.map_eq_some_iff.mp ex;exact⟨_,B.la.2 i a p ea ep⟩
 exists⟨a,_,dx,[],rfl,s1 _ _ ha,T.Jd,T.qt,(by show 0<1000;decide),?_⟩;have nd:d≠a:=fun z=>by rw[z,ha]at hd;cases hd
 generalize e2:upd H1 a _=H2;have k2:∀c u,c≠a->H1 c=some u->H2 c=some u:=fun c u n h=>e2▸(jh n).trans h
 have a2:=yg e2;clear e2;have z2:Same H0 H2:=less H2 fun c u n h=>k2 _ _ n (s1 _ _ h)
 have B2:=B0.same z2;exists ixTm (SqT.of B2.t) rfl ?_;exists⟨pl,rfl,⟨_,SqL.of B2.l⟩,?_⟩;refine Je (xs:=las.map V.ref) (fun i ys H'=>ys=((ls.map (·.2)).take i).map V.int/\H2=H') ⟨rfl,rfl⟩ ?_ ?_ ?_
 ·rintro i ys H' _ ⟨rfl,rfl⟩;exact SqL.of B2.l
 ·rintro i v ys H' hv ⟨rfl,rfl⟩;obtain⟨a,p,rfl,hp,hat⟩:=B2.la.at_ref hv;have hi:=(List.getElem?_eq_some_iff.mp hp).1;refine Jm (σ':=[none,none]) rfl ?_;refine qT (SqT.of hat) ?_;exists iteT ?_;exists⟨by rw[length_map,length_take,length_map];omega,?_,rfl⟩;rw[take_snoc (show(ls.map (·.2))[i]?=some p.2 by rw[List.getElem?_map,hp];rfl),map_append];rfl
 rintro ys H' ⟨rfl,rfl⟩;rw[show(las.map V.ref).length=(ls.map (·.2)).length by rw[length_map,length_map];exact la,take_length];refine⟨by rw[length_map,length_map];omega,?_⟩;walk_at"f 3 t";exists⟨a,_,dx,_,rfl,s3 _ _ a2,T.Jd,T.qq,few (Jb _ _ _) (by decide),?_⟩;have n3:p3≠a:=fun z=>by rw[z,a2]at hp3;cases hp3
 generalize e4:upd H3 a _=H4;have k4:∀c u,c≠a->H3 c=some u->H4 c=some u:=fun c u n h=>e4▸(jh n).trans h
 have a4:=yg e4;clear e4;have z4:Same H0 H4:=fun c u h=>k4 _ _ (n0 h) (s3 _ _ (z2 _ _ h))
 have B4:=B0.same z4;exists ixTm (SqT.of B4.t) rfl ?_;exists⟨pp,rfl,⟨_,SqL.of B4.p⟩,?_⟩;refine Je (xs:=pas.map V.ref) (fun i ys H'=>∃fbs:List Addr,ys=fbs.map V.ref/\All2 (fun a p=>FormAt H4 a p.2) fbs (ps.take i)/\H4=H') ⟨[],rfl,.nil,rfl⟩ ?_ ?_ ?_
 ·rintro i ys H' _ ⟨fbs,rfl,af,rfl⟩;exact SqL.of B4.p
 ·rintro i v ys H' hv ⟨fbs,rfl,af,rfl⟩;obtain⟨a',p,rfl,hp,fb,hat,hf⟩:=B4.pa.at_ref hv;have hi:=(List.getElem?_eq_some_iff.mp hp).1;have afl:=af.1;rw[length_take]at afl;refine Jm (σ':=[none,none]) rfl ?_;refine qT (SqT.of hat) ?_;exists iteT ?_;exists⟨by rw[length_map];omega,fbs++[fb],by rw[map_append];rfl,?_,rfl⟩;rw[take_snoc hp];exact All2.snoc af hf
 rintro ys H' ⟨fbs,rfl,af,rfl⟩;rw[length_map,pal,take_length]at af;have fl:=af.1;refine⟨by rw[length_map];omega,?_⟩;walk_at"f 5 t";exists⟨a,_,dx,_,rfl,s5 _ _ a4,T.Jd,T.qr,Nat.lt_of_le_of_lt (Jb _ _ _) (Nat.lt_of_le_of_lt (Nat.succ_le_succ (Jb _ _ _)) (by decide)),?_⟩;have n5:p5≠a:=fun z=>by rw[z,a4]at hp5;cases hp5
 generalize e6:upd H5 a _=H6;have k6:∀c u,c≠a->H5 c=some u->H6 c=some u:=fun c u n h=>e6▸(jh n).trans h
 have a6:=yg e6;clear e6;have z6:Same H0 H6:=fun c u h=>k6 _ _ (n0 h) (s5 _ _ (z4 _ _ h))
 exists⟨b,pl,pp,las,pas,ls,ps,gs,hs,rfl,B0.same z6,N.s,fun l7 H7 s7 hl7 e7=>?_⟩;exists⟨a,_,dx,_,rfl,s7 _ _ a6,T.Jd,T.j9,few3,?_⟩;have n7:l7≠a:=fun z=>by rw[z,a6]at hl7;cases hl7
 generalize e8:upd H7 a _=H8;have k8:∀c u,c≠a->H7 c=some u->H8 c=some u:=fun c u n h=>e8▸(jh n).trans h
 have a8:=yg e8;clear e8;have z8:Same H0 H8:=fun c u h=>k8 _ _ (n0 h) (s7 _ _ (z6 _ _ h))
 exists⟨b,pl,pp,las,pas,ls,ps,rfl,B0.same z8,W,fun l9 as E H9 s9 hl9 e9 na lE aE oE=>?_⟩;exists⟨a,_,dx,_,rfl,s9 _ _ a8,T.Jd,T.qG,few4,?_⟩;have n9:l9≠a:=fun z=>by rw[z,a8]at hl9;cases hl9
 generalize e10:upd H9 a _=H10;have k10:∀c u,c≠a->H9 c=some u->H10 c=some u:=fun c u n h=>e10▸(jh n).trans h
 have a10:=yg e10;clear e10;have z10:Same H0 H10:=fun c u h=>k10 _ _ (n0 h) (s9 _ _ (z8 _ _ h))
 have w7:∀c u,c≠a->H7 c=some u->H10 c=some u:=fun c u n h=>k10 _ _ n (s9 _ _ (k8 _ _ n h))
 exists⟨a,_,dx,_,_,rfl,a10,T.Jd,T.j9,(jJ (by decide +kernel)).trans qK,?_⟩;exists⟨b,pl,pp,l7,las,pas,ls,ps,gs,rfl,B0.same z10,W,w7 _ _ n7 e7,gl,fun l11 as11 H11 s11 hl11 e11 ha11 _=>?_⟩;exists⟨a,_,dx,_,rfl,s11 _ _ a10,T.Jd,T.JV,few5,?_⟩;have n11:l11≠a:=fun z=>by rw[z,a10]at hl11;cases hl11
 have k12:∀c u,c≠a->H11 c=some u->upd H11 a (.ins t.Jc dx (fldS ⟨d,p3,p5,l7,l9,l11,fbs,as,as11⟩)) c=some u:=fun c u n h=>(jh n).trans h
 have u9:∀c u,c≠a->H9 c=some u->upd H11 a (.ins t.Jc dx (fldS ⟨d,p3,p5,l7,l9,l11,fbs,as,as11⟩)) c=some u:=fun c u n h=>k12 _ _ n (s11 _ _ (k10 _ _ n h))
 have u7:∀c u,c≠a->H7 c=some u->_=some u:=fun c u n h=>u9 _ _ n (s9 _ _ (k8 _ _ n h))
 have u5:∀c u,c≠a->H5 c=some u->_=some u:=fun c u n h=>u7 _ _ n (s7 _ _ (k6 _ _ n h))
 have u3:∀c u,c≠a->H3 c=some u->_=some u:=fun c u n h=>u5 _ _ n (s5 _ _ (k4 _ _ n h))
 have u1:∀c u,c≠a->H1 c=some u->_=some u:=fun c u n h=>u3 _ _ n (s3 _ _ (k2 _ _ n h))
 have nq:∀{c:Addr} {xs:List V},H11 c=some (.lst xs)->c≠a:=fun h z=>by rw[z,s11 _ _ a10]at h;cases h
 have nqt:∀{c:Addr} {xs:List V},H11 c=some (.tup xs)->c≠a:=fun h z=>by rw[z,s11 _ _ a10]at h;cases h
 have nt:∀{c:Addr} {xs:List V},H9 c=some (.tup xs)->c≠a:=fun h z=>by rw[z,s9 _ _ a8]at h;cases h
 have nl:∀{c:Addr} {xs:List V},H9 c=some (.lst xs)->c≠a:=fun h z=>by rw[z,s9 _ _ a8]at h;cases h
 have n4t:∀{c:Addr} {xs:List V},H4 c=some (.tup xs)->c≠a:=fun h z=>by rw[z,a4]at h;cases h
 exact q ⟨d,p3,p5,l7,l9,l11,fbs,as,as11⟩ E _ (fun c u n h=>u1 _ _ n (s1 _ _ h)) ⟨⟨dx,jA⟩,u1 _ _ nd ed,u3 _ _ n3 t3,u5 _ _ n5 t5,All2.mono af fun c p h=>FormAt.put (fun b xs hb=>u5 _ _ (n4t hb) (s5 _ _ hb)) h,u7 _ _ n7 e7,u9 _ _ n9 e9,lE,
  All2.mono aE fun c e ⟨bs,h1,h2⟩=>⟨bs,u9 _ _ (nl h1) h1,All2.mono h2 fun b q h=>u9 _ _ (nt h) h⟩,oE,k12 _ _ n11 e11,All2.mono ha11 fun c e ⟨bs,h1,h2⟩=>⟨bs,k12 _ _ (nq h1) h1,All2.mono h2 fun b q h=>k12 _ _ (nqt h) h⟩⟩
theorem j3s(T:Txt K mg t):FnOk P w K mg base CX0 1 t.kD t.kJ ["start","goal","beats","j"] (Pr.j0e):=by
 refine T.j1b.ok j3I (fun vs H Q E h=>?_) (fun cdv A outer s H vs Q E hr h=>?_)
 ·obtain⟨s0,g,b,j,rfl,hb,q⟩:=h;rfl
 obtain⟨s0,g,b,j,rfl,hb,q⟩:=h;refine⟨_,(jk (jC (ju jY (pv 0) (ju ql (ju qy (ju Qt (pv 1) (pv 0)) (pv 3)) (pv 2))))),?_⟩;refine jB (σ':=[some _,some _,some _,some _]) rfl ?_;unfold Pr.B4 at hb;walk_at"g";exact q
theorem xy(T:Txt K mg t):FnOk P w K mg base CX0 1 t.zj t.zn ["pieces","sizes","gone"] (sp_progress):=by
 refine T.kB.ok qE (fun vs H Q E h=>?_) (fun cdv A outer s H vs Q E hr h=>?_)
 ·cases h;subst_vars;rfl
 obtain⟨l,s0,t0,bs,qs,gs,rfl,el,hq,es,q8,ok,t1,t2,q⟩:=h;refine⟨_,(jc (jr (i:=3) qE.nd rfl (.inl rfl) (jR jd))
  (jc (Jh PassesOwn.never rfl (jP (pv 0)) (qb rfl (jy (jq (i:=4) qE.nd rfl (.inl rfl)) (jy (jq (i:=5) qE.nd rfl (.inl rfl)) (jy (jq (i:=6) qE.nd rfl (.inl rfl)) Jk))))
   (jk (Jl (jw j04 (pv 6) (pv 2) (nomark _))
    (jc (jr (i:=7) qE.nd rfl (.inl rfl) (jH (Z3 rfl) (by rfl) T.WW kE (jb (ju ql (ju Qt (pv 2) (pv 6)) (jm jx (pv 1) (pv 4))) (jb (pv 5) jd))))
    (jc (jr (i:=8) qE.nd rfl (.inl rfl) (Ya (jw wp (pv 7) (pv 5) (nomark _)) (ju Qt (ju Qt (pv 2) (pv 6)) (ju qy (pv 7) (jm jx (pv 1) (pv 4)))) Qu))
    (jk (j8 (qI PySem.F.plainAttrs_list PySem.F.slot_list_append PySem.F.type_list_append jS (pv 3) (jb (jI (jb (pv 4) (jb (pv 6) (jb (pv 7) (jb (pv 8) jd))))) jd))))))
    jG)))
  (jk (jC (pv 3))))),?_⟩
 refine jB (σ':=[some _,some _,some _,none,none,none,none,none,none]) rfl ?_;have sz:(10000:Nat)<sizeLine:=by decide
 have gat:∀j,j<gs.length->gs[j]?=some (gs.getD j 0):=fun j h=>by
  rw[getD_eq_getElem?_getD,List.getElem?_eq_getElem h];rfl
 have bl:=hq.1;exists⟨Nat.zero_le _,?_⟩;walk_at"f p hp H1 s1 e1";have np:∀{c u},H c=some u->c≠p:=fun h=>jg h hp
 exists⟨l,rfl,⟨_,SqL.of (s1 _ _ el)⟩,?_⟩;refine JI (xs:=bs.map V.ref) (fun i σ H'=>∃(o4 o5 o6 o7 o8:Option V) (as:List Addr),σ=[some (.ref l),some (.ref s0),some (.int t0),some (.ref p),o4,o5,o6,o7,o8]/\Same H H'/\H' p=some (.lst (as.map V.ref))/\as.length<=i/\PrgAt H' as (prg gs t0 (qs.take i)))
  ⟨_,_,_,_,_,[],rfl,s1,e1,Nat.le_refl _,.nil⟩ ?_ ?_ ?_
 ·rintro i σ H' _ ⟨o4,o5,o6,o7,o8,as,rfl,sm,ep,la,ha⟩;exact SqL.of (sm _ _ el)
 ·rintro i v σ H' hv ⟨o4,o5,o6,o7,o8,as,rfl,sm,ep,la,ha⟩;obtain⟨c,x,rfl,hx,hc⟩:=hq.at_ref hv;have hi:=(List.getElem?_eq_some_iff.mp hx).1;have okx:=ok x (List.mem_of_getElem? hx);have okx':=okx;obtain⟨x1,g1,g2,n1,n2,b1,b2⟩:=okx';have more:prg gs t0 (qs.take (i+1))=prg gs t0 (qs.take i)++(prg1 gs t0 x).toList:=by
   rw[take_snoc hx];unfold prg;rw[List.filterMap_append];congr 1
  refine XD (SqT.of (sm _ _ hc)) ?_;exists iteD (fun c1=>?_) (fun c1=>?_)
  ·have ovb:=j1Z okx c1;exists ixLm (SqL.of (sm _ _ es)) (jD (j:=x.1) (by rw[List.getElem?_map,gat _ x1];rfl)) ?_;walk_at"g";have eo:(if x.2.1<(t0-x.2.2)/gs.getD x.1 0 then x.2.1 else(t0-x.2.2)/gs.getD x.1 0)=ov gs t0 x:=rfl;have eo2:(if(t0-x.2.2)/gs.getD x.1 0>x.2.1 then x.2.1 else(t0-x.2.2)/gs.getD x.1 0)=ov gs t0 x:=rfl;refine⟨_,_,rfl,?_⟩;rw[eo];exists iteD (fun c2=>?_) (fun c2=>?_)
   ·exists ixLm (SqL.of (sm _ _ es)) (jD (j:=x.1) (by rw[List.getElem?_map,gat _ x1];rfl)) ?_;exists⟨.inl ⟨rfl,_,SqL.of ep⟩,?_⟩;exists⟨(by show 4<=sizeLine;omega),?_⟩;walk_at"f 2 e";exists⟨p,_,_,rfl,rfl,s2 _ _ ep,by rw[length_map];omega,?_⟩;have n2':p2≠p:=fun z=>by rw[z,s2 _ _ ep]at e2;cases e2
    refine⟨_,_,_,_,_,as++[p2],rfl,fun c u h=>(jh (np h)).trans (s2 _ _ (sm _ _ h)),by rw[jA,map_append];rfl,by rw[List.length_append];show as.length+1<=_;omega,?_⟩;have e1':prg1 gs t0 x=some (x.1,x.2.2,ov gs t0 x,some (t0-x.2.2-ov gs t0 x*gs.getD x.1 0)):=by
     unfold prg1;rw[if_pos c1,if_pos c2]
    rw[more,e1'];refine All2.snoc (All2.mono ha fun c y h=>?_) ((jh n2').trans e2);exact(jh (fun z=>by rw[z,ep]at h;cases h)).trans (s2 _ _ h)
   ·exists⟨.inl ⟨rfl,_,SqL.of ep⟩,?_⟩;exists⟨(by show 4<=sizeLine;omega),?_⟩;walk_at"f 2 e";exists⟨p,_,_,rfl,rfl,s2 _ _ ep,by rw[length_map];omega,?_⟩;have n2':p2≠p:=fun z=>by rw[z,s2 _ _ ep]at e2;cases e2
    refine⟨_,_,_,_,_,as++[p2],rfl,fun c u h=>(jh (np h)).trans (s2 _ _ (sm _ _ h)),by rw[jA,map_append];rfl,by rw[List.length_append];show as.length+1<=_;omega,?_⟩;have e1':prg1 gs t0 x=some (x.1,x.2.2,ov gs t0 x,none):=by
     unfold prg1;rw[if_pos c1,if_neg c2]
    rw[more,e1'];refine All2.snoc (All2.mono ha fun c y h=>?_) ((jh n2').trans e2);exact(jh (fun z=>by rw[z,ep]at h;cases h)).trans (s2 _ _ h)
  ·exists⟨_,_,_,_,_,as,rfl,sm,ep,by omega,?_⟩;have e1':prg1 gs t0 x=none:=by
    unfold prg1;rw[if_neg c1]
   rw[more,e1'];show PrgAt H' as (_++[]);rw[append_nil];exact ha
 rintro σ' H' ⟨o4,o5,o6,o7,o8,as,rfl,sm,ep,la,ha⟩;rw[length_map,bl,take_length]at ha;walk_at"g";exact q p as H' sm hp ep ha
theorem j0S(T:Txt K mg t)(yu:FnOk P w K mg base CX0 1 t.zj t.zn ["pieces","sizes","gone"] (sp_progress)):FnOk P w K mg base CX0 2 t.ZH t.ZL ["pieces","sizes","gone"] (sp_within):=by
 refine T.WT.ok ze (fun vs H Q E h=>?_) (fun cdv A outer s H vs Q E hr h=>?_)
 ·cases h;subst_vars;rfl
 obtain⟨l,s0,t0,bs,qs,gs,rfl,el,hq,es,q8,ok,t1,t2,q⟩:=h;refine⟨_,(jc (jr (i:=3) ze.nd rfl (.inl rfl) (jR jd))
  (jc (Jh PassesOwn.never rfl (jP (jt (yu.mono (by decide)) hr (by rfl) T.Xr T.kB.kp T.xU .nil pass0 (jb (pv 0) (jb (pv 1) (jb (pv 2) jd))))) (qb rfl (jy (jq (i:=4) ze.nd rfl (.inl rfl)) (jy (jq (i:=5) ze.nd rfl (.inl rfl)) (jy (jq (i:=6) ze.nd rfl (.inl rfl)) (jy (jq (i:=7) ze.nd rfl (.inl rfl)) Jk)))))
   (jc (zw (jw yk (pv 6) jf (nomark _))
    (jk (j8 (qI PySem.F.plainAttrs_list PySem.F.slot_list_append PySem.F.type_list_append jS (pv 3) (jb (jI (jb (pv 4) (jb (jm jx (pv 1) (pv 4)) jd))) jd))))
    jG)
   (jk (Jl (jw Z7 (pv 7) Qu (nomark _))
    (jk (j8 (qI PySem.F.plainAttrs_list PySem.F.slot_list_append PySem.F.type_list_append jS (pv 3) (jb (jI (jb (pv 4) (jb (pv 7) jd))) jd))))
    jG))))
  (jk (jC (pv 3))))),?_⟩
 refine jB (σ':=[some _,some _,some _,none,none,none,none,none]) rfl ?_;have sz:(10000:Nat)<sizeLine:=by decide
 have gat:∀j,j<gs.length->gs[j]?=some (gs.getD j 0):=fun j h=>by
  rw[getD_eq_getElem?_getD,List.getElem?_eq_getElem h];rfl
 exists⟨Nat.zero_le _,?_⟩;walk_at"f p hp H1 s1 e1";have np:∀{c u},H c=some u->c≠p:=fun h=>jg h hp
 exists⟨l,s0,t0,bs,qs,gs,rfl,s1 _ _ el,All2.mono hq fun c x h=>s1 _ _ h,s1 _ _ es,q8,ok,t1,t2,fun l2 as2 H2 s2 hl2 e2 ha2=>?_⟩;have lpr:=X8 (gs:=gs) (t:=t0) qs;have al2:=ha2.1;have n2p:l2≠p:=fun z=>by rw[z,e1]at hl2;cases hl2
 have e12:=s2 _ _ e1;exists⟨l2,rfl,⟨_,SqL.of e2⟩,?_⟩;refine JI (xs:=as2.map V.ref) (fun i σ H'=>∃(o4 o5 o6 o7:Option V) (as:List Addr),σ=[some (.ref l),some (.ref s0),some (.int t0),some (.ref p),o4,o5,o6,o7]/\(∀c u,c≠p->H2 c=some u->H' c=some u)/\H' p=some (.lst (as.map V.ref))/\as.length<=2*i/\GonAt H' as (((prg gs t0 qs).take i).flatMap (wth1 gs)))
  ⟨_,_,_,_,[],rfl,fun c u _ h=>h,e12,Nat.le_refl _,.nil⟩ ?_ ?_ ?_
 ·rintro i σ H' _ ⟨o4,o5,o6,o7,as,rfl,sm,ep,la,ha⟩;exact SqL.of (sm _ _ n2p e2)
 ·rintro i v σ H' hv ⟨o4,o5,o6,o7,as,rfl,sm,ep,la,ha⟩;obtain⟨c,y,rfl,hy,hc⟩:=ha2.at_ref hv;have hi:=(List.getElem?_eq_some_iff.mp hy).1;have ncp:c≠p:=fun z=>by rw[z,e12]at hc;cases hc
  obtain⟨x,hx,ex⟩:=Wf (List.mem_of_getElem? hy);have y1:y.1<gs.length:=by rw[xB ex];exact(ok x hx).1
  have more:((prg gs t0 qs).take (i+1)).flatMap (wth1 gs)=((prg gs t0 qs).take i).flatMap (wth1 gs)++wth1 gs y:=by
   rw[take_snoc hy,List.flatMap_append,flatMap_cons,List.flatMap_nil,append_nil]
  have es':H' s0=some (.lst (gs.map V.int)):=sm _ _ (np es) (s2 _ _ (s1 _ _ es));refine j4E (SqT.of (sm _ _ ncp hc)) ?_;exists⟨fun σ' H3=>∃as3:List Addr,σ'=[some (.ref l),some (.ref s0),some (.int t0),some (.ref p),some (.int (y.1:Nat)),some (.int y.2.1),some (.int y.2.2.1),some (optV y.2.2.2)]/\(∀c u,c≠p->H' c=some u->H3 c=some u)/\H3 p=some (.lst (as3.map V.ref))/\as3.length<=2*i+1/\GonAt H3 as3 (((prg gs t0 qs).take i).flatMap (wth1 gs)++(if 0<y.2.2.1 then[(y.1,gs.getD y.1 0)]else[])),?_,?_⟩
  rotate_left
  ·exists iteD (fun c1=>?_) (fun c1=>?_)
   ·exists⟨.inl ⟨rfl,_,SqL.of ep⟩,?_⟩;exists ixLm (SqL.of es') (jD (j:=y.1) (by rw[List.getElem?_map,gat _ y1];rfl)) ?_;exists⟨(by show 2<=sizeLine;omega),?_⟩;walk_at"f p2 hp2 H3 s3 e3";exists⟨p,_,_,rfl,rfl,s3 _ _ ep,by rw[length_map];omega,?_⟩;have n2':p2≠p:=fun z=>by rw[z,s3 _ _ ep]at e3;cases e3
    refine⟨as++[p2],rfl,fun c u hc h=>(jh hc).trans (s3 _ _ h),by rw[jA,map_append];rfl,by rw[List.length_append];show as.length+1<=_;omega,?_⟩;rw[if_pos c1];refine All2.snoc (All2.mono ha fun c y h=>?_) ((jh n2').trans e3);exact(jh (fun z=>by rw[z,ep]at h;cases h)).trans (s3 _ _ h)
   ·exists⟨as,rfl,fun c u _ h=>h,ep,by omega,?_⟩;rw[if_neg c1,append_nil];exact ha
  rintro σ' H3 ⟨as3,rfl,sm3,ep3,la3,ha3⟩;have fin:wth1 gs y=(if 0<y.2.2.1 then[(y.1,gs.getD y.1 0)]else[])++(match y.2.2.2 with | some r=>[(y.1,r)] | none=>[]):=rfl;cases er:y.2.2.2 with
  | none=>
   exists⟨rfl,_,rfl,?_⟩;refine iteB0 (by simp[optV]) ?_;exists⟨_,_,_,_,as3,rfl,fun c u hc h=>sm3 _ _ hc (sm _ _ hc h),ep3,by omega,?_⟩;rw[more,fin,er,append_nil];exact ha3
  | some r=>
   exists⟨rfl,_,rfl,?_⟩;refine iteB1 (by simp[optV]) ?_;exists⟨.inl ⟨rfl,_,SqL.of ep3⟩,?_⟩;exists⟨(by show 2<=sizeLine;omega),?_⟩;walk_at"f p2 hp2 H4 s4 e4";exists⟨p,_,_,rfl,rfl,s4 _ _ ep3,by rw[length_map];omega,?_⟩;have n2':p2≠p:=fun z=>by rw[z,s4 _ _ ep3]at e4;cases e4
   refine⟨_,_,_,_,as3++[p2],rfl,fun c u hc h=>(jh hc).trans (s4 _ _ (sm3 _ _ hc (sm _ _ hc h))),by rw[jA,map_append];rfl,by rw[List.length_append];show as3.length+1<=_;omega,?_⟩;rw[more,fin,er,<-List.append_assoc];refine All2.snoc (All2.mono ha3 fun c y h=>?_) ((jh n2').trans e4);exact(jh (fun z=>by rw[z,ep3]at h;cases h)).trans (s4 _ _ h)
 rintro σ' H' ⟨o4,o5,o6,o7,as,rfl,sm,ep,la,ha⟩;rw[length_map,al2,take_length]at ha;walk_at"g";exact q p as H' (fun c u h=>sm _ _ (np h) (s2 _ _ (s1 _ _ h))) hp ep ha
theorem Ke(T:Txt K mg t)(kC:FnOk P w K mg base CX0 2 t.ZH t.ZL ["pieces","sizes","gone"] (sp_within)):FnOk P w K mg base CX0 3 t.qL t.qN ["self","beat"] (sp_sceneS t.Jc):=by
 refine T.Kz.ok Jz (fun vs H Q E h=>?_) (fun cdv A outer s H vs Q E hr h=>?_)
 ·cases h;subst_vars;rfl
 obtain⟨a,z,ls,ps,gs,hs,E,t0,rfl,A,N,t1,t2,q⟩:=h;refine⟨_,(jc (Jl (XC (j26 j04 j04 jf (pv 1) (jm jx (JB (pv 0) rfl) (ym zT jf))))
   (jk Yd)
   jG)
  (jc (jr (i:=2) Jz.nd rfl (.inl rfl) (Qc wM (by rfl) T.j1h XS (jb (JB (pv 0) rfl) jd)))
  (jc (jr (i:=3) Jz.nd rfl (.inl rfl) (jR jd))
  (jc (jr (i:=4) Jz.nd rfl (.inl rfl) (jR (jb (jI (jb (ju Qt (jH Jg (by rfl) T.Qy qw (jb (JB (pv 0) rfl) jd)) jf) (jb (pv 1) jd))) jd)))
  (jc (j25 PassesOwn.never (j27 (pv 4) (fun _=>rfl))
   (jc (jr (i:=5) Jz.nd rfl (.inl rfl) (j20 PySem.F.plainAttrs_list PySem.F.slot_list_pop PySem.F.type_list_pop j4r (pv 4)))
   (jk (Jl (jw wp (jm jv (pv 5) jf) (jm jx (JB (pv 0) rfl) (jm jv (pv 5) jf)) (nomark _))
    (jc (j8 (qI PySem.F.plainAttrs_list PySem.F.slot_list_append PySem.F.type_list_append jS (pv 3) (jb (pv 5) jd)))
    (jk (j8 (qI PySem.F.plainAttrs_list PySem.F.slot_list_extend PySem.F.type_list_extend j0M (pv 4) (jb (j4z (jt (kC.mono (by decide)) hr (by rfl) T.j1J T.WT.kp T.j1a .nil pass0 (jb (jm jx (JB (pv 0) rfl) (jm jv (pv 5) jf)) (jb (JB (pv 0) rfl) (jb (jm jv (pv 5) jf) jd)))) (Zo (ym zT jf))) jd)))))
    (jk (Jh PassesOwn.never rfl (jP (jm jx (JB (pv 0) rfl) (jm jv (pv 5) jf))) (qb rfl (jy (jq (i:=6) Jz.nd rfl (.inl rfl)) (jy (jq (i:=7) Jz.nd rfl (.inl rfl)) Jk)))
     (jk (Kk (pv 7) (Xz (pv 2) (pv 6) set_list)))))))))
  (jk (jC (jI (jb (pv 2) (jb (pv 3) jd)))))))))),?_⟩
 refine jB (σ':=[some _,some _,none,none,none,none,none,none]) rfl ?_;have sz:(10000:Nat)<sizeLine:=by decide
 have W:=N.s.w;have gl:=N.s.gl;have ne:=N.ne;have p61:=W.p61;have lE:=A.el;have M8:∀i,i<ps.length->(hs.getD i []).length<=8:=fun i hi=>j3i W N.hl N.m (kQ N.s N.hl hi)
 have glast:atI (gs.map V.int) (-1)=some (.int (gs.getD (ps.length-1) 0)):=XR (by omega) (by rw[gl]);have gat:∀j,j<ps.length->gs[j]?=some (gs.getD j 0):=fun j h=>N.j1D h
 obtain⟨dx,ob⟩:=A.ob;exists iteD (fun _=>?_) (fun c=>absurd t1 c);exists⟨a,_,dx,_,_,rfl,ob,T.Jd,T.j9,Z5,?_⟩;exists ixLm (SqL.of A.hs) (glast) ?_;exists iteN (fun z=>absurd t2 z) (fun _=>?_);exists⟨a,_,dx,_,_,rfl,ob,T.Jd,T.qq,j0u,?_⟩;exists⟨z.f,_,rfl,.inl (SqL.of A.hf),?_⟩;walk_at"f 1 e";exists⟨Nat.zero_le _,?_⟩;walk_at"f 2 e";have s12:=s1.trans s2;exists⟨a,_,dx,_,_,rfl,s12 _ _ ob,T.Jd,T.j9,Z5,?_⟩;exists⟨_,_,rfl,.inl ⟨_,SqL.of (s12 _ _ A.hs),rfl⟩,?_⟩;rw[length_map,gl];exists⟨(by show 2<=sizeLine;omega),?_⟩;walk_at"f 3 e";exists⟨(by show 1<=sizeLine;omega),?_⟩;walk_at"f 4 e";rw[show((ps.length:Nat):Int)-1=((ps.length-1:Nat):Int) by omega]at e3;have s13:=s12.trans s3;have s14:=s13.trans s4;have n12:p1≠p2:=jg e1 hp2;have n14:p1≠p4:=jg (s3 _ _ (s2 _ _ e1)) hp4;have n24:p2≠p4:=jg (s3 _ _ e2) hp4;have m1:∀{c u},H c=some u->c≠p1:=fun h=>jg h hp1
 have m2:∀{c u},H c=some u->c≠p2:=fun h=>jg (s1 _ _ h) hp2
 have m4:∀{c u},H c=some u->c≠p4:=fun h=>jg (s13 _ _ h) hp4
 have root:=N.nodes M8 (i:=ps.length-1) (t:=t0) (by omega) t1;have b18:∀h∈ls.map (·.2),0<=h/\h<=10^18:=fun h hh=>by
  obtain⟨q0,hq0,rfl⟩:=mem_map.mp hh;exact N.l18 q0 hq0
 exists⟨fun m σ H'=>∃(o5 o6 o7:Option V) (pas tas:List Addr) (D P S:List (Nat×Int)),σ=[some (.ref a),some (.int t0),some (.ref p1),some (.ref p2),some (.ref p4),o5,o6,o7]/\ScAt ls ps gs E t0 H H' p1 p2 p4 pas tas D P S/\m=(S.map fun x=>nodes ps gs x.1 x.2).sum,
  ⟨_,none,none,none,[],[p3],[],[],[(ps.length-1,t0)],rfl,⟨s14,s4 _ _ (s3 _ _ (s2 _ _ e1)),s4 _ _ (s3 _ _ e2),e4,.nil,All2.snoc (as:=[]) (xs:=[]) .nil (s4 _ _ e3),by simp,fun x hx=>by rw[mem_singleton.mp hx];exact⟨by show ps.length-1<_;omega,t1⟩,rfl,(fun x hx=>nomatch hx),by simpa using root,by show(ls.map (·.2)).length=_;rw[length_map],b18⟩,rfl⟩,?_⟩
 rintro m σ H' ⟨o5,o6,o7,pas,tas,D,P,S,rfl,Sc,rfl⟩;obtain⟨sm,e1',e2',eT,gP,gT,inv,hS,hP,bP,bnd,ll,hb⟩:=Sc;have slen:S.length<=(S.map fun x=>nodes ps gs x.1 x.2).sum:=j2u fun x _=>wg (ps:=ps) (gs:=gs) x.1 x.2
 have pl:=gP.1;have tl:=gT.1;exists⟨_,.inl ⟨_,SqL.of eT,rfl⟩,?_⟩;rcases List.eq_nil_or_concat S with rfl | ⟨S0,x,rfl⟩
 ·have et:tas=[]:=List.length_eq_zero_iff.mp tl;subst et;refine iteF ?_;walk_at"g";rw[show([]:List (Nat×Int)).reverse.flatMap (fun x=>reach ps gs x.1 x.2)=[]from rfl,append_nil]at inv;subst inv;have b0:([].map fun x:Nat×Int=>nodes ps gs x.1 x.2).sum=0:=rfl;refine⟨(by show 2<=sizeLine;omega),?_⟩;walk_at"f 5 e";exact q p5 p1 p2 pas P H5 (sm.trans s5) hp1 (none_of s1 hp2) e5 (s5 _ _ e1') ll hb (s5 _ _ e2') n12 (All2.mono gP fun c y h=>s5 _ _ h) (by omega) bP hP
 rw[List.concat_eq_append]at *;obtain⟨tas0,ax,rfl,gT0,hax⟩:=All2.last gT;rw[map_append]at eT|-;refine iteB1 (by simp) ?_;obtain⟨x1,x2⟩:=hS x (mem_append_right _ mem_cons_self);have hS0:∀y∈S0,y.1<ps.length/\0<=y.2:=fun y hy=>hS y (mem_append_left _ hy)
 rw[List.reverse_append,List.flatMap_append,map_append,sum_append]at *;have nd1:=wg (ps:=ps) (gs:=gs) x.1 x.2;have esum:([x].map fun x:Nat×Int=>nodes ps gs x.1 x.2).sum=nodes ps gs x.1 x.2:=by simp
 have eflat:([x].reverse.flatMap fun x=>reach ps gs x.1 x.2)=reach ps gs x.1 x.2:=by simp
 rw[esum]at slen bnd|-;have s0l:S0.length<=5000:=by rw[List.length_append]at slen;omega
 have t0l:=gT0.1;rw[eflat]at inv;refine⟨fun σ H'=>∃(o5 o6 o7:Option V) (pas tas:List Addr) (D P S:List (Nat×Int)),σ=[some (.ref a),some (.int t0),some (.ref p1),some (.ref p2),some (.ref p4),o5,o6,o7]/\ScAt ls ps gs E t0 H H' p1 p2 p4 pas tas D P S/\(S.map fun x=>nodes ps gs x.1 x.2).sum<(S0.map fun x=>nodes ps gs x.1 x.2).sum+nodes ps gs x.1 x.2,
  fun σ' H' ⟨o5,o6,o7,pas,tas,D,P,S,h1,h2,h3⟩=>⟨_,h3,o5,o6,o7,pas,tas,D,P,S,h1,h2,rfl⟩,?_⟩
 exists⟨.inl ⟨rfl,_,SqL.of eT⟩,?_⟩;refine⟨p4,_,.ref ax,rfl,rfl,eT,by simp,?_⟩;rw[show((tas0.map V.ref)++[ax].map V.ref).dropLast=tas0.map V.ref by simp];have naT:∀{c:Addr} {xs:List V},H' c=some (.tup xs)->c≠p4:=fun h z=>by rw[z,eT]at h;cases h
 have s5:Same H (upd H' p4 (.lst (tas0.map V.ref))):=fun c u h=>(jh (m4 h)).trans (sm _ _ h)
 have eT5:upd H' p4 (.lst (tas0.map V.ref)) p4=some (.lst (tas0.map V.ref)):=jA;have e15:=(jh (o:=HO.lst (tas0.map V.ref)) n14).trans e1';have e25:=(jh (o:=HO.lst (tas0.map V.ref)) n24).trans e2';have gP5:GonAt (upd H' p4 (.lst (tas0.map V.ref))) pas P:=All2.mono gP fun c y h=>(jh (naT h)).trans h
 have gT5:GonAt (upd H' p4 (.lst (tas0.map V.ref))) tas0 S0:=All2.mono gT0 fun c y h=>(jh (naT h)).trans h
 have ax5:=(jh (o:=HO.lst (tas0.map V.ref)) (naT hax)).trans hax;generalize upd H' p4 (.lst (tas0.map V.ref))=H5 at s5 eT5 e15 e25 gP5 gT5 ax5|-;clear naT;have es5:H5 z.s=some (.lst (gs.map V.int)):=s5 _ _ A.hs;have ob5:=s5 _ _ ob;exists ixTm (SqT.of ax5) rfl ?_;exists⟨a,_,dx,_,_,rfl,ob5,T.Jd,T.j9,Z5,?_⟩;exists ixTm (SqT.of ax5) rfl ?_;exists ixLm (SqL.of es5) (jD (j:=x.1) (by rw[List.getElem?_map,gat _ x1];rfl)) ?_;walk_at"g";obtain⟨p,hp⟩:∃p,ps[x.1]?=some p:=⟨_,List.getElem?_eq_getElem x1⟩
 have epc:pcB ps gs x.1=pcsI gs p.2 (inP ps p.2):=by unfold pcB;rw[hp]
 refine iteD (fun c1=>?_) (fun c1=>?_)
 ·have ovf:ovB gs x=false:=decide_eq_false (by omega);have hpq:(ps.map fun p=>pcsI gs p.2 (inP ps p.2))[x.1]?=some (pcB ps gs x.1):=by rw[List.getElem?_map,hp,epc];rfl
  obtain⟨al,eal,bs,hbs,hq⟩:=A.pa.get hpq;have g60:=(N.g x1).2;have pc8:(pcB ps gs x.1).length<=8:=by rw[epc];exact kT (N.i8 hp)
  have wl:=j3c (gs:=gs) (t:=x.2) (pcB ps gs x.1);exists⟨.inl ⟨rfl,_,SqL.of e25⟩,?_⟩;exists⟨p2,_,_,rfl,rfl,e25,by rw[length_map];omega,?_⟩;have na2:∀{c:Addr} {xs:List V},H5 c=some (.tup xs)->c≠p2:=fun h z=>by rw[z,e25]at h;cases h
  have s6:Same H (upd H5 p2 (.lst (pas.map V.ref++[.ref ax]))):=fun c u h=>(jh (m2 h)).trans (s5 _ _ h)
  have e26:upd H5 p2 (.lst (pas.map V.ref++[.ref ax])) p2=some (.lst ((pas++[ax]).map V.ref)):=by rw[jA,map_append];rfl
  have e16:=(jh (o:=HO.lst (pas.map V.ref++[.ref ax])) n12).trans e15;have eT6:=(jh (o:=HO.lst (pas.map V.ref++[.ref ax])) n24.symm).trans eT5;have ax6:=(jh (o:=HO.lst (pas.map V.ref++[.ref ax])) (na2 ax5)).trans ax5;have gP6:GonAt (upd H5 p2 (.lst (pas.map V.ref++[.ref ax]))) (pas++[ax]) (P++[x]):=All2.snoc (All2.mono gP5 fun c y h=>(jh (na2 h)).trans h) ax6;have gT6:GonAt (upd H5 p2 (.lst (pas.map V.ref++[.ref ax]))) tas0 S0:=All2.mono gT5 fun c y h=>(jh (na2 h)).trans h
  generalize upd H5 p2 (.lst (pas.map V.ref++[.ref ax]))=H6 at s6 e26 e16 eT6 ax6 gP6 gT6|-;exists⟨.inl ⟨rfl,_,SqL.of eT6⟩,?_⟩;exists⟨a,_,dx,_,_,rfl,s6 _ _ ob,T.Jd,T.JV,Xi,?_⟩;exists ixTm (SqT.of ax6) rfl ?_;exists ixLm (SqL.of (s6 _ _ A.hp)) (Ql (i:=(x.1:Int)) (by omega) eal) ?_;exists⟨a,_,dx,_,_,rfl,s6 _ _ ob,T.Jd,T.j9,Z5,?_⟩;exists ixTm (SqT.of ax6) rfl ?_;exists⟨al,z.s,x.2,bs,pcB ps gs x.1,gs,rfl,s6 _ _ hbs,All2.mono hq fun c y h=>s6 _ _ h,s6 _ _ A.hs,pc8,fun q hq=>N.pcOk hq,x2,by omega,fun lw was H7 s7 hlw ew hw=>?_⟩;exists⟨rfl,lw,_,rfl,SqL.of ew,?_⟩;walk_at"f lr hlr H8 s8 e8";have s68:=s7.trans s8;have eT8:=s68 _ _ eT6;have wal:=hw.1;refine⟨p4,lr,_,_,rfl,rfl,eT8,e8,by rw[length_map,List.length_reverse,length_map];omega,?_⟩;have naT8:∀{c:Addr} {xs:List V},H8 c=some (.tup xs)->c≠p4:=fun h z=>by rw[z,eT8]at h;cases h
  have gP9:=fun(c:Addr) (y:Nat×Int) (h:H6 c=some (.tup [.int (y.1:Nat),.int y.2]))=>(jh (o:=HO.lst (tas0.map V.ref++(was.map V.ref).reverse)) (naT8 (s68 _ _ h))).trans (s68 _ _ h)
  have bP':∀y∈P++[x],y.1<ps.length/\0<=y.2/\y.2<gs.getD y.1 0:=fun y hy=>by
   rcases mem_append.mp hy with h | h
   ·exact bP y h
   ·rw[mem_singleton.mp h];exact⟨x1,x2,c1⟩
  refine⟨_,_,_,pas++[ax],tas0++was.reverse,if leafB ps gs x=true then D++[x]else D,P++[x],S0++(wth gs x.2 (pcB ps gs x.1)).reverse,rfl,⟨fun c u h=>(jh (m4 h)).trans (s68 _ _ (s6 _ _ h)),?_,(jh n24).trans (s68 _ _ e26),by rw[jA,map_append,List.map_reverse],All2.mono gP6 gP9,?_,?_,?_,?_,bP',?_,?_,?_⟩,?_⟩
  ·rw[kO ovf];exact(jh n14).trans (s68 _ _ e16)
  ·exact All2.app (All2.mono gT6 gP9) (All2.mono (All2.rev hw) fun c y h=>(jh (naT8 (s8 _ _ h))).trans (s8 _ _ h))
  ·rw[List.reverse_append,List.reverse_reverse,List.flatMap_append,<-inv];by_cases lf:leafB ps gs x=true
   ·have c2:pcB ps gs x.1=[]:=isEmpty_iff.mp lf;rw[if_pos lf,c2,JP (.inr c2),List.append_assoc];rfl
   ·have c2:¬(gs.getD x.1 0<=x.2\/pcB ps gs x.1=[]):=fun h=>h.elim (by omega) fun e=>lf (isEmpty_iff.mpr e)
    rw[if_neg lf,QA W c2]
  ·intro y hy;rcases mem_append.mp hy with h | h
   ·exact hS0 y h
   ·have h:=List.mem_reverse.mp h;have:=zy W h;exact⟨by omega,Kw (fun q hq=>N.pcOk hq) h⟩
  ·rw[filter_append,hP];by_cases lf:leafB ps gs x=true
   ·rw[if_pos lf,filter_append,filter_cons_of_pos lf,filter_cons_of_pos (by rw[ovf];rfl)];rfl
   ·rw[if_neg lf,List.filter_cons_of_neg lf];exact append_nil _
  ·have:=we W (i:=x.1) (t:=x.2) c1;rw[map_append,sum_append,List.map_reverse,List.sum_reverse,List.length_append];show P.length+1+_<=_;omega
  ·rw[kO ovf];exact ll
  ·rw[kO ovf];exact hb
  ·have:=we W (i:=x.1) (t:=x.2) c1;rw[map_append,sum_append,List.map_reverse,List.sum_reverse];omega
 ·have ovt:ovB gs x=true:=decide_eq_true (by omega);have hE:E[x.1]?=some (E.getD x.1 []):=by rw[getD_eq_getElem?_getD,List.getElem?_eq_getElem (by omega)];rfl
  obtain⟨ae,eae,bs,hbs,prs⟩:=A.ea.get hE;have bnd':=ZN W (by omega) A.eo x.1;have eb:=j1r N lE A.eo x1;have hbs5:=s5 _ _ hbs;exists⟨a,_,dx,_,_,rfl,ob5,T.Jd,T.qG,j1u,?_⟩;exists ixTm (SqT.of ax5) rfl ?_;exists ixLm (SqL.of (s5 _ _ A.hl)) (Ql (i:=(x.1:Int)) (by omega) eae) ?_;refine⟨ae,rfl,⟨_,SqL.of hbs5⟩,?_⟩;have pl':=prs.1;have nae:ae≠p1:=m1 hbs;refine JI (xs:=bs.map V.ref) (fun k σ H7=>∃(o6 o7:Option V),σ=[some (.ref a),some (.int t0),some (.ref p1),some (.ref p2),some (.ref p4),some (.ref ax),o6,o7]/\(∀c u,c≠p1->H5 c=some u->H7 c=some u)/\H7 p1=some (.lst ((setE ((E.getD x.1 []).take k) (hOf ls gs E D)).map V.int))/\(setE ((E.getD x.1 []).take k) (hOf ls gs E D)).length=ls.length/\(∀h∈setE ((E.getD x.1 []).take k) (hOf ls gs E D),0<=h/\h<=10^18))
   ⟨_,_,rfl,fun c u _ h=>h,e15,ll,hb⟩ ?_ ?_ ?_
  ·rintro k σ H7 _ ⟨o6,o7,rfl,sm7,ep7,_⟩;exact SqL.of (sm7 _ _ nae hbs5)
  ·rintro k v σ H7 hv ⟨o6,o7,rfl,sm7,ep7,ll7,hb7⟩;obtain⟨c',y,rfl,hy,hc'⟩:=prs.at_ref hv;have hy0:=List.mem_of_getElem? hy;have yb:=bnd' y hy0;have yh:=eb y hy0;refine qT (SqT.of (sm7 _ _ (m1 hc') (s5 _ _ hc'))) ?_;walk_at"g";have step:setE ((E.getD x.1 []).take (k+1)) (hOf ls gs E D)=(setE ((E.getD x.1 []).take k) (hOf ls gs E D)).set y.1.toNat y.2:=by
    unfold setE;rw[take_snoc hy,foldl_append];rfl
   refine⟨p1,_,_,y.1.toNat,rfl,rfl,ep7,ixZ yb.1 (by rw[length_map,ll7];exact yb.2),?_⟩;refine⟨_,_,rfl,fun c u hc h=>(jh hc).trans (sm7 _ _ hc h),jA.trans ?_,by rw[step,length_set];exact ll7,fun h hh=>?_⟩
   ·rw[step,List.map_set]
   ·rw[step]at hh;rcases List.mem_or_eq_of_mem_set hh with z | z
    ·exact hb7 h z
    ·rw[z];exact yh
  rintro σ' H7 ⟨o6,o7,rfl,sm7,ep7,ll7,hb7⟩;rw[length_map,pl',take_length]at ep7 ll7 hb7;have na1:∀{c:Addr} {xs:List V},H5 c=some (.tup xs)->c≠p1:=fun h z=>by rw[z,e15]at h;cases h
  have over:gs.getD x.1 0<=x.2:=by omega
  refine⟨_,_,_,pas,tas0,D++[x],P,S0,rfl,⟨fun c u h=>sm7 _ _ (m1 h) (s5 _ _ h),?_,sm7 _ _ n12.symm e25,sm7 _ _ n14.symm eT5,All2.mono gP5 fun c y h=>sm7 _ _ (na1 h) h,All2.mono gT5 fun c y h=>sm7 _ _ (na1 h) h,?_,hS0,?_,bP,by omega,?_,?_⟩,by omega⟩
  ·rw[kP ovt];exact ep7
  ·rw[<-inv,JP (.inl over),List.append_assoc]
  ·rw[hP,filter_append,List.filter_cons_of_neg (by rw[ovt];decide)];exact(append_nil _).symm
  ·rw[kP ovt];exact ll7
  ·rw[kP ovt];exact hb7
theorem ye(T:Txt K mg t)(xV:FnOk P w K mg base CX0 1 t.kD t.kJ ["start","goal","beats","j"] (Pr.j0e))(zL:FnOk P w K mg base CX0 3 t.qL t.qN ["self","beat"] (sp_sceneS t.Jc)):FnOk P w K mg base CX0 4 t.Jv t.Jw ["self","beat"] (sp_heightsS t.Jc):=by
 refine T.yq.ok jV (fun vs H Q E h=>?_) (fun cdv A outer s H vs Q E hr h=>?_)
 ·cases h;subst_vars;rfl
 obtain⟨a,z,ls,ps,gs,hs,E,t0,rfl,A,N,t1,t2,q⟩:=h;refine⟨_,(jc (jr (i:=2) jV.nd rfl (.inl rfl) (Wx (pv 0) T.Jd T.kY (zL.mono (by decide)) hr T.Kx .nil pass0 (jb (pv 1) jd)))
  (jc (jr (i:=3) jV.nd rfl (.inl rfl) (jm jv (pv 2) jf))
  (jc (Jh PassesOwn.never rfl (jP (jm jv (pv 2) jf)) (qb rfl (jy (jq (i:=4) jV.nd rfl (.inl rfl)) (jy (jq (i:=5) jV.nd rfl (.inl rfl)) Jk)))
   (jc (jr (i:=6) jV.nd rfl (.inl rfl) (jm jx (JB (pv 0) rfl) (pv 4)))
   (jk (Jl (jw J0 (jm jv (pv 6) jf) jz (nomark _))
    (jc (jr (i:=7) jV.nd rfl (.inl rfl) (Zn (zX hr) (JB (pv 0) rfl) (jm jv (pv 6) jf)))
    (jk (Kk (jt (xV.mono (by decide)) hr (by rfl) T.j4q T.j1b.kp T.j44 .nil pass0 (jb (jm jx (pv 3) (pv 7)) (jb (jm jv (pv 6) jf) (jb (jm jv (pv 6) jf) (jb (pv 5) jd))))) (Xz (pv 3) (pv 7) set_list))))
    jG))))
  (jk (jC (pv 3)))))),?_⟩
 refine jB (σ':=[some _,some _,none,none,none,none,none,none]) rfl ?_;have sz:(10000:Nat)<sizeLine:=by decide
 have W:=N.s.w;have lE:=A.el;obtain⟨dx,ob⟩:=A.ob;exists⟨a,dx,_,rfl,ob,j1v (by decide +kernel) (by decide +kernel) (by decide +kernel) (by decide +kernel) (by decide +kernel) (by decide +kernel),?_⟩;exists⟨a,z,ls,ps,gs,hs,E,t0,rfl,A,N,t1,t2,fun r l1 l2 as P H1 s1 hl1 hl2 er h1 ll hb h2 n12 gP pl bP hP=>?_⟩;have fin:=xK N lE A.eo t1 hP;exists ixTm (SqT.of er) rfl ?_;exists ixTm (SqT.of er) rfl ?_;have m1:∀{c u},H c=some u->c≠l1:=fun h=>jg h hl1
 have al:=gP.1;refine⟨l2,rfl,⟨_,SqL.of h2⟩,?_⟩;refine JI (xs:=as.map V.ref) (fun i σ H'=>∃(o4 o5 o6 o7:Option V),σ=[some (.ref a),some (.int t0),some (.ref r),some (.ref l1),o4,o5,o6,o7]/\(∀c u,c≠l1->H1 c=some u->H' c=some u)/\H' l1=some (.lst (((P.take i).foldl (rzH ls ps) (strH ls ps gs E t0)).map V.int))/\((P.take i).foldl (rzH ls ps) (strH ls ps gs E t0)).length=ls.length/\(∀h∈((P.take i).foldl (rzH ls ps) (strH ls ps gs E t0)),0<=h/\h<=10^18))
  ⟨_,_,_,_,rfl,fun c u _ h=>h,h1,ll,hb⟩ ?_ ?_ ?_
 ·rintro i σ H' _ ⟨o4,o5,o6,o7,rfl,sm,ep,_⟩;exact SqL.of (sm _ _ n12.symm h2)
 ·rintro i v σ H' hv ⟨o4,o5,o6,o7,rfl,sm,ep,ll,hb⟩;obtain⟨c,x,rfl,hx,hc⟩:=gP.at_ref hv;obtain⟨x1,x0,x2⟩:=bP x (List.mem_of_getElem? hx);obtain⟨p,hp⟩:∃p,ps[x.1]?=some p:=⟨_,List.getElem?_eq_getElem x1⟩
  obtain⟨fb,efb,hf⟩:=A.fo.get hp;have more:(P.take (i+1)).foldl (rzH ls ps) (strH ls ps gs E t0)=rzH ls ps ((P.take i).foldl (rzH ls ps) (strH ls ps gs E t0)) x:=by
   rw[take_snoc hx,foldl_append];rfl
  rw[more];generalize(P.take i).foldl (rzH ls ps) (strH ls ps gs E t0)=hts at ep ll hb|-;have n3:∀{c u},H c=some u->H' c=some u:=fun h=>sm _ _ (m1 h) (s1 _ _ h)
  have nc:c≠l1:=fun z=>by rw[z,h1]at hc;cases hc
  have hf1:FormAt H' fb p.2:=FormAt.put (fun b xs hb=>n3 hb) hf;refine qT (SqT.of (sm _ _ nc hc)) ?_;exists⟨a,_,dx,_,_,rfl,n3 ob,T.Jd,T.qr,j0v,?_⟩;exists ixLm (SqL.of (n3 A.ho)) (Ql (i:=(x.1:Int)) (by omega) efb) ?_;walk_at"g";by_cases hr':∃y v n,p.2 = .rise y v n
  ·obtain⟨y,v,n,e⟩:=hr';rw[e]at hf1;have hp':ps[x.1]?=some (p.1,.rise y v n):=by rw[hp,<-e]
   obtain⟨k,hk⟩:=W.r x.1 p.1 y v n hp';have ek:=Qs W.ln hk;have kl:k<ls.length:=by have:=(List.getElem?_eq_some_iff.mp hk).1;rw[nmsOf,length_map]at this;exact this
   have hf6:H' fb=some (.tup [.str "raise",.str y,.int v,.int n]):=hf1;have gx:gs.getD x.1 0=n:=((N.s.ln x.1 (p.1,.rise y v n) hp').2 n (show LenIs (.rise y v n) _ n from rfl)).symm;have eA:rzH ls ps hts x=hts.set k (Rp.ramp (hts.getD k 0) v n x.2):=by
    unfold rzH;rw[hp'];show hts.set (ixOf (nmsOf ls) y) (Rp.ramp (hts.getD (ixOf (nmsOf ls) y) 0) v n x.2)=_;rw[ek]
   refine ixTm (SqT.of hf6) rfl ?_;exists iteE1 ?_;exists⟨a,_,dx,_,_,rfl,n3 ob,T.Jd,T.qt,j0w,?_⟩;exists ixTm (SqT.of hf6) rfl ?_;have g:DGet H' z.d (.str y) (some (.int (k:Nat))):=by
    have g:=DGet.k (k:=Sum.inr y) (n3 A.hd);rw[y8 W.ln hk]at g;exact g
   refine⟨z.d,_,rfl,g,?_⟩;walk_at"g";have hh:hts[k]?=some (hts.getD k 0):=by rw[getD_eq_getElem?_getD,List.getElem?_eq_getElem (by omega)];rfl
   refine ixLm (SqL.of ep) (jD (j:=k) (by rw[List.getElem?_map,hh];rfl)) ?_;exists ixTm (SqT.of hf6) rfl ?_;exists ixTm (SqT.of hf6) rfl ?_;walk_at"g";have h0:=hb _ (List.mem_of_getElem? hh);obtain⟨v0,v1,n1,n2⟩:=N.r18 x.1 p.1 y v n hp';refine⟨_,_,_,_,rfl,by unfold Pr.B4;omega,?_⟩;exists⟨l1,_,_,k,rfl,rfl,ep,by unfold ixN;simp[ll,kl],?_⟩;rw[eA];refine⟨_,_,_,_,rfl,fun c u hc h=>(jh hc).trans (sm _ _ hc h),jA.trans (by rw[List.map_set]),by rw[length_set];exact ll,fun h hh'=>?_⟩;rcases List.mem_or_eq_of_mem_set hh' with z | z
   ·exact hb h z
   ·rw[z];exact j3B h0 ⟨v0,v1⟩ n1 x0 (by omega)
  ·have eA:rzH ls ps hts x=hts:=by
    unfold rzH;rw[hp];obtain⟨pn,pf⟩:=p;cases pf with
    | rise y v n=>exact absurd ⟨y,v,n,rfl⟩ hr'
    | _=>rfl
   obtain⟨k,xs,hk,dk⟩:=W9 hf1 fun y v n e=>hr' ⟨y,v,n,e⟩
   refine ixTm (SqT.of hk) (at0) ?_;exists iteB0 dk ?_;walk_at"g";rw[eA];exact⟨_,_,_,_,rfl,sm,ep,ll,hb⟩
 rintro σ' H' ⟨o4,o5,o6,o7,rfl,sm,ep,ll,hb⟩;rw[length_map,al,take_length,fin]at ep ll;walk_at"g";exact q l1 H' (fun c u h=>sm _ _ (m1 h) (s1 _ _ h)) hl1 ep ll
theorem j1U(T:Txt K mg t)(Qz:FnOk P w K mg base CX0 6 t.Jt t.JS ["self","book"] (sp_initS t.Jc))(qS:FnOk P w K mg base CX0 4 t.Jv t.Jw ["self","beat"] (sp_heightsS t.Jc)):FnOk P w K mg base CX0 8 t.Z2 t.Z4 ["book","beat"] (sp_standG):=by
 refine T.yN.ok j2o (fun vs H Q E h=>?_) (fun cdv A outer s H vs Q E hr h=>?_)
 ·cases h;subst_vars;rfl
 obtain⟨b,pl,pp,las,pas,ls,ps,gs,hs,t0,rfl,B,N,t1,t2,q⟩:=h;refine⟨_,(jk (jC (Wx (j08 T.j2O (Qz.mono (by decide)) hr (by rfl) T.j1N T.Yn .nil pass0 (jb (pv 0) jd)) T.Jd T.yd (qS.mono (by decide)) hr T.yp .nil pass0 (jb (pv 1) jd)))),?_⟩;refine jB (σ':=[some _,some _]) rfl ?_;walk_at"g";intro o dx ho hdx ne;have s0:Same H (upd (upd H dx (.own o)) o (.ins t.Jc dx [])):=fun c u h=>(jh (jg h ho)).trans ((jh (jg h hdx)).trans h)
 refine⟨o,dx,b,pl,pp,las,pas,ls,ps,gs,hs,rfl,jA,B.same s0,N,fun z E H1 k1 A=>⟨rfl,?_⟩⟩;obtain⟨dy,ob⟩:=A.ob;have s1:Same H H1:=fun c u h=>k1 _ _ (jg h ho) (s0 _ _ h)
 refine⟨o,dy,_,rfl,ob,j1v (by decide +kernel) (by decide +kernel) (by decide +kernel) (by decide +kernel) (by decide +kernel) (by decide +kernel),?_⟩;exists⟨o,z,ls,ps,gs,hs,E,t0,rfl,A,N,t1,t2,fun l H2 s2 hl e2 ll=>?_⟩;exact q l E H2 (s1.trans s2) (none_of s1 hl) A.el A.eo e2 ll
theorem YF(T:Txt K mg t):FnOk P w K mg base CX0 1 t.qh t.qj ["self","part"] (sp_raises t.jX):=by
 refine T.Y8.ok YI (fun vs H Q E h=>?_) (fun cdv A outer s H vs Q E hr h=>?_)
 ·cases h;subst_vars;rfl
 obtain⟨a,z,f,L,gs,PC,B,i,rfl,A,S,hi,q⟩:=h;refine⟨_,(jk (jC (Ww (ko Z7 (jm jx (JB (pv 0) rfl) (pv 1)) Qu (nomark _)) (Wy (j3w (jm jx (JB (pv 0) rfl) (pv 1))))))),?_⟩;refine jB (σ':=[some _,some _]) rfl ?_;obtain⟨dx,ob⟩:=A.ob;have lL:=S.lL;have pal:=A.pa.1;have eL:L[i]?=some (L.getD i none):=by rw[getD_eq_getElem?_getD,List.getElem?_eq_getElem (by omega)];rfl
 have eP:PC[i]?=some (PC.getD i []):=by rw[getD_eq_getElem?_getD,List.getElem?_eq_getElem (by omega)];rfl
 obtain⟨pc,hpc,bs,hbs,hqs⟩:=A.pa.get eP;exists⟨a,_,dx,_,_,rfl,ob,T.jW,T.Jq,wT,?_⟩;exists ixLm (SqL.of A.hl) (jD (j:=i) (by rw[List.getElem?_map,eL];rfl)) ?_;exists⟨rfl,?_⟩;refine⟨_,rfl,?_⟩;rw[notN];unfold rzB at q;cases eo:L.getD i none with
 | none=>
  rw[eo]at q;exact iteF q
 | some v=>
  rw[eo]at q;refine iteT ?_;refine j3D ?_;exists⟨a,_,dx,_,_,rfl,ob,T.jW,T.j7,K5,?_⟩;exists ixLm (SqL.of A.hp) (jD (j:=i) (by rw[List.getElem?_map,hpc];rfl)) ?_;refine⟨_,.inl ⟨_,SqL.of hbs,rfl⟩,?_⟩;rw[Bool.not_not,j2Z (b:=PC.getD i []) ((length_map _).trans hqs.1)];exact q
theorem Wt(T:Txt K mg t):FnOk P w K mg base CX0 1 t.QN t.QY ["start","goal","beats","most"] (Pr.Yk):=by
 refine T.YY.ok Zu (fun vs H Q E h=>?_) (fun cdv A outer s H vs Q E hr h=>?_)
 ·obtain⟨s0,g,b,m,rfl,s1,s2,g1,g2,b1,b2,m1,m2,q⟩:=h;rfl
 obtain⟨s0,g,b,m,rfl,s1,s2,g1,g2,b1,b2,m1,m2,q⟩:=h;refine⟨_,(jc (jr (i:=4) Zu.nd rfl (.inl rfl) (ju ql (ju Qt (pv 1) (pv 0)) (pv 2)))
  (jc (jr (i:=5) Zu.nd rfl (.inl rfl) (ju qA (ju Qt (pv 1) (pv 0)) (pv 2)))
  (jc (Jl (jw yk (jH WY (by rfl) T.j3U j1j (jb (pv 4) jd)) (pv 3) (nomark _))
   (jk (jC jf))
   jG)
  (jk (jC (Ya (PW.pt (yE (jw yk (pv 5) jf (nomark _)) (Z9 (jw yk (ju jY (pv 4) jf) (pv 3) (nomark _))))) (ju ql (ju Qt (pv 2) jf) (pv 5)) Qu)))))),?_⟩
 refine jB (σ':=[some _,some _,some _,some _,none,none]) rfl ?_;have r1:0<=(g-s0)%b:=Int.emod_nonneg _ (by omega);have r2:(g-s0)%b<b:=Int.emod_lt_of_pos _ (by omega);unfold Pr.rjV at q;exists⟨_,rfl,?_⟩;exists iteD (fun c=>?_) (fun c=>?_)
 ·walk_at"g";rw[if_pos c]at q;exact q
 rw[if_neg c]at q;exists iteD (fun c1=>?_) (fun c1=>?_)
 ·exists iteD (fun c2=>?_) (fun c2=>?_)
  ·rw[if_pos ⟨c1,c2⟩]at q;walk_at"g";exact q
  ·rw[if_neg (fun z=>c2 z.2)]at q;walk_at"g";exact q
 ·rw[if_neg (fun z=>c1 z.1)]at q;walk_at"g";exact q
theorem Wp(T:Txt K mg t)(Q1:FnOk P w K mg base CX0 1 t.qh t.qj ["self","part"] (sp_raises t.jX))(ZG:FnOk P w K mg base CX0 1 t.QN t.QY ["start","goal","beats","most"] (Pr.Yk)):FnOk P w K mg base CX0 2 t.QL t.QW ["strand","jumps","most","part","height"] (sp_partJ t.jX):=by
 refine T.YW.ok Qx (fun vs H Q E h=>?_) (fun cdv A outer s H vs Q E hr h=>?_)
 ·cases h;subst_vars;rfl
 obtain⟨a,j,ja,z,f,L,gs,PC,B,m,i,h,J,rfl,A,S,O,m1,m2,JE,ej,hJ,hi,hh,h0,h18,q⟩:=h;refine⟨_,(jc (Jl (j29 (Wx (pv 0) T.jW T.YE (Q1.mono (by decide)) hr T.Y6 .nil pass0 (jb (pv 3) jd)))
   (jk (jC (jt (ZG.mono (by decide)) hr (by rfl) T.xp T.YY.kp T.WS .nil pass0 (jb (pv 4) (jb (jm jx (JB (pv 0) rfl) (pv 3)) (jb (jm jx (JB (pv 0) rfl) (pv 3)) (jb (pv 2) jd)))))))
   jG)
  (jc (Jh PassesOwn.never rfl (jP (jm jx (JB (pv 0) rfl) (pv 3))) (qb rfl (jy (jq (i:=5) Qx.nd rfl (.inl rfl)) (jy (jq (i:=6) Qx.nd rfl (.inl rfl)) (jy (jq (i:=7) Qx.nd rfl (.inl rfl)) Jk))))
   (jc (Jl (jw Z7 (Zn (zX hr) (jm jx (pv 1) (pv 5)) (pv 4)) Qu (nomark _))
    (jk (jC (ju jY (pv 7) (Zn (zX hr) (jm jx (pv 1) (pv 5)) (pv 4)))))
    jG)
   (jk (jr (i:=4) Qx.nd rfl (.inl rfl) (jm jx (JB (pv 0) rfl) (pv 5))))))
  (jk (jC Qu)))),?_⟩
 refine jB (σ':=[some _,some _,some _,some _,some _,none,none,none]) rfl ?_;obtain⟨dx,ob⟩:=A.ob;have lL:=S.lL;have lg:=S.lg;have eL:∀k,k<PC.length->L[k]?=some (L.getD k none):=fun k hk=>by rw[getD_eq_getElem?_getD,List.getElem?_eq_getElem (by omega)];rfl
 have eP:PC[i]?=some (PC.getD i []):=by rw[getD_eq_getElem?_getD,List.getElem?_eq_getElem (by omega)];rfl
 have eG:gs[i]?=some (gs.getD i 0):=by rw[getD_eq_getElem?_getD,List.getElem?_eq_getElem (by omega)];rfl
 obtain⟨pc,hpc,bs,hbs,hqs⟩:=A.pa.get eP;have eq:=JE.eq i hi h;have run:=O.cl i hi h hh;exists⟨a,dx,_,rfl,ob,j4V (by decide +kernel) (by decide +kernel) (by decide +kernel) (by decide +kernel) (by decide +kernel),?_⟩;exists⟨a,z,f,L,gs,PC,B,i,rfl,A,S,hi,?_⟩;refine⟨_,rfl,?_⟩;cases er:rzB L PC i with
 | true=>
  rw[er,if_pos rfl]at eq;unfold rzB at er;obtain⟨er1,er2⟩:=Bool.and_eq_true_iff.mp er;obtain⟨l1,l2⟩:=yX er1;have lb:=S.lb i _ l1;have gb:=S.rs i _ l1 (isEmpty_iff.mp er2);refine iteT ?_;exists⟨a,_,dx,_,_,rfl,ob,T.jW,T.Jq,wT,?_⟩;exists ixLm (SqL.of A.hl) (jD (j:=i) (by rw[List.getElem?_map,l2];rfl)) ?_;exists⟨a,_,dx,_,_,rfl,ob,T.jW,T.Jy,j1B,?_⟩;exists ixLm (SqL.of A.hs) (jD (j:=i) (by rw[List.getElem?_map,eG];rfl)) ?_;exists⟨h,lef L i,gs.getD i 0,m,rfl,h0,h18,lb.1,lb.2,gb.1,gb.2,m1,m2,?_⟩;rw[j4F,<-eq];exact q
 | false=>
  rw[er,if_neg Bool.false_ne_true]at eq;refine iteF ?_;exists⟨a,_,dx,_,_,rfl,ob,T.jW,T.j7,K5,?_⟩;exists ixLm (SqL.of A.hp) (jD (j:=i) (by rw[List.getElem?_map,hpc];rfl)) ?_;exists⟨pc,rfl,⟨_,SqL.of hbs⟩,?_⟩;refine JI (xs:=bs.map V.ref) (fun u σ H'=>∃(x:Int) (o5 o6 o7:Option V),σ=[some (.ref a),some (.ref j),some (.int m),some (.int (i:Nat)),some (.int x),o5,o6,o7]/\H=H'/\J i h=wkJ J L x ((PC.getD i []).drop u)/\Run L B x ((PC.getD i []).drop u))
   ⟨h,_,_,_,rfl,rfl,eq,run⟩ ?_ ?_ ?_
  ·rintro u σ H' _ ⟨x,o5,o6,o7,rfl,rfl,wk,rn⟩;exact SqL.of hbs
  ·rintro u v σ H' hv ⟨x,o5,o6,o7,rfl,rfl,wk,rn⟩;obtain⟨c,y,rfl,hy,hc⟩:=hqs.at_ref hv;obtain⟨yl,ys,yo⟩:=S.pc i y (List.mem_of_getElem? hy);rw[j2X hy]at wk rn;obtain⟨hs,rn⟩:=rn;obtain⟨l1,l2⟩:=yX ys;have jal:=hJ.1;have hja:ja[y.1]?=some ja[y.1]:=List.getElem?_eq_getElem (by omega);obtain⟨kvs,ek,vk⟩:=hJ.2 y.1 _ hja;have g:DGet H ja[y.1] (.int x) (some (optV (J y.1 x))):=by
    have g:=DGet.k (k:=Sum.inl x) ek;rw[vk x hs]at g;exact g
   refine XD (SqT.of hc) ?_;exists ixLm (SqL.of ej) (jD (j:=y.1) (by rw[List.getElem?_map,hja];rfl)) ?_;exists⟨ja[y.1],_,rfl,g,?_⟩;refine⟨rfl,?_⟩;refine⟨_,rfl,?_⟩;rw[notN];unfold wkJ at wk;cases eJ:J y.1 x with
   | none=>
    rw[eJ]at wk;refine iteF ?_;exists⟨a,_,dx,_,_,rfl,ob,T.jW,T.Jq,wT,?_⟩;exists ixLm (SqL.of A.hl) (jD (j:=y.1) (by rw[List.getElem?_map,l2];rfl)) ?_;exact⟨lef L y.1,some (.int (y.1:Nat)),some (.int y.2.1),some (.int y.2.2),rfl,rfl,wk,rn⟩
   | some t0=>
    rw[eJ]at wk g;have g2:DGet H ja[y.1] (.int x) (some (.int t0)):=g;refine iteT ?_;exists ixLm (SqL.of ej) (jD (j:=y.1) (by rw[List.getElem?_map,hja];rfl)) ?_;exists⟨ja[y.1],_,rfl,g2,?_⟩;walk_at"g";rw[wk]at q;exact q
  rintro σ H' ⟨x,o5,o6,o7,rfl,rfl,wk,rn⟩;rw[length_map,hqs.1,List.drop_length]at wk;walk_at"g";rw[wk]at q;exact q
theorem Wo(T:Txt K mg t)(ZE:FnOk P w K mg base CX0 2 t.QL t.QW ["strand","jumps","most","part","height"] (sp_partJ t.jX)):FnOk P w K mg base CX0 3 t.QK t.QV ["strand","most"] (sp_limbJ t.jX):=by
 refine T.YV.ok za (fun vs H Q E h=>?_) (fun cdv A outer s H vs Q E hr h=>?_)
 ·cases h;subst_vars;rfl
 obtain⟨a,z,f,L,gs,PC,B,m,J,rfl,A,S,O,m1,m2,JE,q⟩:=h;refine⟨_,(jc (jr (i:=2) za.nd rfl (.inr rfl) (jR jd))
  (jc (Jh PassesOwn.never rfl (Yb (by rfl) T.QO (jb (JB (pv 0) rfl) jd)) (qb rfl (jy (jq (i:=3) za.nd rfl (.inr rfl)) (jy (jq (i:=4) za.nd rfl (.inl rfl)) Jk)))
   (jk (j8 (qI PySem.F.plainAttrs_list PySem.F.slot_list_append PySem.F.type_list_append jS (pv 2) (jb (Qc (Xa rfl) (by rfl) T.x9 wJ (jb (Jj (ow:=["height"]) (ci:=[0,2,1,3]) rfl (CompScope.of (defScope zI) ["strand","most","jumps","part","begun"] rfl rfl (by decide +kernel)) (Jf (by decide)) (j3y (pv 4)) (fun _ _ _ _ _=>⟨(jq (i:=0) (Ja ["strand","most","jumps","part","begun"] rfl (by decide +kernel)) rfl (.inl rfl)),qB,(jI (jb (pv 0) (jb (jt (ZE.mono (by decide)) hr (by rfl) T.xn T.YW.kp T.WQ .nil pass0 (jb (pv 1) (jb (pv 2) (jb (pv 3) (jb (pv 4) (jb (pv 0) jd)))))) jd)))⟩)) jd)) jd)))))
  (jk (jC (Zn (zX hr) (jm jx (pv 2) (ym zT jf)) (JB (pv 0) rfl)))))),?_⟩
 refine jB (σ':=[some _,some _,none,none,none]) rfl ?_;obtain⟨dx,ob⟩:=A.ob;have sz:(10000:Nat)<sizeLine:=by decide
 have n1:=S.n1;have n61:=S.n61;have lL:=S.lL;have lB:=O.ln;have bal:=A.ba.1;exists⟨Nat.zero_le _,?_⟩;walk_at"f 0 t";have np:∀{c u},H c=some u->c≠p0:=fun h=>jg h hp0
 exists⟨a,_,dx,_,_,rfl,s0 _ _ ob,T.jW,T.JW,j1z,?_⟩;exists⟨z.b,_,rfl,SqL.of (s0 _ _ A.hb),?_⟩;refine ZO (xs:=z.ba.map V.ref) (fun i σ H'=>∃(o3 o4:Option V) (ja:List Addr),σ=[some (.ref a),some (.int m),some (.ref p0),o3,o4]/\Same H H'/\H' p0=some (.lst (ja.map V.ref))/\JAt H' ja B J i/\∀c∈ja,c≠p0)
  ⟨_,_,[],rfl,s0,t0,⟨rfl,fun i a h=>by simp at h⟩,fun c h=>nomatch h⟩ ?_ ?_ ?_
 ·rintro i σ H' _ ⟨o3,o4,ja,rfl,sm,e0,hJ,nj⟩;exact SqL.of (sm _ _ A.hb)
 ·rintro i v σ H1 P H2 hv ⟨o3,o4,ja,rfl,sm,e0,hJ,nj⟩ sP tP;obtain⟨ab,kvs,rfl,hkv,ob2,hab⟩:=A.ba.at_ref hv;have hi:=(List.getElem?_eq_some_iff.mp hkv).1;have ekv:kvs=B.getD i []:=by rw[getD_eq_getElem?_getD,hkv];rfl
  have s2:=sm.trans sP;have A2:=A.same s2;have jal:=hJ.1;have klen:kvs.length<=L.length+1:=ekv▸O.kb.len i;have hJ2:JAt H2 ja B J i:=⟨hJ.1,fun k c hc=>by
   obtain⟨kv,h1,h2⟩:=hJ.2 k c hc;exact⟨kv,sP _ _ h1,h2⟩⟩
  refine qT (SqT.of tP) ?_;exists⟨.inl ⟨rfl,_,SqL.of (sP _ _ e0)⟩,?_⟩;exists j2f ?_;exists⟨ab,ob2,kvs,rfl,s2 _ _ hab,?_⟩;refine j0r (fun t ys H'=>∃tas:List Addr,ys=tas.map V.ref/\tas.length=t/\Same H2 H'/\∀(s:Nat) (c:Addr) (q:Key×V),tas[s]?=some c->kvs[s]?=some q->H' c=some (.tup [.int (keyI q.1),optV (J i (keyI q.1))]))
   ⟨[],rfl,rfl,Same.refl _,fun s c q h=>by simp at h⟩ ?_ ?_ ?_
  ·rintro t ys H' _ ⟨tas,rfl,tl,s3,ht⟩;exact s3 _ _ (s2 _ _ hab)
  ·rintro t q0 ys H3 hq0 ⟨tas,rfl,tl,s3,ht⟩;have ht2:=(List.getElem?_eq_some_iff.mp hq0).1;obtain⟨x,ex,x0,x18,xh⟩:=O.key S (ekv▸List.mem_of_getElem? hq0);rw[ex];show gName 0 (.int x) _ _ _;refine Jm (σ':=[none,some (.ref a),some (.ref p0),some (.int m),some (.int (i:Nat))]) rfl ?_;exists iteT ?_;exists⟨a,p0,ja,z,f,L,gs,PC,B,m,i,x,J,rfl,A2.same s3,S,O,m1,m2,JE,s3 _ _ (sP _ _ e0),⟨hJ2.1,fun k c hc=>?_⟩,by omega,xh,x0,x18,?_⟩
   ·obtain⟨kv,h1,h2⟩:=hJ2.2 k c hc;exact⟨kv,s3 _ _ h1,h2⟩
   exists⟨by show 2<=sizeLine;omega,?_⟩;walk_at"f t4 ht4 H4 s4 e4";refine⟨by rw[length_map];omega,tas++[t4],by rw[map_append];rfl,by rw[List.length_append,tl];rfl,s3.trans s4,fun s c q hc hq=>?_⟩;rcases Nat.lt_or_ge s tas.length with z | z
   ·rw[List.getElem?_append_left z]at hc;exact s4 _ _ (ht s c q hc hq)
   ·rw[List.getElem?_append_right z]at hc;have es:s=tas.length:=by
     have:=(List.getElem?_eq_some_iff.mp hc).1;rw[length_singleton]at this;omega
    subst es;rw[Nat.sub_self]at hc;cases hc;rw[tl,hq0]at hq;cases hq;rw[ex];exact e4
  rintro ys H3 ⟨tas,rfl,tl,s3,ht⟩;refine⟨by rw[length_map];omega,?_⟩;walk_at"f 4 e";exists⟨p4,tas,(kvs.map fun q=>keyI q.1).map fun x=>(x,optV (J i x)),rfl,e4,by rw[length_map,length_map,tl],fun s c q hc hq=>?_,?_⟩
  ·rw[List.getElem?_map,List.getElem?_map]at hq;obtain⟨x,hx,rfl⟩:=Option.map_eq_some_iff.mp hq;obtain⟨q',hq',rfl⟩:=Option.map_eq_some_iff.mp hx;exact s4 _ _ (ht s c q' hc hq')
  walk_at"f d hd H5 s5 e5";walk_at"g";have s15:Same H1 H5:=sP.trans (s3.trans (s4.trans s5));have e05:=s15 _ _ e0;refine⟨p0,_,_,rfl,rfl,e05,by rw[length_map];omega,?_⟩;have nd:d≠p0:=fun z=>by rw[z,s4 _ _ (s3 _ _ (sP _ _ e0))]at hd;cases hd
  refine⟨some (.int (i:Nat)),some (.ref ab),ja++[d],rfl,fun c u hc=>(jh (np hc)).trans (s15 _ _ (sm _ _ hc)),?_,⟨by rw[List.length_append,jal];rfl,fun k c hc=>?_⟩,fun c hc=>(mem_append.mp hc).elim (nj c) fun z=>by rw[mem_singleton.mp z];exact nd⟩
  ·rw[jA,map_append];rfl
  ·rcases Nat.lt_or_ge k ja.length with z | z
   ·rw[List.getElem?_append_left z]at hc;obtain⟨kv,h1,h2⟩:=hJ.2 k c hc;exact⟨kv,(jh (nj c (List.mem_of_getElem? hc))).trans (s15 _ _ h1),h2⟩
   ·rw[List.getElem?_append_right z]at hc;have es:k=ja.length:=by
     have:=(List.getElem?_eq_some_iff.mp hc).1;rw[length_singleton]at this;omega
    subst es;rw[Nat.sub_self]at hc;cases hc;refine⟨_,(jh nd).trans e5,fun h hh=>?_⟩;rw[map_map];show valV (mergeK [] ((kvs.map fun q=>keyI q.1).map fun x=>ivK (x,optV (J i x)))) _=_;rw[wy (fun x=>optV (J i x)),if_pos,jal];unfold Has at hh;rw[jal,<-ekv]at hh;obtain⟨v,hv⟩:=Option.isSome_iff_exists.mp hh;obtain⟨q',hq',e'⟩:=mem_map.mp (j0i hv);exact mem_map.mpr ⟨q',hq',by rw[e'];rfl⟩
 rintro σ H1 ⟨o3,o4,ja,rfl,sm,e0,hJ,nj⟩;rw[length_map,bal,lB]at hJ;have jal:=hJ.1;have hja:ja[PC.length-1]?=some ja[PC.length-1]:=List.getElem?_eq_getElem (by omega);obtain⟨kvs,ek,vk⟩:=hJ.2 _ _ hja;have g:DGet H1 ja[PC.length-1] (.int f) (some (optV (J (PC.length-1) f))):=by
  have g:=DGet.k (k:=Sum.inl f) ek;rw[vk f O.tp]at g;exact g
 exists ixLm (SqL.of e0) (j1g (n:=PC.length) n1 (by rw[length_map];omega) (by rw[List.getElem?_map,hja];rfl)) ?_;exists⟨a,_,dx,_,_,rfl,sm _ _ ob,T.jW,T.Jx,j1A,?_⟩;refine⟨ja[PC.length-1],_,rfl,g,?_⟩;exact q H1 sm
theorem KF(T:Txt K mg t)(Qg:FnOk P w K mg base CX0 6 t.Ji t.JF ["self","book","name"] (sp_initT t.jX))(zD:FnOk P w K mg base CX0 8 t.Z2 t.Z4 ["book","beat"] (sp_standG))(ZD:FnOk P w K mg base CX0 3 t.QK t.QV ["strand","most"] (sp_limbJ t.jX)):FnOk P w K mg base CX0 9 t.Qk t.Qq ["book","most"] (sp_firstG):=by
 refine T.yM.ok JQ (fun vs H Q E h=>?_) (fun cdv A outer s H vs Q E hr h=>?_)
 ·cases h;subst_vars;rfl
 obtain⟨b,pl,pp,las,pas,ls,ps,gs,hs,m,rfl,B,N,m1,m2,q⟩:=h;refine⟨_,(jc (jr (i:=2) JQ.nd rfl (.inl rfl) (jR jd))
  (jc (Jh PassesOwn.never rfl (Yb (by rfl) T.QO (jb (jm jv (pv 0) jf) jd)) (qb rfl (jy (jq (i:=3) JQ.nd rfl (.inl rfl)) (jy (jq (i:=4) JQ.nd rfl (.inl rfl)) Jk)))
   (jc (jr (i:=5) JQ.nd rfl (.inl rfl) (jt (ZD.mono (by decide)) hr (by rfl) T.xm T.YV.kp T.WP .nil pass0 (jb (j08 T.j1c (Qg.mono (by decide)) hr (by rfl) T.j0H T.yH .nil pass0 (jb (pv 0) (jb (jm jv (pv 4) jf) jd))) (jb (pv 1) jd))))
   (jk (Jl (jw Z7 (pv 5) Qu (nomark _))
    (jk (j8 (qI PySem.F.plainAttrs_list PySem.F.slot_list_append PySem.F.type_list_append jS (pv 2) (jb (jI (jb (pv 5) (jb (pv 3) jd))) jd))))
    jG))))
  (jc (Jl (XC (j27 (pv 2) (fun _=>rfl)))
   (jk (jC Qu))
   jG)
  (jc (jr (i:=6) JQ.nd rfl (.inl rfl) (jH (j0q rfl (zX hr)) (by rfl) T.WW kE (jb (pv 2) jd)))
  (jc (jr (i:=7) JQ.nd rfl (.inl rfl) (ju Qt (jm jx (jt (zD.mono (by decide)) hr (by rfl) T.km T.yN.kp T.kf .nil pass0 (jb (pv 0) (jb (ju jY (jm jv (pv 6) jf) jf) jd))) (jm jv (pv 6) jf)) (jm jx (jt (zD.mono (by decide)) hr (by rfl) T.km T.yN.kp T.kf .nil pass0 (jb (pv 0) (jb (jm jv (pv 6) jf) jd))) (jm jv (pv 6) jf))))
  (jk (jC (jI (jb (jm jv (pv 6) jf) (jb (jm jv (jm jx (jm jv (pv 0) jf) (jm jv (pv 6) jf)) jf) (jb (pv 7) jd))))))))))),?_⟩
 refine jB (σ':=[some _,some _,none,none,none,none,none,none]) rfl ?_;have sz:(10000:Nat)<sizeLine:=by decide
 have la:=B.la.1;have l8:=N.s.w.l8;exists⟨Nat.zero_le _,?_⟩;walk_at"f 0 t";have np:∀{c u},H c=some u->c≠p0:=fun h=>jg h hp0
 exists ixTm (SqT.of (s0 _ _ B.t)) rfl ?_;exists⟨pl,_,rfl,SqL.of (s0 _ _ B.l),?_⟩;refine ZO (xs:=las.map V.ref) (fun i σ H'=>∃(o3 o4 o5:Option V) (fa:List Addr) (fp:List (Int×Int)),σ=[some (.ref b),some (.int m),some (.ref p0),o3,o4,o5,none,none]/\Same H H'/\H' p0=some (.lst (fa.map V.ref))/\PrsAt H' fa fp/\fa.length<=i/\(i=0\/∃E:List (List (Int×Int)),E.length=ps.length/\EndOk ls ps E)/\∀E:List (List (Int×Int)),E.length=ps.length->EndOk ls ps E->fp=fnd ls ps gs m E i)
  ⟨_,_,_,[],[],rfl,s0,t0,.nil,Nat.le_refl _,.inl rfl,fun E _ _=>rfl⟩ ?_ ?_ ?_
 ·rintro i σ H' _ ⟨o3,o4,o5,fa,fp,rfl,sm,_⟩;exact SqL.of (sm _ _ B.l)
 ·rintro i v σ H1 P H2 hv ⟨o3,o4,o5,fa,fp,rfl,sm,e0,hfa,fl,hex,hfp⟩ sP tP;obtain⟨lk,xf,rfl,hk,ek⟩:=B.la.at_ref hv;obtain⟨x,f⟩:=xf;have hi:=(List.getElem?_eq_some_iff.mp hk).1;have s2:=sm.trans sP;refine qT (SqT.of tP) ?_;exists ixTm (SqT.of (s2 _ _ ek)) rfl ?_;walk_at"g";intro o dx ho hdx ne;have s3:Same H2 (upd (upd H2 dx (.own o)) o (.ins t.jX dx [])):=fun c u h=>(jh (jg h ho)).trans ((jh (jg h hdx)).trans h)
  refine⟨o,dx,b,pl,pp,_,pas,_,ps,gs,hs,x,f,i,rfl,jA,B.same (s2.trans s3),N,hk,fun z E Bt H3 k3 lE oE SO SA BO=>⟨rfl,?_⟩⟩;have s23:Same H2 H3:=fun c u h=>k3 _ _ (jg h ho) (s3 _ _ h)
  have JE:=(N.jeq lE oE m1 hk).1;have ejo:jU (lvE E (i:Nat)) gs (fPc ps gs (lvE E (i:Nat))) m (ps.length-1) f=jo ls ps gs m E i:=by
   unfold jo;rw[show ls.getD i (⟨#[]⟩,0)=(x,f) by rw[getD_eq_getElem?_getD,hk];rfl]
  exists⟨o,z,f,_,gs,_,Bt,m,_,rfl,SA,SO,BO,m1,m2,JE,fun H4 s4=>?_⟩;rw[show(fPc ps gs (lvE E (i:Nat))).length=ps.length from length_map _,ejo];have s24:=s23.trans s4;have e04:=s24 _ _ (sP _ _ e0);have s14:=sP.trans s24;have upE:∀E':List (List (Int×Int)),E'.length=ps.length->EndOk ls ps E'->fp++((jo ls ps gs m E i).map fun t=>(t,((i:Nat):Int))).toList=fnd ls ps gs m E' (i+1):=fun E' l' o'=>by
   rw[ZM N.s.w lE oE l' o',j1w,hfp E lE oE]
  exists⟨rfl,?_⟩;refine⟨_,rfl,?_⟩;rw[notN];cases eo:jo ls ps gs m E i with
  | none=>
   rw[eo]at upE;refine iteF ?_;walk_at"g";exact⟨_,_,_,fa,fp,rfl,s2.trans s24,e04,All2.mono hfa fun c y h=>s14 _ _ h,by omega,.inr ⟨E,lE,oE⟩,fun E' l' o'=>by rw[<-upE E' l' o'];exact(append_nil _).symm⟩
  | some t1=>
   rw[eo]at upE;refine iteT ?_;exists⟨.inl ⟨rfl,_,SqL.of e04⟩,?_⟩;exists⟨by show 2<=sizeLine;omega,?_⟩;walk_at"f c5 hc5 H5 s5 e5";exists⟨p0,_,_,rfl,rfl,s5 _ _ e04,by rw[length_map];omega,?_⟩;have n5:c5≠p0:=(jg e04 hc5).symm;have nt:∀{c:Addr} {xs:List V},H5 c=some (.tup xs)->c≠p0:=fun h=>Q5 h (s5 _ _ e04) (fun z=>by cases z)
   refine⟨_,_,_,fa++[c5],fp++[(t1,((i:Nat):Int))],rfl,fun c u h=>(jh (np h)).trans (s5 _ _ ((s2.trans s24) _ _ h)),?_,All2.snoc (All2.mono hfa fun c y h=>(jh (nt (s5 _ _ (s14 _ _ h)))).trans (s5 _ _ (s14 _ _ h))) ((jh n5).trans e5),by rw[List.length_append,length_singleton];omega,.inr ⟨E,lE,oE⟩,upE⟩;rw[jA,map_append];rfl
 rintro σ H1 ⟨o3,o4,o5,fa,fp,rfl,sm,e0,hfa,fl,hex,hfp⟩;rw[length_map,la]at hfp fl hex;have hfl:=hfa.1;have gD:∀{hh:List Int} {k:Nat},hh.length=ls.length->k<ls.length->hh[k]?=some (hh.getD k 0):=fun {hh k} h hk=>by
  rw[getD_eq_getElem?_getD,List.getElem?_eq_getElem (by omega)];rfl
 walk_at"g";cases fp with
 | nil=>
  have:fa=[]:=List.length_eq_zero_iff.mp hfl;subst this;refine⟨_,.inl ⟨_,SqL.of e0,rfl⟩,?_⟩;refine iteT ?_;walk_at"g";exact q _ _ sm (fun h1=>hex.elim (fun z=>absurd z (by omega)) id) fun E lE oE=>.no rfl fun k hk s s0 s1=>j37 N lE oE m1 (hfp E lE oE).symm hk s s0 s1
 | cons y fr=>
  have f1:1<=fa.length:=by rw[hfl,length_cons];omega
  refine⟨_,.inl ⟨_,SqL.of e0,rfl⟩,?_⟩;rw[show(fa.map V.ref).isEmpty=false by cases fa with | nil=>exact absurd f1 (by decide) | cons c r=>rfl];refine iteF ?_;exists⟨p0,fa,y::fr,rfl,e0,f1,hfl,hfa.2,fun bi c hc hL=>?_⟩;obtain⟨y0,hy0⟩:∃y0,(y::fr)[bi]?=some y0:=⟨_,List.getElem?_eq_getElem (by have:=(List.getElem?_eq_some_iff.mp hc).1;omega)⟩
  have ec:=hfa.2 bi c y0 hc hy0;rw[hfl]at hL;obtain⟨E0,lE0,oE0⟩:∃E:List (List (Int×Int)),E.length=ps.length/\EndOk ls ps E:=hex.elim (fun z=>absurd z (by omega)) id;have e00:=hfp E0 lE0 oE0;rw[e00]at hL hy0;obtain⟨k,x,f,ek,hk,t0',t1',_⟩:=X5 N lE0 oE0 m1 hy0 hL;have kl:=(List.getElem?_eq_some_iff.mp hk).1;obtain⟨lk,hlk,elk⟩:=B.la.get hk;rw[ek]at ec;exists ixTm (SqT.of ec) rfl ?_;exists⟨b,pl,pp,_,pas,_,ps,gs,hs,y0.1+1,rfl,B.same sm,N,by omega,by omega,fun l2 E H2 s2 hl2 lE oE e2 ll=>?_⟩;exists ixTm (SqT.of (s2 _ _ ec)) rfl ?_;exists ixLm (SqL.of e2) (jD (j:=k) (by rw[List.getElem?_map,gD ll kl];rfl)) ?_;exists ixTm (SqT.of (s2 _ _ ec)) rfl ?_;exists⟨b,pl,pp,_,pas,_,ps,gs,hs,y0.1,rfl,B.same (sm.trans s2),N,t0',by omega,fun l3 E' H3 s3 hl3 lE' oE' e3 ll3=>?_⟩;exists ixTm (SqT.of (s3 _ _ (s2 _ _ ec))) rfl ?_;exists ixLm (SqL.of e3) (jD (j:=k) (by rw[List.getElem?_map,gD ll3 kl];rfl)) ?_;have s13:=sm.trans (s2.trans s3);exists ixTm (SqT.of (s3 _ _ (s2 _ _ ec))) rfl ?_;exists ixTm (SqT.of (s13 _ _ B.t)) rfl ?_;exists ixTm (SqT.of (s3 _ _ (s2 _ _ ec))) rfl ?_;exists ixLm (SqL.of (s13 _ _ B.l)) (jD (j:=k) (by rw[List.getElem?_map,hlk];rfl)) ?_;exists ixTm (SqT.of (s13 _ _ elk)) rfl ?_;exists⟨by show 3<=sizeLine;omega,?_⟩;walk_at"f 4 e";refine q _ _ (s13.trans s4) (fun _=>⟨E0,lE0,oE0⟩) fun E1 lE1 oE1=>?_
  have u1:=ZM N.s.w lE1 oE1 lE oE;have u2:=ZM N.s.w lE1 oE1 lE' oE';have u3:=ZM N.s.w lE1 oE1 lE0 oE0;subst u1 u2 u3;obtain⟨k',x',f',ek',hk',r1,r2,r3,r4,r5⟩:=X5 N lE1 oE1 m1 hy0 hL;have:k'=k:=by omega
  subst this;exact .at p4 y0.1 k' x f hk rfl e4 r1 r2 r3 r4 r5
theorem KC(T:Txt K mg t)(zD:FnOk P w K mg base CX0 8 t.Z2 t.Z4 ["book","beat"] (sp_standG)):FnOk P w K mg base CX0 9 t.Qh t.Qn ["_law_book_here","_law_last","_law_bound"] (sp_firstB):=by
 refine T.yJ.ok qv (fun vs H Q E h=>?_) (fun cdv A outer s H vs Q E hr h=>?_)
 ·cases h;subst_vars;rfl
 obtain⟨b,pl,pp,las,pas,ls,ps,gs,hs,n,m,rfl,B,N,n0,n1,n2,q⟩:=h;refine⟨_,(jc (jr (i:=3) qv.nd rfl (.inl rfl) (jt (zD.mono (by decide)) hr (by rfl) T.km T.yN.kp T.kf .nil pass0 (jb (pv 0) (jb jf jd))))
  (jc (Jh PassesOwn.never rfl (qu (by rfl) T.Qm (jb (pv 1) jd)) (jq (i:=4) qv.nd rfl (.inl rfl))
   (jc (jr (i:=5) qv.nd rfl (.inl rfl) (jt (zD.mono (by decide)) hr (by rfl) T.km T.yN.kp T.kf .nil pass0 (jb (pv 0) (jb (ju jY (pv 4) jf) jd))))
   (jc (Jh PassesOwn.never rfl (qu (by rfl) T.Qm (jb (jH Jg (by rfl) T.Qy qw (jb (pv 3) jd)) jd)) (jq (i:=6) qv.nd rfl (.inl rfl))
    (jk (Jl (jw yk (jH WY (by rfl) T.j3U j1j (jb (ju Qt (jm jx (pv 5) (pv 6)) (jm jx (pv 3) (pv 6))) jd)) (pv 2) (nomark _))
     (jk (jC (jI (jb (pv 4) (jb (jm jv (jm jx (jm jv (pv 0) jf) (pv 6)) jf) (jb (ju Qt (jm jx (pv 5) (pv 6)) (jm jx (pv 3) (pv 6))) jd))))))
     jG)))
   (jk (jr (i:=3) qv.nd rfl (.inl rfl) (pv 5))))))
  (jk (jC Qu)))),?_⟩
 refine jB (σ':=[some _,some _,some _,none,none,none,none]) rfl ?_;have sz:(10000:Nat)<sizeLine:=by decide
 have l8:=N.s.w.l8;have gD:∀{hh:List Int} {k:Nat},hh.length=ls.length->k<ls.length->hh[k]?=some (hh.getD k 0):=fun {hh k} h hk=>by
  rw[getD_eq_getElem?_getD,List.getElem?_eq_getElem (by omega)];rfl
 exists⟨b,pl,pp,_,pas,_,ps,gs,hs,0,rfl,B,N,Int.le_refl _,by omega,fun l4 E H4 s4 hl4 lE oE e4 ll=>?_⟩;exists⟨_,rfl,by omega,by omega,?_⟩;refine zW (fun i σ H'=>∃(o4 o5 o6:Option V) (la:Addr),σ=[some (.ref b),some (.int n),some (.int m),some (.ref la),o4,o5,o6]/\Same H H'/\H' la=some (.lst ((standH ls ps gs E (i:Nat)).map V.int))/\(standH ls ps gs E (i:Nat)).length=ls.length/\∀k,k<ls.length->∀s:Int,0<=s->s<(i:Nat)->Rm.ab (dlt ls ps gs E k s)<=m)
  ⟨_,_,_,l4,rfl,s4,e4,ll,fun k _ s h1 h2=>absurd h2 (by omega)⟩ ?_ ?_
 ·rintro i σ H' hi ⟨o4,o5,o6,la,rfl,sm,ea,al,inv⟩;exists⟨b,pl,pp,_,pas,_,ps,gs,hs,_,rfl,B.same sm,N,by omega,by omega,fun l5 E' H5 s5 hl5 lE' oE' e5 ll5=>?_⟩;rw[ZM N.s.w lE oE lE' oE',Int.zero_add]at e5 ll5;have sm5:=sm.trans s5;have ea5:=s5 _ _ ea;exists⟨_,_,rfl,.inl ⟨_,SqL.of ea5,rfl⟩,?_⟩;rw[show((standH ls ps gs E (i:Nat)).map V.int).length=ls.length by rw[length_map];exact al];refine⟨_,rfl,by omega,by omega,?_⟩;rw[Int.toNat_natCast];refine zW (fun j σ H'=>∃o6:Option V,σ=[some (.ref b),some (.int n),some (.int m),some (.ref la),some (.int (0+(i:Nat))),some (.ref l5),o6]/\H5=H'/\∀k,k<j->Rm.ab (dlt ls ps gs E k (i:Nat))<=m) ⟨_,rfl,rfl,fun k h=>absurd h (Nat.not_lt_zero k)⟩ ?_ ?_
  ·rintro j σ H' hj ⟨o6,rfl,rfl,jn⟩;have hab:∀z:Int,(if z<0 then -z else z)=Rm.ab z:=fun _=>rfl
   exists ixLm (SqL.of e5) (by rw[Int.zero_add];exact jD (by rw[List.getElem?_map,gD ll5 hj];rfl)) ?_;exists ixLm (SqL.of ea5) (by rw[Int.zero_add];exact jD (by rw[List.getElem?_map,gD al hj];rfl)) ?_;exists⟨_,rfl,?_⟩;rw[hab];exists iteD (fun c=>?_) (fun c=>?_)
   ·obtain⟨lk,elk,hlk⟩:=B.la.get (List.getElem?_eq_getElem hj);exists ixTm (SqT.of (sm5 _ _ B.t)) rfl ?_;exists ixLm (SqL.of (sm5 _ _ B.l)) (by rw[Int.zero_add];exact jD (by rw[List.getElem?_map,elk];rfl)) ?_;exists ixTm (SqT.of (sm5 _ _ hlk)) rfl ?_;exists ixLm (SqL.of e5) (by rw[Int.zero_add];exact jD (by rw[List.getElem?_map,gD ll5 hj];rfl)) ?_;exists ixLm (SqL.of ea5) (by rw[Int.zero_add];exact jD (by rw[List.getElem?_map,gD al hj];rfl)) ?_;exists⟨by show 3<=sizeLine;omega,?_⟩;walk_at"f r hr' H6 s6 t6";rw[Int.zero_add]at t6;exact q _ E H6 (sm5.trans s6) lE oE (.at r (i:Nat) j ls[j].1 ls[j].2 (List.getElem?_eq_getElem hj) rfl t6 (by omega) (by omega) c inv jn)
   ·exists⟨_,rfl,rfl,fun k hk=>?_⟩;rcases Nat.lt_or_ge k j with z | z
    ·exact jn k z
    ·rw[show k=j by omega];exact Int.not_lt.mp c
  rintro σ' H6 ⟨o6,rfl,rfl,jn⟩;exists⟨_,_,_,l5,rfl,sm5,e5,ll5,fun k hk s h1 h2=>?_⟩;by_cases z:s<(i:Nat)
  ·exact inv k hk s h1 z
  ·rw[show s=((i:Nat):Int) by omega];exact jn k hk
 rintro σ' H6 ⟨o4,o5,o6,la,rfl,sm,ea,al,inv⟩;walk_at"g";exact q _ E H6 sm lE oE (.no rfl fun k hk s h1 h2=>inv k hk s h1 (by omega))
theorem yD(T:Txt K mg t)(Zh:FnOk P w K mg base CX0 9 t.Qk t.Qq ["book","most"] (sp_firstG))(Zc:FnOk P w K mg base CX0 9 t.Qh t.Qn ["_law_book_here","_law_last","_law_bound"] (sp_firstB)):FnOk P w K mg base CX0 10 t.JC t.JG ["_law_book_here","_law_long","_law_bound"] (sp_toldB):=by
 refine T.Qe.ok qV (fun vs H Q E h=>?_) (fun cdv A outer s H vs Q E hr h=>?_)
 ·cases h;subst_vars;rfl
 obtain⟨b,pl,pp,las,pas,ls,ps,gs,hs,m,rfl,B,N,m0,m1,l1,lW,q⟩:=h;refine⟨_,(jc (jr (i:=3) qV.nd rfl (.inl rfl) (jt (Zh.mono (by decide)) hr (by rfl) T.Wb T.yM.kp T.wD .nil pass0 (jb (pv 0) (jb (pv 2) jd))))
  (jc (jr (i:=4) qV.nd rfl (.inl rfl) (jt (Zc.mono (by decide)) hr (by rfl) T.wY T.yJ.kp T.wA .nil pass0 (jb (pv 0) (jb (jH (Z3 rfl) (by rfl) T.WW kE (jb (pv 1) (jb jf jd))) (jb (pv 2) jd)))))
  (jc (Jl (jw Z7 (pv 4) Qu (nomark _))
   (jk (jC (Ww (jH WZ (by rfl) T.yQ yi (jb (pv 3) (jb (j07 (v:=.ty "tuple") (by rfl) T.yR ZJ rfl) jd))) (Wy (ko (j1V hr.units) (pv 3) (pv 4) (nomark _))))))
   jG)
  (jk (jC (j51 (ko j1W (pv 3) Qu (nomark _)) (Wy (Ww (jH WZ (by rfl) T.yQ yi (jb (pv 3) (jb (j07 (v:=.ty "tuple") (by rfl) T.yR ZJ rfl) jd))) (Ww (ko J0 (jH Jg (by rfl) T.Qy qw (jb (pv 3) jd)) jf (nomark _)) (Wy (j21 j04 wp jf (jm jv (pv 3) jf) (pv 1)))))))))))),?_⟩
 refine jB (σ':=[some _,some _,some _,none,none]) rfl ?_;have sz:(10000:Nat)<sizeLine:=by decide
 have g1:=N.g (i:=ps.length-1) (by have:=N.ne;omega);exists⟨b,pl,pp,_,pas,_,ps,gs,hs,m,rfl,B,N,m0,by omega,fun v H1 s1 hE hJ=>?_⟩;exists⟨_,_,rfl,?_⟩;walk_at"g";obtain⟨n,hn,n0,n1,n2,n3⟩:∃n,(if 100<gs.getD (ps.length-1) 0 then 100 else gs.getD (ps.length-1) 0)=n/\0<=n/\n<=100/\n<=gs.getD (ps.length-1) 0/\(n<100->n=gs.getD (ps.length-1) 0):=by
  by_cases c:100<gs.getD (ps.length-1) 0
  ·rw[if_pos c];exact⟨100,rfl,by omega,by omega,by omega,fun z=>absurd z (by omega)⟩
  ·rw[if_neg c];exact⟨_,rfl,by omega,by omega,by omega,fun _=>rfl⟩
 rw[hn];refine⟨b,pl,pp,_,pas,_,ps,gs,hs,n,m,rfl,B.same s1,N,n0,n1,n2,fun w E H2 s2 lE oE F=>?_⟩;have J:=hJ E lE oE;have nw:∀{k:Nat} {x:Str} {f:Int},ls[k]?=some (x,f)->Ws.isW x=true:=fun {k x f} h=>lW x (mem_map.mpr ⟨(x,f),List.mem_of_getElem? h,rfl⟩)
 cases F with
 | «at» p t k x f hk e ht t0 t1 hm h1 h2=>
  obtain⟨p',rfl,hp'⟩:=j34 J t0 (by omega) (List.getElem?_eq_some_iff.mp hk).1 hk hm h1 h2;subst e;exists⟨rfl,?_⟩;refine⟨_,rfl,?_⟩;refine iteB1 (by rw[decide_eq_false fun z=>by cases z];rfl) ?_;exists⟨_,_,_,_,rfl,.tup (s2 _ _ hp'),yj,?_⟩;exists iteT ?_;exists⟨_,_,j4S (s2 _ _ hp'),j4S ht,(j2p (nw hk)).ok (by decide),(j2p (nw hk)).ok (by decide),?_⟩;rw[SeqAt.eqv_refl _ (j2p (nw hk)).1];exact q _ (s1.trans s2)
 | no e z=>
  subst e;exists⟨rfl,?_⟩;refine⟨_,rfl,?_⟩;refine iteB0 (by rw[decide_eq_true rfl];rfl) ?_;exists⟨rfl,?_⟩;refine⟨_,rfl,?_⟩;cases J with
  | no e' _=>
   subst e';refine iteB1 (decide_eq_true rfl) ?_;exact q _ (s1.trans s2)
  | «at» p' t k x f hk e' ht t0 t1 hm h1 h2=>
   subst e';have nt:n<=t:=by
    rcases Int.lt_or_le t n with c | c
    ·exact absurd (z k (List.getElem?_eq_some_iff.mp hk).1 t t0 c) (by omega)
    ·exact c
   refine iteB0 (decide_eq_false fun z=>by cases z) ?_;exists⟨_,_,_,_,rfl,.tup (s2 _ _ ht),yj,?_⟩;exists iteT ?_;exists⟨_,_,rfl,.inr ⟨_,SqT.of (s2 _ _ ht),rfl⟩,?_⟩;exists iteD (fun _=>?_) (fun c=>absurd rfl c);exists ixTm (SqT.of (s2 _ _ ht)) rfl ?_;walk_at"g";have h100:100<=t:=by
    rcases Int.lt_or_le t 100 with c | c
    ·have:=n3 (by omega);omega
    ·exact c
   refine iteD (fun _=>?_) (fun c=>absurd h100 c);walk_at"g";rw[decide_eq_true t1];exact q _ (s1.trans s2)
theorem j4v(T:Txt K mg t)(Ju:FnOk P w K mg base CX0 1 t.JR t.JT ["_law_script","_law_k"] (Pr.sp_cell_at K))(Zz:FnOk P w K mg base CX0 5 t.QE t.QP ["_law_script","_law_start","_law_most"] (sp_bookC K))(Ze:FnOk P w K mg base CX0 2 t.Qi t.Qo ["_law_script"] (sp_twice K))(qx:FnOk P w K mg base CX0 10 t.JC t.JG ["_law_book_here","_law_long","_law_bound"] (sp_toldB)):FnOk P w K mg base CX0 11 t.XO t.W1 ["_law_script"] (Pr.sp_law K):=by
 refine T.j3T.ok Zt (fun vs H Q E h=>?_) (fun cdv A outer s H vs Q E hr h=>?_)
 ·cases h;subst_vars;rfl
 obtain⟨a,ns,rfl,hS,h63,hB,q⟩:=h;refine⟨_,(jc (jr (i:=1) Zt.nd rfl (.inl rfl) jf)
  (jc (zw (jw J0 (ju qA (jt (Ju.mono (by decide)) hr (by rfl) T.zr T.Qd.kp T.zg .nil pass0 (jb (pv 0) (jb jf jd))) jf) jf (nomark _))
   (jk (jr (i:=1) Zt.nd rfl (.inl rfl) jf))
   jG)
  (jc (Kk (jt (Zz.mono (by decide)) hr (by rfl) T.xg T.YR.kp T.WL .nil pass0 (jb (pv 0) (jb jf (jb (pv 1) jd)))) (qb rfl (jy (jq (i:=2) Zt.nd rfl (.inl rfl)) (jy (jq (i:=3) Zt.nd rfl (.inl rfl)) Jk))))
  (jc (jr (i:=4) Zt.nd rfl (.inl rfl) (ju qA (jt (Ju.mono (by decide)) hr (by rfl) T.zr T.Qd.kp T.zg .nil pass0 (jb (pv 0) (jb jf jd))) jf))
  (jc (Jl (XC (j29 (jt (qx.mono (by decide)) hr (by rfl) T.zF T.Qe.kp T.zA .nil pass0 (jb (pv 2) (jb (pv 3) (jb (pv 4) jd))))))
   (jk (jC j06))
   jG)
  (jc (Kk (jt (Ze.mono (by decide)) hr (by rfl) T.wZ T.yK.kp T.wB .nil pass0 (jb (pv 0) jd)) (j3x rfl (jy (jq (i:=5) Zt.nd rfl (.inl rfl)) (jy (jq (i:=6) Zt.nd rfl (.inl rfl)) (jy (jq (i:=7) Zt.nd rfl (.inl rfl)) Jk)))))
  (jk (jC (jt (qx.mono (by decide)) hr (by rfl) T.zF T.Qe.kp T.zA .nil pass0 (jb (pv 5) (jb (pv 6) (jb (pv 7) jd)))))))))))),?_⟩
 refine jB (σ':=[some _,none,none,none,none,none,none,none]) rfl ?_;have sz:(200:Nat)<sizeLine:=by decide
 have cb:=fun k=>Pr.KO hB k
 exists⟨fun σ H'=>∃mo:Int,σ=[some (.ref a),some (.int mo),none,none,none,none,none,none]/\H=H'/\1<=mo/\mo<=40,?_,?_⟩
 rotate_left
 ·exists⟨a,ns,_,rfl,hS,h63,by omega,?_⟩;exists iteD (fun _=>?_) (fun _=>?_)
  ·walk_at"g";exact⟨40,rfl,rfl,by omega,by omega⟩
  ·exact⟨4,rfl,rfl,by omega,by omega⟩
 rintro σ' H' ⟨mo,rfl,rfl,mo1,mo2⟩;exists⟨a,ns,2,mo,rfl,hS,h63,by omega,by omega,mo1,by omega,fun r b pl pp las pas names ls fs M gs H1 s1 hr1 Bk D N f3 f11 nl nd nW l1 l8 lnd lW nlp=>?_⟩;exists qT (SqT.of hr1) ?_;have dl:(drawnPs names fs).length=fs.length:=Qa;exists⟨a,ns,_,rfl,s1.seq hS,h63,by omega,?_⟩;exists⟨b,pl,pp,_,pas,_,_,gs,M,_,by rw[dl];rfl,Bk,N,by omega,by omega,l1,lW,fun H2 s2=>?_⟩;exists iteB0 rfl ?_;exists⟨a,ns,rfl,(s1.trans s2).seq hS,h63,hB,fun r' b' pl' pp' las' pas' names' ls' fs' M' gs' m' H3 s3 hr3 Bk3 N3 m1 m2 l1' lW'=>?_⟩;exists j4D (SqL.of hr3) ?_;walk_at"g";exact⟨b',pl',pp',_,pas',_,_,gs',M',m',rfl,Bk3,N3,by omega,by omega,l1',lW',fun H4 s4=>q _⟩
theorem j2P(T:Txt K mg t):FnOk P w K mg base CX0 11 t.XO t.W1 ["_law_script"] (Pr.sp_law K):=by
 have Ju:FnOk P w K mg base CX0 1 t.JR t.JT _ _:=kc T;have zB:FnOk P w K mg base CX0 1 t.QH t.QS _ _:=Wk T;have jE:FnOk P w K mg base CX0 1 t.JY t.JZ _ _:=Wl T;have zC:FnOk P w K mg base CX0 1 t.QI t.QT _ _:=Wm T;have jM:FnOk P w K mg base CX0 2 t.JL t.JM _ _:=Kg T jE;have ZB:FnOk P w K mg base CX0 1 t.QG t.QR _ _:=Wj T;have zM:FnOk P w K mg base CX0 3 t.qM t.qO _ _:=Kf T jE jM ZB;have ZA:FnOk P w K mg base CX0 4 t.QF t.QQ _ _:=Wi T jE jM zM;have Zd:FnOk P w K mg base CX0 1 t.zh t.zl _ _:=xv T;have Zz:FnOk P w K mg base CX0 5 t.QE t.QP _ _:=Wh T zB jE zC jM ZA Zd;have Ze:FnOk P w K mg base CX0 2 t.Qi t.Qo _ _:=KD T Ju;have jZ:FnOk P w K mg base CX0 1 t.JD t.JH _ _:=KG T;have yt:FnOk P w K mg base CX0 1 t.zi t.zm _ _:=xw T;have Q7:FnOk P w K mg base CX0 2 t.Zi t.Zj _ _:=j1S T jZ yt;have Zg:FnOk P w K mg base CX0 3 t.yv t.yx _ _:=j3r T jZ Q7;have wG:FnOk P w K mg base CX0 4 t.yO t.yT _ _:=j1T T Zg;have Zf:FnOk P w K mg base CX0 1 t.Qj t.Qp _ _:=KE T;have ZC:FnOk P w K mg base CX0 1 t.QJ t.QU _ _:=Wn T;have zb:FnOk P w K mg base CX0 5 t.zc t.zd _ _:=Xx T Q7 wG Zf ZC;have ZF:FnOk P w K mg base CX0 1 t.QM t.QX _ _:=Wq T;have qX:FnOk P w K mg base CX0 3 t.qY t.qZ _ _:=Wr T Q7 ZF;have Q2:FnOk P w K mg base CX0 1 t.qi t.qk _ _:=YG T;have Qg:FnOk P w K mg base CX0 6 t.Ji t.JF _ _:=yC T jZ Zg zb qX Q2;have Qz:FnOk P w K mg base CX0 6 t.Jt t.JS _ _:=y9 T jZ Zg zb qX;have xV:FnOk P w K mg base CX0 1 t.kD t.kJ _ _:=j3s T;have yu:FnOk P w K mg base CX0 1 t.zj t.zn _ _:=xy T;have kC:FnOk P w K mg base CX0 2 t.ZH t.ZL _ _:=j0S T yu;have zL:FnOk P w K mg base CX0 3 t.qL t.qN _ _:=Ke T kC;have qS:FnOk P w K mg base CX0 4 t.Jv t.Jw _ _:=ye T xV zL;have zD:FnOk P w K mg base CX0 8 t.Z2 t.Z4 _ _:=j1U T Qz qS;have Q1:FnOk P w K mg base CX0 1 t.qh t.qj _ _:=YF T;have ZG:FnOk P w K mg base CX0 1 t.QN t.QY _ _:=Wt T;have ZE:FnOk P w K mg base CX0 2 t.QL t.QW _ _:=Wp T Q1 ZG;have ZD:FnOk P w K mg base CX0 3 t.QK t.QV _ _:=Wo T ZE;have Zh:FnOk P w K mg base CX0 9 t.Qk t.Qq _ _:=KF T Qg zD ZD;have Zc:FnOk P w K mg base CX0 9 t.Qh t.Qn _ _:=KC T zD;have qx:FnOk P w K mg base CX0 10 t.JC t.JG _ _:=yD T Zh Zc;exact j4v T Ju Zz Ze qx
end
@[elab_as_elim] theorem uu1{P:List Value->Prop}(us:List Value)(hl:us.length=1)(h:∀a0,P [a0]):P us:=match us,hl with | [a0],_=>h a0
theorem bb1{K:Frg}{x q:Str}{st:Stmt}{f:Addr}{fd:FuncData}{x0:Str}(F:Fun K x q st f fd)(h:∀(kV doc pm:Value) (an:Option Addr) (cdv ct:Value) (a0:Value),bindArgs (W.fnOf x q (defArgs st) (defBody st) (defScope st) .none kV doc pm an cdv ct) ⟨[a0],[]⟩=pure ([x0].zip [a0])):Binds K fd [x0] []:=F.binds fun a b c d e g us hl=>uu1 us hl (h a b c d e g)
@[elab_as_elim] theorem uu2{P:List Value->Prop}(us:List Value)(hl:us.length=2)(h:∀a0 a1,P [a0,a1]):P us:=match us,hl with | [a0,a1],_=>h a0 a1
theorem bb2{K:Frg}{x q:Str}{st:Stmt}{f:Addr}{fd:FuncData}{x0 x1:Str}(F:Fun K x q st f fd)(h:∀(kV doc pm:Value) (an:Option Addr) (cdv ct:Value) (a0 a1:Value),bindArgs (W.fnOf x q (defArgs st) (defBody st) (defScope st) .none kV doc pm an cdv ct) ⟨[a0,a1],[]⟩=pure ([x0,x1].zip [a0,a1])):Binds K fd [x0,x1] []:=F.binds fun a b c d e g us hl=>uu2 us hl (h a b c d e g)
@[elab_as_elim] theorem uu3{P:List Value->Prop}(us:List Value)(hl:us.length=3)(h:∀a0 a1 a2,P [a0,a1,a2]):P us:=match us,hl with | [a0,a1,a2],_=>h a0 a1 a2
theorem bb3{K:Frg}{x q:Str}{st:Stmt}{f:Addr}{fd:FuncData}{x0 x1 x2:Str}(F:Fun K x q st f fd)(h:∀(kV doc pm:Value) (an:Option Addr) (cdv ct:Value) (a0 a1 a2:Value),bindArgs (W.fnOf x q (defArgs st) (defBody st) (defScope st) .none kV doc pm an cdv ct) ⟨[a0,a1,a2],[]⟩=pure ([x0,x1,x2].zip [a0,a1,a2])):Binds K fd [x0,x1,x2] []:=F.binds fun a b c d e g us hl=>uu3 us hl (h a b c d e g)
@[elab_as_elim] theorem uu4{P:List Value->Prop}(us:List Value)(hl:us.length=4)(h:∀a0 a1 a2 a3,P [a0,a1,a2,a3]):P us:=match us,hl with | [a0,a1,a2,a3],_=>h a0 a1 a2 a3
theorem bb4{K:Frg}{x q:Str}{st:Stmt}{f:Addr}{fd:FuncData}{x0 x1 x2 x3:Str}(F:Fun K x q st f fd)(h:∀(kV doc pm:Value) (an:Option Addr) (cdv ct:Value) (a0 a1 a2 a3:Value),bindArgs (W.fnOf x q (defArgs st) (defBody st) (defScope st) .none kV doc pm an cdv ct) ⟨[a0,a1,a2,a3],[]⟩=pure ([x0,x1,x2,x3].zip [a0,a1,a2,a3])):Binds K fd [x0,x1,x2,x3] []:=F.binds fun a b c d e g us hl=>uu4 us hl (h a b c d e g)
@[elab_as_elim] theorem uu5{P:List Value->Prop}(us:List Value)(hl:us.length=5)(h:∀a0 a1 a2 a3 a4,P [a0,a1,a2,a3,a4]):P us:=match us,hl with | [a0,a1,a2,a3,a4],_=>h a0 a1 a2 a3 a4
theorem bb5{K:Frg}{x q:Str}{st:Stmt}{f:Addr}{fd:FuncData}{x0 x1 x2 x3 x4:Str}(F:Fun K x q st f fd)(h:∀(kV doc pm:Value) (an:Option Addr) (cdv ct:Value) (a0 a1 a2 a3 a4:Value),bindArgs (W.fnOf x q (defArgs st) (defBody st) (defScope st) .none kV doc pm an cdv ct) ⟨[a0,a1,a2,a3,a4],[]⟩=pure ([x0,x1,x2,x3,x4].zip [a0,a1,a2,a3,a4])):Binds K fd [x0,x1,x2,x3,x4] []:=F.binds fun a b c d e g us hl=>uu5 us hl (h a b c d e g)
@[elab_as_elim] theorem uu6{P:List Value->Prop}(us:List Value)(hl:us.length=6)(h:∀a0 a1 a2 a3 a4 a5,P [a0,a1,a2,a3,a4,a5]):P us:=match us,hl with | [a0,a1,a2,a3,a4,a5],_=>h a0 a1 a2 a3 a4 a5
theorem bb6{K:Frg}{x q:Str}{st:Stmt}{f:Addr}{fd:FuncData}{x0 x1 x2 x3 x4 x5:Str}(F:Fun K x q st f fd)(h:∀(kV doc pm:Value) (an:Option Addr) (cdv ct:Value) (a0 a1 a2 a3 a4 a5:Value),bindArgs (W.fnOf x q (defArgs st) (defBody st) (defScope st) .none kV doc pm an cdv ct) ⟨[a0,a1,a2,a3,a4,a5],[]⟩=pure ([x0,x1,x2,x3,x4,x5].zip [a0,a1,a2,a3,a4,a5])):Binds K fd [x0,x1,x2,x3,x4,x5] []:=F.binds fun a b c d e g us hl=>uu6 us hl (h a b c d e g)
theorem j4N{K:Frg}{h:Heap}{mg:Str->Option Value}(X:K.In h)(G:h.Ns mainGlobals mg)
  {C_Stage:Addr}
  (aC_Stage:W.nsIn K mainGlobals "Stage"= some (some (.ref C_Stage))) (pg_Stage:W.plainGet K C_Stage Str.empty=true) (hd_Stage:W.hasDictIn K C_Stage=true) (po_Stage:W.plainOver K C_Stage=true) (sa_Stage:W.findIn K (.ref C_Stage) "__setattr__"= some (some (.builtin "object.__setattr__"))) (mk_Stage:W.makesIn K C_Stage=true) (kc_Stage:W.keepIn K (.ref C_Stage)=true) (qt:W.findIn K (.ref C_Stage) "limbs"= some none) (qq:W.findIn K (.ref C_Stage) "first"= some none) (qr:W.findIn K (.ref C_Stage) "forms"= some none) (j9:W.findIn K (.ref C_Stage) "sizes"= some none) (qG:W.findIn K (.ref C_Stage) "left"= some none) (JV:W.findIn K (.ref C_Stage) "pieces"= some none)
  {C_Strand:Addr}
  (aC_Strand:W.nsIn K mainGlobals "Strand"= some (some (.ref C_Strand))) (pg_Strand:W.plainGet K C_Strand Str.empty=true) (hd_Strand:W.hasDictIn K C_Strand=true) (po_Strand:W.plainOver K C_Strand=true) (sa_Strand:W.findIn K (.ref C_Strand) "__setattr__"= some (some (.builtin "object.__setattr__"))) (mk_Strand:W.makesIn K C_Strand=true) (kc_Strand:W.keepIn K (.ref C_Strand)=true) (Jx:W.findIn K (.ref C_Strand) "first"= some none) (Jy:W.findIn K (.ref C_Strand) "sizes"= some none) (Jq:W.findIn K (.ref C_Strand) "left"= some none) (j7:W.findIn K (.ref C_Strand) "pieces"= some none) (JW:W.findIn K (.ref C_Strand) "begun"= some none)
  {f1:Addr} {d1:FuncData}
  (a1:W.nsIn K mainGlobals "_wall"= some (some (.ref f1))) (F1:Fun K "_wall" "_wall" WA f1 d1)
  {f2:Addr} {d2:FuncData}
  (a2:W.nsIn K mainGlobals "numbers_of"= some (some (.ref f2))) (F2:Fun K "numbers_of" "numbers_of" Zs f2 d2)
  {f3:Addr} {d3:FuncData}
  (a3:W.nsIn K mainGlobals "names_in"= some (some (.ref f3))) (F3:Fun K "names_in" "names_in" yF f3 d3)
  {f4:Addr} {d4:FuncData}
  (a4:W.nsIn K mainGlobals "inner"= some (some (.ref f4))) (F4:Fun K "inner" "inner" ku f4 d4)
  {f5:Addr} {d5:FuncData}
  (a5:W.nsIn K mainGlobals "ends"= some (some (.ref f5))) (F5:Fun K "ends" "ends" XE f5 d5)
  {f6:Addr} {d6:FuncData}
  (a6:W.nsIn K mainGlobals "moved"= some (some (.ref f6))) (F6:Fun K "moved" "moved" kx f6 d6)
  {f7:Addr} {d7:FuncData}
  (a7:W.nsIn K mainGlobals "check_side"= some (some (.ref f7))) (F7:Fun K "check_side" "check_side" Q9 f7 d7)
  {f8:Addr} {d8:FuncData}
  (a8:W.nsIn K mainGlobals "length_of"= some (some (.ref f8))) (F8:Fun K "length_of" "length_of" ZV f8 d8)
  {f9:Addr} {d9:FuncData}
  (a9:W.nsIn K mainGlobals "lengths"= some (some (.ref f9))) (F9:Fun K "lengths" "lengths" Za f9 d9)
  {f10:Addr} {d10:FuncData}
  (a10:W.nsIn K mainGlobals "ramp"= some (some (.ref f10))) (F10:Fun K "ramp" "ramp" XF f10 d10)
  {f11:Addr} {d11:FuncData}
  (a11:W.nsIn K mainGlobals "pieces_in"= some (some (.ref f11))) (F11:Fun K "pieces_in" "pieces_in" ZX f11 d11)
  {f12:Addr} {d12:FuncData}
  (a12:W.nsIn K mainGlobals "pieces_of"= some (some (.ref f12))) (F12:Fun K "pieces_of" "pieces_of" zJ f12 d12)
  {f13:Addr} {d13:FuncData}
  (a13:W.nsIn K mainGlobals "progress"= some (some (.ref f13))) (F13:Fun K "progress" "progress" yG f13 d13)
  {f14:Addr} {d14:FuncData}
  (a14:W.nsIn K mainGlobals "heights_begun"= some (some (.ref f14))) (F14:Fun K "heights_begun" "heights_begun" qR f14 d14)
  {f15:Addr} {d15:FuncData}
  (a15:W.findIn K (.ref C_Strand) "__init__"= some (some (.ref f15))) (i15:W.isFn K (.ref f15)=true) (F15:Fun K "__init__" "Strand.__init__" JJ f15 d15)
  {f16:Addr} {d16:FuncData}
  (a16:W.findIn K (.ref C_Strand) "raises"= some (some (.ref f16))) (i16:W.isFn K (.ref f16)=true) (F16:Fun K "raises" "Strand.raises" Q4 f16 d16)
  {f17:Addr} {d17:FuncData}
  (a17:W.nsIn K mainGlobals "within"= some (some (.ref f17))) (F17:Fun K "within" "within" Ko f17 d17)
  {f18:Addr} {d18:FuncData}
  (a18:W.findIn K (.ref C_Stage) "__init__"= some (some (.ref f18))) (i18:W.isFn K (.ref f18)=true) (F18:Fun K "__init__" "Stage.__init__" JX f18 d18)
  {f19:Addr} {d19:FuncData}
  (a19:W.findIn K (.ref C_Stage) "scene"= some (some (.ref f19))) (i19:W.isFn K (.ref f19)=true) (F19:Fun K "scene" "Stage.scene" zQ f19 d19)
  {f20:Addr} {d20:FuncData}
  (a20:W.findIn K (.ref C_Stage) "heights_at"= some (some (.ref f20))) (i20:W.isFn K (.ref f20)=true) (F20:Fun K "heights_at" "Stage.heights_at" qU f20 d20)
  {f21:Addr} {d21:FuncData}
  (a21:W.findIn K (.ref C_Stage) "words_at"= some (some (.ref f21))) (i21:W.isFn K (.ref f21)=true) (F21:Fun K "words_at" "Stage.words_at" QB f21 d21)
  {f22:Addr} {d22:FuncData}
  (a22:W.nsIn K mainGlobals "stand"= some (some (.ref f22))) (F22:Fun K "stand" "stand" WB f22 d22)
  {f23:Addr} {d23:FuncData}
  (a23:W.nsIn K mainGlobals "ramp_jump"= some (some (.ref f23))) (F23:Fun K "ramp_jump" "ramp_jump" ZY f23 d23)
  {f24:Addr} {d24:FuncData}
  (a24:W.nsIn K mainGlobals "part_jump"= some (some (.ref f24))) (F24:Fun K "part_jump" "part_jump" ZW f24 d24)
  {f25:Addr} {d25:FuncData}
  (a25:W.nsIn K mainGlobals "limb_jump"= some (some (.ref f25))) (F25:Fun K "limb_jump" "limb_jump" zI f25 d25)
  {f26:Addr} {d26:FuncData}
  (a26:W.nsIn K mainGlobals "first_jump"= some (some (.ref f26))) (F26:Fun K "first_jump" "first_jump" Zr f26 d26)
  {f27:Addr} {d27:FuncData}
  (a27:W.nsIn K mainGlobals "_law_cell_at"= some (some (.ref f27))) (F27:Fun K "_law_cell_at" "_law_cell_at" zx f27 d27)
  {f28:Addr} {d28:FuncData}
  (a28:W.nsIn K mainGlobals "_law_pool"= some (some (.ref f28))) (F28:Fun K "_law_pool" "_law_pool" ZS f28 d28)
  {f29:Addr} {d29:FuncData}
  (a29:W.nsIn K mainGlobals "_law_take"= some (some (.ref f29))) (F29:Fun K "_law_take" "_law_take" ZT f29 d29)
  {f30:Addr} {d30:FuncData}
  (a30:W.nsIn K mainGlobals "_law_word"= some (some (.ref f30))) (F30:Fun K "_law_word" "_law_word" ZU f30 d30)
  {f31:Addr} {d31:FuncData}
  (a31:W.nsIn K mainGlobals "_law_number"= some (some (.ref f31))) (F31:Fun K "_law_number" "_law_number" zR f31 d31)
  {f32:Addr} {d32:FuncData}
  (a32:W.nsIn K mainGlobals "_law_pair"= some (some (.ref f32))) (F32:Fun K "_law_pair" "_law_pair" zH f32 d32)
  {f33:Addr} {d33:FuncData}
  (a33:W.nsIn K mainGlobals "_law_naming"= some (some (.ref f33))) (F33:Fun K "_law_naming" "_law_naming" qP f33 d33)
  {f34:Addr} {d34:FuncData}
  (a34:W.nsIn K mainGlobals "_law_form"= some (some (.ref f34))) (F34:Fun K "_law_form" "_law_form" zG f34 d34)
  {f35:Addr} {d35:FuncData}
  (a35:W.nsIn K mainGlobals "_law_put"= some (some (.ref f35))) (F35:Fun K "_law_put" "_law_put" qc f35 d35)
  {f36:Addr} {d36:FuncData}
  (a36:W.nsIn K mainGlobals "_law_book"= some (some (.ref f36))) (F36:Fun K "_law_book" "_law_book" QZ f36 d36)
  {f37:Addr} {d37:FuncData}
  (a37:W.nsIn K mainGlobals "_law_first"= some (some (.ref f37))) (F37:Fun K "_law_first" "_law_first" Zp f37 d37)
  {f38:Addr} {d38:FuncData}
  (a38:W.nsIn K mainGlobals "_law_twice"= some (some (.ref f38))) (F38:Fun K "_law_twice" "_law_twice" Zq f38 d38)
  {f39:Addr} {d39:FuncData}
  (a39:W.nsIn K mainGlobals "_law_told_first"= some (some (.ref f39))) (F39:Fun K "_law_told_first" "_law_told_first" Qv f39 d39)
  {f40:Addr} {d40:FuncData}
  (a40:W.nsIn K mainGlobals "law"= some (some (.ref f40))) (F40:Fun K "law" "law" j2n f40 d40)
  {qH:Addr}
  (g_MOST_NAMES:W.nsIn K mainGlobals "MOST_NAMES"= some (some (.ref qH))) (kk_MOST_NAMES:TabK K qH [("row",.flat (.int 8)),("side",.flat (.int 4))])
  (z0:W.nsIn K mainGlobals "abs"= some none) (z1:W.nsIn K mainGlobals "dict"= some none) (z2:W.nsIn K mainGlobals "enumerate"= some none) (z3:W.nsIn K mainGlobals "isinstance"= some none) (z4:W.nsIn K mainGlobals "len"= some none) (z5:W.nsIn K mainGlobals "list"= some none) (z6:W.nsIn K mainGlobals "max"= some none) (z7:W.nsIn K mainGlobals "min"= some none) (z8:W.nsIn K mainGlobals "range"= some none) (z9:W.nsIn K mainGlobals "sorted"= some none) (z10:W.nsIn K mainGlobals "sum"= some none) (z11:W.nsIn K mainGlobals "tuple"= some none) (z12:W.nsIn K mainGlobals "zip"= some none) :
  ∃t:Ad,Txt K mg t:=by
 exact⟨⟨f1,_,f2,_,f3,_,f4,_,f5,_,f6,_,f7,_,f8,_,f9,_,f10,_,f11,_,f12,_,f13,_,f14,_,f15,_,f16,_,f17,_,f18,_,f19,_,f20,_,f21,_,f22,_,f23,_,f24,_,f25,_,f26,_,f27,_,f28,_,f29,_,f30,_,f31,_,f32,_,f33,_,f34,_,f35,_,f36,_,f37,_,f38,_,f39,_,f40,_,C_Strand,C_Stage,_⟩,⟨F1,W.mg_of X G a1,bb1 F1 fun _ _ _ _ _ _ _=>rfl,
  F2,W.mg_of X G a2,bb1 F2 fun _ _ _ _ _ _ _=>rfl,
  F3,W.mg_of X G a3,bb1 F3 fun _ _ _ _ _ _ _=>rfl,
  F4,W.mg_of X G a4,bb1 F4 fun _ _ _ _ _ _ _=>rfl,
  F5,W.mg_of X G a5,bb1 F5 fun _ _ _ _ _ _ _=>rfl,
  F6,W.mg_of X G a6,bb1 F6 fun _ _ _ _ _ _ _=>rfl,
  F7,W.mg_of X G a7,bb3 F7 fun _ _ _ _ _ _ _ _ _=>rfl,
  F8,W.mg_of X G a8,bb2 F8 fun _ _ _ _ _ _ _ _=>rfl,
  F9,W.mg_of X G a9,bb1 F9 fun _ _ _ _ _ _ _=>rfl,
  F10,W.mg_of X G a10,bb4 F10 fun _ _ _ _ _ _ _ _ _ _=>rfl,
  F11,W.mg_of X G a11,bb3 F11 fun _ _ _ _ _ _ _ _ _=>rfl,
  F12,W.mg_of X G a12,bb2 F12 fun _ _ _ _ _ _ _ _=>rfl,
  F13,W.mg_of X G a13,bb3 F13 fun _ _ _ _ _ _ _ _ _=>rfl,
  F14,W.mg_of X G a14,bb3 F14 fun _ _ _ _ _ _ _ _ _=>rfl,
  F15,⟨a15,i15,F15.kp⟩,bb3 F15 fun _ _ _ _ _ _ _ _ _=>rfl,
  F16,⟨a16,i16,F16.kp⟩,bb2 F16 fun _ _ _ _ _ _ _ _=>rfl,
  F17,W.mg_of X G a17,bb3 F17 fun _ _ _ _ _ _ _ _ _=>rfl,
  F18,⟨a18,i18,F18.kp⟩,bb2 F18 fun _ _ _ _ _ _ _ _=>rfl,
  F19,⟨a19,i19,F19.kp⟩,bb2 F19 fun _ _ _ _ _ _ _ _=>rfl,
  F20,⟨a20,i20,F20.kp⟩,bb2 F20 fun _ _ _ _ _ _ _ _=>rfl,
  F21,⟨a21,i21,F21.kp⟩,bb2 F21 fun _ _ _ _ _ _ _ _=>rfl,
  F22,W.mg_of X G a22,bb2 F22 fun _ _ _ _ _ _ _ _=>rfl,
  F23,W.mg_of X G a23,bb4 F23 fun _ _ _ _ _ _ _ _ _ _=>rfl,
  F24,W.mg_of X G a24,bb5 F24 fun _ _ _ _ _ _ _ _ _ _ _=>rfl,
  F25,W.mg_of X G a25,bb2 F25 fun _ _ _ _ _ _ _ _=>rfl,
  F26,W.mg_of X G a26,bb2 F26 fun _ _ _ _ _ _ _ _=>rfl,
  F27,W.mg_of X G a27,bb2 F27 fun _ _ _ _ _ _ _ _=>rfl,
  F28,W.mg_of X G a28,bb2 F28 fun _ _ _ _ _ _ _ _=>rfl,
  F29,W.mg_of X G a29,bb2 F29 fun _ _ _ _ _ _ _ _=>rfl,
  F30,W.mg_of X G a30,bb2 F30 fun _ _ _ _ _ _ _ _=>rfl,
  F31,W.mg_of X G a31,bb2 F31 fun _ _ _ _ _ _ _ _=>rfl,
  F32,W.mg_of X G a32,bb2 F32 fun _ _ _ _ _ _ _ _=>rfl,
  F33,W.mg_of X G a33,bb6 F33 fun _ _ _ _ _ _ _ _ _ _ _ _=>rfl,
  F34,W.mg_of X G a34,bb5 F34 fun _ _ _ _ _ _ _ _ _ _ _=>rfl,
  F35,W.mg_of X G a35,bb5 F35 fun _ _ _ _ _ _ _ _ _ _ _=>rfl,
  F36,W.mg_of X G a36,bb3 F36 fun _ _ _ _ _ _ _ _ _=>rfl,
  F37,W.mg_of X G a37,bb3 F37 fun _ _ _ _ _ _ _ _ _=>rfl,
  F38,W.mg_of X G a38,bb1 F38 fun _ _ _ _ _ _ _=>rfl,
  F39,W.mg_of X G a39,bb3 F39 fun _ _ _ _ _ _ _ _ _=>rfl,
  F40,W.mg_of X G a40,bb1 F40 fun _ _ _ _ _ _ _=>rfl,
  ⟨pg_Strand,hd_Strand,po_Strand,sa_Strand⟩,⟨mk_Strand,a15,i15,kc_Strand⟩,W.mg_of X G aC_Strand,Jx,Jy,Jq,j7,JW,
  ⟨pg_Stage,hd_Stage,po_Stage,sa_Stage⟩,⟨mk_Stage,a18,i18,kc_Stage⟩,W.mg_of X G aC_Stage,qt,qq,qr,j9,qG,JV,
  W.mg_none_of X G z0,
  W.mg_none_of X G z1,
  W.mg_none_of X G z2,
  W.mg_none_of X G z3,
  W.mg_none_of X G z4,
  W.mg_none_of X G z5,
  W.mg_none_of X G z6,
  W.mg_none_of X G z7,
  W.mg_none_of X G z8,
  W.mg_none_of X G z9,
  W.mg_none_of X G z10,
  W.mg_none_of X G z11,
  W.mg_none_of X G z12,
  W.mg_of X G g_MOST_NAMES,kk_MOST_NAMES⟩⟩
end K30
open PySem PySem.W PyProof.Rows
set_option maxRecDepth 100000 in
set_option maxHeartbeats 0 in
theorem PySem.Challenge.cw_camplay_k30_jumps_among_first_beats_holds : PySem.Challenge.rw_camplay_k30_jumps_among_first_beats.Holds := by
 w_on;o_law;k_head;(case hw=>w_witness2)
 k_fill
 refine L2.j2L (l:=PySem.Challenge.rw_camplay_k30_jumps_among_first_beats) (n:=63) (k:=11) (x:="_law_script") (CX:=L2.CX0) (sp:=Pr.sp_law) rfl (by decide) rfl ⟨rfl,by decide,by decide⟩ (fun w h Y=>PySem.W.kIn_of Y) ?F (fun K H a ns hl hb hO hS=>⟨a,ns,rfl,hS,hl,hb,fun _=>rfl⟩) (fun _ _ _ _ z=>z)
 case F=>
  intro w mg fa h KX G hmg;have TT:∃t:K30.Ad,K30.Txt (L2.KOf KX) mg t:=by
   dsimp only[L2.KOf];refine' K30.j4N KX G ?aC_Stage ?pg_Stage ?hd_Stage ?po_Stage ?sa_Stage ?mk_Stage ?kc_Stage ?qt ?qq ?qr ?j9 ?qG ?JV ?aC_Strand ?pg_Strand ?hd_Strand ?po_Strand ?sa_Strand ?mk_Strand ?kc_Strand ?Jx ?Jy ?Jq ?j7 ?JW ?a1 (L2.jK ?l1 ?c1 ?k1) ?a2 (L2.jK ?l2 ?c2 ?k2) ?a3 (L2.jK ?l3 ?c3 ?k3) ?a4 (L2.jK ?l4 ?c4 ?k4) ?a5 (L2.jK ?l5 ?c5 ?k5) ?a6 (L2.jK ?l6 ?c6 ?k6) ?a7 (L2.jK ?l7 ?c7 ?k7) ?a8 (L2.jK ?l8 ?c8 ?k8) ?a9 (L2.jK ?l9 ?c9 ?k9) ?a10 (L2.jK ?l10 ?c10 ?k10) ?a11 (L2.jK ?l11 ?c11 ?k11) ?a12 (L2.jK ?l12 ?c12 ?k12) ?a13 (L2.jK ?l13 ?c13 ?k13) ?a14 (L2.jK ?l14 ?c14 ?k14) ?a15 ?i15 (L2.jK ?l15 ?c15 ?k15) ?a16 ?i16 (L2.jK ?l16 ?c16 ?k16) ?a17 (L2.jK ?l17 ?c17 ?k17) ?a18 ?i18 (L2.jK ?l18 ?c18 ?k18) ?a19 ?i19 (L2.jK ?l19 ?c19 ?k19) ?a20 ?i20 (L2.jK ?l20 ?c20 ?k20) ?a21 ?i21 (L2.jK ?l21 ?c21 ?k21) ?a22 (L2.jK ?l22 ?c22 ?k22) ?a23 (L2.jK ?l23 ?c23 ?k23) ?a24 (L2.jK ?l24 ?c24 ?k24) ?a25 (L2.jK ?l25 ?c25 ?k25) ?a26 (L2.jK ?l26 ?c26 ?k26) ?a27 (L2.jK ?l27 ?c27 ?k27) ?a28 (L2.jK ?l28 ?c28 ?k28) ?a29 (L2.jK ?l29 ?c29 ?k29) ?a30 (L2.jK ?l30 ?c30 ?k30) ?a31 (L2.jK ?l31 ?c31 ?k31) ?a32 (L2.jK ?l32 ?c32 ?k32) ?a33 (L2.jK ?l33 ?c33 ?k33) ?a34 (L2.jK ?l34 ?c34 ?k34) ?a35 (L2.jK ?l35 ?c35 ?k35) ?a36 (L2.jK ?l36 ?c36 ?k36) ?a37 (L2.jK ?l37 ?c37 ?k37) ?a38 (L2.jK ?l38 ?c38 ?k38) ?a39 (L2.jK ?l39 ?c39 ?k39) ?a40 (L2.jK ?l40 ?c40 ?k40) ?g_MOST_NAMES ?kk_MOST_NAMES ?z0 ?z1 ?z2 ?z3 ?z4 ?z5 ?z6 ?z7 ?z8 ?z9 ?z10 ?z11 ?z12
   (case aC_Strand=>k_is);(case pg_Strand=>k_is);(case hd_Strand=>k_is);(case po_Strand=>k_is);(case sa_Strand=>k_is);(case mk_Strand=>k_is);(case kc_Strand=>k_is);(case Jx=>k_is);(case Jy=>k_is);(case Jq=>k_is);(case j7=>k_is);(case JW=>k_is)
   (case aC_Stage=>k_is);(case pg_Stage=>k_is);(case hd_Stage=>k_is);(case po_Stage=>k_is);(case sa_Stage=>k_is);(case mk_Stage=>k_is);(case kc_Stage=>k_is);(case qt=>k_is);(case qq=>k_is);(case qr=>k_is);(case j9=>k_is);(case qG=>k_is);(case JV=>k_is)
   (case a1=>k_is);(case l1=>k_is);(case c1=>k_is);(case k1=>k_is)
   (case a2=>k_is);(case l2=>k_is);(case c2=>k_is);(case k2=>k_is)
   (case a3=>k_is);(case l3=>k_is);(case c3=>k_is);(case k3=>k_is)
   (case a4=>k_is);(case l4=>k_is);(case c4=>k_is);(case k4=>k_is)
   (case a5=>k_is);(case l5=>k_is);(case c5=>k_is);(case k5=>k_is)
   (case a6=>k_is);(case l6=>k_is);(case c6=>k_is);(case k6=>k_is)
   (case a7=>k_is);(case l7=>k_is);(case c7=>k_is);(case k7=>k_is)
   (case a8=>k_is);(case l8=>k_is);(case c8=>k_is);(case k8=>k_is)
   (case a9=>k_is);(case l9=>k_is);(case c9=>k_is);(case k9=>k_is)
   (case a10=>k_is);(case l10=>k_is);(case c10=>k_is);(case k10=>k_is)
   (case a11=>k_is);(case l11=>k_is);(case c11=>k_is);(case k11=>k_is)
   (case a12=>k_is);(case l12=>k_is);(case c12=>k_is);(case k12=>k_is)
   (case a13=>k_is);(case l13=>k_is);(case c13=>k_is);(case k13=>k_is)
   (case a14=>k_is);(case l14=>k_is);(case c14=>k_is);(case k14=>k_is)
   (case a15=>k_is);(case i15=>k_is)
   (case l15=>k_is);(case c15=>k_is);(case k15=>k_is)
   (case a16=>k_is);(case i16=>k_is)
   (case l16=>k_is);(case c16=>k_is);(case k16=>k_is)
   (case a17=>k_is);(case l17=>k_is);(case c17=>k_is);(case k17=>k_is)
   (case a18=>k_is);(case i18=>k_is)
   (case l18=>k_is);(case c18=>k_is);(case k18=>k_is)
   (case a19=>k_is);(case i19=>k_is)
   (case l19=>k_is);(case c19=>k_is);(case k19=>k_is)
   (case a20=>k_is);(case i20=>k_is)
   (case l20=>k_is);(case c20=>k_is);(case k20=>k_is)
   (case a21=>k_is);(case i21=>k_is)
   (case l21=>k_is);(case c21=>k_is);(case k21=>k_is)
   (case a22=>k_is);(case l22=>k_is);(case c22=>k_is);(case k22=>k_is)
   (case a23=>k_is);(case l23=>k_is);(case c23=>k_is);(case k23=>k_is)
   (case a24=>k_is);(case l24=>k_is);(case c24=>k_is);(case k24=>k_is)
   (case a25=>k_is);(case l25=>k_is);(case c25=>k_is);(case k25=>k_is)
   (case a26=>k_is);(case l26=>k_is);(case c26=>k_is);(case k26=>k_is)
   (case a27=>k_is);(case l27=>k_is);(case c27=>k_is);(case k27=>k_is)
   (case a28=>k_is);(case l28=>k_is);(case c28=>k_is);(case k28=>k_is)
   (case a29=>k_is);(case l29=>k_is);(case c29=>k_is);(case k29=>k_is)
   (case a30=>k_is);(case l30=>k_is);(case c30=>k_is);(case k30=>k_is)
   (case a31=>k_is);(case l31=>k_is);(case c31=>k_is);(case k31=>k_is)
   (case a32=>k_is);(case l32=>k_is);(case c32=>k_is);(case k32=>k_is)
   (case a33=>k_is);(case l33=>k_is);(case c33=>k_is);(case k33=>k_is)
   (case a34=>k_is);(case l34=>k_is);(case c34=>k_is);(case k34=>k_is)
   (case a35=>k_is);(case l35=>k_is);(case c35=>k_is);(case k35=>k_is)
   (case a36=>k_is);(case l36=>k_is);(case c36=>k_is);(case k36=>k_is)
   (case a37=>k_is);(case l37=>k_is);(case c37=>k_is);(case k37=>k_is)
   (case a38=>k_is);(case l38=>k_is);(case c38=>k_is);(case k38=>k_is)
   (case a39=>k_is);(case l39=>k_is);(case c39=>k_is);(case k39=>k_is)
   (case a40=>k_is);(case l40=>k_is);(case c40=>k_is);(case k40=>k_is)
   (case g_MOST_NAMES=>k_is);(case kk_MOST_NAMES=>(show PyProof.Rows.KTD.tabLook _ _ _ _=true);kernel_rfl)
   (case z0=>k_is)
   (case z1=>k_is)
   (case z2=>k_is)
   (case z3=>k_is)
   (case z4=>k_is)
   (case z5=>k_is)
   (case z6=>k_is)
   (case z7=>k_is)
   (case z8=>k_is)
   (case z9=>k_is)
   (case z10=>k_is)
   (case z11=>k_is)
   (case z12=>k_is)
  obtain⟨t,T⟩:=TT;obtain⟨_,_,kV,dc,pm,an,cd,ct,_,e,_⟩:=T.j3T.ex;have e0:=hmg.symm.trans T.j4Z;cases e0;refine⟨t.W1,fun s v=>?_,fun base _ _=>K30.j2P T⟩;rw[e];exact .of_eq rfl
#print axioms PySem.Challenge.cw_camplay_k30_jumps_among_first_beats_holds
