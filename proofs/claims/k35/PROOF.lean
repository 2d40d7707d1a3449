import PyProof.Rows.All
import Wide.All
import OpenK.AllK
import Wide.FinOn
import Lean
import PyProof.EqAt
import PyProof.EqKinds
import PyProof.TupleCall
import PySem.Challenge.RW_camplay_k35_whole_there_and_back
set_option Elab.async false
set_option linter.all false
set_option maxRecDepth 100000
set_option maxHeartbeats 4000000
open List (all_cons all_eq_true any_cons any_eq_true append_nil cons_append ext_getElem filterMap_cons filter_append filter_cons forIn_cons forIn_nil forall_mem_cons getD_eq_getElem?_getD getElem_idxOf getElem_map getElem_mem getElem_range getElem_take idxOf_lt_length_of_mem length_cons length_drop length_filter_le length_map length_nil length_range length_replicate length_singleton length_take length_zip lookup_cons map_append map_congr_left map_cons map_id map_map map_nil map_take mem_append mem_append_left mem_append_right mem_cons mem_cons_of_mem mem_cons_self mem_filter mem_iff_getElem mem_map mem_of_mem_drop mem_of_mem_take mem_range mem_singleton nodup_append nodup_cons not_mem_nil of_mem_zip pairwise_cons pairwise_iff_getElem pairwise_map pairwise_singleton range_succ size_toArray sum_cons take_length take_of_length_le zipIdx_cons)
abbrev Frg := PySem.W.Frag
namespace L2
open PySem PySem.Spec PyProof.Rows
noncomputable abbrev Key:=Sum Int Str
noncomputable def keyIs:Key->Value->Bool
 | .inl k,v=>Value.isInt k v
 | .inr x,v=>Value.isStrOf x v
noncomputable def keyH(w:World):Key->Int
 | .inl k=>hashInt k
 | .inr x=>hashStr w x
theorem jZ:∀{k:Key} {v:Value},keyIs k v=true->(∃i t,k=Sum.inl i/\v=Value.int i t)\/(∃x t,k=Sum.inr x/\v=Value.str x t)
 | .inl i,v,h=>by
  obtain⟨t,e⟩:=Value.isInt_shape (k:=i) (v:=v) h;exact .inl ⟨i,t,rfl,e⟩
 | .inr x,v,h=>by
  obtain⟨t,e⟩:=Value.isStrOf_shape (x:=x) (v:=v) h;exact .inr ⟨x,t,rfl,e⟩
theorem KW(i:Int)(t:Tok):keyIs (.inl i) (.int i t)=true:=by simp[keyIs,Value.isInt]
theorem j0S(x:Str)(t:Tok):keyIs (.inr x) (.str x t)=true:=by simp[keyIs,Value.isStrOf]
theorem j4y(a b:Int):decide ((Sum.inl a:Key)=Sum.inl b)=(a==b):=by
 by_cases e:a=b
 ·subst e;simp
 ·have h:¬(Sum.inl a:Key)=Sum.inl b:=fun q=>e (Sum.inl.inj q)
  rw[decide_eq_false h];exact(beq_eq_false_iff_ne.mpr e).symm
theorem j4B(a b:Str):decide ((Sum.inr a:Key)=Sum.inr b)=decide (a=b):=by
 by_cases e:a=b
 ·subst e;simp
 ·have h:¬(Sum.inr a:Key)=Sum.inr b:=fun q=>e (Sum.inr.inj q)
  rw[decide_eq_false h,decide_eq_false e]
theorem j4z(a:Int)(b:Str):decide ((Sum.inl a:Key)=Sum.inr b)=false:=decide_eq_false (fun q=>nomatch q)
theorem j4A(a:Str)(b:Int):decide ((Sum.inr a:Key)=Sum.inl b)=false:=decide_eq_false (fun q=>nomatch q)
noncomputable def mixKind(prog:Program)(w:World):PySem.KeyKind prog w Key where
 is:=keyIs
 hash:=keyH w
 inj:=fun v a b ha hb=>by
  rcases jZ ha with⟨i,t,rfl,rfl⟩ | ⟨x,t,rfl,rfl⟩
  ·rcases jZ hb with⟨j,u,rfl,e⟩ | ⟨y,u,rfl,e⟩
   ·injection e with e1 _;rw[e1]
   ·exact nomatch e
  ·rcases jZ hb with⟨j,u,rfl,e⟩ | ⟨y,u,rfl,e⟩
   ·exact nomatch e
   ·injection e with e1 _;rw[e1]
 byValue:=fun k v h=>by
  rcases jZ h with⟨i,t,rfl,rfl⟩ | ⟨x,t,rfl,rfl⟩<;>rfl
 pyHash:=fun hv h=>by
  rcases jZ hv with⟨i,t,rfl,rfl⟩ | ⟨x,t,rfl,rfl⟩
  ·exact wpAny_pyHash_int h
  ·exact wpAny_pyHash_str h
 eqBool:=fun hu hv h=>by
  rcases jZ hu with⟨i,t,rfl,rfl⟩ | ⟨x,t,rfl,rfl⟩
  ·rcases jZ hv with⟨j,u,rfl,rfl⟩ | ⟨y,u,rfl,rfl⟩
   ·rw[j4y]at h;exact wpAny_eqBool_int h
   ·rw[j4z]at h;exact SeqAt.EqAt.int_str i t y u _ _ _ _ h
  ·rcases jZ hv with⟨j,u,rfl,rfl⟩ | ⟨y,u,rfl,rfl⟩
   ·rw[j4A]at h;exact SeqAt.EqAt.str_int x t j u _ _ _ _ h
   ·rw[j4B]at h;exact wpAny_eqBool_str h
 «strs»:=fun k x t v h=>by
  rcases jZ h with⟨i,u,rfl,e⟩ | ⟨y,u,rfl,e⟩
  ·exact nomatch e
  ·injection e with e1 _;subst e1;cases v<;>rfl
theorem WY(prog:Program)(w:World)(i:Int)(t:Tok):(mixKind prog w).is (.inl i) (.int i t)=true:=KW i t
theorem WZ(prog:Program)(w:World)(x:Str)(t:Tok):(mixKind prog w).is (.inr x) (.str x t)=true:=j0S x t
inductive V where
 | non | bl (b:Bool) | int (i:Int) | str (x:Str) | byt (b:Array UInt8) | flt (b:UInt64) | ref (a:Addr) | ty (n:String)
 deriving DecidableEq
noncomputable def RelV:V->Value->Prop
 | .non,u=>u=Value.none
 | .bl b,u=>u=Value.bool b
 | .int i,u=>∃t,u=Value.int i t
 | .str x,u=>∃t,u=Value.str x t
 | .byt b,u=>∃t,u=Value.bytes b t
 | .flt b,u=>∃t,u=Value.float b t
 | .ref a,u=>u=Value.ref a
 | .ty n,u=>u=Value.type n
noncomputable abbrev Vals:List V->List Value->Prop:=Paired RelV
theorem Vals.length{xs:List V}{us:List Value}(r:Vals xs us):xs.length=us.length:=Paired.length r
theorem Vals.get:∀{xs:List V} {us:List Value} {i:Nat} {x:V},Vals xs us->xs[i]?=some x->∃u,us[i]?=some u/\RelV x u
 | _,_,_,_,.nil,e=>by simp at e
 | _,_,0,_,.cons r _,e=>by simp at e;subst e;exact⟨_,rfl,r⟩
 | _,_,i+1,x,.cons _ t,e=>by
  obtain⟨u,h1,h2⟩:=Vals.get (i:=i) (x:=x) t (by simpa using e);exact⟨u,by simpa using h1,h2⟩
theorem Vals.append:∀{xs ys:List V} {us ws:List Value},Vals xs us->Vals ys ws->Vals (xs++ys) (us++ws)
 | _,_,_,_,.nil,s=>s
 | _,_,_,_,.cons r t,s=>.cons r (Vals.append t s)
theorem Vals.take:∀{xs:List V} {us:List Value} (n:Nat),Vals xs us->Vals (xs.take n) (us.take n)
 | _,_,0,_=>.nil
 | _,_,_+1,.nil=>.nil
 | _,_,n+1,.cons r t=>.cons r (Vals.take n t)
theorem Vals.drop:∀{xs:List V} {us:List Value} (n:Nat),Vals xs us->Vals (xs.drop n) (us.drop n)
 | _,_,0,r=>r
 | _,_,_+1,.nil=>.nil
 | _,_,n+1,.cons _ t=>Vals.drop n t
noncomputable def RelO:Option V->Option Value->Prop
 | some v,some u=>RelV v u
 | none,none=>True
 | _,_=>False
noncomputable def KV{κ:Type}:List (κ×V)->List (κ×Value)->Prop:=Paired fun(p:κ×V) (q:κ×Value)=>p.1=q.1/\RelV p.2 q.2
noncomputable def kV:Key->V
 | .inl i=>.int i
 | .inr x=>.str x
inductive HO where
 | lst (xs:List V)
 | tup (xs:List V)
 | dK (kvs:List (Key×V)) | dT (kvs:List (List Key×V))
 | set (S:Int->Bool) (n:Nat)
 | ins (C dx:Addr) (fs:List (Str×V))
 | own (x:Addr)
 | xd (fs:List (Str×V))
 | met (f x:Addr)
 | rng (lo hi:Int)
 | frz (o:Obj) (u:HO)
 | tbl (ps:Array Value)
 | ext (φ:Heap->Prop)
noncomputable abbrev Hp:=Addr->Option HO
noncomputable def upd(H:Hp)(a:Addr)(o:HO):Hp:=fun b=>if b=a then some o else H b
theorem jh{H:Hp}{a:Addr}{o:HO}:upd H a o a=some o:=by unfold upd;rw[if_pos rfl]
theorem jo{H:Hp}{a b:Addr}{o:HO}(h:b≠a):upd H a o b=H b:=by unfold upd;rw[if_neg h]
theorem j3T{H:Hp}{a:Addr}{o u:HO}:upd (upd H a o) a u=upd H a u:=by
 funext b;unfold upd;split<;>rfl
theorem qw{H:Hp}{a b:Addr}{o u:HO}(h:H a=some o)(h':H b=some u)(d:o≠u):a≠b:=by
 intro e;subst e;rw[h]at h';exact d (Option.some.inj h')
theorem jg{H:Hp}{a b:Addr}{o:HO}(h:H a=some o)(h':H b=none):a≠b:=by
 intro e;subst e;rw[h]at h';cases h'
section
variable(P:Program)(w:World)
noncomputable def ObjOk(H:Hp)(h:Heap)(a:Addr):HO->Prop
 | .lst xs=>xs.length<=sizeLine/\∃(its:List Value) (n:Nat),Vals xs its/\h.get? a=some {cls:=.type "list",data:=.seq its.toArray n}
 | .tup xs=>xs.length<=sizeLine/\∃its:List Value,Vals xs its/\IsTup h a its.toArray
 | .dK kvs=>kvs.length<=sizeLine/\(a==sysModules)=false/\∃vs,KV kvs vs/\h.DictOf (mixKind P w) a vs
 | .dT kvs=>kvs.length<=sizeLine/\(a==sysModules)=false/\∃xs:List (List Key×Addr×Value),
   Paired (fun(p:List Key×V) (q:List Key×Addr×Value)=>p.1=q.1/\H q.2.1=some (.tup (p.1.map kV))/\RelV p.2 q.2.2) kvs xs/\
   ∃o es ep,h.get? a=some o/\o.ExactDict/\o.data = .dict es ep/\es.toList=xs.map (entryOfKey (tupleKind (mixKind P w)))/\(xs.map (·.1)).Nodup
 | .set S n=>h.SetOf (intKind P w) a S n
 | .ins C dx fs=>H dx=some (.own a)/\fs.length<=1000/\dx≠a/\h.get? a=some (PySem.W.instObj C dx)/\
   ∃mA,h.Ns1 dx mA/\(∀f,RelO (fs.lookup f) (mA f))/\PySem.Within mA (fs.map (·.1))
 | .own _=>∃o,h.get? a=some o
 | .xd fs=>∃mA,h.Ns1 a mA/\∀f,RelO (fs.lookup f) (mA f)
 | .rng lo hi=>∃t u v,h.get? a=some {cls:=.type "range",data:=.fields #[.int lo t,.int hi u,.int 1 v]}
 | .frz o u=>h.get? a=some o/\ObjOk H h a u
 | .tbl ps=>h.get? a=some {cls:=.none,data:=.fields ps}
 | .met f x=>h.get? a=some (PySem.W.methodObj (.ref f) (.ref x))
 | .ext φ=>φ h/\(∃o,h.get? a=some o)/\∀h1 h2:Heap,φ h1->(∀o,h1.get? a=some o->h2.get? a=some o)->φ h2
def HOk(H:Hp)(h:Heap):Prop:=∀a o,H a=some o->ObjOk P w H h a o
end
section
variable{P:Program}{w:World}{H H':Hp}{h h':Heap}{a:Addr}{o:HO}
theorem ObjOk.lt(x:ObjOk P w H h a o):a<h.objs.size:=by
 cases o with
 | lst xs=>obtain⟨_,_,_,_,e⟩:=x;exact Heap.lt_size e
 | tup xs=>obtain⟨_,_,_,p⟩:=x;exact p.lt
 | dK kvs=>obtain⟨_,_,_,_,o,_,_,e,_⟩:=x;exact Heap.lt_size e
 | dT kvs=>obtain⟨_,_,_,_,o,_,_,e,_⟩:=x;exact Heap.lt_size e
 | set S n=>obtain⟨o,_,_,_,e,_⟩:=x;exact Heap.lt_size e
 | ins C dx fs=>obtain⟨_,_,_,e,_⟩:=x;exact Heap.lt_size e
 | own y=>obtain⟨_,e⟩:=x;exact Heap.lt_size e
 | xd fs=>obtain⟨_,⟨_,_,_,e,_⟩,_⟩:=x;exact Heap.lt_size e
 | rng lo hi=>obtain⟨_,_,_,e⟩:=x;exact Heap.lt_size e
 | frz ob u=>obtain⟨e,_⟩:=x;exact Heap.lt_size e
 | tbl ps=>exact Heap.lt_size (show h.get? a=some _ from x)
 | met f y=>exact Heap.lt_size (show h.get? a=some _ from x)
 | ext φ=>obtain⟨_,⟨_,e⟩,_⟩:=x;exact Heap.lt_size e
theorem Paired.mapP{α β:Type}{F G:α->β->Prop}:∀{l₁:List α} {l₂:List β},Paired F l₁ l₂->(∀a b,F a b->G a b)->Paired G l₁ l₂
 | _,_,.nil,_=>.nil
 | _,_,.cons r t,f=>.cons (f _ _ r) (Paired.mapP t f)
theorem ObjOk.stay(x:ObjOk P w H h a o)(k:∀b u,(b=a\/H b=some (.own a))->h.get? b=some u->h'.get? b=some u)
  (ho:∀b,H b=some (.own a)->H' b=some (.own a)) (ht:∀b xs,H b=some (.tup xs)->H' b=some (.tup xs)):ObjOk P w H' h' a o:=by
 induction o with
 | lst xs=>obtain⟨z,its,n,r,e⟩:=x;exact⟨z,its,n,r,k _ _ (.inl rfl) e⟩
 | tup xs=>obtain⟨z,its,r,ob,e,c⟩:=x;exact⟨z,its,r,ob,k _ _ (.inl rfl) e,c⟩
 | dK kvs=>obtain⟨z,y,vs,r,ob,es,ep,e,c⟩:=x;exact⟨z,y,vs,r,ob,es,ep,k _ _ (.inl rfl) e,c⟩
 | dT kvs=>
  obtain⟨z,y,xs,r,ob,es,ep,e,c⟩:=x;exact⟨z,y,xs,Paired.mapP r fun p q z=>⟨z.1,ht _ _ z.2.1,z.2.2⟩,ob,es,ep,k _ _ (.inl rfl) e,c⟩
 | set S n=>obtain⟨ob,es,ep,t,e,c⟩:=x;exact⟨ob,es,ep,t,k _ _ (.inl rfl) e,c⟩
 | ins C dx fs=>
  obtain⟨d,z,ne,e,mA,⟨od,es,ep,e2,c⟩,r⟩:=x;exact⟨ho _ d,z,ne,k _ _ (.inl rfl) e,mA,⟨od,es,ep,k _ _ (.inr d) e2,c⟩,r⟩
 | own y=>obtain⟨ob,e⟩:=x;exact⟨ob,k _ _ (.inl rfl) e⟩
 | xd fs=>obtain⟨mA,⟨od,es,ep,e,c⟩,r⟩:=x;exact⟨mA,⟨od,es,ep,k _ _ (.inl rfl) e,c⟩,r⟩
 | rng lo hi=>obtain⟨t,u,v,e⟩:=x;exact⟨t,u,v,k _ _ (.inl rfl) e⟩
 | frz ob u ih=>obtain⟨e,q⟩:=x;exact⟨k _ _ (.inl rfl) e,ih q⟩
 | tbl ps=>
  have e:h.get? a=some {cls:=.none,data:=.fields ps}:=x;show h'.get? a=some {cls:=.none,data:=.fields ps};exact k a _ (.inl rfl) e
 | met f y=>
  have e:h.get? a=some (PySem.W.methodObj (.ref f) (.ref y)):=x;show h'.get? a=some (PySem.W.methodObj (.ref f) (.ref y));exact k a _ (.inl rfl) e
 | ext φ=>obtain⟨p,⟨o,e⟩,st⟩:=x;exact⟨st _ _ p fun o q=>k _ _ (.inl rfl) q,⟨o,k _ _ (.inl rfl) e⟩,st⟩
theorem HOk.lt(x:HOk P w H h)(e:H a=some o):a<h.objs.size:=(x a o e).lt
theorem HOk.fresh(x:HOk P w H h)(e:h.objs.size<=a):H a=none:=by
 cases q:H a with
 | none=>rfl
 | some u=>exact absurd (Nat.lt_of_lt_of_le (x.lt q) e) (Nat.lt_irrefl _)
theorem HOk.kept(x:HOk P w H h)(k:∀b u,h.get? b=some u->h'.get? b=some u):HOk P w H h':=fun a o e=>
 (x a o e).stay (fun b u _ q=>k b u q) (fun _ q=>q) fun _ _ q=>q
theorem HOk.laid(x:HOk P w H h)(k:∀b u,h.get? b=some u->h'.get? b=some u)(hp:h.objs.size<=a)(new:ObjOk P w (upd H a o) h' a o):HOk P w (upd H a o) h':=fun b u e=>by
 have hn:=x.fresh hp;by_cases hb:b=a
 ·subst hb;rw[jh]at e;cases e;exact new
 ·rw[jo hb]at e;exact(x b u e).stay (fun c v _ q=>k c v q) (fun c q=>by rw[jo (jg q hn)];exact q) fun c xs q=>by rw[jo (jg q hn)];exact q
end
def Rd(H:Hp)(a:Addr)(u:HO):Prop:=H a=some u\/∃o,H a=some (.frz o u)
theorem Rd.ok{P:Program}{w:World}{H:Hp}{h:Heap}{a:Addr}{u:HO}(r:Rd H a u)(x:HOk P w H h):ObjOk P w H h a u:=by
 rcases r with r | ⟨o,r⟩
 ·exact x a u r
 ·obtain⟨_,q⟩:=x a _ r;exact q
noncomputable def Mut:Option HO->Prop
 | some (.lst _)=>True
 | some (.dK _)=>True
 | some (.dT _)=>True
 | some (.set _ _)=>True
 | some (.ins _ _ _)=>True
 | some (.ext _)=>True
 | _=>False
section
variable{P:Program}{w:World}{H:Hp}{h h':Heap}{x e:Addr}{o':HO}
theorem HOk.write(ok:HOk P w H h)(mu:Mut (H x))(he:e=x\/H e=some (.own x))(k:∀b u,b≠e->h.get? b=some u->h'.get? b=some u)(heo:∃u,h'.get? e=some u)
  (new:ObjOk P w (upd H x o') h' x o'):HOk P w (upd H x o') h':=fun b u q=>by
 have nown:∀c y,H c=some (.own y)->c≠x:=fun c y r z=>by subst z;rw[r]at mu;exact mu
 have ntup:∀c xs,H c=some (.tup xs)->c≠x:=fun c xs r z=>by subst z;rw[r]at mu;exact mu
 by_cases hb:b=x
 ·subst hb;rw[jh]at q;cases q;exact new
 ·rw[jo hb]at q;by_cases hbe:b=e
  ·have q':H b=some (.own x):=by
    rcases he with z | z
    ·exact absurd (hbe.trans z) hb
    ·rw[hbe];exact z
   rw[q]at q';cases q';obtain⟨v,hv⟩:=heo;exact⟨v,by rw[hbe];exact hv⟩
  ·refine(ok b u q).stay (fun c v hc r=>k c v ?_ r) (fun c r=>by rw[jo (nown c b r)];exact r) fun c xs r=>by rw[jo (ntup c xs r)];exact r
   rcases hc with rfl | hc
   ·exact hbe
   ·rintro rfl;rcases he with z | z
    ·exact nown c b hc z
    ·rw[hc]at z;cases z;exact hb rfl
end
structure Un(fs ex:List Addr)(H H':Hp)(h h':Heap):Prop where
 keep:∀b o,h.get? b=some o->H b=none->b∉fs->b∉ex->h'.get? b=some o
 slot:∀b o,h.get? b=some o->H b=none->b∈fs->b∉ex->∃sl,h'.get? b=some {o with slots:=sl}
 free:∀b o,h.get? b=some o->H b=none->b∉ex->H' b=none
 there:∀b o,h.get? b=some o->b∉ex->∃o',h'.get? b=some o'
 tups:∀b xs,H b=some (.tup xs)->H' b=some (.tup xs)
 frzs:∀b o u,H b=some (.frz o u)->H' b=some (.frz o u)
 tbls:∀b ps,H b=some (.tbl ps)->∃more,H' b=some (.tbl (ps++more))
section
variable{fs fs' ex ex':List Addr}{H H1 H2:Hp}{h h1 h2 h':Heap}{a x e:Addr}{o:HO}
theorem Un.any(u:Un fs ex H H1 h h1){b:Addr}{ob:Obj}(q:h.get? b=some ob)(n:H b=none)(hx:b∉ex):∃sl,h1.get? b=some {ob with slots:=sl}:=by
 by_cases hb:b∈fs
 ·exact u.slot b ob q n hb hx
 ·exact⟨ob.slots,u.keep b ob q n hb hx⟩
theorem Un.kept(k:∀b u,h.get? b=some u->h'.get? b=some u):Un fs ex H H h h':=
 ⟨fun b ob q _ _ _=>k b ob q,fun b ob q _ _ _=>⟨ob.slots,k b ob q⟩,fun _ _ _ n _=>n,fun b ob q _=>⟨ob,k b ob q⟩,fun _ _ q=>q,fun _ _ _ q=>q,fun _ ps q=>⟨#[],by rw[q];simp⟩⟩
theorem Un.refl:Un fs ex H H h h:=Un.kept fun _ _ q=>q
theorem Un.laid(k:∀b u,h.get? b=some u->h'.get? b=some u)(hp:h.objs.size<=a)(hn:H a=none):Un fs ex H (upd H a o) h h' where
 keep:=fun b u q _ _ _=>k b u q
 slot:=fun b u q _ _ _=>⟨u.slots,k b u q⟩
 free:=fun b u q n _=>by rw[jo (Nat.ne_of_lt (Nat.lt_of_lt_of_le (Heap.lt_size q) hp))];exact n
 there:=fun b u q _=>⟨u,k b u q⟩
 tups:=fun b xs q=>by rw[jo (jg q hn)];exact q
 frzs:=fun b u xs q=>by rw[jo (jg q hn)];exact q
 tbls:=fun b ps q=>⟨#[],by rw[jo (jg q hn),q];simp⟩
theorem Un.write(mu:Mut (H x))(he:e=x\/H e=some (.own x))(k:∀b u,b≠e->h.get? b=some u->h'.get? b=some u)(heo:∃u,h'.get? e=some u):Un fs ex H (upd H x o) h h':=by
 have hx:∀b,H b=none->b≠x:=fun b n z=>by subst z;rw[n]at mu;exact mu
 have hb:∀b,H b=none->b≠e:=fun b n z=>by
  subst z;rcases he with r | r
  ·exact hx b n r
  ·rw[n]at r;cases r
 have hm:∀b u,H b=some u->¬Mut (some u)->b≠x:=fun b u q nm z=>by subst z;rw[q]at mu;exact nm mu
 refine⟨fun b u q n _ _=>k b u (hb b n) q,fun b u q n _ _=>⟨u.slots,k b u (hb b n) q⟩,fun b u q n _=>by rw[jo (hx b n)];exact n,fun b u q _=>?_,
  fun b xs q=>by rw[jo (hm b _ q fun z=>z)];exact q,fun b u xs q=>by rw[jo (hm b _ q fun z=>z)];exact q,fun b ps q=>⟨#[],by rw[jo (hm b _ q fun z=>z),q];simp⟩⟩
 by_cases hbe:b=e
 ·subst hbe;exact heo
 ·exact⟨u,k b u hbe q⟩
end
noncomputable def trk(h:Heap)(H:Hp):List Addr:=(List.range h.objs.size).filter fun a=>(H a).isSome
noncomputable def hidT(h:Heap)(H:Hp):Heap:=PySem.W.hideAll h (trk h H)
theorem j0Q(h:Heap)(H:Hp):(hidT h H).objs.size=h.objs.size:=PySem.W.hideAll_size _ _
theorem j1W{h:Heap}{H:Hp}{b:Addr}{o:Obj}(e:h.get? b=some o)(n:H b=none):(hidT h H).get? b=some o:=
 PySem.W.hideAll_get _ e fun hm=>by
  have q:(H b).isSome=true:=(mem_filter.mp hm).2;rw[n]at q;simp at q
theorem j3B{h:Heap}{H:Hp}{b:Addr}{o:Obj}(e:(hidT h H).get? b=some o):h.get? b=some o/\H b=none:=by
 have e':h.get? b=some o:=PySem.W.of_hideAll (trk h H) e;refine⟨e',?_⟩;cases q:H b with
 | none=>rfl
 | some x=>
  have hm:b∈trk h H:=mem_filter.mpr ⟨mem_range.mpr (Heap.lt_size e'),by simp[q]⟩;have z:(hidT h H).get? b=none:=PySem.W.hideAll_none (trk h H) hm;rw[z]at e;cases e
structure Mod(K:Frg)(mg:Str->Option Value)(base:Heap):Prop where
 kin:K.In base
 glob:base.Ns mainGlobals mg
 blt:∃mb,base.Ns builtinsNs mb/\∀x:Str,x≠"__name__"->mb x=bootBuiltins x
 nolimit:base.NoLimit
structure Cx where
 prog:Program
 w:World
 K:Frg
 mg:Str->Option Value
 base:Heap
 A:Around
 N:List Str
 s₀:Shared
 H₀:Hp
 env:Env
 outer:List Env
 stack:List Env
 ex:List Addr
 fn:Str->Bool
 calm:Bool
 pn:List (Addr×Obj)
 xe:Value->Shared->Prop
noncomputable def frs(l:List Env):List Addr:=l.filterMap (·.frame)
noncomputable abbrev Cx.fs(X:Cx):List Addr:=frs X.outer
def Vis(sc:Scope)(x:Str):Prop:=sc.names.lookup x=some .local\/sc.names.lookup x=some .cell\/sc.names.lookup x=some .free
def Loc(sc:Scope)(x:Str):Prop:=sc.names.lookup x=some .local\/sc.names.lookup x=some .cell
def Look(env:Env)(h:Heap)(m:Str->Option Value)(x:Str)(u:Value):Prop:=
 (env.kindOf x=some .local/\m x=some u)\/((env.kindOf x=some .cell\/env.kindOf x=some .free)/\∃c,env.cells.lookup x=some c/\h.IsCell c (some u))
structure Cx.Ok(X:Cx):Prop where
 mod:Mod X.K X.mg X.base
 kind:X.env.scope.kind = .function
 glob:X.env.globals=mainGlobals
 blt:X.env.builtins=builtinsNs
 above:X.s₀.heap.objs.size<=X.env.locals
 inj:∀x y c,X.env.cells.lookup x=some c->X.env.cells.lookup y=some c->x=y
 has:∀x,(X.env.kindOf x=some .cell\/X.env.kindOf x=some .free)->∃c,X.env.cells.lookup x=some c
 cab:∀x c,X.fn x=true->X.env.cells.lookup x=some c->X.s₀.heap.objs.size<=c
 hd:X.calm=true->X.A.handled=none
 frames:X.A.frames=some X.stack
 stk:X.stack=X.outer\/(X.stack=X.env::X.outer/\X.env.frame=some X.env.locals)
 exf:∀b∈X.ex,b≠X.env.locals/\∀x c,X.env.cells.lookup x=some c->c≠b
 bs:∀b o,X.base.get? b=some o->X.s₀.heap.get? b=some o/\X.H₀ b=none
 bsz:X.base.objs.size<=X.s₀.heap.objs.size
 noex:∀b o,X.base.get? b=some o->b∉X.ex
 exfs:∀b∈X.ex,b∉X.fs
 funs:X.s₀.heap.FunFrames X.base X.outer
 frf:∀b∈X.fs,X.H₀ b=none
structure Inv(X:Cx)(pins:List (Addr×Obj))(σ:List (Option V))(H:Hp)(s:Shared):Prop where
 ok:X.Ok
 os:s.os=X.s₀.os
 bare:AllBare s.gens
 base:Un X.fs X.ex X.H₀ H X.s₀.heap s.heap
 loc:∃m,s.heap.Ns X.env.locals m/\∀(i:Nat) (x:Str) (v:V),X.N[i]?=some x->σ[i]?=some (some v)->Vis X.env.scope x->∃u,RelV v u/\Look X.env s.heap m x u
 cell:∀x c,X.env.cells.lookup x=some c->∃v,s.heap.IsCell c v
 free:H X.env.locals=none
 freeC:∀x c,X.env.cells.lookup x=some c->H c=none
 pin:∀p∈X.pn++pins,s.heap.get? p.1=some p.2/\H p.1=none/\p.1≠X.env.locals/\p.1∉X.fs/\∀v,p.2.data≠.cell v
 hok:HOk X.prog X.w H s.heap
 len:σ.length=X.N.length
section
variable{X:Cx}{pins:List (Addr×Obj)}{σ:List (Option V)}{H H':Hp}{s:Shared}{h':Heap}
theorem Cx.Ok.nofr(ok:X.Ok){b:Addr}{o:Obj}(e:X.base.get? b=some o):b∉X.fs:=fun hb=>by
 have:=(ok.funs.mem hb).1;rw[e]at this;cases this
theorem Inv.bs(I:Inv X pins σ H s):∀b o,X.base.get? b=some o->s.heap.get? b=some o/\H b=none:=fun b o e=>
 ⟨I.base.keep b o (I.ok.bs b o e).1 (I.ok.bs b o e).2 (I.ok.nofr e) (I.ok.noex b o e),I.base.free b o (I.ok.bs b o e).1 (I.ok.bs b o e).2 (I.ok.noex b o e)⟩
theorem Inv.bk(I:Inv X pins σ H s):∀b o,X.base.get? b=some o->s.heap.get? b=some o:=fun b o e=>(I.bs b o e).1
theorem Inv.mod(I:Inv X pins σ H s):Mod X.K X.mg X.base:=I.ok.mod
theorem Inv.kIn(I:Inv X pins σ H s):X.K.In s.heap:=I.ok.mod.kin.keeps I.bk
theorem Inv.lt(I:Inv X pins σ H s):X.env.locals<s.heap.objs.size:=let ⟨_,hn,_⟩:=I.loc;hn.lt
theorem Inv.sz(I:Inv X pins σ H s):X.s₀.heap.objs.size<=s.heap.objs.size:=Nat.le_trans I.ok.above (Nat.le_of_lt I.lt)
theorem Inv.nofs(I:Inv X pins σ H s){a:Addr}(h:s.heap.objs.size<=a):a∉X.fs:=fun hb=>by
 obtain⟨_,o,ho,_⟩:=I.ok.funs.mem hb;exact absurd (Nat.lt_of_lt_of_le (Heap.lt_size ho) (Nat.le_trans I.sz h)) (Nat.lt_irrefl _)
theorem Inv.cne(I:Inv X pins σ H s):∀x c,X.env.cells.lookup x=some c->c≠X.env.locals:=fun x c e z=>by
 obtain⟨v,o,ho,hd⟩:=I.cell x c e;obtain⟨m,⟨o',es,ep,ho',hd',_⟩,_⟩:=I.loc;rw[z,ho']at ho;cases ho;rw[hd']at hd;cases hd
theorem Inv.funs(I:Inv X pins σ H s):s.heap.FunFrames X.base X.outer:=by
 have all:∀(l:List Env),(∀b∈frs l,b∈X.fs)->X.s₀.heap.FunFrames X.base l->s.heap.FunFrames X.base l:=by
  intro l
  induction l with
  | nil=>intro _ _;trivial
  | cons env r ih=>
   intro hs hl;obtain⟨hk,⟨L,o,hf,hn,ho,hd⟩,hr⟩:=hl;have hL:L∈X.fs:=hs L (by unfold frs;rw[filterMap_cons,hf];exact mem_cons_self);obtain⟨sl,e⟩:=I.base.slot L o ho (I.ok.frf L hL) hL fun z=>I.ok.exfs L z hL
   exact⟨hk,⟨L,_,hf,hn,e,hd⟩,ih (fun b hb=>hs b (by unfold frs;rw[filterMap_cons,hf];exact mem_cons_of_mem _ hb)) hr⟩
 exact all X.outer (fun _ hb=>hb) I.ok.funs
theorem Inv.stack(I:Inv X pins σ H s):s.heap.FunFrames X.base X.stack:=by
 rcases I.ok.stk with e | ⟨e,hf⟩
 ·rw[e];exact I.funs
 ·rw[e];obtain⟨m,hn,_⟩:=I.loc;refine .cons (by rw[I.ok.kind];decide) hf hn ?_ I.funs;exact Heap.get?_none_of_le (Nat.le_trans I.ok.bsz I.ok.above)
theorem Inv.stkSub(I:Inv X pins σ H s):∀b∈frs X.stack,b∈X.env.locals::X.fs:=fun b hb=>by
 rcases I.ok.stk with e | ⟨e,hf⟩
 ·rw[e]at hb;exact mem_cons_of_mem _ hb
 ·rw[e]at hb;unfold frs at hb;rw[filterMap_cons,hf]at hb;exact hb
theorem Inv.stkFree(I:Inv X pins σ H s):∀b∈frs X.stack,H b=none:=fun b hb=>by
 rcases mem_cons.mp (I.stkSub b hb)with e | hb
 ·rw[e];exact I.free
 ·obtain⟨_,o,ho,_⟩:=I.ok.funs.mem hb;exact I.base.free b o ho (I.ok.frf b hb) fun z=>I.ok.exfs b z hb
theorem Inv.step{g':Array GenState}{t':Nat}{d':Drawn}{ch:List Addr}(I:Inv X pins σ H s)
  (hch:∀b∈ch,(b∈X.ex\/X.s₀.heap.objs.size<=b)/\b≠X.env.locals/\(∀x c,X.env.cells.lookup x=some c->c≠b)/\∀p∈X.pn++pins,p.1≠b)
  (keep:∀b o,b≠X.env.locals->b∉X.fs->b∉ch->s.heap.get? b=some o->H b=none->h'.get? b=some o)
  (slot:∀b o,b≠X.env.locals->b∈X.fs->b∉ch->s.heap.get? b=some o->H b=none->∃sl,h'.get? b=some {o with slots:=sl}) (free:∀b o,b∉ch->s.heap.get? b=some o->H b=none->H' b=none)
  (there:∀b o,b∉ch->s.heap.get? b=some o->∃o',h'.get? b=some o')
  (tups:∀b xs,H b=some (.tup xs)->H' b=some (.tup xs)) (frzs:∀b o u,H b=some (.frz o u)->H' b=some (.frz o u)) (tbls:∀b ps,H b=some (.tbl ps)->∃more,H' b=some (.tbl (ps++more)))
  (ns:∀m,s.heap.Ns X.env.locals m->h'.Ns X.env.locals m) (hok:HOk X.prog X.w H' h') (hg:AllBare g') :
  Inv X pins σ H' {s with heap:=h',gens:=g',drawn:=d',toks:=t'}:=by
 have neL:∀b o,X.s₀.heap.get? b=some o->b≠X.env.locals:=fun b o e=>Nat.ne_of_lt (Nat.lt_of_lt_of_le (Heap.lt_size e) I.ok.above)
 have neC:∀b o,X.s₀.heap.get? b=some o->b∉X.ex->b∉ch:=fun b o e hx hb=>by
  rcases(hch b hb).1 with z | z
  ·exact hx z
  ·exact absurd (Nat.lt_of_lt_of_le (Heap.lt_size e) z) (Nat.lt_irrefl _)
 have cellK:∀x c,X.env.cells.lookup x=some c->∀v,s.heap.IsCell c v->h'.IsCell c v:=fun x c e v ⟨o,ho,hd⟩=>by
  have nch:c∉ch:=fun z=>(hch c z).2.2.1 x c e rfl
  by_cases hc:c∈X.fs
  ·obtain⟨sl,q⟩:=slot c o (I.cne x c e) hc nch ho (I.freeC x c e);exact⟨_,q,hd⟩
  ·exact⟨o,keep c o (I.cne x c e) hc nch ho (I.freeC x c e),hd⟩
 refine⟨I.ok,I.os,hg,⟨fun b o e n hb hx=>?_,fun b o e n hb hx=>?_,fun b o e n hx=>?_,fun b o e hx=>?_,fun b xs e=>tups b xs (I.base.tups b xs e),fun b o xs e=>frzs b o xs (I.base.frzs b o xs e),fun b ps e=>?_⟩,?_,fun x c e=>?_,?_,fun x c e=>?_,fun p hp=>?_,hok,I.len⟩
 ·exact keep b o (neL b o e) hb (neC b o e hx) (I.base.keep b o e n hb hx) (I.base.free b o e n hx)
 ·obtain⟨sl,e1⟩:=I.base.slot b o e n hb hx;obtain⟨sl',e2⟩:=slot b _ (neL b o e) hb (neC b o e hx) e1 (I.base.free b o e n hx);exact⟨sl',e2⟩
 ·obtain⟨o',e1⟩:=I.base.there b o e hx;exact free b o' (neC b o e hx) e1 (I.base.free b o e n hx)
 ·obtain⟨o',e1⟩:=I.base.there b o e hx;exact there b o' (neC b o e hx) e1
 ·obtain⟨m1,e1⟩:=I.base.tbls b ps e;obtain⟨m2,e2⟩:=tbls b _ e1;exact⟨m1++m2,by rw[e2,Array.append_assoc]⟩
 ·obtain⟨m,hn,hl⟩:=I.loc;refine⟨m,ns m hn,fun i x v e1 e2 e3=>?_⟩;obtain⟨u,r,l⟩:=hl i x v e1 e2 e3;refine⟨u,r,?_⟩;rcases l with l | ⟨k,c,e,z⟩
  ·exact .inl l
  ·exact .inr ⟨k,c,e,cellK x c e _ z⟩
 ·obtain⟨v,z⟩:=I.cell x c e;exact⟨v,cellK x c e v z⟩
 ·obtain⟨m,⟨o,_,_,ho,_⟩,_⟩:=I.loc;exact free _ o (fun z=>(hch _ z).2.1 rfl) ho I.free
 ·obtain⟨v,o,ho,hd⟩:=I.cell x c e;exact free c o (fun z=>(hch c z).2.2.1 x c e rfl) ho (I.freeC x c e)
 ·obtain⟨e,n,ne,nf,d⟩:=I.pin p hp;have nch:p.1∉ch:=fun z=>(hch p.1 z).2.2.2 p hp rfl
  exact⟨keep p.1 p.2 ne nf nch e n,free p.1 p.2 nch e n,ne,nf,d⟩
theorem Inv.un{t':Nat}(I:Inv X pins σ H s)(u:Un X.fs [] H H' s.heap h')(hok:HOk X.prog X.w H' h'):Inv X pins σ H' {s with heap:=h',toks:=t'}:=by
 obtain⟨m,⟨o,es,ep,ho,r⟩,_⟩:=id I.loc;obtain⟨sl,hL⟩:=u.any ho I.free (by simp);exact I.step (g':=s.gens) (d':=s.drawn) (ch:=[]) (fun _ z=>nomatch z) (fun b o _ hb _ e n=>u.keep b o e n hb (by simp)) (fun b o _ hb _ e n=>u.slot b o e n hb (by simp)) (fun b o _ e n=>u.free b o e n (by simp)) (fun b o _ e=>u.there b o e (by simp)) u.tups u.frzs u.tbls (fun m' hm=>by
  obtain⟨o',es',ep',ho',r'⟩:=hm;rw[ho]at ho';cases ho';exact⟨_,es',ep',hL,r'⟩) hok I.bare
theorem Inv.call{g':Array GenState}{t':Nat}{d':Drawn}{ch:List Addr}(I:Inv X pins σ H s)(u:Un (frs X.stack) ch H H' s.heap h')(hok:HOk X.prog X.w H' h')(hg:AllBare g')
  (hch:∀b∈ch,(b∈X.ex\/X.s₀.heap.objs.size<=b)/\b≠X.env.locals/\(∀x c,X.env.cells.lookup x=some c->c≠b)/\∀p∈X.pn++pins,p.1≠b) :
  Inv X pins σ H' {s with heap:=h',gens:=g',drawn:=d',toks:=t'}:=by
 obtain⟨m,⟨o,es,ep,ho,r⟩,_⟩:=id I.loc;obtain⟨sl,hL⟩:=u.any ho I.free fun z=>(hch _ z).2.1 rfl
 exact I.step (ch:=ch) hch (fun b o hL hb hc e n=>u.keep b o e n (fun z=>(mem_cons.mp (I.stkSub b z)).elim hL hb) hc) (fun b o _ _ hc e n=>u.any e n hc) (fun b o hc e n=>u.free b o e n hc) (fun b o hc e=>u.there b o e hc) u.tups u.frzs u.tbls (fun m' hm=>by
  obtain⟨o',es',ep',ho',r'⟩:=hm;rw[ho]at ho';cases ho';exact⟨_,es',ep',hL,r'⟩) hok hg
theorem Inv.turned{t':Nat}{it:Addr}(I:Inv X pins σ H s)(k:∀b o,b≠it->s.heap.get? b=some o->h'.get? b=some o)(hn:H it=none)(hL:it≠X.env.locals)
  (h1:it∈X.ex\/X.s₀.heap.objs.size<=it) (h2:∀x c,X.env.cells.lookup x=some c->c≠it) (h3:∀p∈X.pn++pins,p.1≠it):Inv X pins σ H {s with heap:=h',toks:=t'}:=by
 have nit:∀b u,H b=some u->b≠it:=fun b u e z=>by rw[z,hn]at e;cases e
 refine I.step (g':=s.gens) (d':=s.drawn) (ch:=[it]) (fun b hb=>?_) (fun b o _ _ hc e _=>k b o (fun z=>hc (by simp[z])) e) (fun b o _ _ hc e _=>⟨o.slots,k b o (fun z=>hc (by simp[z])) e⟩) (fun _ _ _ _ n=>n)
  (fun b o hc e=>⟨o,k b o (fun z=>hc (by simp[z])) e⟩) (fun _ _ e=>e) (fun _ _ _ e=>e) (fun b ps e=>⟨#[],by rw[e];simp⟩) (fun m hm=>?_) (fun b u e=>?_) I.bare
 ·have e:b=it:=by simpa using hb
  subst e;exact⟨h1,hL,h2,h3⟩
 ·obtain⟨o,es,ep,ho,r⟩:=hm;exact⟨o,es,ep,k _ o (Ne.symm hL) ho,r⟩
 ·refine(I.hok b u e).stay (fun c v hc q=>k c v ?_ q) (fun _ q=>q) fun _ _ q=>q
  rcases hc with z | z
  ·rw[z];exact nit b u e
  ·exact nit c _ z
theorem Inv.tok(I:Inv X pins σ H s)(t:Nat):Inv X pins σ H {s with toks:=t}:=I.un (h':=s.heap) (t':=t) Un.refl I.hok
theorem Inv.kept{t':Nat}(I:Inv X pins σ H s)(k:∀b u,s.heap.get? b=some u->h'.get? b=some u):Inv X pins σ H {s with heap:=h',toks:=t'}:=I.un (Un.kept k) (I.hok.kept k)
theorem Inv.laid{a:Addr}{o:HO}{t':Nat}(I:Inv X pins σ H s)(k:∀b u,s.heap.get? b=some u->h'.get? b=some u)(hp:s.heap.objs.size<=a)(new:ObjOk X.prog X.w (upd H a o) h' a o) :
  Inv X pins σ (upd H a o) {s with heap:=h',toks:=t'}:=I.un (Un.laid k hp (I.hok.fresh hp)) (I.hok.laid k hp new)
theorem Inv.write{x e:Addr}{o:HO}{t':Nat}(I:Inv X pins σ H s)(mu:Mut (H x))(he:e=x\/H e=some (.own x))(k:∀b u,b≠e->s.heap.get? b=some u->h'.get? b=some u)(heo:∃u,h'.get? e=some u)
  (new:ObjOk X.prog X.w (upd H x o) h' x o):Inv X pins σ (upd H x o) {s with heap:=h',toks:=t'}:=I.un (Un.write mu he k heo) (I.hok.write mu he k heo new)
theorem Inv.weak{σ':List (Option V)}(I:Inv X pins σ H s)(hl:σ'.length=σ.length)(w:∀(i:Nat) v,σ'[i]?=some (some v)->σ[i]?=some (some v)):Inv X pins σ' H s:=
 ⟨I.ok,I.os,I.bare,I.base,let ⟨m,hn,hl'⟩:=I.loc;⟨m,hn,fun i x v e1 e2 e3=>hl' i x v e1 (w i v e2) e3⟩,I.cell,I.free,I.freeC,I.pin,I.hok,hl.trans I.len⟩
theorem Inv.pins_of{pins':List (Addr×Obj)}(I:Inv X pins σ H s)(h:∀p∈pins',s.heap.get? p.1=some p.2/\H p.1=none/\p.1≠X.env.locals/\p.1∉X.fs/\∀v,p.2.data≠.cell v):Inv X pins' σ H s:=
 ⟨I.ok,I.os,I.bare,I.base,I.loc,I.cell,I.free,I.freeC,fun p hp=>(mem_append.mp hp).elim (fun z=>I.pin p (mem_append_left _ z)) (h p),I.hok,I.len⟩
theorem W0{N:List Str}(hN:N.Nodup){i j:Nat}{x:Str}(a:N[i]?=some x)(b:N[j]?=some x):i=j:=by
 obtain⟨h1,e1⟩:=List.getElem?_eq_some_iff.mp a;obtain⟨h2,e2⟩:=List.getElem?_eq_some_iff.mp b;exact(List.getElem_inj hN).mp (e1.trans e2.symm)
theorem K7{M:Model}{A:Around}{E:Value->Shared->Prop}{i:Nat}{x:Str}{v:V}{u:Value}{Q:Unit->Shared->Prop}(I:Inv X pins σ H s)(hN:X.N.Nodup)(hi:X.N[i]?=some x)(hx:Loc X.env.scope x)(r:RelV v u)
  (h:∀s',Inv X pins (σ.set i (some v)) H s'->(∃a,Heap.SameBut a s.heap s'.heap/\(a=X.env.locals\/X.env.cells.lookup x=some a))->Q () s') (hf:X.fn x=true\/X.env.scope.names.lookup x=some .local:=by first | exact .inl rfl | exact .inr rfl | assumption):wpAny M A (storeName X.env x u) Q E s:=by
 obtain⟨m,hn,hl⟩:=id I.loc;have hcls:(X.env.scope.kind == .class||(X.env.scope.kind == .module&&X.env.locals != X.env.globals))=false:=by rw[I.ok.kind];rfl
 have hiσ:i<σ.length:=by rw[I.len];exact(List.getElem?_eq_some_iff.mp hi).1
 have cne:=I.cne;have tracked:∀{a:Addr} {h':Heap},(∃o,s.heap.get? a=some o/\H a=none)->Heap.SameBut a s.heap h'->HOk X.prog X.w H h':=fun {a h'} ha hs b ob e=>by
  obtain⟨_,_,hfree⟩:=ha;refine(I.hok b ob e).stay (fun c w' hc q=>(hs.2 c ?_).trans q) (fun _ q=>q) fun _ _ q=>q
  rintro rfl;rcases hc with rfl | hc
  ·rw[hfree]at e;cases e
  ·rw[hfree]at hc;cases hc
 rcases hx with hk | hk
 ·refine wpAny_storeName_local hk hn (fun h' hn' hs=>?_) hcls;obtain⟨oL,_,_,hoL,_⟩:=id hn;refine h _ ⟨I.ok,I.os,I.bare,⟨fun b o e n hb hx=>?_,fun b o e n hb hx=>?_,I.base.free,fun b o e hx=>?_,I.base.tups,I.base.frzs,I.base.tbls⟩,⟨_,hn',fun j y v' e1 e2 e3=>?_⟩,fun y c e=>?_,I.free,I.freeC,fun p hp=>?_,tracked ⟨oL,hoL,I.free⟩ hs,by simpa using I.len⟩ ⟨_,hs,.inl rfl⟩
  ·exact(hs.2 b (Nat.ne_of_lt (Nat.lt_of_lt_of_le (Heap.lt_size e) I.ok.above))).trans (I.base.keep b o e n hb hx)
  ·obtain⟨sl,e1⟩:=I.base.slot b o e n hb hx;exact⟨sl,(hs.2 b (Nat.ne_of_lt (Nat.lt_of_lt_of_le (Heap.lt_size e) I.ok.above))).trans e1⟩
  ·obtain⟨o',e1⟩:=I.base.there b o e hx;exact⟨o',(hs.2 b (Nat.ne_of_lt (Nat.lt_of_lt_of_le (Heap.lt_size e) I.ok.above))).trans e1⟩
  ·by_cases hj:j=i
   ·subst hj;rw[hi]at e1;cases e1;rw[List.getElem?_set_self hiσ]at e2;cases e2;exact⟨u,r,.inl ⟨hk,by simp⟩⟩
   ·rw[List.getElem?_set_ne (Ne.symm hj)]at e2;obtain⟨u',r',q⟩:=hl j y v' e1 e2 e3;refine⟨u',r',?_⟩;rcases q with⟨k,e⟩ | ⟨k,c,e,z⟩
    ·refine .inl ⟨k,?_⟩;have:y≠x:=fun e=>hj (W0 hN e1 (e▸hi))
     simp[this,e]
    ·exact .inr ⟨k,c,e,z.sameBut hs (cne y c e)⟩
  ·obtain⟨w',z⟩:=I.cell y c e;exact⟨w',z.sameBut hs (cne y c e)⟩
  ·obtain⟨e,n,ne,nf,d⟩:=I.pin p hp;exact⟨(hs.2 p.1 ne).trans e,n,ne,nf,d⟩
 ·have hfn:X.fn x=true:=by
   rcases hf with z | z
   ·exact z
   ·rw[z]at hk;cases hk
  obtain⟨c,hc⟩:=I.ok.has x (.inl hk);obtain⟨w',z⟩:=I.cell x c hc;refine wpAny_storeName_cell I.ok.kind hk hc z (fun h' hc' hs=>?_);obtain⟨oc,hoc,hocd⟩:=id z;refine h {s with heap:=h'} ⟨I.ok,I.os,I.bare,⟨fun b o e n hb hx=>?_,fun b o e n hb hx=>?_,I.base.free,fun b o e hx=>?_,I.base.tups,I.base.frzs,I.base.tbls⟩,⟨m,hn.sameBut hs (Ne.symm (cne x c hc)),fun j y v' e1 e2 e3=>?_⟩,fun y c' e=>?_,I.free,I.freeC,fun p hp=>?_,tracked ⟨oc,hoc,I.freeC x c hc⟩ hs,by simpa using I.len⟩ ⟨c,hs,.inr hc⟩
  ·exact(hs.2 b (Nat.ne_of_lt (Nat.lt_of_lt_of_le (Heap.lt_size e) (I.ok.cab x c hfn hc)))).trans (I.base.keep b o e n hb hx)
  ·obtain⟨sl,e1⟩:=I.base.slot b o e n hb hx;exact⟨sl,(hs.2 b (Nat.ne_of_lt (Nat.lt_of_lt_of_le (Heap.lt_size e) (I.ok.cab x c hfn hc)))).trans e1⟩
  ·obtain⟨o',e1⟩:=I.base.there b o e hx;exact⟨o',(hs.2 b (Nat.ne_of_lt (Nat.lt_of_lt_of_le (Heap.lt_size e) (I.ok.cab x c hfn hc)))).trans e1⟩
  ·by_cases hj:j=i
   ·subst hj;rw[hi]at e1;cases e1;rw[List.getElem?_set_self hiσ]at e2;cases e2;exact⟨u,r,.inr ⟨.inl hk,c,hc,hc'⟩⟩
   ·rw[List.getElem?_set_ne (Ne.symm hj)]at e2;obtain⟨u',r',q⟩:=hl j y v' e1 e2 e3;refine⟨u',r',?_⟩;rcases q with q | ⟨k,c',e,z'⟩
    ·exact .inl q
    ·refine .inr ⟨k,c',e,z'.sameBut hs ?_⟩;rintro rfl;exact hj (W0 hN e1 (I.ok.inj _ _ _ e hc▸hi))
  ·by_cases hcc:c'=c
   ·subst hcc;exact⟨_,hc'⟩
   ·obtain⟨w2,z2⟩:=I.cell y c' e;exact⟨w2,z2.sameBut hs hcc⟩
  ·obtain⟨e,n,ne,nf,d⟩:=I.pin p hp;refine⟨(hs.2 p.1 ?_).trans e,n,ne,nf,d⟩;intro q;rw[q,hoc]at e;have q':oc=p.2:=Option.some.inj e;exact d w' (by rw[<-q'];exact hocd)
theorem xj{M:Model}{A:Around}{E:Value->Shared->Prop}{i:Nat}{x:Str}{v:V}{u:Value}{Q:Unit->Shared->Prop}(I:Inv X pins σ H s)(hN:X.N.Nodup)(hi:X.N[i]?=some x)(hx:Loc X.env.scope x)(r:RelV v u)
  (h:∀s',Inv X pins (σ.set i (some v)) H s'->Q () s') (hf:X.fn x=true\/X.env.scope.names.lookup x=some .local:=by first | exact .inl rfl | exact .inr rfl | assumption):wpAny M A (storeName X.env x u) Q E s:=
 K7 I hN hi hx r (fun s' I' _=>h s' I') hf
theorem Inv.call'{s':Shared}{ch:List Addr}(I:Inv X pins σ H s)(ho:s'.os=s.os)(u:Un (frs X.stack) ch H H' s.heap s'.heap)(hok:HOk X.prog X.w H' s'.heap)(hg:AllBare s'.gens)
  (hch:∀b∈ch,(b∈X.ex\/X.s₀.heap.objs.size<=b)/\b≠X.env.locals/\(∀x c,X.env.cells.lookup x=some c->c≠b)/\∀p∈X.pn++pins,p.1≠b):Inv X pins σ H' s':=by
 obtain⟨h',g',d',t',o'⟩:=s';have e:o'=s.os:=ho;subst e;exact I.call (g':=g') (t':=t') (d':=d') u hok hg hch
end
noncomputable abbrev XK:=Value->Option Addr->Hp->Prop
noncomputable abbrev St:=List (Option V)
noncomputable abbrev VK:=V->Hp->Prop
noncomputable abbrev TE:=St->Hp->VK->Prop
noncomputable abbrev TT:=St->Hp->(Bool->Hp->Prop)->Prop
noncomputable abbrev TA:=St->Hp->(List V->Hp->Prop)->Prop
structure Ends where
 nx:St->Hp->Prop
 rt:VK
 bk:St->Hp->Prop:=fun _ _=>False
 ct:St->Hp->Prop:=fun _ _=>False
noncomputable abbrev TS:=Ends->St->Hp->Prop
def EP(X:Cx)(pins:List (Addr×Obj))(σ:St)(Q:VK)(u:Value)(s':Shared):Prop:=∃v H',Inv X pins σ H' s'/\RelV v u/\Q v H'
def TP(X:Cx)(pins:List (Addr×Obj))(σ:St)(Q:Bool->Hp->Prop)(b:Bool)(s':Shared):Prop:=∃H',Inv X pins σ H' s'/\Q b H'
def AP(X:Cx)(pins:List (Addr×Obj))(σ:St)(Q:List V->Hp->Prop)(us:List Value)(s':Shared):Prop:=∃vs H',Inv X pins σ H' s'/\Vals vs us/\Q vs H'
def SP(X:Cx)(pins:List (Addr×Obj))(D:Ends)(f:Flow)(s':Shared):Prop:=
 match f with
 | .next=>∃σ' H',Inv X pins σ' H' s'/\D.nx σ' H'
 | .brk=>∃σ' H',Inv X pins σ' H' s'/\D.bk σ' H'
 | .cont=>∃σ' H',Inv X pins σ' H' s'/\D.ct σ' H'
 | .ret u=>∃v σ' H',Inv X pins σ' H' s'/\RelV v u/\D.rt v H'
def PE(X:Cx)(e:Expr)(t:TE):Prop:=
 ∀(pins:List (Addr×Obj)) (s:Shared) (σ:St) (H:Hp) (Q:VK),Inv X pins σ H s->t σ H Q->wpAny (model X.prog X.w) X.A (eval e X.env) (EP X pins σ Q) X.xe s
def PT(X:Cx)(e:Expr)(t:TT):Prop:=
 ∀(pins:List (Addr×Obj)) (s:Shared) (σ:St) (H:Hp) (Q:Bool->Hp->Prop),Inv X pins σ H s->t σ H Q->wpAny (model X.prog X.w) X.A (isTrue e X.env (eval e X.env)) (TP X pins σ Q) X.xe s
def PW(X:Cx)(e:Expr)(t:TT):Prop:=
 ∀(whole:Sem Value) (pins:List (Addr×Obj)) (s:Shared) (σ:St) (H:Hp) (Q:Bool->Hp->Prop),Inv X pins σ H s->t σ H Q->wpAny (model X.prog X.w) X.A (isTrue e X.env whole) (TP X pins σ Q) X.xe s
theorem PW.pt{X:Cx}{e:Expr}{t:TT}(h:PW X e t):PT X e t:=h _
def PA(X:Cx)(es:List Expr)(t:TA):Prop:=
 ∀(pos:Pos) (pins:List (Addr×Obj)) (s:Shared) (σ:St) (H:Hp) (Q:List V->Hp->Prop),Inv X pins σ H s->t σ H Q->wpAny (model X.prog X.w) X.A (spliced (backTo pos (starEach es X.env))) (AP X pins σ Q) X.xe s
def PS(X:Cx)(st:Stmt)(t:TS):Prop:=
 ∀(pins:List (Addr×Obj)) (s:Shared) (σ:St) (H:Hp) (D:Ends),Inv X pins σ H s->t D σ H->wpAny (model X.prog X.w) X.A (exec st X.env) (SP X pins D) X.xe s
def PSs(X:Cx)(st:List Stmt)(t:TS):Prop:=
 ∀(pins:List (Addr×Obj)) (s:Shared) (σ:St) (H:Hp) (D:Ends),Inv X pins σ H s->t D σ H->wpAny (model X.prog X.w) X.A (execs st X.env) (SP X pins D) X.xe s
theorem thn{α:Type}{t:Sem α}{Q Q':α->Shared->Prop}{M:Model}{A:Around}{E:Value->Shared->Prop}{s:Shared}(h:wpAny M A t Q E s)(hQ:∀a s,Q a s->Q' a s):wpAny M A t Q' E s:=wpAny_mono h hQ fun _ _ x=>x
section
variable{X:Cx}
def tVar(i:Nat):TE:=fun σ H Q=>∃v,σ[i]?=some (some v)/\Q v H
def tC(v:V):TE:=fun _ H Q=>Q v H
theorem j4U{i:Nat}{x:Str}{pos:Pos}(hN:X.N[i]?=some x)(hv:Vis X.env.scope x)(hd:(x==("__debug__" : Str))=false:=by decide)(hcd:(x==("__classdict__" : Str))=false:=by decide):PE X (.Name x pos) (tVar i):=by
 intro pins s σ H Q I h;obtain⟨v,e,h⟩:=h;obtain⟨m,hn,hl⟩:=I.loc;obtain⟨u,r,l⟩:=hl i x v hN e hv;have fin:EP X pins σ Q u s:=⟨v,H,I,r,h⟩
 rcases l with⟨hk,hm⟩ | ⟨hk,c,hc,hcell⟩
 ·exact wpAny_Name (wpAny_loadName_local I.ok.kind hk hn hm fin) hd
 ·rcases hk with hk | hk
  ·exact wpAny_Name (wpAny_loadName_cell I.ok.kind hk hc hcell fin) hd
  ·exact wpAny_Name (wpAny_loadName_free I.ok.kind hk hc hcell fin hcd) hd
theorem jc{i j pos}:PE X (.Constant (.int i) j pos) (tC (.int i)):=fun _ _ _ H _ I h=>wpAny_Constant_int ⟨.int i,H,I.tok _,⟨_,rfl⟩,h⟩
theorem kQ{b j pos}:PE X (.Constant (.bool b) j pos) (tC (.bl b)):=fun _ _ _ H _ I h=>Constant_bool ⟨.bl b,H,I,rfl,h⟩
theorem JG{j pos}:PE X (.Constant .none j pos) (tC .non):=fun _ _ _ H _ I h=>Constant_none ⟨.non,H,I,rfl,h⟩
theorem jv{x j pos}:PE X (.Constant (.str x) j pos) (tC (.str x)):=fun _ _ _ H _ I h=>Calls.Constant_str ⟨.str x,H,I.tok _,⟨_,rfl⟩,h⟩
def Gl(X:Cx)(x:Str):Prop:=X.env.kindOf x=some .globalImplicit
theorem j01{E:Value->Shared->Prop}{pins:List (Addr×Obj)}{s:Shared}{σ:St}{H:Hp}{x:Str}{u:Value}{pos:Pos}{Q:Value->Shared->Prop}(I:Inv X pins σ H s)(hg:Gl X x)(hm:X.mg x=some u)(h:Q u s)
  (hd:(x==("__debug__" : Str))=false:=by decide):wpAny (model X.prog X.w) X.A (eval (.Name x pos) X.env) Q E s:=
 Calls.Name_function_global I.ok.kind hg (Calls.loadGlobal_global (by rw[I.ok.glob];exact I.mod.glob.keeps I.bk) hm h) hd
theorem qp{E:Value->Shared->Prop}{pins:List (Addr×Obj)}{s:Shared}{σ:St}{H:Hp}{x:Str}{u:Value}{pos:Pos}{Q:Value->Shared->Prop}(I:Inv X pins σ H s)(hg:Gl X x)(hm:X.mg x=none)(hv:bootBuiltins x=some u)(h:Q u s)
  (hn:x≠"__name__":=by decide) (hd:(x==("__debug__" : Str))=false:=by decide):wpAny (model X.prog X.w) X.A (eval (.Name x pos) X.env) Q E s:=by
 obtain⟨mb,h1,h2⟩:=I.mod.blt;exact Calls.Name_function_global I.ok.kind hg (Calls.loadGlobal_builtin (by rw[I.ok.glob];exact I.mod.glob.keeps I.bk) hm (by rw[I.ok.blt];exact h1.keeps I.bk) ((h2 x hn).trans hv) h) hd
theorem qh{x:Str}{v:V}{u:Value}{pos:Pos}(hg:Gl X x)(hm:X.mg x=some u)(r:RelV v u)(hd:(x==("__debug__" : Str))=false:=by decide):PE X (.Name x pos) (tC v):=
 fun _ _ _ H _ I h=>j01 I hg hm ⟨v,H,I,r,h⟩ hd
variable{a b:Expr}{ta tb:TE}{pos:Pos}
def PC(X:Cx)(op:CmpOp)(a b:Expr)(t:TE):Prop:=
 ∀(pins:List (Addr×Obj)) (s:Shared) (σ:St) (H:Hp) (Q:VK),Inv X pins σ H s->t σ H Q->
  wpAny (model X.prog X.w) X.A (eval a X.env) (fun v s₁=>wpAny (model X.prog X.w) X.A (eval b X.env) (fun u s₂=>wpAny (model X.prog X.w) X.A (compareOp op v u) (EP X pins σ Q) X.xe s₂) X.xe s₁) X.xe s
def tB(t:TE):TT:=fun σ H Q=>t σ H fun x H1=>∃c,x = .bl c/\Q c H1
theorem j4S{op:CmpOp}{t:TE}(h:PC X op a b t)(h1:behindInMarks op b=false:=by first | exact nobehind _ (by decide) (by decide) | rfl):PE X (.Compare a [op] [b] pos) t:=fun pins s σ H Q I hw=>wpAny_Compare1 (h pins s σ H Q I hw) h1
theorem Xp{op:CmpOp}{t:TE}(h:PC X op a b t)(h1:behindInMarks op b=false:=by first | exact nobehind _ (by decide) (by decide) | rfl):PT X (.Compare a [op] [b] pos) (tB t):=by
 intro pins s σ H Q I hw;refine wpAny_isTrue_Compare1 (thn (h pins s σ H _ I hw) fun v s1 h1=>thn h1 fun u s2 h2=>thn h2 fun c s3 ⟨x,H1,I1,r1,q1⟩=>?_) h1;obtain⟨d,rfl,q⟩:=q1;cases r1;exact wpAny_truthy_bool ⟨H1,I1,q⟩
theorem kS{e:Expr}{t:TE}(h:PE X e t)(he:∀whole,isTrue e X.env whole=(do let v <-whole;standAt e.pos;holding [v] (truthy v)):=by intro _;rfl):PT X e (tB t):=by
 intro pins s σ H Q I hw;refine isTrue_plain (thn (h pins s σ H _ I hw) fun v s1 ⟨x,H1,I1,r1,q1⟩=>?_) (he _);obtain⟨d,rfl,q⟩:=q1;cases r1;exact wpAny_truthy_bool ⟨H1,I1,q⟩
variable{tA tB':TT}{rest:List Expr}
def tAnd(t u:TT):TT:=fun σ H Q=>t σ H fun c H1=>if c=true then u σ H1 Q else Q false H1
def tOr(t u:TT):TT:=fun σ H Q=>t σ H fun c H1=>if c=true then Q true H1 else u σ H1 Q
def tNot(t:TT):TT:=fun σ H Q=>t σ H fun c H1=>Q (!c) H1
theorem YX(ha:PT X a tA):PW X (.BoolOp .And [a] pos) tA:=by
 intro wh pins s σ H Q I h;refine isTrue_and (thn (ha pins s σ H Q I h) fun c s1 e=>?_);cases c with
 | true=>exact isTrue_and_nil e
 | false=>exact e
theorem QU(ha:PT X a tA):PW X (.BoolOp .Or [a] pos) tA:=by
 intro wh pins s σ H Q I h;refine isTrue_or (thn (ha pins s σ H Q I h) fun c s1 e=>?_);cases c with
 | false=>exact isTrue_or_nil e
 | true=>exact e
theorem Wf(ha:PT X a tA)(hb:PW X (.BoolOp .And (b::rest) pos) tB'):PW X (.BoolOp .And (a::b::rest) pos) (tAnd tA tB'):=by
 intro wh pins s σ H Q I h;refine isTrue_and (thn (ha pins s σ H _ I h) fun c s1 ⟨H1,I1,q1⟩=>?_);cases c with
 | true=>exact hb wh pins s1 σ H1 Q I1 q1
 | false=>exact⟨H1,I1,q1⟩
theorem Qu(ha:PT X a tA)(hb:PW X (.BoolOp .Or (b::rest) pos) tB'):PW X (.BoolOp .Or (a::b::rest) pos) (tOr tA tB'):=by
 intro wh pins s σ H Q I h;refine isTrue_or (thn (ha pins s σ H _ I h) fun c s1 ⟨H1,I1,q1⟩=>?_);cases c with
 | true=>exact⟨H1,I1,q1⟩
 | false=>exact hb wh pins s1 σ H1 Q I1 q1
theorem Zs(ha:PT X a tA):PT X (.UnaryOp .Not a pos) (tNot tA):=by
 intro pins s σ H Q I h;exact isTrue_not (ha pins s σ H (fun c H1=>Q (!c) H1) I h)
def tAndV(ta tb:TE):TE:=fun σ H Q=>ta σ H fun x H1=>∃c,x = .bl c/\if c=true then tb σ H1 Q else Q (.bl false) H1
theorem j4T{op}{t:TE}(h:PE X a t):PE X (.BoolOp op [a] pos) t:=fun pins s σ H Q I hw=>BoolOp_one (h pins s σ H Q I hw)
theorem j4Q(ha:PE X a ta)(hb:PE X (.BoolOp .And (b::rest) pos) tb):PE X (.BoolOp .And (a::b::rest) pos) (tAndV ta tb):=by
 intro pins s σ H Q I h;refine BoolOp_and (thn (ha pins s σ H _ I h) fun v s1 ⟨x,H1,I1,r1,q1⟩=>?_);obtain⟨c,rfl,q1⟩:=q1;cases r1;refine wpAny_truthy_bool ?_;cases c with
 | true=>exact hb pins s1 σ H1 Q I1 q1
 | false=>exact⟨.bl false,H1,I1,rfl,q1⟩
def tIf(t:TT)(ta tb:TE):TE:=fun σ H Q=>t σ H fun c H1=>if c=true then ta σ H1 Q else tb σ H1 Q
theorem zx{c:Expr}(hc:PT X c tA)(ha:PE X a ta)(hb:PE X b tb):PE X (.IfExp c a b pos) (tIf tA ta tb):=by
 intro pins s σ H Q I h;refine wpAny_IfExp (thn (hc pins s σ H _ I h) fun d s1 ⟨H1,I1,q1⟩=>?_);cases d with
 | true=>exact ha pins s1 σ H1 Q I1 q1
 | false=>exact hb pins s1 σ H1 Q I1 q1
end
def SqL(K:Frg)(H:Hp)(a:Addr)(xs:List V):Prop:=
 Rd H a (.lst xs)\/
  ∃(o:Obj) (its:Array Value) (n:Nat),K.lookup a=some o/\o.cls = .type "list"/\o.dict=none/\o.data = .seq its n/\its.size<=sizeLine/\Vals xs its.toList
def SqT(K:Frg)(H:Hp)(a:Addr)(xs:List V):Prop:=
 Rd H a (.tup xs)\/
  ∃(o:Obj) (its:Array Value) (n:Nat),K.lookup a=some o/\o.cls = .type "tuple"/\o.data = .seq its n/\its.size<=sizeLine/\Vals xs its.toList
noncomputable def absV:Value->Option V
 | .none=>some .non
 | .bool b=>some (.bl b)
 | .int i _=>some (.int i)
 | .str x _=>some (.str x)
 | .bytes b _=>some (.byt b)
 | .float b _=>some (.flt b)
 | .ref a=>some (.ref a)
 | .type n=>some (.ty n)
 | _=>none
theorem RelV.abs{x:V}{u:Value}(r:RelV x u):absV u=some x:=by
 cases x with
 | non=>cases r;rfl
 | bl _=>cases r;rfl
 | int _=>obtain⟨t,rfl⟩:=r;rfl
 | str _=>obtain⟨t,rfl⟩:=r;rfl
 | byt _=>obtain⟨t,rfl⟩:=r;rfl
 | flt _=>obtain⟨t,rfl⟩:=r;rfl
 | ref _=>cases r;rfl
 | ty _=>cases r;rfl
theorem RelV.inj{x y:V}{u:Value}(r:RelV x u)(q:RelV y u):x=y:=Option.some.inj (r.abs.symm.trans q.abs)
theorem Vals.inj:∀{xs ys:List V} {us:List Value},Vals xs us->Vals ys us->xs=ys
 | _,_,_,.nil,.nil=>rfl
 | _,_,_,.cons r t,.cons r' t'=>by rw[r.inj r',Vals.inj t t']
section
variable{X:Cx}{pins:List (Addr×Obj)}{σ:St}{H:Hp}{s:Shared}{a:Addr}{xs ys:List V}
theorem SqL.of{K:Frg}(h:H a=some (.lst xs)):SqL K H a xs:=.inl (.inl h)
theorem SqT.of{K:Frg}(h:H a=some (.tup xs)):SqT K H a xs:=.inl (.inl h)
theorem Inv.list(I:Inv X pins σ H s)(h:SqL X.K H a xs):∃its:List Value,Vals xs its/\PlainL s.heap a its.toArray/\xs.length<=sizeLine:=by
 rcases h with h | ⟨o,its,n,hk,hc,hd,hs,hz,r⟩
 ·obtain⟨z,its,n,r,e⟩:=h.ok I.hok;exact⟨its,r,⟨_,n,e,rfl,rfl,rfl⟩,z⟩
 ·refine⟨its.toList,r,⟨o,n,I.kIn a o hk,hc,hd,by simpa using hs⟩,?_⟩;have e:=r.length;simp only[Array.length_toList]at e;omega
theorem Inv.tuple(I:Inv X pins σ H s)(h:SqT X.K H a xs):∃its:List Value,Vals xs its/\IsTup s.heap a its.toArray/\xs.length<=sizeLine:=by
 rcases h with h | ⟨o,its,n,hk,hc,hs,hz,r⟩
 ·obtain⟨z,its,r,p⟩:=h.ok I.hok;exact⟨its,r,p,z⟩
 ·refine⟨its.toList,r,⟨o,I.kIn a o hk,hc,n,by simpa using hs⟩,?_⟩;have e:=r.length;simp only[Array.length_toList]at e;omega
theorem Inv.list_inj(I:Inv X pins σ H s)(h:SqL X.K H a xs)(h':SqL X.K H a ys):xs=ys:=by
 obtain⟨its,r,⟨o,n,e,_,_,d⟩,_⟩:=I.list h;obtain⟨its',r',⟨o',n',e',_,_,d'⟩,_⟩:=I.list h';rw[e]at e';cases e';rw[d]at d';injection d' with d1 _;have:its=its':=by simpa using congrArg Array.toList d1
 subst this;exact r.inj r'
theorem Inv.tuple_inj(I:Inv X pins σ H s)(h:SqT X.K H a xs)(h':SqT X.K H a ys):xs=ys:=by
 obtain⟨its,r,⟨o,e,_,n,d⟩,_⟩:=I.tuple h;obtain⟨its',r',⟨o',e',_,n',d'⟩,_⟩:=I.tuple h';rw[e]at e';cases e';rw[d]at d';injection d' with d1 _;have:its=its':=by simpa using congrArg Array.toList d1
 subst this;exact r.inj r'
end
noncomputable abbrev Cx.wish(X:Cx)(E:Value->Shared->Prop):Cx:={X with xe:=E}
noncomputable abbrev Cx.nox(X:Cx):Cx:=X.wish fun _ _=>False
theorem Cx.Ok.wish{X:Cx}(ok:X.Ok)(E:Value->Shared->Prop):(X.wish E).Ok:=
 ⟨ok.mod,ok.kind,ok.glob,ok.blt,ok.above,ok.inj,ok.has,ok.cab,ok.hd,ok.frames,ok.stk,ok.exf,ok.bs,ok.bsz,ok.noex,ok.exfs,ok.funs,ok.frf⟩
theorem Cx.Ok.unwish{X:Cx}{E:Value->Shared->Prop}(ok:(X.wish E).Ok):X.Ok:=
 ⟨ok.mod,ok.kind,ok.glob,ok.blt,ok.above,ok.inj,ok.has,ok.cab,ok.hd,ok.frames,ok.stk,ok.exf,ok.bs,ok.bsz,ok.noex,ok.exfs,ok.funs,ok.frf⟩
section
variable{X:Cx}{pins:List (Addr×Obj)}{σ:St}{H:Hp}{s:Shared}{E:Value->Shared->Prop}
theorem Inv.wish(I:Inv X pins σ H s)(E:Value->Shared->Prop):Inv (X.wish E) pins σ H s:=⟨I.ok.wish E,I.os,I.bare,I.base,I.loc,I.cell,I.free,I.freeC,I.pin,I.hok,I.len⟩
theorem Inv.unwish(I:Inv (X.wish E) pins σ H s):Inv X pins σ H s:=⟨I.ok.unwish,I.os,I.bare,I.base,I.loc,I.cell,I.free,I.freeC,I.pin,I.hok,I.len⟩
theorem SP.unwish{D:Ends}{f:Flow}{s':Shared}(h:SP (X.wish E) pins D f s'):SP X pins D f s':=by
 cases f with
 | next=>obtain⟨σ',H',I,q⟩:=h;exact⟨σ',H',I.unwish,q⟩
 | brk=>obtain⟨σ',H',I,q⟩:=h;exact⟨σ',H',I.unwish,q⟩
 | cont=>obtain⟨σ',H',I,q⟩:=h;exact⟨σ',H',I.unwish,q⟩
 | ret u=>obtain⟨v,σ',H',I,r,q⟩:=h;exact⟨v,σ',H',I.unwish,r,q⟩
theorem PSs.nox{st:List Stmt}{t:TS}(h:PSs X.nox st t):PSs X st t:=fun pins s σ H D I hw=>
 wpAny_mono (h pins s σ H D (I.wish _) hw) (fun _ _ q=>q.unwish) fun _ _ z=>False.elim z
end
section
variable{X:Cx}{st:Stmt}{rest:List Stmt}{t u:TS}{e:Expr}{te:TE}{pos:Pos}
def tNext:TS:=fun D σ H=>D.nx σ H
def tSeq(t u:TS):TS:=fun D σ H=>t {D with nx:=u D} σ H
theorem jz:PSs X [] tNext:=fun _ _ σ H _ I h=>wpAny_execs_nil ⟨σ,H,I,h⟩
theorem je(h1:PS X st t)(h2:PSs X rest u):PSs X (st::rest) (tSeq t u):=by
 intro pins s σ H D I h;refine wpAny_execs_cons (thn (h1 pins s σ H {D with nx:=u D} I h) fun f s1 q=>?_);cases f with
 | next=>
  obtain⟨σ',H',I',q⟩:=q;exact h2 pins s1 σ' H' D I' q
 | ret v=>exact q
 | brk=>exact q
 | cont=>exact q
theorem jf(h1:PS X st t):PSs X [st] t:=by
 intro pins s σ H D I h;refine wpAny_execs_cons (thn (h1 pins s σ H D I h) fun f s1 q=>?_);cases f with
 | next=>exact wpAny_execs_nil q
 | ret v=>exact q
 | brk=>exact q
 | cont=>exact q
def tBreak:TS:=fun D σ H=>D.bk σ H
theorem j2y:PS X (.Break pos) tBreak:=fun _ _ σ H _ I h=>wpAny_Break ⟨σ,H,I,h⟩
theorem Inv.quiet{pins:List (Addr×Obj)}{σ:St}{H:Hp}{s:Shared}(I:Inv X pins σ H s):interactive X.env=false:=by simp[interactive,I.ok.kind]
def tDrop(te:TE):TS:=fun D σ H=>te σ H fun _ H1=>D.nx σ H1
theorem jD(he:PE X e te)(hs:swapsWith e none pos.line X.env=pure false:=by rfl):PS X (.Expr e pos) (tDrop te):=by
 intro pins s σ H D I h;exact wpAny_Expr_any (thn (he pins s σ H _ I h) fun v s1 ⟨x,H1,I1,r1,q1⟩=>⟨σ,H1,I1,q1⟩) I.quiet hs
def tRet(te:TE):TS:=fun D σ H=>te σ H D.rt
theorem jx(he:PE X e te):PS X (.Return (some e) pos) (tRet te):=by
 intro pins s σ H D I h;exact wpAny_Return_some (thn (he pins s σ H _ I h) fun v s1 ⟨x,H1,I1,r1,q1⟩=>⟨x,σ,H1,I1,r1,q1⟩)
def tRetN:TS:=fun D _ H=>D.rt .non H
theorem j3I:PS X (.Return none pos) tRetN:=fun _ _ σ H _ I h=>wpAny_Return_none ⟨.non,σ,H,I,rfl,h⟩
def tIfS(c:TT)(t u:TS):TS:=fun D σ H=>c σ H fun b H1=>if b=true then t D σ H1 else u D σ H1
theorem jJ{c:Expr}{a b:List Stmt}{tc:TT}(hc:PT X c tc)(ha:PSs X a t)(hb:PSs X b u):PS X (.If c a b pos) (tIfS tc t u):=by
 intro pins s σ H D I h;refine wpAny_If (thn (hc pins s σ H _ I h) fun d s1 ⟨H1,I1,q1⟩=>?_);cases d with
 | true=>exact ha pins s1 σ H1 D I1 q1
 | false=>exact hb pins s1 σ H1 D I1 q1
def tNever:TS:=fun _ _ _=>False
theorem zB:PS X st tNever:=fun _ _ _ _ _ _ h=>h.elim
end
noncomputable abbrev TG:=V->St->Hp->(St->Hp->Prop)->Prop
noncomputable abbrev TGs:=List V->St->Hp->(St->Hp->Prop)->Prop
def PG(X:Cx)(target:Expr)(t:TG):Prop:=
 ∀(pins:List (Addr×Obj)) (s:Shared) (σ:St) (H:Hp) (v:V) (u:Value) (Q:St->Hp->Prop),Inv X pins σ H s->RelV v u->t v σ H Q->
  wpAny (model X.prog X.w) X.A (assign target X.env u) (fun _ s'=>∃σ' H',Inv X pins σ' H' s'/\Q σ' H') X.xe s
def PGs(X:Cx)(ts:List Expr)(t:TGs):Prop:=
 ∀(pins:List (Addr×Obj)) (s:Shared) (σ:St) (H:Hp) (vs:List V) (us:List Value) (Q:St->Hp->Prop),Inv X pins σ H s->Vals vs us->t vs σ H Q->
  wpAny (model X.prog X.w) X.A (assignInOrder ((assignEach ts X.env).map (·.2)) us) (fun _ s'=>∃σ' H',Inv X pins σ' H' s'/\Q σ' H') X.xe s
section
variable{X:Cx}{pos:Pos}
def gName(i:Nat):TG:=fun v σ H Q=>Q (σ.set i (some v)) H
theorem jr{i:Nat}{x:Str}(hN:X.N.Nodup)(hi:X.N[i]?=some x)(hx:Loc X.env.scope x)(hf:X.fn x=true\/X.env.scope.names.lookup x=some .local:=by first | exact .inl rfl | exact .inr rfl | assumption):PG X (.Name x pos) (gName i):=by
 intro pins s σ H v u Q I r h;exact wpAny_assign_Name (xj I hN hi hx r (fun s' I'=>⟨_,H,I',h⟩) hf)
def gNil:TGs:=fun vs σ H Q=>vs=[]/\Q σ H
def gCons(t:TG)(u:TGs):TGs:=fun vs σ H Q=>∃v r,vs=v::r/\t v σ H fun σ' H'=>u r σ' H' Q
theorem JP:PGs X [] gNil:=by
 intro pins s σ H vs us Q I r h;obtain⟨e,h⟩:=h;subst e;cases r;exact assignInOrder_nil ⟨σ,H,I,h⟩
theorem jC{e:Expr}{es:List Expr}{t:TG}{u:TGs}(h1:PG X e t)(h2:PGs X es u)
  (hs:(assignEach (e::es) X.env).map (·.2)=assign e X.env::(assignEach es X.env).map (·.2):=by rfl):PGs X (e::es) (gCons t u):=by
 intro pins s σ H vs us Q I r h;obtain⟨v,vr,e1,h⟩:=h;subst e1;cases r with
 | cons r rr=>
  rw[hs];refine assignInOrder_cons (thn (h1 pins s σ H _ _ _ I r h) fun _ s1 ⟨σ1,H1,I1,q1⟩=>?_);exact h2 pins s1 σ1 H1 _ _ Q I1 rr q1
def gTup(K:Frg)(n:Nat)(t:TGs):TG:=fun v σ H Q=>∃a xs,v = .ref a/\SqT K H a xs/\xs.length=n/\t xs σ H Q
theorem qO{es:List Expr}{k:Nat}{t:TGs}{n:Nat}(hc:X.calm=true)(h:PGs X es t)
  (hn:(assignEach es X.env).length=n:=by rfl) (hst:(assignEach es X.env).findIdx? (·.1)=none:=by rfl):PG X (.Tuple es k pos) (gTup X.K n t):=by
 intro pins s σ H v u Q I r hw;obtain⟨a,xs,e1,hq,hl,hw⟩:=hw;subst e1;cases r;obtain⟨its,rv,ht,hz⟩:=I.tuple hq;refine assign_Tuple_tuple (I.ok.hd hc) ht (by simp[hn,<-hl,rv.length]) hst fun h' hx=>?_
 have I1:Inv X pins σ H {s with heap:=h'}:=I.kept (t':=s.toks) fun b o e=>hx b o (Nat.ne_of_lt (Heap.lt_size e)) e
 exact h pins _ σ H xs _ Q I1 (by simpa using rv) hw
def tAsg(te:TE)(g:TG):TS:=fun D σ H=>te σ H fun x H1=>g x σ H1 D.nx
theorem jq{i:Nat}{x:Str}{e:Expr}{te:TE}{pos':Pos}(hN:X.N.Nodup)(hi:X.N[i]?=some x)(hx:Loc X.env.scope x)(he:PE X e te)(hs:swapsWith e (some (.Name x pos')) pos.line X.env=pure false:=by rfl)(hf:X.fn x=true\/X.env.scope.names.lookup x=some .local:=by first | exact .inl rfl | exact .inr rfl | assumption) :
  PS X (.Assign [.Name x pos'] e pos) (tAsg te (gName i)):=by
 intro pins s σ H D I h;refine wpAny_Assign_Name (thn (he pins s σ H _ I h) fun v s1 ⟨y,H1,I1,r1,q1⟩=>?_) hs;exact xj I1 hN hi hx r1 (fun s2 I2=>⟨_,H1,I2,q1⟩) hf
end
section
variable{X:Cx}{pos:Pos}
def tWhile(c:TT)(tb:TS):TS:=fun D σ H=>∃W:Nat->St->Hp->Prop,(∃m,W m σ H)/\∀m σ H,W m σ H->
 c σ H fun b H1=>if b=true then∃N:St->Hp->Prop,(∀σ' H',N σ' H'->∃m',m'<m/\W m' σ' H')/\tb {D with nx:=N,ct:=N,bk:=D.nx} σ H1 else D.nx σ H1
theorem j2z{c:Expr}{body:List Stmt}{tc:TT}{tb:TS}(hp:PassesOwn (model X.prog X.w) X.A X.env X.xe)(hc:PT X c tc)(hb:PSs X body tb):PS X (.While c body [] pos) (tWhile tc tb):=by
 intro pins s σ H D I h;obtain⟨W,⟨m0,w0⟩,turn⟩:=h;refine wpAny_While (codeAny_whileLoop (fun n s'=>∃σ' H',Inv X pins σ' H' s'/\W n σ' H') ?_ m0 ⟨σ,H,I,w0⟩);rintro n s1 ⟨σ1,H1,I1,w1⟩;refine wpAny_passesOwn hp (thn (hc pins s1 σ1 H1 _ I1 (turn n σ1 H1 w1)) fun b s2 ⟨H2,I2,q2⟩=>?_);cases b with
 | true=>
  obtain⟨N,hN,q2⟩:=q2;rw[if_pos rfl];refine wpAny_passesOwn hp (thn (hb pins s2 σ1 H2 _ I2 q2) fun f s3 q3=>?_);cases f with
  | next=>
   obtain⟨σ3,H3,I3,n3⟩:=q3;obtain⟨m',hm,w3⟩:=hN σ3 H3 n3;exact⟨m',hm,σ3,H3,I3,w3⟩
  | cont=>
   obtain⟨σ3,H3,I3,n3⟩:=q3;obtain⟨m',hm,w3⟩:=hN σ3 H3 n3;exact⟨m',hm,σ3,H3,I3,w3⟩
  | brk=>exact q3
  | ret v=>exact q3
 | false=>
  rw[if_neg Bool.false_ne_true];exact wpAny_execs_nil ⟨σ1,H2,I2,q2⟩
end
structure It where
 go:Nat->Hp->Prop
 yld:Nat->Hp->V->Hp->Prop
 stop:Nat->Hp->Prop
def FpOk(X:Cx)(pins:List (Addr×Obj))(H:Hp)(b:Addr):Prop:=
 H b=none/\b≠X.env.locals/\b∉X.fs/\(b∈X.ex\/X.s₀.heap.objs.size<=b)/\(∀x c,X.env.cells.lookup x=some c->c≠b)/\∀p∈X.pn++pins,p.1≠b
theorem Inv.fpOk{X:Cx}{pins:List (Addr×Obj)}{σ:St}{H H':Hp}{s:Shared}{b:Addr}(I:Inv X pins σ H s)(hb:s.heap.objs.size<=b)(hn:H' b=none):FpOk X pins H' b:=by
 refine⟨hn,Nat.ne_of_gt (Nat.lt_of_lt_of_le I.lt hb),I.nofs hb,.inr (Nat.le_trans I.sz hb),fun x c e z=>?_,fun p hp z=>?_⟩
 ·obtain⟨v,q⟩:=I.cell x c e;exact absurd (Nat.lt_of_lt_of_le q.lt (by rw[z];exact hb)) (Nat.lt_irrefl _)
 ·exact absurd (Nat.lt_of_lt_of_le (Heap.lt_size (I.pin p hp).1) (by rw[z];exact hb)) (Nat.lt_irrefl _)
structure Turn(P:Program)(w:World)(K:Frg)(tg:Expr)(J:It)(fp:List Addr)(it:Addr)(tn:Nat->Heap->Prop):Prop where
 mem:it∈fp
 obj:∀i h,tn i h->∀b∈fp,∃o,h.get? b=some o/\∀v,o.data≠.cell v
 keep:∀i h h',tn i h->(∀b∈fp,∀o,h.get? b=some o->h'.get? b=some o)->tn i h'
 item:∀(X:Cx),X.prog=P->X.w=w->X.K=K->X.calm=true->∀(i:Nat) (pins:List (Addr×Obj)) (s:Shared) (σ:St) (H:Hp) (E:Value->Shared->Prop),Inv X pins σ H s->(∀b∈fp,FpOk X pins H b)->tn i s.heap->J.go i H->
  wpAny (model P w) X.A (pyNext (.ref it)) (fun r s1=>∃u,r=some u/\
   wpAny (model P w) X.A (letOwnedTupleGo tg (.ref it) u) (fun _ s2=>∃x H',Inv X pins σ H' s2/\RelV x u/\J.yld i H x H'/\tn (i+1) s2.heap/\∀b∈fp,H' b=none) E s1) E s
 done:∀(X:Cx),X.prog=P->X.w=w->X.K=K->X.calm=true->∀(i:Nat) (pins:List (Addr×Obj)) (s:Shared) (σ:St) (H:Hp) (E:Value->Shared->Prop),Inv X pins σ H s->(∀b∈fp,FpOk X pins H b)->tn i s.heap->J.stop i H->
  wpAny (model P w) X.A (pyNext (.ref it)) (fun r s1=>r=none/\Inv X pins σ H s1) E s
 self:∀(A:Around) (i:Nat) (s:Shared) (Q:Value->Shared->Prop) (E:Value->Shared->Prop),tn i s.heap->Q (.ref it) s->wpAny (model P w) A (pyIter (.ref it)) Q E s
noncomputable abbrev TI:=St->Hp->(It->Hp->Prop)->Prop
def PIE(X:Cx)(pins:List (Addr×Obj))(σ:St)(tg:Expr)(R:It->Hp->Prop)(itv:Value)(s2:Shared):Prop:=
 ∃(it:Addr) (fp:List Addr) (tn:Nat->Heap->Prop) (J:It) (H':Hp),itv = .ref it/\Inv X pins σ H' s2/\Turn X.prog X.w X.K tg J fp it tn/\tn 0 s2.heap/\(∀b∈fp,FpOk X pins H' b)/\R J H'
def PI(X:Cx)(tg iter:Expr)(wi:TI):Prop:=
 ∀(pins:List (Addr×Obj)) (s:Shared) (σ:St) (H:Hp) (R:It->Hp->Prop),Inv X pins σ H s->wi σ H R->
  wpAny (model X.prog X.w) X.A (eval iter X.env) (fun v s1=>wpAny (model X.prog X.w) X.A (pyIter v) (PIE X pins σ tg R) X.xe s1) X.xe s
theorem WN{M:Model}{A:Around}{E:Value->Shared->Prop}{s:Shared}{tg:Expr}{it:Addr}{u:Value}{o:Obj}{n:String}{vs:Array Value}{Q:Unit->Shared->Prop}(ho:s.heap.get? it=some o)(hc:o.cls = .type n)(hd:o.data = .fields vs)
    (hn:["enumerate","zip","dict_itemiterator","dict_reverseitemiterator","odict_iterator","itertools.zip_longest","itertools.pairwise"].contains n=false) (hQ:Q () s):wpAny M A (letOwnedTupleGo tg (.ref it) u) Q E s:=by
  unfold letOwnedTupleGo;cases tg<;>first
    | exact wpAny_pure hQ
    | (cases u<;>first
        | exact wpAny_pure hQ
        | (refine wpAny_bind (wpAny_load ho ?_)
           rw[hc,hd];show wpAny M A (if(["enumerate","zip","dict_itemiterator","dict_reverseitemiterator","odict_iterator","itertools.zip_longest","itertools.pairwise"].contains n&&vs[0]?==some (rawInt _))=true then _ else _) Q E s;rw[if_neg (by intro h;rw[hn,Bool.false_and]at h;cases h)];exact wpAny_pure hQ))
def Itl(K:Frg)(a:Addr):It:=
 ⟨fun i H=>∃xs x,SqL K H a xs/\xs[i]?=some x,fun i H x H'=>H'=H/\∀xs,SqL K H a xs->xs[i]?=some x,fun i H=>∃xs,SqL K H a xs/\xs.length<=i⟩
def Itt(K:Frg)(a:Addr):It:=
 ⟨fun i H=>∃xs x,SqT K H a xs/\xs[i]?=some x,fun i H x H'=>H'=H/\∀xs,SqT K H a xs->xs[i]?=some x,fun i H=>∃xs,SqT K H a xs/\xs.length<=i⟩
def Itr(lo:Int)(n:Nat):It:=⟨fun i _=>i<n,fun i H x H'=>H'=H/\x = .int (lo+i),fun i _=>n<=i⟩
theorem j1r{P:Program}{w:World}{K:Frg}{tg:Expr}(a it:Addr):Turn P w K tg (Itl K a) [it] it (fun i h=>h.IsListIter it a i) where
 mem:=by simp
 obj:=fun i h st b hb=>by
  have e:b=it:=by simpa using hb
  subst e;obtain⟨o,e,c,d⟩:=st;exact⟨o,e,fun v z=>by rw[d]at z;cases z⟩
 keep:=fun i h h' st k=>st.at fun o e=>k it (by simp) o e
 item:=by
  intro X hP hw hK hc i pins s σ H E I hf st hg;subst hP hw hK;obtain⟨xs,x,hq,hx⟩:=hg;obtain⟨its,rv,p,hz⟩:=I.list hq;obtain⟨u,hu,ru⟩:=rv.get hx;obtain⟨f0,f1,f2,f3,f4,f5⟩:=hf it (by simp);refine wpAny_pyNext_list_item st p.isList (x:=u) (by simpa using hu) fun h' st' sb=>?_
  have I1:Inv X pins σ H {s with heap:=h'}:=I.turned (t':=s.toks) (fun b o hb e=>(sb.2 b hb).trans e) f0 f1 f3 f4 f5;obtain⟨o,e,c,d⟩:=id st';exact⟨u,rfl,WN (s:={s with heap:=h'}) e c d (by decide) ⟨x,H,I1,ru,⟨rfl,fun ys hy=>by rw[I.list_inj hy hq];exact hx⟩,st',fun b hb=>(hf b hb).1⟩⟩
 done:=by
  intro X hP hw hK hc i pins s σ H E I hf st hg;subst hP hw hK;obtain⟨xs,hq,hx⟩:=hg;obtain⟨its,rv,p,hz⟩:=I.list hq;obtain⟨f0,f1,f2,f3,f4,f5⟩:=hf it (by simp);have hl:=rv.length;exact wpAny_pyNext_list_end (I.ok.hd hc) st p.isList (by simp;omega) fun h' eb=>⟨rfl,I.turned (t':=s.toks) (fun b o hb e=>eb b o hb e) f0 f1 f3 f4 f5⟩
 self:=fun _ _ _ _ _ st h=>wpAny_pyIter_listiter st h
theorem Xz{P:Program}{w:World}{K:Frg}{tg:Expr}(a it:Addr):Turn P w K tg (Itt K a) [it] it (fun i h=>h.IsTupleIter it a i) where
 mem:=by simp
 obj:=fun i h st b hb=>by
  have e:b=it:=by simpa using hb
  subst e;obtain⟨o,e,c,d⟩:=st;exact⟨o,e,fun v z=>by rw[d]at z;cases z⟩
 keep:=fun i h h' st k=>st.at fun o e=>k it (by simp) o e
 item:=by
  intro X hP hw hK hc i pins s σ H E I hf st hg;subst hP hw hK;obtain⟨xs,x,hq,hx⟩:=hg;obtain⟨its,rv,p,hz⟩:=I.tuple hq;obtain⟨u,hu,ru⟩:=rv.get hx;obtain⟨f0,f1,f2,f3,f4,f5⟩:=hf it (by simp);refine wpAny_pyNext_tuple_item st (show s.heap.IsTuple a its.toArray from p) (x:=u) (by simpa using hu) fun h' st' sb=>?_
  have I1:Inv X pins σ H {s with heap:=h'}:=I.turned (t':=s.toks) (fun b o hb e=>(sb.2 b hb).trans e) f0 f1 f3 f4 f5;obtain⟨o,e,c,d⟩:=id st';exact⟨u,rfl,WN (s:={s with heap:=h'}) e c d (by decide) ⟨x,H,I1,ru,⟨rfl,fun ys hy=>by rw[I.tuple_inj hy hq];exact hx⟩,st',fun b hb=>(hf b hb).1⟩⟩
 done:=by
  intro X hP hw hK hc i pins s σ H E I hf st hg;subst hP hw hK;obtain⟨xs,hq,hx⟩:=hg;obtain⟨its,rv,p,hz⟩:=I.tuple hq;obtain⟨f0,f1,f2,f3,f4,f5⟩:=hf it (by simp);have hl:=rv.length;exact wpAny_pyNext_tuple_end (I.ok.hd hc) st (show s.heap.IsTuple a its.toArray from p) (by simp;omega) fun h' eb=>⟨rfl,I.turned (t':=s.toks) (fun b o hb e=>eb b o hb e) f0 f1 f3 f4 f5⟩
 self:=fun _ _ _ _ _ st h=>wpAny_pyIter_tupleiter st h
theorem Xy{P:Program}{w:World}{K:Frg}{tg:Expr}(it:Addr)(lo:Int)(n:Nat):Turn P w K tg (Itr lo n) [it] it (fun i h=>IsRangeIter h it (lo+(i:Nat)*1) ((n:Int)-(i:Nat)) 1) where
 mem:=by simp
 obj:=fun i h st b hb=>by
  have e:b=it:=by simpa using hb
  subst e;exact⟨_,st,fun v z=>by
   have z':Data.fields _=Data.cell v:=z;cases z'⟩
 keep:=fun i h h' st k=>k it (by simp) _ st
 item:=by
  intro X hP hw hK hc i pins s σ H E I hf st hg;subst hP hw hK;obtain⟨f0,f1,f2,f3,f4,f5⟩:=hf it (by simp);have W:=Walks.range (prog:=X.prog) (w:=X.w) (I.ok.hd hc) it lo 1 n;refine W.item i s _ _ hg st fun v h' tk hv st' kk=>?_
  obtain⟨t,rfl⟩:=hv;have I1:Inv X pins σ H {s with heap:=h',toks:=tk}:=I.turned (fun b o hb e=>kk b o (by simpa using hb) e) f0 f1 f3 f4 f5;refine⟨_,rfl,WN (s:={s with heap:=h',toks:=tk}) (n:="range_iterator") st' rfl rfl (by decide) ⟨.int (lo+i),H,I1,⟨t,?_⟩,⟨rfl,rfl⟩,st',fun b hb=>(hf b hb).1⟩⟩;rw[Int.mul_one]
 done:=by
  intro X hP hw hK hc i pins s σ H E I hf st hg;subst hP hw hK;obtain⟨f0,f1,f2,f3,f4,f5⟩:=hf it (by simp);exact wpAny_pyNext_range_end (I.ok.hd hc) st (by have:n<=i:=hg;omega) fun h' eb=>⟨rfl,I.turned (t':=s.toks) (fun b o hb e=>eb b o hb e) f0 f1 f3 f4 f5⟩
 self:=fun _ _ _ _ _ st h=>wpAny_pyIter_rangeiter st h
section
variable{X:Cx}{tg:Expr}
def iList(K:Frg)(tl:TE):TI:=fun σ H R=>tl σ H fun x H1=>∃a,x = .ref a/\(∃xs,SqL K H1 a xs)/\R (Itl K a) H1
def iTup(K:Frg)(tl:TE):TI:=fun σ H R=>tl σ H fun x H1=>∃a,x = .ref a/\(∃xs,SqT K H1 a xs)/\R (Itt K a) H1
theorem jL{l:Expr}{tl:TE}(hl:PE X l tl):PI X tg l (iList X.K tl):=by
 intro pins s σ H R I h;refine thn (hl pins s σ H _ I h) fun v s1 ⟨x,H1,I1,r1,q1⟩=>?_
 obtain⟨a,e,⟨xs,hq⟩,q⟩:=q1;subst e;cases r1;obtain⟨its,rv,p,hz⟩:=I1.list hq;refine wpAny_pyIter_list p.isList ?_;refine⟨s1.heap.objs.size,[s1.heap.objs.size],_,_,H1,rfl,I1.kept (t':=s1.toks) fun b o e=>Heap.get?_push_of_some _ e,j1r a _,⟨_,Heap.get?_push_size _ rfl,rfl,rfl⟩,fun b hb=>?_,q⟩;have e:b=s1.heap.objs.size:=by simpa using hb
 subst e;exact I1.fpOk (Nat.le_refl _) (I1.hok.fresh (Nat.le_refl _))
theorem Wc{l:Expr}{tl:TE}(hl:PE X l tl):PI X tg l (iTup X.K tl):=by
 intro pins s σ H R I h;refine thn (hl pins s σ H _ I h) fun v s1 ⟨x,H1,I1,r1,q1⟩=>?_
 obtain⟨a,e,⟨xs,hq⟩,q⟩:=q1;subst e;cases r1;obtain⟨its,rv,p,hz⟩:=I1.tuple hq;refine wpAny_pyIter_tuple (show s1.heap.IsTuple a its.toArray from p) ?_;refine⟨s1.heap.objs.size,[s1.heap.objs.size],_,_,H1,rfl,I1.kept (t':=s1.toks) fun b o e=>Heap.get?_push_of_some _ e,Xz a _,⟨_,Heap.get?_push_size _ rfl,rfl,rfl⟩,fun b hb=>?_,q⟩;have e:b=s1.heap.objs.size:=by simpa using hb
 subst e;exact I1.fpOk (Nat.le_refl _) (I1.hok.fresh (Nat.le_refl _))
theorem j2C{pins:List (Addr×Obj)}{σ:St}{H:Hp}{s:Shared}{R:It->Hp->Prop}{E:Value->Shared->Prop}{lo hi:Int}{t u v:Tok}{tk:Nat}(I:Inv X pins σ H s)(h1 : -(2^62)<=lo)(h2:lo<2^62)(h3 : -(2^62)<=hi)(h4:hi<2^62)
  (q:R (Itr lo (hi-lo).toNat) H):wpAny (model X.prog X.w) X.A (pyIter (.ref s.heap.objs.size)) (PIE X pins σ tg R) E {s with heap:=s.heap.push {cls:=.type "range",data:=.fields #[.int lo t,.int hi u,.int 1 v]},toks:=tk}:=by
 refine wpAny_pyIter_range (IsRange.new ..) (small_one h1 h2 h3 h4) ?_;have I1:Inv X pins σ H {s with heap:=s.heap.push {cls:=.type "range",data:=.fields #[.int lo t,.int hi u,.int 1 v]},toks:=tk}:=I.kept fun b o e=>Heap.get?_push_of_some _ e
 refine⟨(s.heap.push {cls:=.type "range",data:=.fields #[.int lo t,.int hi u,.int 1 v]}).objs.size,[(s.heap.push {cls:=.type "range",data:=.fields #[.int lo t,.int hi u,.int 1 v]}).objs.size],_,_,H,rfl,
  I1.kept (t':=tk) fun b o e=>Heap.get?_push_of_some _ e,Xy _ lo (hi-lo).toNat,?_,fun b hb=>?_,q⟩
 ·have e1:lo+((0:Nat):Int)*1=lo:=by simp
  have e2:(((hi-lo).toNat:Nat):Int)-((0:Nat):Int)=Builtin.Range.rangeSize lo hi 1:=by rw[rangeSize_one];split<;>omega
  show IsRangeIter _ _ (lo+((0:Nat):Int)*1) ((((hi-lo).toNat:Nat):Int)-((0:Nat):Int)) 1;rw[e1,e2];exact Heap.get?_push_size _ rfl
 ·have e:b=(s.heap.push {cls:=.type "range",data:=.fields #[.int lo t,.int hi u,.int 1 v]}).objs.size:=by simpa using hb
  subst e;exact I1.fpOk (Nat.le_refl _) (I1.hok.fresh (Nat.le_refl _))
def iRng1(ta:TA):TI:=fun σ H R=>ta σ H fun vs H1=>∃j:Int,vs=[.int j]/\-(2^62)<=j/\j<2^62/\R (Itr 0 j.toNat) H1
theorem JZ{a:Expr}{ta:TA}{p pos:Pos}(hg:Gl X "range")(hm:X.mg "range"= none)(ha:PA X [a] ta)(hs:starEach [a] X.env=[(false,eval a X.env)]:=by rfl):PI X tg (.Call (.Name "range" p) [a] [] pos) (iRng1 ta):=by
 intro pins s σ H R I h;refine Call_ (qp I hg hm boot_range (PyProof.Rows.callWith_type1 (thn (ha pos pins s σ H _ I h) fun us s1 ⟨vs,H1,I1,r1,q1⟩=>?_) hs rfl));obtain⟨j,e,q1,q2,q⟩:=q1;subst e;cases r1 with
 | cons r rr=>
  cases rr;obtain⟨t,rfl⟩:=r;exact call_range_1 (j2C I1 (by omega) (by omega) q1 q2 (by simpa using q))
def tFor(wi:TI)(g:TG)(tb:TS):TS:=fun D σ H=>wi σ H fun J H1=>∃W:Nat->Nat->St->Hp->Prop,(∃m,W 0 m σ H1)/\∀i m σ H,W i m σ H->
 (J.stop i H/\D.nx σ H)\/(J.go i H/\∃N:St->Hp->Prop,(∀σ' H',N σ' H'->∃m',m'<m/\W (i+1) m' σ' H')/\∀x H',J.yld i H x H'->g x σ H' fun σ2 H2=>tb {D with nx:=N,ct:=N,bk:=D.nx} σ2 H2)
noncomputable def pinsAt(fp:List Addr)(h:Heap):List (Addr×Obj):=fp.filterMap fun b=>(h.get? b).map fun o=>(b,o)
theorem zP{fp:List Addr}{h:Heap}{b:Addr}{o:Obj}(hb:b∈fp)(e:h.get? b=some o):(b,o)∈pinsAt fp h:=List.mem_filterMap.mpr ⟨b,hb,by rw[e];rfl⟩
theorem j15{fp:List Addr}{h:Heap}{p:Addr×Obj}(hp:p∈pinsAt fp h):p.1∈fp/\h.get? p.1=some p.2:=by
 obtain⟨b,hb,e⟩:=List.mem_filterMap.mp hp;cases q:h.get? b with
 | none=>rw[q]at e;cases e
 | some o=>
  rw[q]at e;have e':(b,o)=p:=Option.some.inj e;subst e';exact⟨hb,q⟩
theorem Inv.pinned{pins:List (Addr×Obj)}{σ:St}{H:Hp}{s:Shared}{fp:List Addr}(I:Inv X pins σ H s)(hf:∀b∈fp,FpOk X pins H b)(ho:∀b∈fp,∃o,s.heap.get? b=some o/\∀v,o.data≠.cell v):Inv X (pins++pinsAt fp s.heap) σ H s:=
 I.pins_of fun p hp=>(mem_append.mp hp).elim (fun z=>I.pin p (mem_append_right _ z)) fun z=>by
  obtain⟨hb,e⟩:=j15 z;obtain⟨f0,f1,f2,_⟩:=hf p.1 hb;obtain⟨o,e',d⟩:=ho p.1 hb;rw[e]at e';cases e';exact⟨e,f0,f1,f2,d⟩
theorem Inv.unpinned{pins pl:List (Addr×Obj)}{σ:St}{H:Hp}{s:Shared}(I:Inv X (pins++pl) σ H s):Inv X pins σ H s:=I.pins_of fun p hp=>I.pin p (mem_append_right _ (mem_append_left _ hp))
theorem Jf{iter:Expr}{body:List Stmt}{wi:TI}{g:TG}{tb:TS}{pos:Pos}(hp:PassesOwn (model X.prog X.w) X.A X.env X.xe)(hc:X.calm=true)(hi:PI X tg iter wi)(hg:PG X tg g)(hb:PSs X body tb)
  (hs:∀x,foldedSetIterable iter X.env x=pure x:=by intro _;rfl):PS X (.For tg iter body [] pos) (tFor wi g tb):=by
 intro pins s σ H D I h;refine wpAny_For (thn (hi pins s σ H _ I h) fun v s1 h1=>thn h1 fun itv s2 h2=>?_) hs;obtain⟨it,fp,tn,J,H2,e,I2,T,st2,f2,W,⟨m0,w0⟩,turn⟩:=h2;subst e;have stat:∀{H':Hp},(∀b∈fp,H' b=none)->∀b∈fp,FpOk X pins H' b:=fun hn b hb=>⟨hn b hb,(f2 b hb).2⟩
 refine codeAny_forLoop_any (fun n s'=>∃i σ' H',Inv X pins σ' H' s'/\tn i s'.heap/\(∀b∈fp,H' b=none)/\W i n σ' H') ?_ m0 ⟨0,σ,H2,I2,st2,fun b hb=>(f2 b hb).1,w0⟩;rintro n s3 ⟨i,σ3,H3,I3,st3,fr3,w3⟩;rcases turn i n σ3 H3 w3 with⟨stop,qn⟩ | ⟨go,N,hN,step⟩
 ·refine wpAny_passesOwn hp (thn (T.done X rfl rfl rfl hc i pins s3 σ3 H3 X.xe I3 (stat fr3) st3 stop) fun r s4 ⟨hr,I4⟩=>?_);subst hr;exact wpAny_execs_nil ⟨σ3,H3,I4,qn⟩
 ·refine wpAny_passesOwn hp (thn (T.item X rfl rfl rfl hc i pins s3 σ3 H3 X.xe I3 (stat fr3) st3 go) fun r s4 ⟨u,hr,h4⟩=>?_);subst hr;refine wpAny_passesOwn hp (thn h4 fun _ s5 ⟨x,H5,I5,r5,y5,st5,fr5⟩=>?_);have I5':=I5.pinned (stat fr5) (T.obj _ _ st5);refine wpAny_passesOwn hp (thn (hg _ s5 σ3 H5 x u _ I5' r5 (step x H5 y5)) fun _ s6 ⟨σ6,H6,I6,q6⟩=>?_);refine wpAny_passesOwn hp (thn (hb _ s6 σ6 H6 _ I6 q6) fun f s7 q7=>?_);have again:∀{σ7:St} {H7:Hp},Inv X (pins++pinsAt fp s5.heap) σ7 H7 s7->N σ7 H7->∃m,m<n/\∃i σ' H',Inv X pins σ' H' s7/\tn i s7.heap/\(∀b∈fp,H' b=none)/\W i m σ' H':=fun {σ7 H7} I7 n7=>by
   obtain⟨m',hm,w7⟩:=hN σ7 H7 n7;refine⟨m',hm,i+1,σ7,H7,I7.unpinned,T.keep _ _ _ st5 fun b hb o e=>(I7.pin (b,o) (mem_append_right _ (mem_append_right _ (zP hb e)))).1,fun b hb=>?_,w7⟩;obtain⟨o,e,d⟩:=T.obj _ _ st5 b hb;exact(I7.pin (b,o) (mem_append_right _ (mem_append_right _ (zP hb e)))).2.1
  cases f with
  | next=>obtain⟨σ7,H7,I7,n7⟩:=q7;exact again I7 n7
  | cont=>obtain⟨σ7,H7,I7,n7⟩:=q7;exact again I7 n7
  | brk=>obtain⟨σ7,H7,I7,q7⟩:=q7;exact⟨σ7,H7,I7.unpinned,q7⟩
  | ret v=>obtain⟨x7,σ7,H7,I7,r7,q7⟩:=q7;exact⟨x7,σ7,H7,I7.unpinned,r7,q7⟩
end
theorem qJ{K:Frg}{a:Addr}{xs:List V}{g:TG}{tb:TS}{D:Ends}{σ:St}{H:Hp}(Pv:Nat->St->Hp->Prop)(h0:Pv 0 σ H)(hl:∀i σ H,i<=xs.length->Pv i σ H->SqL K H a xs)
  (hs:∀i x σ H,xs[i]?=some x->Pv i σ H->g x σ H fun σ2 H2=>tb {D with nx:=Pv (i+1),ct:=Pv (i+1),bk:=D.nx} σ2 H2) (hd:∀σ H,Pv xs.length σ H->D.nx σ H) :
  ∃W:Nat->Nat->St->Hp->Prop,(∃m,W 0 m σ H)/\∀i m σ H,W i m σ H->
   ((Itl K a).stop i H/\D.nx σ H)\/((Itl K a).go i H/\∃N:St->Hp->Prop,(∀σ' H',N σ' H'->∃m',m'<m/\W (i+1) m' σ' H')/\∀x H',(Itl K a).yld i H x H'->g x σ H' fun σ2 H2=>tb {D with nx:=N,ct:=N,bk:=D.nx} σ2 H2):=by
 refine⟨fun i m σ H=>m=xs.length-i/\i<=xs.length/\Pv i σ H,⟨xs.length,by simp,Nat.zero_le _,h0⟩,?_⟩;rintro i m σ H ⟨rfl,hi,p⟩;have q:=hl i σ H hi p;by_cases hlt:i<xs.length
 ·refine .inr ⟨⟨xs,xs[i],q,by simp[hlt]⟩,Pv (i+1),fun σ' H' p'=>⟨xs.length-(i+1),by omega,rfl,hlt,p'⟩,fun x H' y=>?_⟩;obtain⟨e,y⟩:=y;subst e;exact hs i x σ _ (y xs q) p
 ·have e:i=xs.length:=by omega
  subst e;exact .inl ⟨⟨xs,q,Nat.le_refl _⟩,hd σ H p⟩
theorem j3f{K:Frg}{a:Addr}{xs:List V}{g:TG}{tb:TS}{D:Ends}{σ:St}{H:Hp}(Pv:Nat->St->Hp->Prop)(h0:Pv 0 σ H)(hl:∀i σ H,i<=xs.length->Pv i σ H->SqT K H a xs)
  (hs:∀i x σ H,xs[i]?=some x->Pv i σ H->g x σ H fun σ2 H2=>tb {D with nx:=Pv (i+1),ct:=Pv (i+1),bk:=D.nx} σ2 H2) (hd:∀σ H,Pv xs.length σ H->D.nx σ H) :
  ∃W:Nat->Nat->St->Hp->Prop,(∃m,W 0 m σ H)/\∀i m σ H,W i m σ H->
   ((Itt K a).stop i H/\D.nx σ H)\/((Itt K a).go i H/\∃N:St->Hp->Prop,(∀σ' H',N σ' H'->∃m',m'<m/\W (i+1) m' σ' H')/\∀x H',(Itt K a).yld i H x H'->g x σ H' fun σ2 H2=>tb {D with nx:=N,ct:=N,bk:=D.nx} σ2 H2):=by
 refine⟨fun i m σ H=>m=xs.length-i/\i<=xs.length/\Pv i σ H,⟨xs.length,by simp,Nat.zero_le _,h0⟩,?_⟩;rintro i m σ H ⟨rfl,hi,p⟩;have q:=hl i σ H hi p;by_cases hlt:i<xs.length
 ·refine .inr ⟨⟨xs,xs[i],q,by simp[hlt]⟩,Pv (i+1),fun σ' H' p'=>⟨xs.length-(i+1),by omega,rfl,hlt,p'⟩,fun x H' y=>?_⟩;obtain⟨e,y⟩:=y;subst e;exact hs i x σ _ (y xs q) p
 ·have e:i=xs.length:=by omega
  subst e;exact .inl ⟨⟨xs,q,Nat.le_refl _⟩,hd σ H p⟩
theorem qX{lo:Int}{n:Nat}{g:TG}{tb:TS}{D:Ends}{σ:St}{H:Hp}(Pv:Nat->St->Hp->Prop)(h0:Pv 0 σ H)
  (hs:∀i σ H,i<n->Pv i σ H->g (.int (lo+i)) σ H fun σ2 H2=>tb {D with nx:=Pv (i+1),ct:=Pv (i+1),bk:=D.nx} σ2 H2) (hd:∀σ H,Pv n σ H->D.nx σ H) :
  ∃W:Nat->Nat->St->Hp->Prop,(∃m,W 0 m σ H)/\∀i m σ H,W i m σ H->
   ((Itr lo n).stop i H/\D.nx σ H)\/((Itr lo n).go i H/\∃N:St->Hp->Prop,(∀σ' H',N σ' H'->∃m',m'<m/\W (i+1) m' σ' H')/\∀x H',(Itr lo n).yld i H x H'->g x σ H' fun σ2 H2=>tb {D with nx:=N,ct:=N,bk:=D.nx} σ2 H2):=by
 refine⟨fun i m σ H=>m=n-i/\i<=n/\Pv i σ H,⟨n,by simp,Nat.zero_le _,h0⟩,?_⟩;rintro i m σ H ⟨rfl,hi,p⟩;by_cases hlt:i<n
 ·refine .inr ⟨hlt,Pv (i+1),fun σ' H' p'=>⟨n-(i+1),by omega,rfl,hlt,p'⟩,fun x H' y=>?_⟩;obtain⟨e,y⟩:=y;subst e y;exact hs i σ _ hlt p
 ·have e:i=n:=by omega
  subst e;exact .inl ⟨Nat.le_refl _,hd σ H p⟩
noncomputable abbrev R2:=V->V->Hp->VK->Prop
def OpR(X:Cx)(f:Value->Value->Sem Value)(r:R2):Prop:=
 ∀(pins:List (Addr×Obj)) (s:Shared) (σ:St) (H:Hp) (x y:V) (v u:Value) (Q:VK),Inv X pins σ H s->RelV x v->RelV y u->r x y H Q->
  wpAny (model X.prog X.w) X.A (f v u) (EP X pins σ Q) X.xe s
def UnR(X:Cx)(f:Value->Sem Value)(r:V->Hp->VK->Prop):Prop:=
 ∀(pins:List (Addr×Obj)) (s:Shared) (σ:St) (H:Hp) (x:V) (v:Value) (Q:VK),Inv X pins σ H s->RelV x v->r x H Q->
  wpAny (model X.prog X.w) X.A (f v) (EP X pins σ Q) X.xe s
def CallR(X:Cx)(f:Value)(r:List V->Hp->VK->Prop):Prop:=
 ∀(pins:List (Addr×Obj)) (s:Shared) (σ:St) (H:Hp) (xs:List V) (us:List Value) (Q:VK),Inv X pins σ H s->Vals xs us->r xs H Q->
  wpAny (model X.prog X.w) X.A (call f us) (EP X pins σ Q) X.xe s
def tOp(r:R2)(ta tb:TE):TE:=fun σ H Q=>ta σ H fun x H1=>tb σ H1 fun y H2=>r x y H2 Q
def tUn(r:V->Hp->VK->Prop)(ta:TE):TE:=fun σ H Q=>ta σ H fun x H1=>r x H1 Q
def rI(C:Int->Int->Prop)(g:Int->Int->V):R2:=fun x y H Q=>∃i j,x = .int i/\y = .int j/\C i j/\Q (g i j) H
def rI0(g:Int->Int->V):R2:=fun x y H Q=>∃i j,x = .int i/\y = .int j/\Q (g i j) H
noncomputable def rU(g:Int->V):V->Hp->VK->Prop:=fun x H Q=>∃i,x = .int i/\Q (g i) H
section
variable{X:Cx}{a b c:Expr}{ta tb tc:TE}{pos:Pos}
theorem binT(ha:PE X a ta)(hb:PE X b tb){pins:List (Addr×Obj)}{s:Shared}{σ:St}{H:Hp}{R:V->V->Hp->Prop}(I:Inv X pins σ H s)
  (h:ta σ H fun x H1=>tb σ H1 fun y H2=>R x y H2) {Q:Value->Shared->Prop} {f:Value->Value->Sem Value}
  (hf:∀v u s2 x y H2,Inv X pins σ H2 s2->RelV x v->RelV y u->R x y H2->wpAny (model X.prog X.w) X.A (f v u) Q X.xe s2) :
  wpAny (model X.prog X.w) X.A (eval a X.env) (fun v s₁=>wpAny (model X.prog X.w) X.A (eval b X.env) (fun u s₂=>wpAny (model X.prog X.w) X.A (f v u) Q X.xe s₂) X.xe s₁) X.xe s:=by
 refine thn (ha pins s σ H _ I h) fun v s1 ⟨x,H1,I1,r1,q1⟩=>?_
 refine thn (hb pins s1 σ H1 _ I1 q1) fun u s2 ⟨y,H2,I2,r2,q2⟩=>?_
 exact hf v u s2 x y H2 I2 r1 r2 q2
theorem jp{op:Operator}{r:R2}(ho:OpR X (binaryOp op) r)(ha:PE X a ta)(hb:PE X b tb):PE X (.BinOp a op b pos) (tOp r ta tb):=by
 intro pins s σ H Q I h;exact wpAny_BinOp (binT ha hb I h fun v u s2 x y H2 I2 rx ry q=>ho pins s2 σ H2 x y v u Q I2 rx ry q)
theorem Z2{op:UnaryOp}{r:V->Hp->VK->Prop}(ho:UnR X (unaryOp op) r)(ha:PE X a ta):PE X (.UnaryOp op a pos) (tUn r ta):=by
 intro pins s σ H Q I h;exact UnaryOp_ (thn (ha pins s σ H _ I h) fun v s1 ⟨x,H1,I1,r1,q1⟩=>ho pins s1 σ H1 x v Q I1 r1 q1)
theorem opI{f:Value->Value->Sem Value}{C:Int->Int->Prop}{g:Int->Int->Int}
  (rule:∀(i j:Int) (t u:Tok) (s:Shared) (Q:Value->Shared->Prop) (E:Value->Shared->Prop),C i j->Q (.int (g i j) s.toks) {s with toks:=s.toks+1}->wpAny (model X.prog X.w) X.A (f (.int i t) (.int j u)) Q E s) :
  OpR X f (rI C fun i j=>.int (g i j)):=by
 intro pins s σ H x y v u Q I rx ry h;obtain⟨i,j,rfl,rfl,hc,q⟩:=h;obtain⟨t,rfl⟩:=rx;obtain⟨t',rfl⟩:=ry;exact rule i j t t' s _ _ hc ⟨.int (g i j),H,I.tok _,⟨_,rfl⟩,q⟩
theorem opI0{f:Value->Value->Sem Value}{g:Int->Int->Int}
  (rule:∀(i j:Int) (t u:Tok) (s:Shared) (Q:Value->Shared->Prop) (E:Value->Shared->Prop),Q (.int (g i j) s.toks) {s with toks:=s.toks+1}->wpAny (model X.prog X.w) X.A (f (.int i t) (.int j u)) Q E s) :
  OpR X f (rI0 fun i j=>.int (g i j)):=by
 intro pins s σ H x y v u Q I rx ry h;obtain⟨i,j,rfl,rfl,q⟩:=h;obtain⟨t,rfl⟩:=rx;obtain⟨t',rfl⟩:=ry;exact rule i j t t' s _ _ ⟨.int (g i j),H,I.tok _,⟨_,rfl⟩,q⟩
theorem opB0{f:Value->Value->Sem Value}{g:Int->Int->Bool}
  (rule:∀(i j:Int) (t u:Tok) (s:Shared) (Q:Value->Shared->Prop) (E:Value->Shared->Prop),Q (.bool (g i j)) s->wpAny (model X.prog X.w) X.A (f (.int i t) (.int j u)) Q E s) :
  OpR X f (rI0 fun i j=>.bl (g i j)):=by
 intro pins s σ H x y v u Q I rx ry h;obtain⟨i,j,rfl,rfl,q⟩:=h;obtain⟨t,rfl⟩:=rx;obtain⟨t',rfl⟩:=ry;exact rule i j t t' s _ _ ⟨.bl (g i j),H,I,rfl,q⟩
def CPow(i j:Int):Prop:=0<=j/\j<=1000000/\i.natAbs<2^64
theorem Je:OpR X (binaryOp .Add) (rI0 fun i j=>.int (i+j)):=opI0 fun _ _ _ _ _ _ _ q=>add_int q
theorem Yi:OpR X (binaryOp .Sub) (rI0 fun i j=>.int (i-j)):=opI0 fun _ _ _ _ _ _ _ q=>sub_int q
theorem jI:OpR X (binaryOp .Mod) (rI (fun _ j=>0<j) fun i j=>.int (i%j)):=opI fun i j _ _ _ _ _ hc q=>by
 have h1:(0:Int)<j:=hc;exact mod_int' (by omega) (by rw[Int.fmod_eq_emod_of_nonneg i (by omega)];exact q)
theorem qZ:OpR X (binaryOp .Pow) (rI CPow fun i j=>.int (i^j.toNat)):=opI fun _ _ _ _ _ _ _ hc q=>pow_int_small hc.1 hc.2.1 hc.2.2 q
theorem unI{f:Value->Sem Value}{g:Int->Int}
  (rule:∀(i:Int) (t:Tok) (s:Shared) (Q:Value->Shared->Prop) (E:Value->Shared->Prop),Q (.int (g i) s.toks) {s with toks:=s.toks+1}->wpAny (model X.prog X.w) X.A (f (.int i t)) Q E s) :
  UnR X f (rU fun i=>.int (g i)):=by
 intro pins s σ H x v Q I rx h;obtain⟨i,rfl,q⟩:=h;obtain⟨t,rfl⟩:=rx;exact rule i t s _ _ ⟨.int (g i),H,I.tok _,⟨_,rfl⟩,q⟩
theorem ze:UnR X (unaryOp .USub) (rU fun i=>.int (-i)):=unI fun _ _ _ _ _ q=>neg_int q
end
noncomputable def scal:V->V->Bool
 | .non,.non=>true | .non,.int _=>true | .int _,.non=>true | .non,.bl _=>true | .bl _,.non=>true | .non,.str _=>true | .str _,.non=>true
 | .int _,.int _=>true | .bl _,.bl _=>true | .str _,.str _=>true | .byt _,.byt _=>true
 | .int _,.str _=>true | .str _,.int _=>true | .bl _,.str _=>true | .str _,.bl _=>true
 | _,_=>false
def rEq:R2:=fun x y H Q=>scal x y=true/\Q (.bl (decide (x=y))) H
def rNe:R2:=fun x y H Q=>scal x y=true/\Q (.bl (!decide (x=y))) H
theorem XS{i j:Int}:decide (V.int i=V.int j)=(i==j):=by
 rw[Bool.eq_iff_iff];simp
theorem j1N{i j:Bool}:decide (V.bl i=V.bl j)=(i==j):=by
 rw[Bool.eq_iff_iff];simp
theorem XT{i j:Str}:decide (V.str i=V.str j)=(i==j):=by
 rw[Bool.eq_iff_iff];simp
theorem XR{i j:Array UInt8}:decide (V.byt i=V.byt j)=(i.toList==j.toList):=by
 rw[Bool.eq_iff_iff];cases i;cases j;simp
section
variable{X:Cx}{a b c:Expr}{ta tb tc:TE}{pos:Pos}
theorem jO{pins:List (Addr×Obj)}{σ:St}{H:Hp}{s:Shared}{Q:VK}{k k':Bool}(I:Inv X pins σ H s)(q:Q (.bl k) H)(e:k=k'):EP X pins σ Q (.bool k') s:=by
 subst e;exact⟨.bl k,H,I,rfl,q⟩
theorem JE:OpR X (compareOp .Eq) rEq:=by
 intro pins s σ H x y v u Q I rx ry h;obtain⟨hs,q⟩:=h;cases x with
 | non=>
  cases rx;cases y with
  | non=>cases ry;exact PySem.EqNone.eq_none_none (jO I q (by simp))
  | bl j=>cases ry;exact PySem.EqNone.eq_none_bool (jO I q (by simp))
  | int j=>obtain⟨t',rfl⟩:=ry;exact PySem.EqNone.eq_none_int (jO I q (by simp))
  | str j=>obtain⟨t',rfl⟩:=ry;exact PySem.EqNone.eq_none_str (jO I q (by simp))
  | _=>exact absurd (show false=true from hs) Bool.false_ne_true
 | bl i=>
  cases rx;cases y with
  | non=>cases ry;exact PySem.EqNone.eq_bool_none (jO I q (by simp))
  | bl j=>cases ry;exact eq_bool (jO I q j1N)
  | str j=>obtain⟨t',rfl⟩:=ry;exact PySem.EqMixed.eq_bool_str (jO I q (by simp))
  | _=>exact absurd (show false=true from hs) Bool.false_ne_true
 | int i=>
  obtain⟨t,rfl⟩:=rx;cases y with
  | non=>cases ry;exact PySem.EqNone.eq_int_none (jO I q (by simp))
  | int j=>obtain⟨t',rfl⟩:=ry;exact eq_int (jO I q XS)
  | str j=>obtain⟨t',rfl⟩:=ry;exact PySem.EqMixed.eq_int_str (jO I q (by simp))
  | _=>exact absurd (show false=true from hs) Bool.false_ne_true
 | str i=>
  obtain⟨t,rfl⟩:=rx;cases y with
  | non=>cases ry;exact PySem.EqNone.eq_str_none (jO I q (by simp))
  | bl j=>cases ry;exact PySem.EqMixed.eq_str_bool (jO I q (by simp))
  | int j=>obtain⟨t',rfl⟩:=ry;exact PySem.EqMixed.eq_str_int (jO I q (by simp))
  | str j=>obtain⟨t',rfl⟩:=ry;exact eq_str (jO I q XT)
  | _=>exact absurd (show false=true from hs) Bool.false_ne_true
 | byt i=>
  obtain⟨t,rfl⟩:=rx;cases y with
  | byt j=>obtain⟨t',rfl⟩:=ry;exact PySem.W.eq_bytes (jO I q XR)
  | _=>exact absurd (show false=true from hs) Bool.false_ne_true
 | _=>cases y<;>exact absurd (show false=true from hs) Bool.false_ne_true
theorem YB:OpR X (compareOp .NotEq) rNe:=by
 intro pins s σ H x y v u Q I rx ry h;obtain⟨hs,q⟩:=h;cases x with
 | non=>
  cases rx;cases y with
  | non=>cases ry;exact PySem.EqNone.ne_none_none (jO I q (by simp))
  | bl j=>cases ry;exact PySem.EqNone.ne_none_bool (jO I q (by simp))
  | int j=>obtain⟨t',rfl⟩:=ry;exact PySem.EqNone.ne_none_int (jO I q (by simp))
  | str j=>obtain⟨t',rfl⟩:=ry;exact PySem.EqNone.ne_none_str (jO I q (by simp))
  | _=>exact absurd (show false=true from hs) Bool.false_ne_true
 | bl i=>
  cases rx;cases y with
  | non=>cases ry;exact PySem.EqNone.ne_bool_none (jO I q (by simp))
  | bl j=>cases ry;exact ne_bool (jO I q (congrArg not j1N))
  | str j=>obtain⟨t',rfl⟩:=ry;exact PySem.EqMixed.ne_bool_str (jO I q (by simp))
  | _=>exact absurd (show false=true from hs) Bool.false_ne_true
 | int i=>
  obtain⟨t,rfl⟩:=rx;cases y with
  | non=>cases ry;exact PySem.EqNone.ne_int_none (jO I q (by simp))
  | int j=>obtain⟨t',rfl⟩:=ry;exact ne_int (jO I q (congrArg not XS))
  | str j=>obtain⟨t',rfl⟩:=ry;exact PySem.EqMixed.ne_int_str (jO I q (by simp))
  | _=>exact absurd (show false=true from hs) Bool.false_ne_true
 | str i=>
  obtain⟨t,rfl⟩:=rx;cases y with
  | non=>cases ry;exact PySem.EqNone.ne_str_none (jO I q (by simp))
  | bl j=>cases ry;exact PySem.EqMixed.ne_str_bool (jO I q (by simp))
  | int j=>obtain⟨t',rfl⟩:=ry;exact PySem.EqMixed.ne_str_int (jO I q (by simp))
  | str j=>obtain⟨t',rfl⟩:=ry;exact ne_str (jO I q (congrArg not XT))
  | _=>exact absurd (show false=true from hs) Bool.false_ne_true
 | byt i=>
  obtain⟨t,rfl⟩:=rx;cases y with
  | byt j=>obtain⟨t',rfl⟩:=ry;exact PySem.W.ne_bytes (jO I q (congrArg not XR))
  | _=>exact absurd (show false=true from hs) Bool.false_ne_true
 | _=>cases y<;>exact absurd (show false=true from hs) Bool.false_ne_true
theorem W8:OpR X (compareOp .Lt) (rI0 fun i j=>.bl (decide (i<j))):=opB0 fun _ _ _ _ _ _ _ q=>lt_int q
theorem Zq:OpR X (compareOp .LtE) (rI0 fun i j=>.bl (decide (i<=j))):=opB0 fun _ _ _ _ _ _ _ q=>le_int q
theorem yJ:OpR X (compareOp .Gt) (rI0 fun i j=>.bl (decide (j<i))):=opB0 fun _ _ _ _ _ _ _ q=>gt_int q
theorem j49:OpR X (compareOp .GtE) (rI0 fun i j=>.bl (decide (j<=i))):=opB0 fun _ _ _ _ _ _ _ q=>ge_int q
theorem j16:OpR X (compareOp .In) (fun x y H Q=>∃i j,x = .str i/\y = .str j/\Q (.bl (!(Builtin.Str.occurrences j i 0 j.length 1).isEmpty)) H):=by
 intro pins s σ H x y v u Q I rx ry h;obtain⟨i,j,rfl,rfl,q⟩:=h;obtain⟨t,rfl⟩:=rx;obtain⟨t',rfl⟩:=ry;exact in_str (jO I q rfl)
theorem w4:OpR X (compareOp .Is) (fun x y H Q=>y = .non/\Q (.bl (decide (x = .non))) H):=by
 intro pins s σ H x y v u Q I rx ry h;obtain⟨rfl,q⟩:=h;cases ry;refine is_none_gen (jO I q ?_);cases x<;>first
  | (cases rx;rfl)
  | (obtain⟨t,rfl⟩:=rx;rfl)
theorem nomark(b:Expr){op:CmpOp}(h:op≠.In:=by decide)(h2:op≠.NotIn:=by decide):behindInMarks op b=false:=by
 have e1:(op==CmpOp.In)=false:=by cases op<;>first | rfl | exact absurd rfl h
 have e2:(op==CmpOp.NotIn)=false:=by cases op<;>first | rfl | exact absurd rfl h2
 cases b<;>simp[behindInMarks,e1,e2]
theorem Wb{op:CmpOp}{r:R2}(ho:OpR X (compareOp op) r)(ha:PE X a ta)(hb:PE X b tb)(hm:behindInMarks op b=false):PE X (.Compare a [op] [b] pos) (tOp r ta tb):=by
 intro pins s σ H Q I h;exact wpAny_Compare1 (binT ha hb I h fun v u s2 x y H2 I2 rx ry q=>ho pins s2 σ H2 x y v u Q I2 rx ry q) hm
def tTest(t:TE):TT:=fun σ H Q=>t σ H fun x H'=>∃k,x = .bl k/\Q k H'
theorem jn{op:CmpOp}{r:R2}(ho:OpR X (compareOp op) r)(ha:PE X a ta)(hb:PE X b tb)(hm:behindInMarks op b=false):PT X (.Compare a [op] [b] pos) (tTest (tOp r ta tb)):=by
 intro pins s σ H Q I h;refine wpAny_isTrue_Compare1 (thn (ha pins s σ H _ I h) fun v s1 ⟨x,H1,I1,r1,q1⟩=>thn (hb pins s1 σ H1 _ I1 q1) fun u s2 ⟨y,H2,I2,r2,q2⟩=>
  thn (ho pins s2 σ H2 x y v u _ I2 r1 r2 q2) fun c s3 ⟨z,H3,I3,r3,k,e,q3⟩=>?_) hm
 subst e;cases r3;exact wpAny_truthy_bool ⟨H3,I3,q3⟩
def tChain(r r':R2)(ta tb tc:TE):TE:=fun σ H Q=>ta σ H fun x H1=>tb σ H1 fun y H2=>r x y H2 fun z H3=>∃k,z = .bl k/\
 (if k=true then tc σ H3 fun w' H4=>r' y w' H4 Q else Q (.bl false) H3)
theorem j2s{op op':CmpOp}{r r':R2}(ho:OpR X (compareOp op) r)(ho':OpR X (compareOp op') r')(ha:PE X a ta)(hb:PE X b tb)(hc:PE X c tc)
  (hm:lastMarks [op,op'] [b,c]=false:=by with_unfolding_all rfl):PE X (.Compare a [op,op'] [b,c] pos) (tChain r r' ta tb tc):=by
 intro pins s σ H Q I h;refine Compare_chain (thn (ha pins s σ H _ I h) fun v s1 ⟨x,H1,I1,r1,q1⟩=>chain_link (thn (hb pins s1 σ H1 _ I1 q1) fun u s2 ⟨y,H2,I2,r2,q2⟩=>
  thn (ho pins s2 σ H2 x y v u _ I2 r1 r2 q2) fun d s3 ⟨z,H3,I3,r3,k,e,q3⟩=>?_)) hm
 subst e;cases r3;refine wpAny_truthy_bool ?_;cases k with
 | false=>exact ite_ff ⟨.bl false,H3,I3,rfl,q3⟩
 | true=>exact ite_tt (chain_last (thn (hc pins s3 σ H3 _ I3 q3) fun w' s4 ⟨z',H4,I4,r4,q4⟩=>ho' pins s4 σ H4 y z' u w' Q I4 r2 r4 q4))
theorem yL{op op':CmpOp}{r r':R2}(ho:OpR X (compareOp op) r)(ho':OpR X (compareOp op') r')(ha:PE X a ta)(hb:PE X b tb)(hc:PE X c tc)
  (hm:lastMarks [op,op'] [b,c]=false:=by with_unfolding_all rfl):PT X (.Compare a [op,op'] [b,c] pos) (tTest (tChain r r' ta tb tc)):=by
 intro pins s σ H Q I h;refine isTrue_chain (thn (ha pins s σ H _ I h) fun v s1 ⟨x,H1,I1,r1,q1⟩=>test_link (thn (hb pins s1 σ H1 _ I1 q1) fun u s2 ⟨y,H2,I2,r2,q2⟩=>
  thn (ho pins s2 σ H2 x y v u _ I2 r1 r2 q2) fun d s3 ⟨z,H3,I3,r3,k,e,q3⟩=>?_)) hm
 subst e;cases r3;refine wpAny_truthy_bool ?_;cases k with
 | false=>
  obtain⟨k',e',q'⟩:=q3;cases e';exact ite_ff ⟨H3,I3,q'⟩
 | true=>
  refine ite_tt (test_last (thn (hc pins s3 σ H3 _ I3 q3) fun w' s4 ⟨z',H4,I4,r4,q4⟩=>thn (ho' pins s4 σ H4 y z' u w' _ I4 r2 r4 q4) fun d' s5 ⟨z2,H5,I5,r5,k2,e2,q5⟩=>?_));subst e2;cases r5;exact wpAny_truthy_bool ⟨H5,I5,q5⟩
theorem line63:(sizeLine:Nat)<2^63:=by rw[sizeLine_eq];decide
theorem qY:OpR X (binaryOp .Add) (fun x y H Q=>∃i j,x = .str i/\y = .str j/\i.length+j.length<=sizeLine/\Q (.str (i++j)) H):=by
 intro pins s σ H x y v u Q I rx ry h;obtain⟨i,j,rfl,rfl,hz,q⟩:=h;obtain⟨t,rfl⟩:=rx;obtain⟨t',rfl⟩:=ry;exact add_str (fun t' tk=>⟨.str (i++j),H,I.tok _,⟨_,rfl⟩,q⟩) hz
theorem vals1{x:V}{us:List Value}(r:Vals [x] us):∃u,us=[u]/\RelV x u:=by
 cases r with
 | cons r1 r2=>cases r2;exact⟨_,rfl,r1⟩
theorem vals2{x y:V}{us:List Value}(r:Vals [x,y] us):∃u w',us=[u,w']/\RelV x u/\RelV y w':=by
 cases r with
 | cons r1 r2=>
  cases r2 with
  | cons r3 r4=>cases r4;exact⟨_,_,rfl,r1,r3⟩
theorem j0J(hc:X.calm=true):CallR X (.builtin "max") (fun xs H Q=>∃i j,xs=[.int i,.int j]/\Q (.int (if j>i then j else i)) H):=by
 intro pins s σ H xs us Q I r h;obtain⟨i,j,rfl,q⟩:=h;obtain⟨u,w',rfl,⟨t,rfl⟩,⟨t',rfl⟩⟩:=vals2 r;refine max_two_ints (I.ok.hd hc) fun h' tk k=>⟨_,H,I.kept k,?_,q⟩
 by_cases hj:j>i
 ·rw[if_pos hj,if_pos hj];exact⟨_,rfl⟩
 ·rw[if_neg hj,if_neg hj];exact⟨_,rfl⟩
theorem KK(hc:X.calm=true):CallR X (.builtin "min") (fun xs H Q=>∃i j,xs=[.int i,.int j]/\Q (.int (if j<i then j else i)) H):=by
 intro pins s σ H xs us Q I r h;obtain⟨i,j,rfl,q⟩:=h;obtain⟨u,w',rfl,⟨t,rfl⟩,⟨t',rfl⟩⟩:=vals2 r;refine min_two_ints (I.ok.hd hc) fun h' tk k=>⟨_,H,I.kept k,?_,q⟩
 by_cases hj:j<i
 ·rw[if_pos hj,if_pos hj];exact⟨_,rfl⟩
 ·rw[if_neg hj,if_neg hj];exact⟨_,rfl⟩
theorem j0H:CallR X (.type "int") (fun xs H Q=>(∃i,xs=[.int i]/\Q (.int i) H)\/∃k,xs=[.bl k]/\Q (.int (if k then 1 else 0)) H):=by
 intro pins s σ H xs us Q I r h;rcases h with⟨i,rfl,q⟩ | ⟨k,rfl,q⟩
 ·obtain⟨u,rfl,t,rfl⟩:=vals1 r;exact call_int_int ⟨.int i,H,I,⟨_,rfl⟩,q⟩
 ·obtain⟨u,rfl,r1⟩:=vals1 r;cases r1;exact call_int_bool ⟨.int (if k then 1 else 0),H,I.tok _,⟨_,rfl⟩,q⟩
def LenV(K:Frg)(x:V)(H:Hp)(n:Nat):Prop:=
 match x with
 | .str y=>y.length<=sizeLine/\n=y.length
 | .byt y=>y.size<=sizeLine/\n=y.size
 | .ref p=>(∃xs,SqL K H p xs/\n=xs.length)\/∃xs,SqT K H p xs/\n=xs.length
 | _=>False
theorem jB:CallR X (.builtin "len") (fun xs H Q=>∃x n,xs=[x]/\LenV X.K x H n/\Q (.int n) H):=by
 intro pins s σ H xs us Q I r h;obtain⟨x,n,rfl,e,q⟩:=h;obtain⟨u,rfl,rx⟩:=vals1 r;have hl:=line63;have hs:sizeLine=16777216:=sizeLine_eq;cases x with
 | str y=>
  obtain⟨t,rfl⟩:=rx;obtain⟨hy,e'⟩:y.length<=sizeLine/\n=y.length:=e;subst e';exact len_str (by omega) ⟨.int _,H,I.tok _,⟨_,rfl⟩,q⟩
 | byt y=>
  obtain⟨t,rfl⟩:=rx;obtain⟨hy,e'⟩:y.size<=sizeLine/\n=y.size:=e;subst e';exact PySem.W.len_bytes (by omega) ⟨.int _,H,I.tok _,⟨_,rfl⟩,q⟩
 | ref p=>
  cases rx;have e':(∃xs,SqL X.K H p xs/\n=xs.length)\/∃xs,SqT X.K H p xs/\n=xs.length:=e;rcases e' with⟨xs,hx,e'⟩ | ⟨xs,hx,e'⟩
  ·subst e';obtain⟨its,r',pl,hz⟩:=I.list hx;have hlen:=r'.length;exact Calls.call_len_list pl.isList (by simp only[size_toArray];omega) ⟨.int xs.length,H,I.tok _,⟨_,by simp only[size_toArray];rw[hlen]⟩,q⟩
  ·subst e';obtain⟨its,r',pl,hz⟩:=I.tuple hx;have hlen:=r'.length;exact len_tuple pl (by simp only[size_toArray];omega) ⟨.int xs.length,H,I.tok _,⟨_,by simp only[size_toArray];rw[hlen]⟩,q⟩
 | _=>exact(show False from e).elim
end
section
variable{prog:Program}{w:World}{A:Around}{E:Value->Shared->Prop}{s:Shared}{K:Frg}{x dx C f:Addr}{mA:Str->Option Value}{name:Str}{v:Value}
end
theorem RelO.some_of{v:V}{o:Option Value}(r:RelO (some v) o):∃u,o=some u/\RelV v u:=by
 cases o with
 | none=>exact(show False from r).elim
 | some u=>exact⟨u,rfl,r⟩
section
variable{P:Program}{w:World}{H H':Hp}{h h':Heap}{a C dx:Addr}{fs fs':List (Str×V)}
end
section
variable{X:Cx}{pins:List (Addr×Obj)}{σ:St}{H:Hp}{s:Shared}{a C dx:Addr}{fs:List (Str×V)}{f:Str}{v:V}{A:Around}{E:Value->Shared->Prop}
end
section
variable{X:Cx}{o e value:Expr}{f:Str}{pos pos' tpos:Pos}{ta tv:TE}
end
section
variable{X:Cx}{pins:List (Addr×Obj)}{σ:St}{H:Hp}{s:Shared}{A:Around}{E:Value->Shared->Prop}{Q:Value->Shared->Prop}{c:Value}{b:Bool}
end
structure Room(k:Nat)(A:Around):Prop where
 hd:A.handled=none
 dp:A.depth+3*k+5<recursionLimit
 un:A.units+16*k+200<cLine
theorem Room.mono{j k:Nat}{A:Around}(r:Room k A)(h:j<=k):Room j A:=⟨r.hd,by have:=r.dp;omega,by have:=r.un;omega⟩
theorem Room.deeper{k:Nat}{A:Around}(r:Room (k+1) A)(env:Env):Room k (A.deeper env):=
 ⟨r.hd,by have:=r.dp;show A.depth+1+3*k+5<_;omega,by have:=r.un;show A.units+3+16*k+200<_;omega⟩
theorem Room.depth{k:Nat}{A:Around}(r:Room k A):A.depth<recursionLimit:=by have:=r.dp;omega
theorem Room.units{k:Nat}{A:Around}(r:Room k A):A.units+64<cLine:=by have:=r.un;omega
def tNil:TA:=fun _ H Q=>Q [] H
def tCons(ta:TE)(tr:TA):TA:=fun σ H Q=>ta σ H fun x H1=>tr σ H1 fun xs H2=>Q (x::xs) H2
section
variable{X:Cx}{e:Expr}{es:List Expr}{te:TE}{t:TA}{pos:Pos}
theorem jd:PA X [] tNil:=fun _ _ _ _ H Q I h=>Calls.spliced_nil ⟨[],H,I,.nil,h⟩
theorem ja(ha:PE X e te)(hr:PA X es t)(hs:starEach (e::es) X.env=(false,eval e X.env)::starEach es X.env:=by rfl):PA X (e::es) (tCons te t):=by
 intro pos pins s σ H Q I h;rw[hs];show wpAny _ _ (spliced ((false,eval e X.env)::backTo pos (starEach es X.env))) _ _ s;refine Calls.spliced_cons (thn (ha pins s σ H _ I h) fun u s1 ⟨x,H1,I1,r1,q1⟩=>?_);exact thn (hr pos pins s1 σ H1 _ I1 q1) fun us s2 ⟨xs,H2,I2,r2,q2⟩=>⟨x::xs,H2,I2,.cons r1 r2,q2⟩
def tTup(t:TA):TE:=fun σ H Q=>t σ H fun xs H1=>xs.length<=sizeLine/\∀p,H1 p=none->Q (.ref p) (upd H1 p (.tup xs))
def tLst(t:TA):TE:=fun σ H Q=>t σ H fun xs H1=>xs.length<=sizeLine/\∀p,H1 p=none->Q (.ref p) (upd H1 p (.lst xs))
theorem Jg{x1}(h:PA X es t):PE X (.Tuple es x1 pos) (tTup t):=by
 intro pins s σ H Q I hq;refine wpAny_Tuple_spliced (thn (h pos pins s σ H _ I hq) fun us s1 ⟨xs,H1,I1,r,z,q⟩=>⟨by rw[<-r.length];exact z,?_⟩);have hf:H1 s1.heap.objs.size=none:=I1.hok.fresh (Nat.le_refl _);refine⟨.ref s1.heap.objs.size,upd H1 s1.heap.objs.size (.tup xs),I1.laid (t':=s1.toks) (fun b u e=>Heap.get?_push_of_some _ e) (Nat.le_refl _) ?_,rfl,q _ hf⟩;exact⟨z,us,r,⟨_,Heap.get?_push_size _ rfl,rfl,_,rfl⟩⟩
theorem jU(h:PA X es t):PE X (.List es pos) (tLst t):=by
 intro pins s σ H Q I hq;refine wpAny_List_spliced (thn (h pos pins s σ H _ I hq) fun us s1 ⟨xs,H1,I1,r,z,q⟩=>⟨by rw[<-r.length];exact z,?_⟩);have hf:H1 s1.heap.objs.size=none:=I1.hok.fresh (Nat.le_refl _);refine⟨.ref s1.heap.objs.size,upd H1 s1.heap.objs.size (.lst xs),I1.laid (t':=s1.toks) (fun b u e=>Heap.get?_push_of_some _ e) (Nat.le_refl _) ?_,rfl,q _ hf⟩;exact⟨z,us,0,r,Heap.get?_push_size _ rfl⟩
end
noncomputable abbrev Sp:=List V->Hp->VK->XK->Prop
noncomputable abbrev CXT:=List Env->Hp->Shared->XK->Value->Shared->Prop
structure Env0(P:Program)(w:World)(K:Frg)(mg:Str->Option Value)(base:Heap)(A:Around)(outer:List Env)(s:Shared)(H:Hp):Prop where
 frames:A.frames=some outer
 mod:Mod K mg base
 bs:∀b o,base.get? b=some o->s.heap.get? b=some o/\H b=none
 bsz:base.objs.size<=s.heap.objs.size
 funs:s.heap.FunFrames base outer
 frf:∀b∈frs outer,H b=none
 hok:HOk P w H s.heap
 bare:AllBare s.gens
def CE(outer:List Env)(P:Program)(w:World)(H:Hp)(s:Shared)(Q:VK)(u:Value)(s':Shared):Prop:=
 ∃v H',s'.os=s.os/\AllBare s'.gens/\Un (frs outer) [] H H' s.heap s'.heap/\HOk P w H' s'.heap/\RelV v u/\Q v H'
def CR(CX:CXT)(outer:List Env)(P:Program)(w:World)(H:Hp)(s:Shared)(Q:VK)(E:XK)(r:Result)(s':Shared):Prop:=
 match r with
 | .ok (.ret u)=>CE outer P w H s Q u s'
 | .ok _=>False
 | .error e=>CX outer H s E e s'
structure FnOk(P:Program)(w:World)(K:Frg)(mg:Str->Option Value)(base:Heap)(CX:CXT)(k:Nat)(f:Addr)(fd:FuncData)(ps:List Str)(sp:Sp):Prop where
 len:∀vs H Q E,sp vs H Q E->vs.length=ps.length
 run:∀(A:Around) (outer:List Env) (s:Shared) (H:Hp) (args:Args) (us:List Value) (vs:List V) (Q:VK) (E:XK),Room k A->Env0 P w K mg base A outer s H->BindsTo s fd args (ps.zip us)->Vals vs us->sp vs H Q E->
  codeAny (model P w) A (.call (.ref f) args) (CR CX outer P w H s Q E) s
theorem FnOk.mono{P:Program}{w:World}{K:Frg}{mg:Str->Option Value}{base:Heap}{CX:CXT}{j k:Nat}{f:Addr}{fd:FuncData}{ps:List Str}{sp:Sp}(F:FnOk P w K mg base CX j f fd ps sp)(h:j<=k) :
  FnOk P w K mg base CX k f fd ps sp:=⟨F.len,fun A outer s H args us vs Q E hr=>F.run A outer s H args us vs Q E (hr.mono h)⟩
section
variable{X:Cx}{pins:List (Addr×Obj)}{σ:St}{H:Hp}{s s':Shared}
theorem Inv.env0(I:Inv X pins σ H s):Env0 X.prog X.w X.K X.mg X.base X.A X.stack s H:=
 ⟨I.ok.frames,I.ok.mod,I.bs,Nat.le_trans I.ok.bsz I.sz,I.stack,I.stkFree,I.hok,I.bare⟩
theorem Inv.after{Q:VK}{u:Value}(I:Inv X pins σ H s)(h:CE X.stack X.prog X.w H s Q u s'):EP X pins σ Q u s':=by
 obtain⟨v,H',os,bare,un,hok,r,q⟩:=h;obtain⟨hh,g,d,t,os'⟩:=s';obtain rfl:os'=s.os:=os;exact⟨v,H',I.call (h':=hh) (g':=g) (d':=d) (t':=t) (ch:=[]) un hok bare (fun b z=>absurd z (by simp)),r,q⟩
end
def tCall(sp:Sp)(dvs:List V)(E:XK)(t:TA):TE:=fun σ H Q=>t σ H fun vs H1=>sp (vs++dvs) H1 Q E
def Binds(K:Frg)(fd:FuncData)(ps:List Str)(ds:List Value):Prop:=
 ∀(s:Shared) (us:List Value),K.In s.heap->(us++ds).length=ps.length->BindsTo s fd ⟨us,[]⟩ (ps.zip (us++ds))
theorem Binds.all{K:Frg}{fd:FuncData}{ps:List Str}(h:∀us:List Value,us.length=ps.length->bindArgs fd ⟨us,[]⟩=pure (ps.zip us)):Binds K fd ps []:=fun s us _ hl=>by
 rw[append_nil]at hl|-;exact .of_eq (h us hl)
def Passes(CX:CXT)(X:Cx)(E:XK):Prop:=∀(pins:List (Addr×Obj)) (σ:St) (H:Hp) (s:Shared) (e:Value) (s':Shared),Inv X pins σ H s->CX X.stack H s E e s'->X.xe e s'
section
variable{X:Cx}{CX:CXT}{k:Nat}{f C:Addr}{fd:FuncData}{ps:List Str}{sp:Sp}{dvs:List V}{ds:List Value}{E:XK}{x m:Str}{p pos apos:Pos}{e o:Expr}{es:List Expr}{ta:TE}{t:TA}
theorem j50{pins:List (Addr×Obj)}{σ:St}{H:Hp}{s:Shared}{Q:VK}{us:List Value}{vs:List V}(F:FnOk X.prog X.w X.K X.mg X.base CX k f fd ps sp)(hr:Room k X.A)(hb:Binds X.K fd ps ds)(hd:Vals dvs ds)(hx:Passes CX X E)
  (I:Inv X pins σ H s) (r:Vals vs us) (h:sp (vs++dvs) H Q E):wpAny (model X.prog X.w) X.A (call (.ref f) us) (EP X pins σ Q) X.xe s:=by
 have r2:Vals (vs++dvs) (us++ds):=r.append hd;have hl:(us++ds).length=ps.length:=by rw[<-r2.length];exact F.len _ _ _ _ h
 refine wpAny_call (codeAny_mono (F.run X.A X.stack s H ⟨us,[]⟩ (us++ds) (vs++dvs) Q E hr I.env0 (hb s us I.kIn hl) r2 h) fun r s' hq=>?_);cases r with
 | error e=>exact hx pins σ H s e s' I hq
 | ok fl=>
  cases fl with
  | ret u=>exact I.after hq
  | next=>exact False.elim hq
  | brk=>exact False.elim hq
  | cont=>exact False.elim hq
theorem jk(F:FnOk X.prog X.w X.K X.mg X.base CX k f fd ps sp)(hr:Room k X.A)(hg:Gl X x)(hm:X.mg x=some (.ref f))(hk:PySem.W.keepIn X.K (.ref f)=true)(hb:Binds X.K fd ps ds)(hd:Vals dvs ds)(hx:Passes CX X E)
  (ha:PA X (e::es) t) (hdb:(x==("__debug__" : Str))=false:=by decide) (he:starEach (e::es) X.env=(false,eval e X.env)::starEach es X.env:=by rfl) (hpl:(backTo pos (starEach es X.env)).any (·.1)=false:=by rfl) :
  PE X (.Call (.Name x p) (e::es) [] pos) (tCall sp dvs E t):=by
 intro pins s σ H Q I h;refine wpAny_Call_Name_kw (j01 I hg hm ?_ hdb);refine PySem.W.callWith_K (h₀:=X.base) I.ok.mod.kin hk (thn (ha pos pins s σ H _ I h) fun us s1 ⟨vs,H1,I1,r,q⟩=>⟨I1.kIn,?_⟩) he hpl;exact j50 F hr hb hd hx I1 r q
end
section
variable{X:Cx}{CX:CXT}{k:Nat}{f C:Addr}{fd:FuncData}{ps ks:List Str}{sp:Sp}{E:XK}{x m:Str}{p pos apos kpos:Pos}{e o:Expr}{es:List Expr}{kws:List Keyword}{te ta:TE}{t tk:TA}{nm:Option Str}
variable{g:List Value->List Value->List Value}{gV:List V->List V->List V}
end
structure FnScope(N P:List Str)(sc:Scope):Prop where
 kind:sc.kind = .function
 co:sc.isCoroutine=false
 gen:sc.isGenerator=false
 nd:N.Nodup
 pre:N.take P.length=P
 par:∀x∈P,sc.names.lookup x=some .local\/sc.names.lookup x=some .cell
 nofree:∀y∈sc.names,y.2≠.free
theorem KH{kindOf:Str->Option NameKind}{x:Str}:∀{binds:List (Str×Value)} {m:Str->Option Value},(∀v,(x,v)∉binds)->bindL kindOf binds m x=m x
 | [],_,_=>rfl
 | (n,v)::r,m,h=>by
  unfold bindL;rw[KH fun w hw=>h w (mem_cons_of_mem _ hw)];split
  ·have:x≠n:=by rintro rfl;exact h v mem_cons_self
   simp[this]
  ·rfl
theorem KF{kindOf:Str->Option NameKind}{x:Str}:∀{binds:List (Str×Value)} {m:Str->Option Value},(∀v,(x,v)∉binds)->bindC kindOf binds m x=m x
 | [],_,_=>rfl
 | (n,v)::r,m,h=>by
  unfold bindC;rw[KF fun w hw=>h w (mem_cons_of_mem _ hw)];split
  ·rfl
  ·have:x≠n:=by rintro rfl;exact h v mem_cons_self
   simp[this]
theorem KG{kindOf:Str->Option NameKind}{x:Str}{v:Value}:∀{P:List Str} {vs:List Value} {i:Nat} {m:Str->Option Value},P.Nodup->P[i]?=some x->vs[i]?=some v->kindOf x=some .local->
  bindL kindOf (P.zip vs) m x=some v
 | [],_,_,_,_,h,_,_=>by simp at h
 | _::_,[],_,_,_,_,h,_=>by simp at h
 | p::P,w::vs,0,m,nd,h1,h2,hk=>by
  simp at h1 h2;subst h1;subst h2;show bindL kindOf ((p,w)::P.zip vs) m p=_;unfold bindL;rw[KH fun v hv=>(nodup_cons.mp nd).1 (of_mem_zip hv).1,if_pos hk];simp
 | p::P,w::vs,i+1,m,nd,h1,h2,hk=>by
  show bindL kindOf ((p,w)::P.zip vs) m x=_;unfold bindL;exact KG (i:=i) (nodup_cons.mp nd).2 (by simpa using h1) (by simpa using h2) hk
theorem KE{kindOf:Str->Option NameKind}{x:Str}{v:Value}:∀{P:List Str} {vs:List Value} {i:Nat} {m:Str->Option Value},P.Nodup->P[i]?=some x->vs[i]?=some v->kindOf x≠some .local->
  bindC kindOf (P.zip vs) m x=some v
 | [],_,_,_,_,h,_,_=>by simp at h
 | _::_,[],_,_,_,_,h,_=>by simp at h
 | p::P,w::vs,0,m,nd,h1,h2,hk=>by
  simp at h1 h2;subst h1;subst h2;show bindC kindOf ((p,w)::P.zip vs) m p=_;unfold bindC;rw[KF fun v hv=>(nodup_cons.mp nd).1 (of_mem_zip hv).1,if_neg hk];simp
 | p::P,w::vs,i+1,m,nd,h1,h2,hk=>by
  show bindC kindOf ((p,w)::P.zip vs) m x=_;unfold bindC;exact KE (i:=i) (nodup_cons.mp nd).2 (by simpa using h1) (by simpa using h2) hk
noncomputable def start(N:List Str)(vs:List V):St:=vs.map some++List.replicate (N.length-vs.length) none
noncomputable def cxOf(CX:CXT)(P:Program)(w:World)(K:Frg)(mg:Str->Option Value)(base:Heap)(N:List Str)(qual:Str)(scope:Scope)(f:Addr)(cd:Value)(A:Around)(outer:List Env)(s:Shared)(H:Hp)(E:XK):Cx where
 prog:=P
 w:=w
 K:=K
 mg:=mg
 base:=base
 A:=A.deeper (envOfC qual scope s.heap.objs.size f cd)
 N:=N
 s₀:=s
 H₀:=H
 env:=envOfC qual scope s.heap.objs.size f cd
 outer:=outer
 stack:=envOfC qual scope s.heap.objs.size f cd::outer
 ex:=[]
 calm:=true
 fn:=fun _=>true
 pn:=[]
 xe:=fun e s'=>wpAny (model P w) (A.deeper (envOfC qual scope s.heap.objs.size f cd)) (leaving (envOfC qual scope s.heap.objs.size f cd) e) (fun _ s''=>CX outer H s E e s'') (fun e' s''=>CX outer H s E e' s'') s'
theorem WC{sc:Scope}{n:Nat}{x:Str}(h:sc.names.lookup x=some .cell):∃c,(cellsFrom n sc.names []).lookup x=some c:=by
 have q:=PySem.W.cellsFrom_some sc.names n [] (.inl h);exact Option.isSome_iff_exists.mp q
theorem j0R{CX:CXT}{P:Program}{w:World}{K:Frg}{mg:Str->Option Value}{base:Heap}{N ps:List Str}{qual:Str}{scope:Scope}{f:Addr}{cd:Value}{A:Around}{outer:List Env}{s s1:Shared}{H:Hp}{E:XK}{us:List Value}{vs:List V}
  (S:FnScope N ps scope) (hd:A.handled=none) (e0:Env0 P w K mg base A outer s H) (hl:vs.length=ps.length) (r:Vals vs us)
  (x:InCallC s s.heap.objs.size (bindL (envOfC qual scope s.heap.objs.size f cd).kindOf (ps.zip us) fun _=>none) (cellsFrom (s.heap.objs.size+1) scope.names []) (bindC (envOfC qual scope s.heap.objs.size f cd).kindOf (ps.zip us) fun _=>none) s1) :
  Inv (cxOf CX P w K mg base N qual scope f cd A outer s H E) [] (start N vs) H s1:=by
 have hpl:ps.length<=N.length:=by have:=congrArg List.length S.pre;rw[length_take]at this;omega
 obtain⟨h1,tk,rfl,hk⟩:=x.done;have noA:∀b:Addr,b∉(cxOf CX P w K mg base N qual scope f cd A outer s H E).ex:=fun b z=>absurd (show b∈([]:List Addr)from z) (by simp)
 refine⟨⟨e0.mod,S.kind,rfl,rfl,Nat.le_refl _,fun y z c h1 h2=>?_,fun y hy=>?_,fun y c _ h=>?_,fun _=>hd,Around.frames_deeper e0.frames,.inr ⟨rfl,rfl⟩,fun b z=>absurd z (noA b),e0.bs,e0.bsz,fun b _ _=>noA b,fun b z=>absurd z (noA b),e0.funs,e0.frf⟩,
  rfl,e0.bare,Un.kept hk,⟨_,x.toInCall.ns,fun i y v h1 h2 h3=>?_⟩,fun y c h=>⟨_,x.cell y c h⟩,e0.hok.fresh (Nat.le_refl _),fun y c h=>?_,fun p hp=>absurd (show p∈([]:List (Addr×Obj))from hp) (by simp),e0.hok.kept hk,?_⟩
 ·exact name_of_addr x.apart (PySem.mem_of_lookup h1) (PySem.mem_of_lookup h2)
 ·have hy:scope.names.lookup y=some .cell\/scope.names.lookup y=some .free:=hy;rcases hy with hy | hy
  ·exact WC hy
  ·exact absurd rfl (S.nofree _ (PySem.mem_of_lookup hy))
 ·exact Nat.le_of_lt (x.above y c (PySem.mem_of_lookup h))
 ·have hi:i<vs.length:=by
   unfold start at h2;by_cases hi:i<vs.length
   ·exact hi
   ·rw[List.getElem?_append_right (by simpa using hi)]at h2;rw[List.getElem?_replicate]at h2;split at h2<;>cases h2
  have ha:vs[i]?=some v:=by
   unfold start at h2;rw[List.getElem?_append_left (by simpa using hi),List.getElem?_map]at h2;cases e:vs[i]? with
   | none=>rw[e]at h2;cases h2
   | some a=>rw[e]at h2;cases h2;rfl
  obtain⟨u,hu,rv⟩:=r.get ha;have hp:ps[i]?=some y:=by
   rw[<-S.pre,List.getElem?_take_of_lt (by omega)];exact h1
  have ndP:ps.Nodup:=by rw[<-S.pre];exact S.nd.sublist (List.take_sublist _ _)
  refine⟨u,rv,?_⟩;rcases S.par y (List.mem_of_getElem? hp)with k | k
  ·exact .inl ⟨k,KG ndP hp hu k⟩
  ·obtain⟨c,e⟩:=WC (n:=s.heap.objs.size+1) k;refine .inr ⟨.inl k,c,e,?_⟩;have q:=x.cell y c e;rw[KE ndP hp hu (by show scope.names.lookup y≠_;rw[k];decide)]at q;exact q
 ·exact e0.hok.fresh (Nat.le_of_lt (x.above y c (PySem.mem_of_lookup h)))
 ·unfold start;show _=N.length;rw[List.length_append,length_map,length_replicate];omega
theorem j45{CX:CXT}{P:Program}{w:World}{K:Frg}{mg:Str->Option Value}{base:Heap}{k:Nat}{f:Addr}{name qual:Str}{params:Arguments}{body:List Stmt}{scope:Scope}{dV kV doc pm cdv ct oc:Value}{an od:Option Addr}
  {osl:Array (Option Value)} {N ps:List Str} {sp:Sp} (lk:K.lookup f=some ⟨oc,od,.func (PySem.W.fnOf name qual params body scope dV kV doc pm an cdv ct),osl⟩) (hcd:PySem.W.codeIn K cdv qual=true) (S:FnScope N ps scope)
  (len:∀vs H Q E,sp vs H Q E->vs.length=ps.length)
  (hbody:∀(A:Around) (outer:List Env) (s:Shared) (H:Hp) (vs:List V) (Q:VK) (E:XK),Room k (A.deeper (envOfC qual scope s.heap.objs.size f cdv))->sp vs H Q E->
   ∃t,PSs (cxOf CX P w K mg base N qual scope f cdv A outer s H E) body t/\t {nx:=fun _ H'=>Q .non H',rt:=Q} (start N vs) H) :
  FnOk P w K mg base CX (k+1) f (PySem.W.fnOf name qual params body scope dV kV doc pm an cdv ct) ps sp:=by
 refine⟨len,fun A outer s H args us vs Q E hr e0 hb r hsp=>?_⟩;have hl:=len _ _ _ _ hsp;have KX:K.In s.heap:=e0.mod.kin.keeps fun b o e=>(e0.bs b o e).1
 have lim:s.heap.NoLimit:=e0.mod.nolimit.keeps fun b o e=>(e0.bs b o e).1
 have hkind:∀y∈ps.zip us,scope.names.lookup y.1=some .local\/(scope.names.lookup y.1=some .cell/\((cellsFrom (s.heap.objs.size+1) scope.names []).lookup y.1).isSome=true):=fun⟨n,v⟩ hy=>by
  rcases S.par n (of_mem_zip hy).1 with q | q
  ·exact .inl q
  ·exact .inr ⟨q,PySem.W.cellsFrom_some _ _ _ (.inl q)⟩
 refine codeAny_call_function hr.depth (KX _ _ lk) rfl S.co S.gen rfl (PySem.W.codeRec_of KX hcd) (hb _ _ _ _ ?_);refine wpAny_newFunctionEnv_cells S.kind hkind fun env he s1 x=>?_
 subst he;refine⟨lim.keeps x.toInCall.keep,codeAny_func ?_⟩;obtain⟨t,ht,hq⟩:=hbody A outer s H vs Q E (hr.deeper _) hsp;have I:Inv (cxOf CX P w K mg base N qual scope f cdv A outer s H E) [] (start N vs) H s1:=j0R S hr.hd e0 hl r x;refine wpAny_mono (ht [] s1 (start N vs) H _ I hq) (fun fl s' hs=>?_) fun e s' hs=>hs
 have fin:∀{σ':St} {H':Hp} {v:V} {u:Value},Inv (cxOf CX P w K mg base N qual scope f cdv A outer s H E) [] σ' H' s'->RelV v u->Q v H'->CE outer P w H s Q u s':=
  fun {σ' H' v u} J rv q=>⟨v,H',J.os,J.bare,J.base,J.hok,rv,q⟩
 cases fl with
 | ret u=>
  obtain⟨v,σ',H',J,rv,q⟩:=hs;exact fin J rv q
 | next=>
  obtain⟨σ',H',J,q⟩:=hs;exact fin (v:=V.non) (u:=Value.none) J rfl q
 | brk=>
  obtain⟨_,_,_,q⟩:=hs;exact False.elim q
 | cont=>
  obtain⟨_,_,_,q⟩:=hs;exact False.elim q
section
variable{X:Cx}{x:Str}{p pos:Pos}{e:Expr}{es:List Expr}{t:TA}{id T:String}{r:List V->Hp->VK->Prop}
def tCB(r:List V->Hp->VK->Prop)(t:TA):TE:=fun σ H Q=>t σ H fun vs H1=>r vs H1 Q
theorem jt(hc:CallR X (.builtin id) r)(hg:Gl X x)(hm:X.mg x=none)(hv:bootBuiltins x=some (.builtin id))(ha:PA X (e::es) t)(hn:x≠"__name__":=by decide)(hdb:(x==("__debug__" : Str))=false:=by decide)
  (he:starEach (e::es) X.env=(false,eval e X.env)::starEach es X.env:=by rfl) (hpl:(backTo pos (starEach es X.env)).any (·.1)=false:=by rfl):PE X (.Call (.Name x p) (e::es) [] pos) (tCB r t):=by
 intro pins s σ H Q I h;refine wpAny_Call_Name_kw (qp I hg hm hv ?_ hn hdb);exact PyProof.Rows.callWith_builtin1 (thn (ha pos pins s σ H _ I h) fun us s1 ⟨vs,H1,I1,r1,q1⟩=>hc pins s1 σ H1 vs us Q I1 r1 q1) he hpl
theorem j7(hc:CallR X (.type T) r)(hg:Gl X x)(hm:X.mg x=none)(hv:bootBuiltins x=some (.type T))(ha:PA X (e::es) t)(hn:x≠"__name__":=by decide)(hdb:(x==("__debug__" : Str))=false:=by decide)
  (he:starEach (e::es) X.env=(false,eval e X.env)::starEach es X.env:=by rfl) (hpl:(backTo pos (starEach es X.env)).any (·.1)=false:=by rfl):PE X (.Call (.Name x p) (e::es) [] pos) (tCB r t):=by
 intro pins s σ H Q I h;refine wpAny_Call_Name_kw (qp I hg hm hv ?_ hn hdb);exact PyProof.Rows.callWith_type1 (thn (ha pos pins s σ H _ I h) fun us s1 ⟨vs,H1,I1,r1,q1⟩=>hc pins s1 σ H1 vs us Q I1 r1 q1) he hpl
end
end L2
namespace HT
open PySem PyProof.Rows
section
open PySem.SeqAt
open PySem.AutoSeq1 (wpAny_loadPart')
open PySem.MeetsSeq PySem.MeetsSeq2 PySem.MeetsSeq3
end
section
variable{prog:Program}{w:World}{A:Around}{E:Value->Shared->Prop}{s:Shared}
theorem j35{t b:Addr}{vs ws:List Value}{Q:Value->Shared->Prop}(ht:IsTup s.heap t vs.toArray)(hb:IsTup s.heap b ws.toArray)(hv:vs≠[])
  (h1:ws=[]->Q (.ref t) s) (h2:ws≠[]->Q (.ref s.heap.objs.size) {s with heap:=s.heap.push {cls:=.type "tuple",data:=.seq (vs++ws).toArray}})
  (hsz:vs.length+ws.length<=sizeLine):wpAny (model prog w) A (binaryOp .Add (.ref t) (.ref b)) Q E s:=by
 obtain⟨⟨cls,dd,data,sl⟩,ho,hc,n,hd⟩:=id ht;obtain⟨⟨cls2,dd2,data2,sl2⟩,ho2,hc2,n2,hd2⟩:=id hb;simp only at hc hd hc2 hd2;subst hc hd hc2 hd2;have e:vs.toArray++ws.toArray=(vs++ws).toArray:=by simp
 by_cases hw:ws=[]
 ·exact concat_meets ⟨_,ho,rfl⟩ ⟨_,ho2,rfl⟩ noFill_tuple_add seq_tuple_add PySem.F.slot_tuple_add PySem.F.entry_tuple_add (PySem.F.args_tuple_add_2 _ _)
   (tuple_addW1 t b vs.toArray ws.toArray n n2 dd dd2 sl sl2 (by simpa using hv) (by simp[hw])) ⟨ho,ho2,h1 hw⟩
 ·refine concat_meets ⟨_,ho,rfl⟩ ⟨_,ho2,rfl⟩ noFill_tuple_add seq_tuple_add PySem.F.slot_tuple_add PySem.F.entry_tuple_add (PySem.F.args_tuple_add_2 _ _)
   (tuple_addW2 t b vs.toArray ws.toArray n n2 dd dd2 sl sl2 (by simpa using hv) (by simpa using hw) (by rw[size_toArray,size_toArray];exact hsz)) ⟨ho,ho2,?_⟩
  rw[e];exact h2 hw
noncomputable def sIx(n d:Nat):Option Int->Nat
 | none=>d
 | some v=>if v<0 then(v+(n:Int)).toNat else min v.toNat n
theorem QA(n d k:Nat):sIx n d (some (k:Int))=min k n:=by
 show(if(k:Int)<0 then((k:Int)+(n:Int)).toNat else min (k:Int).toNat n)=min k n;rw[if_neg (by omega),Int.toNat_natCast]
theorem j51(n d:Nat)(hd:d<=n)(o:Option Int):sIx n d o<=n:=by
 cases o with
 | none=>exact hd
 | some v=>
  show(if v<0 then(v+(n:Int)).toNat else min v.toNat n)<=n;by_cases hv:v<0
  ·rw[if_pos hv];omega
  ·rw[if_neg hv];exact Nat.min_le_right _ _
theorem XN(v:Int)(n d:Nat):(if v<0 then max (v+(n:Int)) 0 else min v (n:Int))=((sIx n d (some v):Nat):Int):=by
 show(if v<0 then max (v+(n:Int)) 0 else min v (n:Int))=(((if v<0 then(v+(n:Int)).toNat else min v.toNat n):Nat):Int)
 by_cases hv:v<0
 ·simp only[if_pos hv];omega
 ·simp only[if_neg hv];omega
theorem xz(lo hi:Option Int)(n:Nat):Builtin.Slice.sliceAdjust lo hi 1 (n:Int)=(((sIx n 0 lo:Nat):Int),((sIx n n hi:Nat):Int)):=by
 have h1:¬((1:Int)<0):=by omega
 unfold Builtin.Slice.sliceAdjust;simp only[h1,if_false];refine Prod.ext ?_ ?_
 ·cases lo with
  | none=>rfl
  | some v=>exact XN v n 0
 ·cases hi with
  | none=>rfl
  | some v=>exact XN v n n
theorem Xo(i j:Nat):Builtin.Slice.slicePlaces (i:Int) (j:Int) 1=j-i:=by
 unfold Builtin.Slice.slicePlaces;have h1:(1:Int)>0:=by omega
 simp only[h1,if_true,Int.ediv_one];split<;>omega
theorem slicePart_{v:Value}{o:Option Int}{Q:Option Int->Shared->Prop}(p:IsPart v o)(h:Q o s):wpAny (model prog w) A (Builtin.Slice.slicePartIndex v) Q E s:=by
 cases p with
 | none=>exact slicePart_none h
 | int i t=>exact slicePart_int h
theorem Yo{sl:Addr}{vl vu:Value}{lo hi:Option Int}{n:Nat}{Q:Int×Int×Nat->Shared->Prop}(hs:s.heap.IsSliceOf sl vl vu .none)(pl:IsPart vl lo)(pu:IsPart vu hi)
  (h:Q (((sIx n 0 lo:Nat):Int),1,sIx n n hi-sIx n 0 lo) s):wpAny (model prog w) A (Builtin.Slice.sliceApplied (.ref sl) (pure (n:Int))) Q E s:=by
 obtain⟨os,hos,hcs,hds⟩:=id hs;unfold Builtin.Slice.sliceApplied Builtin.Slice.sliceFields;refine wpAny_bind (wpAny_bind (wpAny_field hos hds (x:=vl) rfl (wpAny_bind (wpAny_field hos hds (x:=vu) rfl (wpAny_bind (wpAny_field hos hds (x:=.none) rfl (wpAny_pure ?_)))))));refine wpAny_bind (slicePart_none ?_);show wpAny _ _ (if((1:Int)==0)=true then _ else _) _ _ s;rw[if_neg (by decide)];refine wpAny_bind (slicePart_ pl (wpAny_bind (slicePart_ pu (wpAny_bind (wpAny_pure ?_)))));show wpAny _ _ (match Builtin.Slice.sliceAdjust lo hi 1 (n:Int)with | (lo,hi)=>pure (lo,(1:Int),Builtin.Slice.slicePlaces lo hi 1)) _ _ s;rw[xz lo hi n];show wpAny _ _ (pure (((sIx n 0 lo:Nat):Int),(1:Int),Builtin.Slice.slicePlaces ((sIx n 0 lo:Nat):Int) ((sIx n n hi:Nat):Int) 1)) _ _ s;rw[Xo];exact wpAny_pure h
theorem j2w(xs:Array Value)(i k:Nat):((List.range k).filterMap fun(m:Nat)=>xs[((i:Int)+(m:Int)*1).toNat]?).toArray=((xs.toList.drop i).take k).toArray:=by
 have e:(fun(m:Nat)=>xs[((i:Int)+(m:Int)*1).toNat]?)=fun m=>xs[i+m]?:=by
  funext m;have:((i:Int)+(m:Int)*1).toNat=i+m:=by omega
  rw[this]
 rw[e];have:=pick_run xs i k;rw[List.filterMap_map]at this;have e2:((fun x=>xs[x]?)∘fun x=>i+x)=fun m=>xs[i+m]?:=rfl
 rw[e2]at this;rw[this]
theorem yE{t sl:Addr}{items:Array Value}{vl vu:Value}{lo hi:Option Int}{Q:Value->Shared->Prop}(ht:IsTup s.heap t items)(hs:s.heap.IsSliceOf sl vl vu .none)(pl:IsPart vl lo)(pu:IsPart vu hi)
  (hw:¬(sIx items.size 0 lo=0/\sIx items.size items.size hi=items.size))
  (h:Q (.ref s.heap.objs.size) {s with heap:=s.heap.push {cls:=.type "tuple",data:=.seq ((items.toList.drop (sIx items.size 0 lo)).take (sIx items.size items.size hi-sIx items.size 0 lo)).toArray}})
  (hsz:items.size<=sizeLine):wpAny (model prog w) A (getItem (.ref t) (.ref sl)) Q E s:=by
 have htake:sizeOk (.seq ((items.toList.drop (sIx items.size 0 lo)).take (sIx items.size items.size hi-sIx items.size 0 lo)).toArray):=by
  show((items.toList.drop (sIx items.size 0 lo)).take (sIx items.size items.size hi-sIx items.size 0 lo)).toArray.size<=sizeLine;rw[size_toArray,length_take,length_drop,Array.length_toList];omega
 have hj:sIx items.size items.size hi<=items.size:=j51 _ _ (Nat.le_refl _) hi;obtain⟨os,hos,hcs,hds⟩:=id hs;have hTs:s.TypeIs (.ref sl) "slice":=⟨os,hos,hcs⟩
 unfold getItem
 try with_reducible refine wpAny_holding ?_
 first | refine wpAny_bind (wpAny_pure ?_) | skip
 refine wpAny_bind (wpAny_sequenceKey ht.typeIs (by decide) ?_);refine wpAny_bind (wpAny_callSpecial?_slot (name:=Str.ofString "__getitem__") ht.typeIs PyProof.Rows.slot_tuple_getitem
  (wpAny_call_entry PyProof.Rows.slot_tuple_getitem ht.typeIs entry_tuple_getitem ?_ (args_tuple_getitem _ _)))
 show wpAny _ _ (Builtin.Tuple.tupleItemsOf (.ref t) >>= _) _ _ s;refine wpAny_bind (tupleItemsOf_ ht ?_);refine wpAny_bind (wpAny_typeOf hTs ?_);rw[if_pos (by decide)];refine wpAny_bind (Yo hs pl pu ?_);have hno:¬((((sIx items.size 0 lo:Nat):Int)==0&&(1:Int)==1&&(sIx items.size items.size hi-sIx items.size 0 lo)==items.size)=true):=by
  intro q;rw[Bool.and_eq_true,Bool.and_eq_true]at q;have q1:((sIx items.size 0 lo:Nat):Int)=0:=eq_of_beq q.1.1;have q2:sIx items.size items.size hi-sIx items.size 0 lo=items.size:=eq_of_beq q.2;exact hw ⟨by omega,by omega⟩
 show wpAny _ _ (if(((sIx items.size 0 lo:Nat):Int)==0&&(1:Int)==1&&(sIx items.size items.size hi-sIx items.size 0 lo)==items.size)=true then _ else _) _ _ s;rw[if_neg hno,j2w]
 first
  | exact wpAny_bind (m:=Builtin.Tuple.tupleExact _) (wpAny_newObj_type (wpAny_pure ⟨_,rfl,wpAny_pure h⟩) htake)
  | exact wpAny_bind (m:=Builtin.Tuple.tupleExact _) (wpAny_newObj_type (wpAny_bind (wpAny_pure (wpAny_pure ⟨_,rfl,wpAny_pure h⟩))) htake)
  | exact wpAny_bind (wpAny_bind (m:=Builtin.Tuple.tupleExact _) (wpAny_newObj_type (wpAny_pure (wpAny_pure ⟨_,rfl,wpAny_pure h⟩)) htake))
  | exact wpAny_bind (wpAny_bind (m:=Builtin.Tuple.tupleExact _) (wpAny_newObj_type (wpAny_pure ⟨_,rfl,wpAny_pure h⟩) htake))
end
end HT
namespace L2
open PySem PySem.Spec PyProof.Rows
noncomputable abbrev TO:=St->Hp->(Option Int->Hp->Prop)->Prop
def PO(X:Cx)(e:Option Expr)(t:TO):Prop:=
 ∀(pins:List (Addr×Obj)) (s:Shared) (σ:St) (H:Hp) (Q:Option Int->Hp->Prop),Inv X pins σ H s->t σ H Q->
  wpAny (model X.prog X.w) X.A (evalPart e X.env) (fun u s'=>∃o H',Inv X pins σ H' s'/\IsPart u o/\Q o H') X.xe s
def tNoPart:TO:=fun _ H Q=>Q none H
def tPart(t:TE):TO:=fun σ H Q=>t σ H fun x H1=>∃i,x = .int i/\Q (some i) H1
theorem intsAre_of{ns:List Int}:∀{us:List Value},Vals (ns.map V.int) us->IntsAre us ns:=by
 induction ns with
 | nil=>intro us r;rw[map_nil]at r;cases r;exact .nil
 | cons n ns ih=>
  intro us r;rw[map_cons]at r;cases r with
  | cons r1 r2=>
   obtain⟨t,e⟩:=r1;subst e;exact .cons n t (ih r2)
section
variable{X:Cx}{e:Expr}{te:TE}{lo hi:Option Expr}{tl th:TO}{pos p2:Pos}
theorem qi:PO X none tNoPart:=by
 intro pins s σ H Q I h;rw[evalPart_none];exact wpAny_pure ⟨none,H,I,.none,h⟩
theorem j5(h:PE X e te):PO X (some e) (tPart te):=by
 intro pins s σ H Q I hw;rw[evalPart_some];refine thn (h pins s σ H _ I hw) fun u s1 ⟨x,H1,I1,r1,q1⟩=>?_
 obtain⟨i,rfl,q⟩:=q1;obtain⟨t,rfl⟩:=r1;exact⟨some i,H1,I1,.int i t,q⟩
def SlR(X:Cx)(r:V->Option Int->Option Int->Hp->VK->Prop):Prop:=
 ∀(pins:List (Addr×Obj)) (s:Shared) (σ:St) (H:Hp) (x:V) (v vl vu:Value) (lo hi:Option Int) (sl:Addr) (Q:VK),Inv X pins σ H s->RelV x v->s.heap.IsSliceOf sl vl vu .none->IsPart vl lo->IsPart vu hi->r x lo hi H Q->
  ∃T id,typeLookup (.type T) "__getitem__"= pure (some (.builtin id))/\s.TypeIs v T/\wpAny (model X.prog X.w) X.A (getItem v (.ref sl)) (EP X pins σ Q) X.xe s
def tSl(r:V->Option Int->Option Int->Hp->VK->Prop)(te:TE)(tl th:TO):TE:=fun σ H Q=>te σ H fun x H1=>tl σ H1 fun l H2=>th σ H2 fun u H3=>r x l u H3 Q
theorem Jm{r:V->Option Int->Option Int->Hp->VK->Prop}(hr:SlR X r)(he:PE X e te)(hl:PO X lo tl)(hu:PO X hi th):PE X (.Subscript e (.Slice lo hi none p2) pos) (tSl r te tl th):=by
 intro pins s σ H Q I h;refine Subscript_ (thn (he pins s σ H _ I h) fun v s1 ⟨x,H1,I1,r1,q1⟩=>?_);refine wpAny_Slice (thn (hl pins s1 σ H1 _ I1 q1) fun vl s2 ⟨l,H2,I2,pl,q2⟩=>thn (hu pins s2 σ H2 _ I2 q2) fun vu s3 ⟨u,H3,I3,pu,q3⟩=>?_);rw[evalPart_none];refine wpAny_pure ?_;have I4:Inv X pins σ H3 {s3 with heap:=s3.heap.push {cls:=.type "slice",data:=.fields #[vl,vu,.none]}}:=I3.kept (t':=s3.toks) fun b ob q=>Heap.get?_push_of_some _ q
 obtain⟨T,id,hT,ht,hg⟩:=hr pins {s3 with heap:=s3.heap.push {cls:=.type "slice",data:=.fields #[vl,vu,.none]}} σ H3 x v vl vu l u s3.heap.objs.size Q I4 r1 (Heap.IsSliceOf.new ..) pl pu q3;show wpAny (model X.prog X.w) X.A (subscriptTail e (.Slice lo hi none p2) v (.ref s3.heap.objs.size)) (EP X pins σ Q) X.xe {s3 with heap:=s3.heap.push {cls:=.type "slice",data:=.fields #[vl,vu,.none]}};exact tail_any (ops:=[.ref s3.heap.objs.size,v]) ht hT hg (by with_unfolding_all rfl)
noncomputable def cutV(xs:List V)(lo hi:Option Int):List V:=(xs.drop (HT.sIx xs.length 0 lo)).take (HT.sIx xs.length xs.length hi-HT.sIx xs.length 0 lo)
theorem Yx(xs:List V)(lo hi:Option Int):(cutV xs lo hi).length<=xs.length:=by
 unfold cutV;rw[length_take,length_drop];omega
noncomputable def rSlT(K:Frg):V->Option Int->Option Int->Hp->VK->Prop:=fun x lo hi H Q=>∃a xs,x = .ref a/\SqT K H a xs/\
 ¬(HT.sIx xs.length 0 lo=0/\HT.sIx xs.length xs.length hi=xs.length)/\∀p,H p=none->Q (.ref p) (upd H p (.tup (cutV xs lo hi)))
theorem j2M:SlR X (rSlT X.K):=by
 intro pins s σ H x v vl vu lo hi sl Q I rx hs pl pu h;obtain⟨a,xs,rfl,hx,hw,q⟩:=h;cases rx;obtain⟨its,r,ht,hz⟩:=I.tuple hx;have hlen:its.toArray.size=xs.length:=by rw[size_toArray];exact r.length.symm
 refine⟨"tuple",_,PyProof.Rows.slot_tuple_getitem.lookup,ht.typeIs,?_⟩;refine HT.yE ht hs pl pu (by rw[hlen];exact hw) ?_ (by rw[hlen];exact hz);rw[hlen];refine⟨.ref s.heap.objs.size,_,I.laid (t':=s.toks) (o:=.tup (cutV xs lo hi)) (fun b ob q=>Heap.get?_push_of_some _ q) (Nat.le_refl _) ?_,rfl,q _ (I.hok.fresh (Nat.le_refl _))⟩;exact⟨Nat.le_trans (Yx xs lo hi) hz,_,(r.drop (HT.sIx xs.length 0 lo)).take (HT.sIx xs.length xs.length hi-HT.sIx xs.length 0 lo),IsTup.new _ _⟩
def rCatT(K:Frg):R2:=fun x y H Q=>∃a b xs ys,x = .ref a/\y = .ref b/\SqT K H a xs/\SqT K H b ys/\xs≠[]/\xs.length+ys.length<=sizeLine/\
 (ys=[]->Q (.ref a) H)/\(ys≠[]->∀p,H p=none->Q (.ref p) (upd H p (.tup (xs++ys))))
theorem Vals.nil_iff{xs:List V}{us:List Value}(r:Vals xs us):us=[]↔xs=[]:=by
 cases r with
 | nil=>simp
 | cons _ _=>simp
theorem j0d:OpR X (binaryOp .Add) (rCatT X.K):=by
 intro pins s σ H x y v u Q I rx ry h;obtain⟨a,b,xs,ys,rfl,rfl,ha,hb,hx,hz,q1,q2⟩:=h;cases rx;cases ry;obtain⟨its,r1,p1,_⟩:=I.tuple ha;obtain⟨its2,r2,p2,_⟩:=I.tuple hb;refine HT.j35 p1 p2 (fun z=>hx (r1.nil_iff.mp z)) (fun z=>⟨.ref a,H,I,rfl,q1 (r2.nil_iff.mp z)⟩) (fun z=>?_) (by rw[<-r1.length,<-r2.length];exact hz);refine⟨.ref s.heap.objs.size,_,I.laid (t':=s.toks) (o:=.tup (xs++ys)) (fun b ob q=>Heap.get?_push_of_some _ q) (Nat.le_refl _) ?_,rfl,q2 (fun w=>z (r2.nil_iff.mpr w)) _ (I.hok.fresh (Nat.le_refl _))⟩;exact⟨by rw[List.length_append];exact hz,_,r1.append r2,IsTup.new _ _⟩
end
noncomputable def ixN(n:Nat)(i:Int):Option Nat:=if 0<=i then(if i<n then some i.toNat else none)else if -(n:Int)<=i then some (i+n).toNat else none
noncomputable def atI{α:Type}(xs:List α)(i:Int):Option α:=(ixN xs.length i).bind fun j=>xs[j]?
theorem j3m{n:Nat}{i:Int}{j:Nat}(h:ixN n i=some j):seqIndex? i n=some j/\j<n/\-(n:Int)<=i/\i<n:=by
 unfold ixN at h;by_cases h0:0<=i
 ·rw[if_pos h0]at h;by_cases h1:i<n
  ·rw[if_pos h1]at h;have e:i.toNat=j:=Option.some.inj h;exact⟨by rw[seqIndex_of h0 h1,e],by omega,by omega,h1⟩
  ·rw[if_neg h1]at h;cases h
 ·rw[if_neg h0]at h;by_cases h1 : -(n:Int)<=i
  ·rw[if_pos h1]at h;have e:(i+n).toNat=j:=Option.some.inj h;exact⟨by rw[seqIndex_neg (by omega) h1,e],by omega,h1,by omega⟩
  ·rw[if_neg h1]at h;cases h
theorem wt{α:Type}{xs:List α}{i:Int}{v:α}(h:atI xs i=some v):∃j,seqIndex? i xs.length=some j/\xs[j]?=some v/\j<xs.length/\-(xs.length:Int)<=i/\i<xs.length:=by
 unfold atI at h;cases e:ixN xs.length i with
 | none=>rw[e]at h;cases h
 | some j=>
  rw[e]at h;obtain⟨h1,h2,h3,h4⟩:=j3m e;exact⟨j,h1,h,h2,h3,h4⟩
theorem Jn{α:Type}{xs:List α}{j:Nat}{v:α}(h:xs[j]?=some v):atI xs (j:Int)=some v:=by
 have hj:j<xs.length:=(List.getElem?_eq_some_iff.mp h).1;have e:ixN xs.length (j:Int)=some j:=by
  unfold ixN;rw[if_pos (by omega),if_pos (by omega)];simp
 unfold atI;rw[e];exact h
theorem j1y{α:Type}(xs:List α)(v:α):atI (xs++[v]) (-1)=some v:=by
 have hl:(xs++[v]).length=xs.length+1:=by simp
 have e:ixN (xs++[v]).length (-1)=some xs.length:=by
  unfold ixN;rw[hl,if_neg (by decide),if_pos (by omega)];congr 1;omega
 unfold atI;rw[e];show(xs++[v])[xs.length]?=some v;simp
def PlainIx(b:Expr):Prop:=∀o i,subscripted b false o i=operate [o,i] (getItem o i)
def IxR(X:Cx)(r:R2):Prop:=
 ∀(value slice:Expr) (pins:List (Addr×Obj)) (s:Shared) (σ:St) (H:Hp) (x y:V) (v u:Value) (Q:VK),Inv X pins σ H s->RelV x v->RelV y u->r x y H Q->
  subscripted slice false v u=operate [v,u] (getItem v u)->wpAny (model X.prog X.w) X.A (subscriptTail value slice v u) (EP X pins σ Q) X.xe s
def MtR(X:Cx)(id:String)(r:V->List V->Hp->VK->Prop):Prop:=
 ∀(pins:List (Addr×Obj)) (s:Shared) (σ:St) (H:Hp) (x:V) (xs:List V) (v:Value) (us:List Value) (Q:VK),Inv X pins σ H s->RelV x v->Vals xs us->r x xs H Q->
  wpAny (model X.prog X.w) X.A (call (.builtin id) (v::us)) (EP X pins σ Q) X.xe s
section
variable{X:Cx}{a b:Expr}{ta tb:TE}{pos:Pos}
theorem jm{r:R2}(hr:IxR X r)(ha:PE X a ta)(hb:PE X b tb)(hs:PlainIx b:=by exact fun _ _=>rfl):PE X (.Subscript a b pos) (tOp r ta tb):=by
 intro pins s σ H Q I h;exact Subscript_ (binT ha hb I h fun v u s2 x y H2 I2 rx ry q=>hr a b pins s2 σ H2 x y v u Q I2 rx ry q (hs _ _))
def rIxL(K:Frg):R2:=fun x y H Q=>∃p xs i v,x = .ref p/\y = .int i/\SqL K H p xs/\atI xs i=some v/\Q v H
def rIxT(K:Frg):R2:=fun x y H Q=>∃p xs i v,x = .ref p/\y = .int i/\SqT K H p xs/\atI xs i=some v/\Q v H
def rIxS:R2:=fun x y H Q=>∃z i c,x = .str z/\y = .int i/\z.length<=sizeLine/\atI z.cps.toList i=some c/\Q (.str ⟨#[c]⟩) H
theorem ju:IxR X (rIxL X.K):=by
 intro value slice pins s σ H x y v u Q I rx ry h hs;obtain⟨p,xs,i,z,rfl,rfl,hq,he,q⟩:=h;cases rx;obtain⟨t,rfl⟩:=ry;obtain⟨its,r,pl,hz⟩:=I.list hq;obtain⟨j,h1,h2,h3,h4,h5⟩:=wt he;obtain⟨w,ew,rw'⟩:=r.get h2;have hl:=r.length;have hn:=line63;have fin:EP X pins σ Q w s:=⟨z,H,I,rw',q⟩
 by_cases h0:0<=i
 ·have hj:i.toNat=j:=by
   rw[seqIndex_of h0 h5]at h1;exact Option.some.inj h1
  exact item_listR pl.isList h0 (by omega) (by rw[hj];simpa using ew) fin hs
 ·have hj:(i+(its.toArray.size:Int)).toNat=j:=by
   rw[seqIndex_neg (by omega) h4]at h1;rw[size_toArray,<-hl];exact Option.some.inj h1
  exact subscriptTail_builtinR (x:=w) pl.isList.typeIs slot_list_getitem.lookup
   (wpAny_getItem_list_neg (Q:=fun r s'=>r=w/\EP X pins σ Q r s') pl.isList (by omega) (by rw[size_toArray]<;>omega) (by omega) (by rw[hj];simpa using ew) ⟨rfl,fin⟩) hs
theorem jA:IxR X (rIxT X.K):=by
 intro value slice pins s σ H x y v u Q I rx ry h hs;obtain⟨p,xs,i,z,rfl,rfl,hq,he,q⟩:=h;cases rx;obtain⟨t,rfl⟩:=ry;obtain⟨its,r,pl,hz⟩:=I.tuple hq;obtain⟨j,h1,h2,h3,h4,h5⟩:=wt he;obtain⟨w,ew,rw'⟩:=r.get h2;have hl:=r.length;have hn:=line63;have fin:EP X pins σ Q w s:=⟨z,H,I,rw',q⟩
 exact subscriptTail_builtinR (x:=w) pl.typeIs slot_tuple_getitem.lookup
  (getItem_tuple (j:=j) (Q:=fun r s'=>r=w/\EP X pins σ Q r s') pl (by omega) (by omega) (by rw[size_toArray,<-hl];exact h1) (by simpa using ew) ⟨rfl,fin⟩) hs
theorem Yb:IxR X rIxS:=by
 intro value slice pins s σ H x y v u Q I rx ry h hs;obtain⟨z,i,c,rfl,rfl,hz,he,q⟩:=h;obtain⟨t,rfl⟩:=rx;obtain⟨t',rfl⟩:=ry;obtain⟨j,h1,h2,h3,h4,h5⟩:=wt he;have hl:z.cps.toList.length=z.length:=by simp[Str.length]
 rw[hl]at h1 h4 h5;have hn:=line63;exact tail_any (typeIs_str s z t) slot_str_getitem.lookup (getItem_str (c:=c) (by
  have e1:decide (i < -(2^63:Int))=false:=decide_eq_false (by omega);have e2:decide (i>=2^63)=false:=decide_eq_false (by omega);rw[e1,e2,Bool.or_false]) (by rw[h1];simpa using h2) ⟨.str ⟨#[c]⟩,H,I.tok _,⟨_,rfl⟩,q⟩) hs
theorem Wo(lo hi:Option Int)(n:Nat):(sliceBounds lo hi none n).1=((HT.sIx n 0 lo:Nat):Int)/\(sliceBounds lo hi none n).2.1=((HT.sIx n n hi:Nat):Int)/\(sliceBounds lo hi none n).2.2=1:=by
 refine⟨?_,?_,rfl⟩
 ·cases lo with
  | none=>simp[sliceBounds,HT.sIx]
  | some i=>
   simp only[sliceBounds,HT.sIx,Option.getD_none,show(1:Int)>0 by decide,if_true];by_cases h:i<0
   ·simp only[h,if_true]<;>omega
   ·simp only[h,if_false]<;>omega
 ·cases hi with
  | none=>simp[sliceBounds,HT.sIx]
  | some i=>
   simp only[sliceBounds,HT.sIx,Option.getD_none,show(1:Int)>0 by decide,if_true];by_cases h:i<0
   ·simp only[h,if_true]<;>omega
   ·simp only[h,if_false]<;>omega
theorem Ku(its:List Value)(lo hi:Option Int):slicePick its.toArray lo hi none=((its.drop (HT.sIx its.length 0 lo)).take (HT.sIx its.length its.length hi-HT.sIx its.length 0 lo)).toArray:=by
 obtain⟨h1,h2,h3⟩:=Wo lo hi its.toArray.size;unfold slicePick;rw[h1,h2,h3];simp only[sliceRange_one,pick_run,size_toArray]<;>rfl
noncomputable def rSlL(K:Frg):V->Option Int->Option Int->Hp->VK->Prop:=fun x lo hi H Q=>∃a xs,x = .ref a/\SqL K H a xs/\∀p,H p=none->Q (.ref p) (upd H p (.lst (cutV xs lo hi)))
theorem QG:SlR X (rSlL X.K):=by
 intro pins s σ H x v vl vu lo hi sl Q I rx hs pl pu h;obtain⟨a,xs,rfl,hx,q⟩:=h;cases rx;obtain⟨its,r,ht,hz⟩:=I.list hx;have hlen:=r.length;refine⟨"list",_,slot_list_getitem.lookup,ht.isList.typeIs,?_⟩;refine wpAny_getItem_list_slice ht.isList hs pl pu .none (by simp) ?_ (by rw[size_toArray]<;>omega);rw[Ku,<-hlen];refine⟨.ref s.heap.objs.size,_,I.laid (t':=s.toks) (o:=.lst (cutV xs lo hi)) (fun b ob q=>Heap.get?_push_of_some _ q) (Nat.le_refl _) ?_,rfl,q _ (I.hok.fresh (Nat.le_refl _))⟩;exact⟨Nat.le_trans (Yx xs lo hi) hz,_,0,(r.drop (HT.sIx xs.length 0 lo)).take (HT.sIx xs.length xs.length hi-HT.sIx xs.length 0 lo),Heap.get?_push_size _ rfl⟩
noncomputable def flatV:V->Bool
 | .non=>true
 | .bl _=>true
 | .int _=>true
 | .str _=>true
 | _=>false
noncomputable def eqV:V->V->Bool
 | .non,.non=>true
 | .bl a,.bl b=>a==b
 | .bl a,.int b=>(if a then 1 else 0)==b
 | .int a,.bl b=>a==(if b then 1 else 0)
 | .int a,.int b=>a==b
 | .str a,.str b=>a==b
 | _,_=>false
theorem j4t{A:Around}{s:Shared}{y x:V}{u v:Value}(ry:RelV y u)(rx:RelV x v)(fy:flatV y=true)(fx:flatV x=true):SeqAt.EqAt A s u v (eqV y x):=by
 cases y with
 | non=>
  cases ry;cases x with
  | non=>cases rx;exact SeqAt.EqAt.same _
  | bl b=>cases rx;exact SeqAt.EqAt.none_bool b
  | int b=>obtain⟨t,rfl⟩:=rx;exact SeqAt.EqAt.none_int b t
  | str b=>obtain⟨t,rfl⟩:=rx;exact SeqAt.EqAt.none_str b t
  | _=>exact absurd (show false=true from fx) Bool.false_ne_true
 | bl a=>
  cases ry;cases x with
  | non=>cases rx;exact SeqAt.EqAt.bool_none a
  | bl b=>cases rx;exact SeqAt.EqAt.bool_bool a b
  | int b=>obtain⟨t,rfl⟩:=rx;exact SeqAt.EqAt.bool_int a b t
  | str b=>obtain⟨t,rfl⟩:=rx;exact SeqAt.EqAt.bool_str a b t
  | _=>exact absurd (show false=true from fx) Bool.false_ne_true
 | int a=>
  obtain⟨t',rfl⟩:=ry;cases x with
  | non=>cases rx;exact SeqAt.EqAt.int_none a t'
  | bl b=>cases rx;exact SeqAt.EqAt.int_bool a t' b
  | int b=>obtain⟨t,rfl⟩:=rx;exact SeqAt.EqAt.int_int a t' b t
  | str b=>obtain⟨t,rfl⟩:=rx;exact SeqAt.EqAt.int_str a t' b t
  | _=>exact absurd (show false=true from fx) Bool.false_ne_true
 | str a=>
  obtain⟨t',rfl⟩:=ry;cases x with
  | non=>cases rx;exact SeqAt.EqAt.str_none a t'
  | bl b=>cases rx;exact SeqAt.EqAt.str_bool a t' b
  | int b=>obtain⟨t,rfl⟩:=rx;exact SeqAt.EqAt.str_int a t' b t
  | str b=>obtain⟨t,rfl⟩:=rx;exact SeqAt.EqAt.str_str a t' b t
  | _=>exact absurd (show false=true from fx) Bool.false_ne_true
 | _=>exact absurd (show false=true from fy) Bool.false_ne_true
noncomputable def eqU(x:V)(u:Value):Bool:=match u with
 | .none=>eqV .non x
 | .bool b=>eqV (.bl b) x
 | .int i _=>eqV (.int i) x
 | .str z _=>eqV (.str z) x
 | _=>false
theorem j1Q{x y:V}{u:Value}(r:RelV y u)(f:flatV y=true):eqU x u=eqV y x:=by
 cases y with
 | non=>cases r;rfl
 | bl b=>cases r;rfl
 | int i=>obtain⟨t,rfl⟩:=r;rfl
 | str z=>obtain⟨t,rfl⟩:=r;rfl
 | _=>exact absurd (show false=true from f) Bool.false_ne_true
theorem yu{x:V}:∀{xs:List V} {us:List Value},Vals xs us->xs.all flatV=true->us.any (eqU x)=xs.any fun y=>eqV y x
 | _,_,.nil,_=>rfl
 | y::xs,u::us,.cons r t,f=>by
  rw[all_cons,Bool.and_eq_true]at f;rw[any_cons,any_cons,j1Q r f.1,yu t f.2]
theorem Zp{A:Around}{s:Shared}{x:V}{v:Value}(rx:RelV x v)(fx:flatV x=true):∀{xs:List V} {us:List Value},Vals xs us->xs.all flatV=true->∀u∈us,SeqAt.EqAt A s u v (eqU x u)
 | _,_,.nil,_=>fun u hu=>by cases hu
 | y::xs,u::us,.cons r t,f=>fun u' hu=>by
  rw[all_cons,Bool.and_eq_true]at f;rcases mem_cons.mp hu with rfl | hu
  ·rw[j1Q r f.1];exact j4t r rx f.1 fx
  ·exact Zp rx fx t f.2 u' hu
noncomputable def inV(x:V)(xs:List V):Bool:=xs.any fun y=>eqV y x
def rIn(K:Frg)(neg:Bool):R2:=fun x y H Q=>∃p xs,y = .ref p/\(SqL K H p xs\/SqT K H p xs)/\flatV x=true/\xs.all flatV=true/\Q (.bl (if neg then !inV x xs else inV x xs)) H
theorem zw:OpR X (compareOp .In) (rIn X.K false):=by
 intro pins s σ H x y v u Q I rx ry h;obtain⟨p,xs,rfl,hq,fx,fs,q⟩:=h;cases ry;rcases hq with hq | hq
 ·obtain⟨its,r,pl,hz⟩:=I.list hq;refine SeqAt.in_listAt (eqU x) pl.isList (fun w hw=>Zp rx fx r fs w (by simpa using hw)) ⟨.bl _,H,I,rfl,?_⟩;rw[show its.toArray.any (eqU x)=its.any (eqU x) by simp,yu r fs];exact q
 ·obtain⟨its,r,pl,hz⟩:=I.tuple hq;refine SeqAt.in_tupleAt (eqU x) pl (fun w hw=>Zp rx fx r fs w (by simpa using hw)) ⟨.bl _,H,I,rfl,?_⟩;rw[show its.toArray.any (eqU x)=its.any (eqU x) by simp,yu r fs];exact q
theorem w6:OpR X (compareOp .NotIn) (rIn X.K true):=by
 intro pins s σ H x y v u Q I rx ry h;obtain⟨p,xs,rfl,hq,fx,fs,q⟩:=h;cases ry;rcases hq with hq | hq
 ·obtain⟨its,r,pl,hz⟩:=I.list hq;refine SeqAt.notIn_listAt (eqU x) pl.isList (fun w hw=>Zp rx fx r fs w (by simpa using hw)) ⟨.bl _,H,I,rfl,?_⟩;rw[show its.toArray.any (eqU x)=its.any (eqU x) by simp,yu r fs];exact q
 ·obtain⟨its,r,pl,hz⟩:=I.tuple hq;refine SeqAt.notIn_tupleAt (eqU x) pl (fun w hw=>Zp rx fx r fs w (by simpa using hw)) ⟨.bl _,H,I,rfl,?_⟩;rw[show its.toArray.any (eqU x)=its.any (eqU x) by simp,yu r fs];exact q
theorem zM:CallR X (.type "list") (fun xs H Q=>∃p ys,xs=[.ref p]/\(SqL X.K H p ys\/SqT X.K H p ys)/\∀l,H l=none->Q (.ref l) (upd H l (.lst ys))):=by
 intro pins s σ H xs us Q I r h;obtain⟨p,ys,rfl,hq,q⟩:=h;obtain⟨u,rfl,rx⟩:=vals1 r;cases rx;have fin:∀(its:List Value),Vals ys its->ys.length<=sizeLine->∀(h':Heap) (c':Nat),(∀b o',s.heap.get? b=some o'->h'.get? b=some o')->
   h'.get? s.heap.objs.size=some {cls:=.type "list",dict:=none,data:=.seq its.toArray c',slots:=#[]}->EP X pins σ Q (.ref s.heap.objs.size) {s with heap:=h'}:=fun its r' hz h' c' kp e=>
  ⟨.ref s.heap.objs.size,_,I.laid (t':=s.toks) kp (Nat.le_refl _) (show ObjOk X.prog X.w _ h' _ (.lst ys)from⟨hz,its,c',r',e⟩),rfl,q _ (I.hok.fresh (Nat.le_refl _))⟩
 rcases hq with hq | hq
 ·obtain⟨its,r',pl,hz⟩:=I.list hq;have hlen:=r'.length;obtain⟨o,ho,hc,n,hd⟩:=pl.isList;exact call_list_seq p (.inl rfl) ho hc hd (fun h' c' kp e=>fin its r' hz h' c' kp e) (by simp only[size_toArray]<;>omega)
 ·obtain⟨its,r',pl,hz⟩:=I.tuple hq;have hlen:=r'.length;obtain⟨o,ho,hc,n,hd⟩:=pl;exact call_list_seq p (.inr rfl) ho hc hd (fun h' c' kp e=>fin its r' hz h' c' kp e) (by simp only[size_toArray]<;>omega)
theorem qc:CallR X (.type "tuple") (fun xs H Q=>∃p ys,xs=[.ref p]/\((SqL X.K H p ys/\∀l,H l=none->Q (.ref l) (upd H l (.tup ys)))\/(SqT X.K H p ys/\Q (.ref p) H))):=by
 intro pins s σ H xs us Q I r h;obtain⟨p,ys,rfl,h⟩:=h;obtain⟨u,rfl,rx⟩:=vals1 r;cases rx;rcases h with⟨hq,q⟩ | ⟨hq,q⟩
 ·obtain⟨its,r',pl,hz⟩:=I.list hq;have hlen:=r'.length;refine call_tuple_list pl.isList (fun h' kp=>?_) (by simp only[size_toArray]<;>omega);have I1:Inv X pins σ H {s with heap:=h'}:=I.kept (t':=s.toks) kp;have I2:Inv X pins σ (upd H h'.objs.size (.tup ys)) {s with heap:=h'.push {cls:=.type "tuple",data:=.seq its.toArray}}:=
   I1.laid (t':=s.toks) (fun b o e=>Heap.get?_push_of_some _ e) (Nat.le_refl _) (show ObjOk X.prog X.w _ _ _ (.tup ys)from⟨hz,its,r',IsTup.new _ _⟩)
  exact⟨.ref h'.objs.size,_,I2,rfl,q _ (I1.hok.fresh (Nat.le_refl _))⟩
 ·obtain⟨its,r',pl,hz⟩:=I.tuple hq;exact call_tuple_same pl ⟨.ref p,H,I,rfl,q⟩
def tyV(K:Frg)(T:String)(x:V)(H:Hp):Prop:=match x with
 | .str _=>T = "str"
 | .int _=>T = "int"
 | .ref p=>(T = "list"/\∃xs,SqL K H p xs)\/(T = "tuple"/\∃o,K.lookup p=some o/\o.cls = .type "tuple"/\o.dict=none)\/
   (T = "dict"/\((∃kvs,H p=some (.dK kvs))\/∃kvs,H p=some (.dT kvs)))\/(T = "set"/\∃S n,H p=some (.set S n))
 | _=>False
theorem j2W{pins:List (Addr×Obj)}{σ:St}{H:Hp}{s:Shared}{T:String}{x:V}{v:Value}(I:Inv X pins σ H s)(r:RelV x v)(ty:tyV X.K T x H) :
  s.TypeIs v T/\∀a,v = .ref a->∃ob,s.heap.get? a=some ob/\ob.dict=none:=by
 cases x with
 | str z=>
  obtain⟨t,rfl⟩:=r;cases(show T = "str" from ty);exact⟨typeIs_str s z t,fun _ e=>nomatch e⟩
 | int i=>
  obtain⟨t,rfl⟩:=r;cases(show T = "int" from ty);exact⟨typeIs_int s i t,fun _ e=>nomatch e⟩
 | ref p=>
  cases r;rcases ty with⟨rfl,xs,hq⟩ | ⟨rfl,o,hk,hc,hd⟩ | ⟨rfl,hk⟩ | ⟨rfl,S,n,hk⟩
  ·obtain⟨its,_,pl,_⟩:=I.list hq;refine⟨pl.isList.typeIs,fun a e=>?_⟩;cases e;obtain⟨o,n,e,c,hd,_⟩:=pl;exact⟨o,e,hd⟩
  ·refine⟨⟨o,I.kIn p o hk,hc⟩,fun a e=>?_⟩;cases e;exact⟨o,I.kIn _ o hk,hd⟩
  ·have z:∃o,s.heap.get? p=some o/\o.ExactDict:=by
    rcases hk with⟨kvs,hk⟩ | ⟨kvs,hk⟩
    ·obtain⟨_,_,_,_,o,_,_,e,ex,_⟩:=I.hok p _ hk;exact⟨o,e,ex⟩
    ·obtain⟨_,_,_,_,o,_,_,e,ex,_⟩:=I.hok p _ hk;exact⟨o,e,ex⟩
   obtain⟨o,e,ex⟩:=z;refine⟨⟨o,e,ex.1⟩,fun a e2=>?_⟩;cases e2;exact⟨o,e,ex.2.1⟩
  ·obtain⟨o,_,_,_,e,ex,_⟩:=I.hok p _ hk;refine⟨⟨o,e,ex.1⟩,fun a e2=>?_⟩;cases e2;exact⟨o,e,ex.2.1⟩
 | _=>exact False.elim ty
def tBM0(K:Frg)(T:String)(r:V->List V->Hp->VK->Prop)(to:TE):TE:=fun σ H Q=>to σ H fun x H1=>tyV K T x H1/\r x [] H1 Q
def tBM(K:Frg)(T:String)(r:V->List V->Hp->VK->Prop)(to:TE)(t:TA):TE:=fun σ H Q=>to σ H fun x H1=>tyV K T x H1/\t σ H1 fun xs H2=>r x xs H2 Q
variable{o e:Expr}{es:List Expr}{to:TE}{t:TA}{name:Str}{apos cpos:Pos}{T id:String}{r:V->List V->Hp->VK->Prop}
theorem j4R(pa:PlainAttrs T)(slot:Slot T name id)(hty:typeOf (.builtin id)=pure (.type "method_descriptor"))(hm:MtR X id r)(ho:PE X o to)
  (hbase:attributeBase o name X.env (eval o X.env)=eval o X.env:=by rfl) (hline:(apos.endLine==cpos.line)=true:=by rfl):PE X (.Call (.Attribute o name apos) [] [] cpos) (tBM0 X.K T r to):=by
 intro pins s σ H Q I h;refine wpAny_Call_method0_late hbase hline (thn (ho pins s σ H _ I h) fun v s1 ⟨x,H1,I1,r1,ty,q1⟩=>?_);obtain⟨h1,h2⟩:=j2W I1 r1 ty;exact⟨T,id,pa,slot,hty,h1,h2,Calls.callWith_builtin rfl (PySem.evalArgs_none (hm pins s1 σ H1 x [] v [] Q I1 r1 .nil q1))⟩
theorem JF(pa:PlainAttrs T)(slot:Slot T name id)(hty:typeOf (.builtin id)=pure (.type "method_descriptor"))(hm:MtR X id r)(ho:PE X o to)(ha:PA X (e::es) t)
  (hbase:attributeBase o name X.env (eval o X.env)=eval o X.env:=by rfl)
  (hfew:((backTo cpos (starEach (e::es) X.env)).all (fun x=>!x.1)&&(backToKw cpos (keywordEach [] X.env)).all (fun x=>x.1.isSome)
   && decide ((e::es).length+([]:List Keyword).length+(if([]:List Keyword).isEmpty then 0 else 1)<30))=true:=by rfl)
  (hline:(apos.endLine==cpos.line)=true:=by rfl) (hs:starEach (e::es) X.env=(false,eval e X.env)::starEach es X.env:=by rfl) (hplain:(backTo cpos (starEach es X.env)).any (·.1)=false:=by rfl) :
  PE X (.Call (.Attribute o name apos) (e::es) [] cpos) (tBM X.K T r to t):=by
 intro pins s σ H Q I h;refine wpAny_Call_method_late hbase hfew hline rfl (thn (ho pins s σ H _ I h) fun v s1 ⟨x,H1,I1,r1,ty,q1⟩=>?_);obtain⟨h1,h2⟩:=j2W I1 r1 ty;refine⟨T,id,pa,slot,hty,h1,h2,?_⟩;have hA:=ha cpos pins s1 σ H1 _ I1 q1;rw[hs]at hA|-;refine Calls.callWith_builtin (by show(false||(backTo cpos (starEach es X.env)).any (·.1))=false;rw[hplain]<;>rfl) (Calls.evalArgs_plain ?_);exact thn hA fun us s2 ⟨vs,H2,I2,r2,q2⟩=>hm pins s2 σ H2 x vs v us Q I2 r1 r2 q2
end
def MtM(X:Cx)(id:String)(r:V->List V->Hp->VK->Prop):Prop:=
 ∀(pins:List (Addr×Obj)) (s:Shared) (σ:St) (H:Hp) (x:V) (xs:List V) (v:Value) (us:List Value) (Q:VK),Inv X pins σ H s->RelV x v->Vals xs us->r x xs H Q->
  wpAny (model X.prog X.w) X.A (call (.builtin id) (v::us)) (EP X pins σ Q) X.xe s
theorem Vals.one:∀{x:V} {us:List Value},Vals [x] us->∃u,us=[u]/\RelV x u
 | _,_,.cons r .nil=>⟨_,rfl,r⟩
theorem Vals.zero:∀{us:List Value},Vals [] us->us=[]
 | _,.nil=>rfl
section
variable{X:Cx}{pins:List (Addr×Obj)}{σ:St}{H:Hp}{s:Shared}{l b:Addr}{xs ys zs:List V}
theorem Inv.lset{its its':List Value}{n:Nat}{f:Array Value->Array Value}{t':Nat}(I:Inv X pins σ H s)(hH:H l=some (.lst xs))
  (e:s.heap.get? l=some {cls:=.type "list",data:=.seq its.toArray n}) (hf:f its.toArray=its'.toArray) (hv:Vals ys its') (hz:ys.length<=sizeLine) :
  Inv X pins σ (upd H l (.lst ys)) {s with heap:=s.heap.update l (Obj.mapSeq f),toks:=t'}:=by
 have q:=PySem.IsL.update e f;rw[hf]at q;refine I.write (x:=l) (e:=l) (by rw[hH];exact trivial) (.inl rfl) (fun b' u hb hu=>(Heap.get?_update_other s.heap (Obj.mapSeq f) (Ne.symm hb)).trans hu) ⟨_,q⟩ ?_;exact⟨hz,its',_,hv,q⟩
theorem Inv.lnew{its:List Value}{t':Nat}(I:Inv X pins σ H s)(hv:Vals ys its)(hz:ys.length<=sizeLine) :
  Inv X pins σ (upd H s.heap.objs.size (.lst ys)) {s with heap:=s.heap.push {cls:=.type "list",data:=.seq its.toArray},toks:=t'}:=
 I.laid (fun _ _ q=>Heap.get?_push_of_some _ q) (Nat.le_refl _) ⟨hz,its,0,hv,Heap.get?_push_size _ rfl⟩
theorem Inv.fresh(I:Inv X pins σ H s):H s.heap.objs.size=none:=I.hok.fresh (Nat.le_refl _)
theorem Inv.lstM(I:Inv X pins σ H s)(hH:H l=some (.lst xs)):xs.length<=sizeLine/\∃(its:List Value) (n:Nat),Vals xs its/\xs.length=its.length/\s.heap.get? l=some {cls:=.type "list",data:=.seq its.toArray n}:=by
 obtain⟨z,its,n,r,e⟩:=I.hok l _ hH;exact⟨z,its,n,r,r.length,e⟩
theorem notLongL{n:Nat}(h:n<=sizeLine):Builtin.List.listTooLong n=false:=by
 unfold Builtin.List.listTooLong;exact decide_eq_false (by omega)
end
section
variable{X:Cx}
noncomputable def rAppend:V->List V->Hp->VK->Prop:=fun x vs H Q=>∃l xs y,x = .ref l/\vs=[y]/\H l=some (.lst xs)/\xs.length<sizeLine/\Q .non (upd H l (.lst (xs++[y])))
theorem jR:MtM X "list.append" rAppend:=by
 intro pins s σ H x vs v us Q I rx rv h;obtain⟨l,xs,y,rfl,rfl,hH,hz,q⟩:=h;cases rx;obtain⟨u,rfl,ru⟩:=rv.one;obtain⟨z,its,n,r,hl,e⟩:=I.lstM hH;refine call_meets F.slot_list_append ⟨_,e,rfl⟩ F.entry_list_append (F.args_list_append_2 _ _) (PySem.list_append l its.toArray n u (by rw[size_toArray];omega)) ⟨e,?_⟩;refine⟨.non,_,I.lset (its':=its++[u]) hH e (by simp) (r.append (.cons ru .nil)) ?_,rfl,q⟩;rw[List.length_append,length_singleton];omega
noncomputable def rExtend:V->List V->Hp->VK->Prop:=fun x vs H Q=>∃l b xs zs,x = .ref l/\vs=[.ref b]/\H l=some (.lst xs)/\H b=some (.lst zs)/\xs.length+zs.length<=sizeLine/\Q .non (upd H l (.lst (xs++zs)))
theorem j10:MtM X "list.extend" rExtend:=by
 intro pins s σ H x vs v us Q I rx rv h;obtain⟨l,b,xs,zs,rfl,rfl,hH,hB,hz,q⟩:=h;cases rx;obtain⟨u,rfl,ru⟩:=rv.one;cases ru;obtain⟨z,its,n,r,hl,e⟩:=I.lstM hH;obtain⟨z2,its2,n2,r2,hl2,e2⟩:=I.lstM hB;have hsz:its.toArray.size+its2.toArray.size<=sizeLine:=by rw[size_toArray,size_toArray];omega
 have hlong:¬(!its.toArray.isEmpty&&Builtin.List.listTooLong (its.toArray.size+its2.toArray.size))=true:=by
  rw[notLongL hsz,Bool.and_false];exact Bool.false_ne_true
 refine call_meets F.slot_list_extend ⟨_,e,rfl⟩ F.entry_list_extend (F.args_list_extend_2 _ _)
  (AutoSeq1.list_extend_list_list_0 l its.toArray n b its2.toArray n2 hlong (by rw[size_toArray];omega) (by omega)) ⟨e,e2,?_⟩
 refine⟨.non,_,I.lset (its':=its++its2) hH e (by simp) (r.append r2) ?_,rfl,q⟩;rw[List.length_append];omega
def rCat:R2:=fun x y H Q=>∃l b xs zs,x = .ref l/\y = .ref b/\H l=some (.lst xs)/\H b=some (.lst zs)/\xs.length+zs.length<=sizeLine/\∀p,H p=none->Q (.ref p) (upd H p (.lst (xs++zs)))
theorem kN:OpR X (binaryOp .Add) rCat:=by
 intro pins s σ H x y v u Q I rx ry h;obtain⟨l,b,xs,zs,rfl,rfl,hH,hB,hz,q⟩:=h;cases rx;cases ry;obtain⟨z,its,n,r,hl,e⟩:=I.lstM hH;obtain⟨z2,its2,n2,r2,hl2,e2⟩:=I.lstM hB;refine PySem.P.add_list e e2 ?_ (by rw[size_toArray,size_toArray];omega);have ea:its.toArray++its2.toArray=(its++its2).toArray:=by simp
 rw[ea];exact⟨.ref _,_,I.lnew (t':=s.toks) (r.append r2) (by rw[List.length_append];omega),rfl,q _ I.fresh⟩
end
section
variable{prog:Program}{w:World}{A:Around}{E:Value->Shared->Prop}{s:Shared}
end
section
variable{X:Cx}
end
end L2
namespace Att
open PySem PySem.W PySem.Calls PyProof.Rows
theorem YF{P:Params}{h:Heap}:∀(ns:List Int) (vs:List Value),WellAll P h vs (ns.map WData.int)->IntsAre vs ns:=by
 intro ns
 induction ns with
 | nil=>
  intro vs w;rw[map_nil]at w;cases w;exact .nil
 | cons n ns ih=>
  intro vs w;rw[map_cons]at w;cases w with
  | cons a b=>
   cases a;exact .cons _ _ (ih _ b)
theorem j1j{l:OpenLaw}{n:Nat}(hn:l.most=some n){P:Params}{h:Heap}{args:List WData}{vals:List Value}
  (hpre:l.row.toRowW.claim.pre args=true) (hwl:WellAll P h vals args) :
  ∃a vs ns,vals=[Value.ref a]/\args=[WData.list (ns.map WData.int)]/\h.get? a=some {cls:=.type "list",data:=.seq vs.toArray}/\IntsAre vs ns/\ns.length<=n:=by
 have hsh:WShape.hasAll [] args [.list .int]=true:=(pre_splitW hpre).1;have hc:l.pre.holds [] {args:=args}=true:=(pre_splitW hpre).2;obtain⟨d,r,rfl,h1,h2⟩:=hasAllW_cons hsh;obtain rfl:=hasAllW_nil h2;obtain⟨xs,rfl,h3⟩:=hasW_list h1;obtain⟨ns,rfl⟩:=items_int h3;have hlen:ns.length<=n:=by
  unfold OpenLaw.pre at hc;have h4:(WTm.not (.lt (.lit (.int (n:Int))) (.len (.arg 0)))).holds [] {args:=[.list (ns.map .int)]}=true:=by
   have h4:=(holds_andW hc).1;rw[hn]at h4;exact h4
  have h5:=condW_of h4 (w_not (w_lt w_lit (w_len_list (w_arg rfl))));rw[length_map]at h5;refine Nat.le_of_not_lt fun q=>?_
  have q':(n:Int)<((ns.length:Nat):Int):=by omega
  first
   | (rw[decide_eq_true q']at h5;exact absurd h5 (by decide))
   | (simp at h5;omega)
 cases hwl with
 | cons w1 w2=>
  cases w2;cases w1 with
  | list ho hall=>exact⟨_,_,ns,rfl,rfl,ho,YF ns _ hall,hlen⟩
theorem j1c(l:OpenLaw)(args:List WData):l.row.toRowW.claim.post args (.bool true) args=true:=
 postW_of (r:=l.row.toRowW) (X:=(true==true))
  (show WShape.has [] (.bool true) .bool=true by first | rfl | decide | simp[WShape.has,WShape.arms,WShape.armsAll])
  (show(WTm.eq .res (.lit (.bool true))).value [] {args:=args,res:=some (.bool true),after:=args}=some (.bool (true==true))from w_eq_bool (w_res rfl) w_lit) rfl
section
variable{prog:Program}{w:World}{A:Around}{E:Value->Shared->Prop}{s:Shared}{K:Frag}
end
end Att
namespace L2
open PySem PySem.Spec PyProof.Rows
theorem wc:∀{vs:List Value} {ns:List Int},IntsAre vs ns->Vals (ns.map V.int) vs
 | _,_,.nil=>.nil
 | _,_,.cons n t h=>.cons ⟨t,rfl⟩ (wc h)
def Only(H:Hp):Prop:=∀b,H b=none\/∃o xs,H b=some (.frz o (.lst xs))
theorem j21{P:Program}{w:World}{K:Frg}{mg mb:Str->Option Value}{CX:CXT}{k:Nat}{fa a:Addr}{fd:FuncData}{x:Str}{sp:Sp}{s₁:Shared}{vs:List Value}{ns:List Int}
  (KX:K.In s₁.heap) (hns:s₁.heap.Ns mainGlobals mg) (hb:s₁.heap.Ns builtinsNs mb) (hbb:∀x:Str,x≠"__name__"->mb x=bootBuiltins x) (hlim:s₁.heap.NoLimit) (hg:s₁.gens = #[])
  (ha:s₁.heap.get? a=some {cls:=.type "list",data:=.seq vs.toArray}) (hi:IntsAre vs ns) (hl:ns.length<=sizeLine) (hr:Room k callerA)
  (F:∀base:Heap,K.In base->base.Ns mainGlobals mg->FnOk P w K mg base CX k fa fd [x] sp) (hbind:∀(s:Shared) (u:Value),BindsTo s fd ⟨[u],[]⟩ [(x,u)])
  (hsp:∀H:Hp,Only H->SqL K H a (ns.map V.int)->sp [.ref a] H (fun v _=>v = .bl true) fun _ _ _=>False)
  (hCX:∀H e s',CX [] H s₁ (fun _ _ _=>False) e s'->False) :
  codeAny (model P w) callerA (.call (.ref fa) ⟨[.ref a],[]⟩) (fun r s'=>r = .ok (.ret (.bool true))/\OldK s₁.heap s'.heap/\s'.os=s₁.os/\AllBare s'.gens) s₁:=by
 have rv:=wc hi;have lenV:=hi.length;have core:∀H:Hp,Only H->SqL K H a (ns.map V.int)->HOk P w H s₁.heap->(∀b,H b≠none->b=a)->(H a≠none->K.lookup a=none)->
   codeAny (model P w) callerA (.call (.ref fa) ⟨[.ref a],[]⟩) (fun r s'=>r = .ok (.ret (.bool true))/\OldK s₁.heap s'.heap/\s'.os=s₁.os/\AllBare s'.gens) s₁:=by
  intro H hO hS hok hA hK;have base_of:∀{b:Addr} {o:Obj},s₁.heap.get? b=some o->H b=none->(hidT s₁.heap H).get? b=some o:=fun e n=>j1W e n
  have noA:∀{b:Addr} {o:Obj} {es:Array DictEntry} {ep:Nat},s₁.heap.get? b=some o->o.data = .dict es ep->H b=none:=fun {b o es ep} e d=>by
   cases q:H b with
   | none=>rfl
   | some u=>
    have e':b=a:=hA b (by rw[q];simp);subst e';rw[ha]at e;cases e;have d':Data.seq vs.toArray _=Data.dict es ep:=d;cases d'
  have nsK:∀{b:Addr} {m:Str->Option Value},s₁.heap.Ns b m->(hidT s₁.heap H).Ns b m:=fun {b m} ⟨o,es,ep,e,d,r⟩=>⟨o,es,ep,base_of e (noA e d),d,r⟩
  have hKb:K.In (hidT s₁.heap H):=fun b o e=>base_of (KX b o e) (by
   cases q:H b with
   | none=>rfl
   | some u=>
    have e':b=a:=hA b (by rw[q];simp);subst e';rw[hK (by rw[q];simp)]at e;cases e)
  have hM:Mod K mg (hidT s₁.heap H):=⟨hKb,nsK hns,⟨mb,nsK hb,hbb⟩,let ⟨mc,h1,h2⟩:=hlim;⟨mc,nsK h1,h2⟩⟩
  have e0:Env0 P w K mg (hidT s₁.heap H) callerA [] s₁ H:=⟨rfl,hM,fun b o e=>j3B e,Nat.le_of_eq (j0Q _ _),trivial,fun b hb=>absurd (show b∈([]:List Addr)from hb) (by simp),hok,.of_eq hg⟩
  refine codeAny_mono ((F _ hKb (nsK hns)).run callerA [] s₁ H ⟨[.ref a],[]⟩ [.ref a] [.ref a] _ _ hr e0 (hbind s₁ (.ref a)) (.cons rfl .nil) (hsp H hO hS)) fun r s' h=>?_
  cases r with
  | error e=>exact(hCX H e s' h).elim
  | ok fl=>
   cases fl with
   | next=>exact False.elim h
   | brk=>exact False.elim h
   | cont=>exact False.elim h
   | ret u=>
    obtain⟨v,H',os,bare,un,hok',r',q⟩:=h;have q':v = .bl true:=q;subst q';obtain rfl:u=Value.bool true:=r';refine⟨rfl,OldK.of_keep fun b o e=>?_,os,bare⟩;cases q:H b with
    | none=>exact un.keep b o e q (by intro z;exact absurd (show b∈([]:List Addr)from z) (by simp)) (by simp)
    | some u=>
     rcases hO b with z | ⟨ob,xs,z⟩
     ·rw[q]at z;cases z
     ·have z2:=un.frzs b ob _ z;obtain⟨e1,_⟩:=hok b _ z;obtain⟨e2,_⟩:=hok' b _ z2;rw[e]at e1;cases e1;exact e2
 cases hk:K.lookup a with
 | some o=>
  have e:=KX a o hk;rw[ha]at e;cases e;refine core (fun _=>none) (fun _=>.inl rfl) (.inr ⟨_,vs.toArray,_,hk,rfl,rfl,rfl,by rw[size_toArray,lenV];exact hl,by simpa using rv⟩) (fun b u z=>by have z':(none:Option HO)=some u:=z;cases z') (fun b z=>absurd rfl z) fun z=>absurd rfl z
 | none=>
  refine core (fun b=>if b=a then some (.frz {cls:=.type "list",data:=.seq vs.toArray} (.lst (ns.map V.int)))else none) (fun b=>?_) (.inl (.inr ⟨{cls:=.type "list",data:=.seq vs.toArray},if_pos rfl⟩)) (fun b u z=>?_) (fun b z=>?_) fun _=>hk
  ·by_cases hb:b=a
   ·exact .inr ⟨_,_,if_pos hb⟩
   ·exact .inl (if_neg hb)
  ·by_cases hb:b=a
   ·have z':=(if_pos hb).symm.trans z;cases z';subst hb;exact⟨ha,by rw[length_map];exact hl,vs,_,rv,ha⟩
   ·have z':=(if_neg hb).symm.trans z;cases z'
  ·by_cases hb:b=a
   ·exact hb
   ·exact absurd (if_neg hb) z
noncomputable abbrev KOf{K:Frg}{h:Heap}(_:K.In h):Frg:=K
noncomputable def defArgs(s:Stmt):Arguments:=match s with
 | .FunctionDef _ a _ _ _ _ _ _ _ _=>a
 | _=>{posonlyargs:=[],args:=[],vararg:=none,kwonlyargs:=[],kw_defaults:=[],kwarg:=none,defaults:=[]}
noncomputable def defBody(s:Stmt):List Stmt:=match s with
 | .FunctionDef _ _ b _ _ _ _ _ _ _=>b
 | _=>[]
noncomputable def defScope(s:Stmt):Scope:=match s with
 | .FunctionDef _ _ _ _ _ _ sc _ _ _=>sc
 | _=>{kind:=.function,names:=[],isGenerator:=false,isCoroutine:=false}
noncomputable abbrev CX0:CXT:=fun _ _ _ _ _ _=>False
noncomputable abbrev E0:XK:=fun _ _ _=>False
theorem pass0{X:Cx}:Passes CX0 X E0:=fun _ _ _ _ _ _ _ h=>h.elim
structure Fun(K:Frg)(x qual:Str)(st:Stmt)(f:Addr)(fd:FuncData):Prop where
 ex:∃(oc:Value) (od:Option Addr) (kV doc pm:Value) (an:Option Addr) (cdv ct:Value) (osl:Array (Option Value)),
  fd=PySem.W.fnOf x qual (defArgs st) (defBody st) (defScope st) .none kV doc pm an cdv ct/\K.lookup f=some ⟨oc,od,.func fd,osl⟩/\PySem.W.codeIn K cdv qual=true
 kp:PySem.W.keepIn K (.ref f)=true
section
variable{P:Program}{w:World}{K:Frg}{mg:Str->Option Value}{base:Heap}
theorem Fun.ok{x qual:Str}{st:Stmt}{f:Addr}{fd:FuncData}{N ps:List Str}{k:Nat}{sp:Sp}(F:Fun K x qual st f fd)(S:FnScope N ps (defScope st))(len:∀vs H Q E,sp vs H Q E->vs.length=ps.length)
  (hbody:∀(cdv:Value) (A:Around) (outer:List Env) (s:Shared) (H:Hp) (vs:List V) (Q:VK) (E:XK),Room k (A.deeper (envOfC qual (defScope st) s.heap.objs.size f cdv))->sp vs H Q E->
   ∃t,PSs (cxOf CX0 P w K mg base N qual (defScope st) f cdv A outer s H E).nox (defBody st) t/\t {nx:=fun _ H'=>Q .non H',rt:=Q} (start N vs) H):FnOk P w K mg base CX0 (k+1) f fd ps sp:=by
 obtain⟨oc,od,kV,doc,pm,an,cdv,ct,osl,rfl,lk,hcd⟩:=F.ex;refine j45 lk hcd S len fun A outer s H vs Q E hr hsp=>?_
 obtain⟨t,h,q⟩:=hbody cdv A outer s H vs Q E hr hsp;exact⟨t,h.nox,q⟩
theorem Fun.binds{x qual:Str}{st:Stmt}{f:Addr}{fd:FuncData}{ps:List Str}(F:Fun K x qual st f fd)
  (h:∀(kV doc pm:Value) (an:Option Addr) (cdv ct:Value) (us:List Value),us.length=ps.length->bindArgs (PySem.W.fnOf x qual (defArgs st) (defBody st) (defScope st) .none kV doc pm an cdv ct) ⟨us,[]⟩=pure (ps.zip us)):Binds K fd ps []:=by
 obtain⟨oc,od,kV,doc,pm,an,cdv,ct,osl,rfl,lk,hcd⟩:=F.ex;exact .all (h kV doc pm an cdv ct)
theorem jE{x qual:Str}{st:Stmt}{f:Addr}{oc:Value}{od an:Option Addr}{osl:Array (Option Value)}{kV doc pm cdv ct:Value}(l:K.lookup f=some ⟨oc,od,.func (PySem.W.fnOf x qual (defArgs st) (defBody st) (defScope st) .none kV doc pm an cdv ct),osl⟩)
  (c:PySem.W.codeIn K cdv qual=true) (k:PySem.W.keepIn K (.ref f)=true):Fun K x qual st f (PySem.W.fnOf x qual (defArgs st) (defBody st) (defScope st) .none kV doc pm an cdv ct):=⟨⟨oc,od,kV,doc,pm,an,cdv,ct,osl,rfl,l,c⟩,k⟩
end
theorem jM{A:Around}{k:Nat}(hr:Room k A):A.units+1<cLine:=Nat.lt_of_le_of_lt (Nat.add_le_add_left (by decide:1<=64) _) hr.units
section
variable{X:Cx}
theorem pv(i:Nat){x:Str}{pos:Pos}(hN:X.N[i]?=some x:=by rfl)(hv:Vis X.env.scope x:=by first | exact Or.inl rfl | exact Or.inr (Or.inl rfl) | exact Or.inr (Or.inr rfl))(hd:(x==("__debug__" : Str))=false:=by decide)
  (hcd:(x==("__classdict__" : Str))=false:=by decide):PE X (.Name x pos) (tVar i):=j4U hN hv hd hcd
end
theorem iteF{A B:Prop}(h:B):if false=true then A else B:=by
 rw[if_neg Bool.false_ne_true];exact h
theorem iteT{A B:Prop}(h:A):if true=true then A else B:=by
 rw[if_pos rfl];exact h
def Same(H H':Hp):Prop:=∀b o,H b=some o->H' b=some o
theorem Same.refl(H:Hp):Same H H:=fun _ _ h=>h
theorem Same.trans{H H1 H2:Hp}(a:Same H H1)(b:Same H1 H2):Same H H2:=fun c o h=>b c o (a c o h)
theorem Same.seq{K:Frg}{H H':Hp}{a:Addr}{xs:List V}(e:Same H H')(h:SqL K H a xs):SqL K H' a xs:=by
 rcases h with(h | ⟨o,h⟩) | h
 ·exact .inl (.inl (e _ _ h))
 ·exact .inl (.inr ⟨o,e _ _ h⟩)
 ·exact .inr h
section
variable{κ:Type}[DecidableEq κ]
noncomputable def valV(kvs:List (κ×V))(k:κ):Option V:=(kvs.find? fun kv=>decide (kv.1=k)).map (·.2)
noncomputable def putK(kvs:List (κ×V))(k:κ)(v:V):List (κ×V):=
 if(kvs.any fun kv=>decide (kv.1=k))=true then kvs.map (fun kv=>if kv.1=k then(kv.1,v)else kv)else kvs++[(k,v)]
theorem yO{p:κ×V}{r:List (κ×V)}{k:κ}(e:p.1=k):valV (p::r) k=some p.2:=by simp[valV,List.find?_cons,e]
theorem ZC{p:κ×V}{r:List (κ×V)}{k:κ}(e:¬p.1=k):valV (p::r) k=valV r k:=by simp[valV,List.find?_cons,e]
theorem ZB(k:κ):∀kvs:List (κ×V),(kvs.any fun kv=>decide (kv.1=k))=(valV kvs k).isSome
 | []=>rfl
 | p::r=>by
  rw[any_cons];by_cases e:p.1=k
  ·simp only[yO e,decide_eq_true e,Bool.true_or,Option.isSome_some]
  ·rw[ZC e,decide_eq_false e,Bool.false_or];exact ZB k r
theorem Zn(kvs:List (κ×V))(k:κ)(v:V):(putK kvs k v).length<=kvs.length+1:=by
 unfold putK;split
 ·rw[length_map];omega
 ·rw[List.length_append,length_cons,length_nil];omega
theorem RelO.isSome_eq{o:Option V}{u:Option Value}(r:RelO o u):o.isSome=u.isSome:=by
 cases o with
 | none=>cases u with
  | none=>rfl
  | some _=>exact(show False from r).elim
 | some _=>cases u with
  | none=>exact(show False from r).elim
  | some _=>rfl
theorem KV.val{kvs:List (κ×V)}{vs:List (κ×Value)}(r:KV kvs vs)(k:κ):RelO (valV kvs k) (valueAt vs k):=by
 unfold KV at r
 induction r with
 | nil=>exact True.intro
 | @cons p q ps qs h t ih=>
  obtain⟨h1,h2⟩:=h;by_cases e:p.1=k
  ·have e':q.1=k:=h1.symm.trans e;have b:valueAt (q::qs) k=some q.2:=by simp[valueAt,List.find?_cons,e']
   rw[yO e,b];exact h2
  ·have e':¬q.1=k:=fun z=>e (h1.trans z)
   have b:valueAt (q::qs) k=valueAt qs k:=by simp[valueAt,List.find?_cons,e']
   rw[ZC e,b];exact ih
theorem KV.any{kvs:List (κ×V)}{vs:List (κ×Value)}(r:KV kvs vs)(k:κ):(kvs.any fun kv=>decide (kv.1=k))=vs.any fun kv=>decide (kv.1=k):=by
 unfold KV at r
 induction r with
 | nil=>rfl
 | cons h t ih=>rw[any_cons,any_cons,ih,h.1]
theorem KV.repl{kvs:List (κ×V)}{vs:List (κ×Value)}(r:KV kvs vs)(k:κ){y:V}{u:Value}(ry:RelV y u) :
  KV (kvs.map fun kv=>if kv.1=k then(kv.1,y)else kv) (vs.map fun kv=>if kv.1=k then(kv.1,u)else kv):=by
 unfold KV at r|-
 induction r with
 | nil=>exact .nil
 | @cons p q ps qs h t ih=>
  rw[map_cons,map_cons];refine .cons ?_ ih;obtain⟨h1,h2⟩:=h;by_cases e:p.1=k
  ·rw[if_pos e,if_pos (h1.symm.trans e)];exact⟨h1,ry⟩
  ·rw[if_neg e,if_neg (fun z=>e (h1.trans z))];exact⟨h1,h2⟩
theorem KV.put{kvs:List (κ×V)}{vs:List (κ×Value)}(r:KV kvs vs)(k:κ){y:V}{u:Value}(ry:RelV y u):KV (putK kvs k y) (stored vs k u):=by
 unfold putK stored;rw[r.any k];by_cases e:(vs.any fun kv=>decide (kv.1=k))=true
 ·rw[if_pos e,if_pos e];exact r.repl k ry
 ·rw[if_neg e,if_neg e];exact Paired.snoc r ⟨rfl,ry⟩
theorem KV.keys{kvs:List (κ×V)}{vs:List (κ×Value)}(r:KV kvs vs):kvs.map (·.1)=vs.map (·.1):=by
 unfold KV at r
 induction r with
 | nil=>rfl
 | cons h t ih=>rw[map_cons,map_cons,ih,h.1]
theorem KV.length{kvs:List (κ×V)}{vs:List (κ×Value)}(r:KV kvs vs):kvs.length=vs.length:=Paired.length r
end
theorem KU{P:Program}{w:World}{k:Key}{u:Value}(r:RelV (kV k) u):(mixKind P w).is k u=true:=by
 cases k with
 | inl i=>obtain⟨t,e⟩:=(show∃t,u=Value.int i t from r);subst e;exact WY P w i t
 | inr x=>obtain⟨t,e⟩:=(show∃t,u=Value.str x t from r);subst e;exact WZ P w x t
theorem KS{P:Program}{w:World}:∀{ks:List Key} {us:List Value},Vals (ks.map kV) us->ItemsAre (mixKind P w) ks us
 | [],_,r=>by rw[map_nil]at r;cases r;exact .nil
 | k::ks,_,r=>by
  rw[map_cons]at r;cases r with
  | cons h t=>exact .cons (KU h) (KS t)
noncomputable abbrev KT(H:Hp):List (List Key×V)->List (List Key×Addr×Value)->Prop:=Paired fun p q=>p.1=q.1/\H q.2.1=some (.tup (p.1.map kV))/\RelV p.2 q.2.2
theorem KT.val{H:Hp}{kvs:List (List Key×V)}{xs:List (List Key×Addr×Value)}(r:KT H kvs xs)(k:List Key):RelO (valV kvs k) ((atKey xs k).map (·.2)):=by
 induction r with
 | nil=>exact True.intro
 | @cons p q ps qs h t ih=>
  obtain⟨h1,_,h2⟩:=h;by_cases e:p.1=k
  ·have e':q.1=k:=h1.symm.trans e;have b:atKey (q::qs) k=some q.2:=by simp[atKey,List.find?_cons,e']
   rw[yO e,b];exact h2
  ·have e':¬q.1=k:=fun z=>e (h1.trans z)
   have b:atKey (q::qs) k=atKey qs k:=by simp[atKey,List.find?_cons,e']
   rw[ZC e,b];exact ih
theorem KT.repl{H:Hp}{kvs:List (List Key×V)}{xs:List (List Key×Addr×Value)}(r:KT H kvs xs)(k:List Key){y:V}{u:Value}(ry:RelV y u) :
  KT H (kvs.map fun kv=>if kv.1=k then(kv.1,y)else kv) (xs.map (putAt k u)):=by
 induction r with
 | nil=>exact .nil
 | @cons p q ps qs h t ih=>
  rw[map_cons,map_cons];refine .cons ?_ ih;obtain⟨h1,h2,h3⟩:=h;unfold putAt;by_cases e:p.1=k
  ·rw[if_pos e,if_pos (h1.symm.trans e)];exact⟨h1,h2,ry⟩
  ·rw[if_neg e,if_neg (fun z=>e (h1.trans z))];exact⟨h1,h2,h3⟩
theorem KT.put{H:Hp}{kvs:List (List Key×V)}{xs:List (List Key×Addr×Value)}(r:KT H kvs xs)(k:List Key){b:Addr}{y:V}{u:Value}(hb:H b=some (.tup (k.map kV)))(ry:RelV y u) :
  KT H (putK kvs k y) (storedH xs k b u):=by
 have e:(kvs.any fun kv=>decide (kv.1=k))=(atKey xs k).isSome:=by
  rw[ZB,(r.val k).isSome_eq,Option.isSome_map]
 unfold putK storedH;rw[e];by_cases q:(atKey xs k).isSome=true
 ·rw[if_pos q,if_pos q];exact r.repl k ry
 ·rw[if_neg q,if_neg q];exact Paired.snoc r ⟨rfl,hb,ry⟩
theorem KT.keeps{H H':Hp}{kvs:List (List Key×V)}{xs:List (List Key×Addr×Value)}(r:KT H kvs xs)(ht:∀b ys,H b=some (.tup ys)->H' b=some (.tup ys)):KT H' kvs xs:=
 Paired.mapP r fun _ _ z=>⟨z.1,ht _ _ z.2.1,z.2.2⟩
section
variable{P:Program}{w:World}{H:Hp}{h:Heap}{a:Addr}
theorem j4a{u:HO}(ok:HOk P w H h)(e:Rd H a u):ObjOk P w H h a u:=e.ok ok
theorem XU{kvs:List (Key×V)}(ok:HOk P w H h)(e:Rd H a (.dK kvs)):kvs.length<=sizeLine/\(a==sysModules)=false/\∃vs,KV kvs vs/\h.DictOf (mixKind P w) a vs:=
 show ObjOk P w H h a (.dK kvs)from j4a ok e
theorem kh{kvs:List (Key×V)}(ok:HOk P w H h)(e:H a=some (.dK kvs)):kvs.length<=sizeLine/\(a==sysModules)=false/\∃vs,KV kvs vs/\h.DictOf (mixKind P w) a vs:=XU ok (.inl e)
theorem kz{ks:List Key}(ok:HOk P w H h)(e:H a=some (.tup (ks.map kV))):(tupleKind (mixKind P w)).is h ks a:=by
 obtain⟨_,its,r,o,h1,h2,n,h3⟩:=(show ObjOk P w H h a (.tup (ks.map kV))from ok a _ e)
 exact⟨o,its.toArray,n,h1,h2,h3,by simpa using KS r⟩
theorem XX{kvs:List (List Key×V)}(ok:HOk P w H h)(e:Rd H a (.dT kvs)):kvs.length<=sizeLine/\(a==sysModules)=false/\
  ∃xs,KT H kvs xs/\h.DictOfH (tupleKind (mixKind P w)) a xs:=by
 obtain⟨z,y,xs,r,o,es,ep,h1,h2,h3,h4,h5⟩:=(show ObjOk P w H h a (.dT kvs)from j4a ok e)
 refine⟨z,y,xs,r,o,es,ep,h1,h2,h3,h4,fun x hx=>?_,h5⟩;have all:∀{l:List (List Key×V)} {m:List (List Key×Addr×Value)},KT H l m->∀x∈m,(tupleKind (mixKind P w)).is h x.1 x.2.1:=by
  intro l m q
  induction q with
  | nil=>intro x hx;exact nomatch hx
  | @cons p q ps qs hq t ih=>
   intro x hx;rcases mem_cons.mp hx with e | hx
   ·subst e;exact kz ok (by rw[<-hq.1];exact hq.2.1)
   ·exact ih x hx
 exact all r x hx
theorem j58{kvs:List (List Key×V)}(ok:HOk P w H h)(e:H a=some (.dT kvs)):kvs.length<=sizeLine/\(a==sysModules)=false/\
  ∃xs,KT H kvs xs/\h.DictOfH (tupleKind (mixKind P w)) a xs:=XX ok (.inl e)
end
def DGet(H:Hp)(a:Addr)(y:V)(r:Option V):Prop:=
 (∃kvs k,Rd H a (.dK kvs)/\y=kV k/\r=valV kvs k)\/∃kvs k b,Rd H a (.dT kvs)/\y = .ref b/\H b=some (.tup (k.map kV))/\r=valV kvs k
def DPut(H:Hp)(a:Addr)(y v:V)(H':Hp):Prop:=
 (∃kvs k,H a=some (.dK kvs)/\y=kV k/\kvs.length<sizeLine/\H'=upd H a (.dK (putK kvs k v)))\/
 ∃kvs k b,H a=some (.dT kvs)/\y = .ref b/\H b=some (.tup (k.map kV))/\kvs.length<sizeLine/\H'=upd H a (.dT (putK kvs k v))
theorem DGet.k{H:Hp}{a:Addr}{kvs:List (Key×V)}{k:Key}(e:H a=some (.dK kvs)):DGet H a (kV k) (valV kvs k):=.inl ⟨kvs,k,.inl e,rfl,rfl⟩
theorem DPut.k{H:Hp}{a:Addr}{kvs:List (Key×V)}{k:Key}{v:V}(e:H a=some (.dK kvs))(hl:kvs.length<sizeLine):DPut H a (kV k) v (upd H a (.dK (putK kvs k v))):=.inl ⟨kvs,k,e,rfl,hl,rfl⟩
section
variable{X:Cx}{pins:List (Addr×Obj)}{σ:St}{H:Hp}{s:Shared}{a:Addr}{y v:V}{u r:Value}{o:Option V}{A:Around}{E:Value->Shared->Prop}
theorem Inv.big(I:Inv X pins σ H s):sysModules<s.heap.objs.size:=by
 have h:mainGlobals<s.heap.objs.size:=(I.mod.glob.keeps I.bk).lt;exact Nat.lt_trans (by decide) h
theorem KP{Q:Value->Shared->Prop}(hu:A.units+1<cLine)(I:Inv X pins σ H s)(g:DGet H a y (some v))(ry:RelV y u)(h:∀w' s',Inv X pins σ H s'->RelV v w'->Q w' s') :
  wpAny (model X.prog X.w) A (getItem (.ref a) u) Q E s:=by
 rcases g with⟨kvs,k,e,ey,l⟩ | ⟨kvs,k,b,e,ey,eb,l⟩
 ·subst ey;obtain⟨z,hd,vs,rel,dd⟩:=XU I.hok e;obtain⟨w',hw,rw'⟩:=RelO.some_of (v:=v) (o:=valueAt vs k) (by rw[l];exact rel.val k);exact wpAny_getItem_of (KU ry) dd.mapOf hw (h w' _ (I.tok _) rw')
 ·subst ey;cases(show u=Value.ref b from ry);obtain⟨z,hd,xs,rel,dd⟩:=XX I.hok e;obtain⟨w',hw,rw'⟩:=RelO.some_of (v:=v) (o:=(atKey xs k).map (·.2)) (by rw[l];exact rel.val k);obtain⟨p,hp,hp2⟩:=Option.map_eq_some_iff.mp hw;refine wpAny_getItem_heap (tupleKind_room_in1 hu) (kz I.hok eb) dd hp ?_;rw[hp2];exact h w' _ (I.tok _) rw'
theorem j5j{Q:Value->Shared->Prop}(hu:A.units+1<cLine)(I:Inv X pins σ H s)(g:DGet H a y o)(ry:RelV y u)(h:∀s',Inv X pins σ H s'->Q (.bool o.isSome) s') :
  wpAny (model X.prog X.w) A (compareOp .In u (.ref a)) Q E s:=by
 rcases g with⟨kvs,k,e,ey,l⟩ | ⟨kvs,k,b,e,ey,eb,l⟩
 ·subst ey;obtain⟨z,hd,vs,rel,dd⟩:=XU I.hok e;refine wpAny_in_of (KU ry) hd dd.mapOf ?_;rw[<-(rel.val k).isSome_eq,<-l];exact h _ (I.tok _)
 ·subst ey;cases(show u=Value.ref b from ry);obtain⟨z,hd,xs,rel,dd⟩:=XX I.hok e;refine wpAny_in_heap (tupleKind_room_in1 hu) (kz I.hok eb) hd dd ?_;have q:=(rel.val k).isSome_eq;rw[Option.isSome_map]at q;rw[<-q,<-l];exact h _ (I.tok _)
theorem yB{h':Heap}{t':Nat}{ob:HO}(I:Inv X pins σ H s)(mu:Mut (H a))(hs:Heap.SameBut a s.heap h')(he:∃q,h'.get? a=some q)(new:ObjOk X.prog X.w (upd H a ob) h' a ob) :
  Inv X pins σ (upd H a ob) {s with heap:=h',toks:=t'}:=
 I.write (x:=a) (e:=a) mu (.inl rfl) (fun b q hb z=>(hs.2 b hb).trans z) he new
theorem wC{P:Program}{w:World}{H':Hp}{h':Heap}{kvs:List (Key×V)}{vs:List (Key×Value)}(z:kvs.length<=sizeLine)(hd:(a==sysModules)=false)(rel:KV kvs vs)(dd:h'.DictOf (mixKind P w) a vs) :
  ObjOk P w H' h' a (.dK kvs):=⟨z,hd,vs,rel,dd⟩
theorem j0N{H':Hp}{Q:Unit->Shared->Prop}(hu:A.units+1<cLine)(I:Inv X pins σ H s)(g:DPut H a y v H')(ry:RelV y u)(rv:RelV v r)(h:∀s',Inv X pins σ H' s'->Q () s') :
  wpAny (model X.prog X.w) A (setItem (.ref a) u r) Q E s:=by
 rcases g with⟨kvs,k,e,ey,l,eH⟩ | ⟨kvs,k,b,e,ey,eb,l,eH⟩
 ·subst ey eH;obtain⟨z,hd,vs,rel,dd⟩:=kh I.hok e;have hz:vs.length<=sizeLine:=by rw[<-rel.length];exact z
  have hl:(putK kvs k v).length<=sizeLine:=by have:=Zn kvs k v;omega
  refine wpAny_setItem_pairs (hsz:=hz) (KU ry) dd fun h' dd' hs=>h _ ?_
  have he:∃q,h'.get? a=some q:=let ⟨q,_,_,hq,_⟩:=dd';⟨q,hq⟩;exact yB I (by rw[e];exact True.intro) hs he (wC hl hd (rel.put k rv) dd')
 ·subst ey eH;cases(show u=Value.ref b from ry);obtain⟨z,hd,xs,rel,dd⟩:=j58 I.hok e;have hz:xs.length<=sizeLine:=by rw[<-Paired.length rel];exact z
  have hl:(putK kvs k v).length<=sizeLine:=by have:=Zn kvs k v;omega
  refine wpAny_setItem_heap (hsz:=hz) (tupleKind_room_in1 hu) (kz I.hok eb) dd fun h' dd' hs=>h _ ?_
  obtain⟨q,es,ep,hq,h2,h3,h4,_,h5⟩:=dd';refine yB I (by rw[e];exact True.intro) hs ⟨q,hq⟩ ⟨hl,hd,_,(rel.put k eb rv).keeps fun c ys ec=>?_,q,es,ep,hq,h2,h3,h4,h5⟩;rw[jo (qw ec e (fun z=>nomatch z))];exact ec
end
section
variable{X:Cx}{pins:List (Addr×Obj)}{σ:St}{H:Hp}{s:Shared}{a:Addr}{kvs:List (Key×V)}{k:Key}{u:Value}{A:Around}{E:Value->Shared->Prop}
end
def NoSl(i:Expr):Prop:=∀ov iv,subscripted i false ov iv=operate [ov,iv] (getItem ov iv)
theorem j3R{prog:Program}{w:World}{A:Around}{E:Value->Shared->Prop}{s:Shared}{env:Env}{value slice:Expr}{pos:Pos}{T id:String}{Q:Value->Shared->Prop}
  (hl:typeLookup (.type T) "__getitem__"= pure (some (.builtin id))) (hs:NoSl slice)
  (h:wpAny (model prog w) A (eval value env) (fun o s₁=>wpAny (model prog w) A (eval slice env) (fun i s₂=>s₂.TypeIs o T/\wpAny (model prog w) A (getItem o i) Q E s₂) E s₁) E s) :
  wpAny (model prog w) A (eval (.Subscript value slice pos) env) Q E s:=by
 refine Subscript_ (wpAny_mono h (fun o s₁ h₁=>wpAny_mono h₁ (fun i s₂ h₂=>?_) fun _ _ x=>x) fun _ _ x=>x);obtain⟨hT,h₂⟩:=h₂;unfold subscriptTail;refine wpAny_bind ?_;rw[getitemInPython_of_ne hT.not_modules];refine wpAny_bind (wpAny_specialOf hT hl ?_);have fin:wpAny (model prog w) A (subscripted slice false o i) (fun r s₃=>wpAny (model prog w) A (letTemporaryGo value o r >>= fun _=>pure r) Q E s₃) E s₂:=by
  rw[hs o i];exact wpAny_operating (wpAny_mono h₂ (fun r s₃ h₃=>wpAny_bind (wpAny_letTemporaryGo (wpAny_pure h₃))) fun _ _ x=>x)
 first
  | exact wpAny_pure (wpAny_bind fin)
  | exact wpAny_bind (wpAny_pure (wpAny_bind fin))
  | exact wpAny_bind fin
theorem Yy{X:Cx}{pins:List (Addr×Obj)}{σ:St}{H:Hp}{s:Shared}{a:Addr}{y:V}{o:Option V}(I:Inv X pins σ H s)(g:DGet H a y o):s.TypeIs (.ref a) "dict":=by
 rcases g with⟨kvs,k,e,_,_⟩ | ⟨kvs,k,b,e,_,_,_⟩
 ·obtain⟨_,_,vs,_,dd⟩:=XU I.hok e;exact dd.typeIs
 ·obtain⟨_,_,xs,_,dd⟩:=XX I.hok e;exact dd.typeIs
def tDGet(td ty:TE):TE:=fun σ H Q=>td σ H fun x H1=>ty σ H1 fun y H2=>∃a v,x = .ref a/\DGet H2 a y (some v)/\Q v H2
def tDIn(ty td:TE):TE:=fun σ H Q=>ty σ H fun y H1=>td σ H1 fun x H2=>∃a o,x = .ref a/\DGet H2 a y o/\Q (.bl o.isSome) H2
def sDPut(td ty tv:TE):TS:=fun D σ H=>tv σ H fun v H1=>td σ H1 fun x H2=>ty σ H2 fun y H3=>∃a H4,x = .ref a/\DPut H3 a y v H4/\D.nx σ H4
section
variable{X:Cx}{o i e value:Expr}{pos pos' tpos:Pos}{td ty tv:TE}
theorem jF(hu:X.A.units+1<cLine)(ho:PE X o td)(hi:PE X i ty)(hs:NoSl i:=by exact fun _ _=>rfl):PE X (.Subscript o i pos) (tDGet td ty):=by
 intro pins s σ H Q I h;refine j3R PySem.F.slot_dict_getitem.lookup hs (thn (ho pins s σ H _ I h) fun u s1 ⟨x,H1,I1,rx,q1⟩=>thn (hi pins s1 σ H1 _ I1 q1) fun iv s2 ⟨y,H2,I2,ry,a,v,ex,g,q2⟩=>?_);subst ex;obtain rfl:u=Value.ref a:=rx;exact⟨Yy I2 g,KP hu I2 g ry fun w' s3 I3 rw'=>⟨v,H2,I3,rw',q2⟩⟩
theorem Wa(hu:X.A.units+1<cLine)(hi:PE X i ty)(ho:PE X o td):PC X .In i o (tDIn ty td):=by
 intro pins s σ H Q I h;refine thn (hi pins s σ H _ I h) fun iv s1 ⟨y,H1,I1,ry,q1⟩=>thn (ho pins s1 σ H1 _ I1 q1) fun u s2 ⟨x,H2,I2,rx,a,ov,ex,g,q2⟩=>?_
 subst ex;obtain rfl:u=Value.ref a:=rx;exact j5j hu I2 g ry fun s3 I3=>⟨.bl ov.isSome,H2,I3,rfl,q2⟩
theorem ZR(hu:X.A.units+1<cLine)(ho:PE X o td)(hi:PE X i ty)(hv:PE X value tv)(hs:swapsWith value (some (.Subscript o i pos')) pos.line X.env=pure false) :
  PS X (.Assign [.Subscript o i pos'] value pos) (sDPut td ty tv):=by
 intro pins s σ H D I h;refine wpAny_Assign_Subscript (thn (hv pins s σ H _ I h) fun r s1 ⟨v,H1,I1,rv,q1⟩=>thn (ho pins s1 σ H1 _ I1 q1) fun u s2 ⟨x,H2,I2,rx,q2⟩=>thn (hi pins s2 σ H2 _ I2 q2) fun iv s3 ⟨y,H3,I3,ry,a,H4,ex,g,q3⟩=>?_) hs;subst ex;obtain rfl:u=Value.ref a:=rx;exact j0N hu I3 g ry rv fun s4 I4=>⟨σ,H4,I4,q3⟩
end
theorem WG{P:Program}{w:World}{H:Hp}(h:Heap)(hb:sysModules<h.objs.size):ObjOk P w H (h.push {cls:=.type "dict",data:=.dict #[]}) h.objs.size (.dK []):=
 ⟨Nat.zero_le _,beq_eq_false_iff_ne.mpr (Ne.symm (Nat.ne_of_lt hb)),[],.nil,Heap.DictOf.new h⟩
def tDNewK:TE:=fun _ H Q=>∀p,H p=none->Q (.ref p) (upd H p (.dK []))
section
variable{X:Cx}{pos:Pos}
theorem Zr:PE X (.Dict [] [] pos) tDNewK:=fun pins s σ H Q I h=>
 wpAny_Dict_empty ⟨.ref s.heap.objs.size,_,I.laid (a:=s.heap.objs.size) (o:=.dK []) (t':=s.toks) (fun _ _ q=>Heap.get?_push_of_some _ q) (Nat.le_refl _) (WG s.heap I.big),rfl,h _ (I.hok.fresh (Nat.le_refl _))⟩
end
noncomputable def tPairs:List (TE×TE)->St->Hp->(List (V×V)->Hp->Prop)->Prop
 | [],_,H,Q=>Q [] H
 | (tk,tv)::r,σ,H,Q=>tk σ H fun x H1=>tv σ H1 fun y H2=>tPairs r σ H2 fun ps H3=>Q ((x,y)::ps) H3
noncomputable abbrev VV:List (V×V)->List (Value×Value)->Prop:=Paired fun p q=>RelV p.1 q.1/\RelV p.2 q.2
def PPs(X:Cx)(pos:Pos)(keys:List (Option Expr))(values:List Expr)(trs:List (TE×TE)):Prop:=
 ∀(pins:List (Addr×Obj)) (s:Shared) (σ:St) (H:Hp) (Q:List (V×V)->Hp->Prop),Inv X pins σ H s->tPairs trs σ H Q->
  wpAny (model X.prog X.w) X.A (evalPairs (pairTrees keys values X.env pos)) (fun vs s'=>∃ps H',Inv X pins σ H' s'/\VV ps vs/\Q ps H') X.xe s
theorem j0h{X:Cx}{pos:Pos}:PPs X pos [] [] []:=fun pins s σ H Q I h=>pairTrees_nil_walk ⟨[],H,I,.nil,h⟩
theorem zA{X:Cx}{pos:Pos}{k v:Expr}{ks:List (Option Expr)}{vs:List Expr}{tk tv:TE}{trs:List (TE×TE)}(hk:PE X k tk)(hv:PE X v tv)(hr:PPs X pos ks vs trs) :
  PPs X pos (some k::ks) (v::vs) ((tk,tv)::trs):=fun pins s σ H Q I h=>
 pairTrees_cons_walk (thn (hk pins s σ H _ I h) fun u s1 ⟨x,H1,I1,rx,q1⟩=>thn (hv pins s1 σ H1 _ I1 q1) fun w2 s2 ⟨y,H2,I2,ry,q2⟩=>
  thn (hr pins s2 σ H2 _ I2 q2) fun ws s3 ⟨ps,H3,I3,rel,q3⟩=>⟨(x,y)::ps,H3,I3,.cons ⟨rx,ry⟩ rel,q3⟩)
noncomputable def mergeK(kvs more:List (Key×V)):List (Key×V):=more.foldl (fun acc kv=>putK acc kv.1 kv.2) kvs
theorem KV.merge:∀{more:List (Key×V)} {rs:List (Key×Value)} {kvs:List (Key×V)} {vs:List (Key×Value)},KV more rs->KV kvs vs->KV (mergeK kvs more) (merged vs rs):=by
 intro more rs kvs vs r;unfold KV at r
 induction r generalizing kvs vs with
 | nil=>intro q;exact q
 | @cons p q ps qs h t ih=>
  intro r0;have e:KV (putK kvs p.1 p.2) (stored vs q.1 q.2):=by
   have:=r0.put p.1 h.2;rw[<-h.1];exact this
  exact ih e
theorem Qe:∀(more kvs:List (Key×V)),(mergeK kvs more).length<=kvs.length+more.length
 | [],kvs=>by show kvs.length<=kvs.length+0;omega
 | p::r,kvs=>by
  have h1:=Qe r (putK kvs p.1 p.2);have h2:=Zn kvs p.1 p.2;show(mergeK (putK kvs p.1 p.2) r).length<=_;rw[length_cons];omega
theorem Y9{P:Program}{w:World}:∀{kvs:List (Key×V)} {ws:List (Value×Value)},VV (kvs.map fun kv=>(kV kv.1,kv.2)) ws->∃rs,Carries (mixKind P w) ws rs/\KV kvs rs
 | [],_,r=>by rw[map_nil]at r;cases r;exact⟨[],True.intro,.nil⟩
 | p::kvs,_,r=>by
  rw[map_cons]at r;cases r with
  | @cons a b as bs h t=>
   obtain⟨rs,c,q⟩:=Y9 (P:=P) (w:=w) t;obtain⟨b1,b2⟩:=b;exact⟨(p.1,b2)::rs,⟨KU h.1,rfl,c⟩,.cons ⟨rfl,h.2⟩ q⟩
def tDisp(trs:List (TE×TE)):TE:=fun σ H Q=>∀p,H p=none->tPairs trs σ (upd H p (.dK [])) fun ps H2=>H2 p=some (.dK [])/\∃kvs:List (Key×V),ps=kvs.map (fun kv=>(kV kv.1,kv.2))/\kvs.length<=15/\Q (.ref p) (upd H2 p (.dK (mergeK [] kvs)))
theorem j0e{X:Cx}{pos:Pos}{keys:List (Option Expr)}{values:List Expr}{trs:List (TE×TE)}(h:PPs X pos keys values trs)(hall:keys.all (·.isSome)=true)(hl:keys.length=values.length)(h0:keys≠[])
  (h15:keys.length<=15):PE X (.Dict keys values pos) (tDisp trs):=by
 intro pins s σ H Q I q;have hn:=I.hok.fresh (Nat.le_refl s.heap.objs.size);have I1:=I.laid (a:=s.heap.objs.size) (o:=.dK []) (h':=s.heap.push {cls:=.type "dict",data:=.dict #[]}) (t':=s.toks) (fun _ _ q=>Heap.get?_push_of_some _ q) (Nat.le_refl _) (WG s.heap I.big);refine wpAny_Dict_walk (knd:=mixKind X.prog X.w) hall hl h0 h15 (thn (h pins _ σ _ _ I1 (q _ hn)) fun ws s2 ⟨ps,H2,I2,rel,e,kvs,ep,lk,q2⟩=>?_);subst ep;obtain⟨rs,c,rk⟩:=Y9 (P:=X.prog) (w:=X.w) rel;obtain⟨z,hd,vs0,r0,dd⟩:=kh I2.hok e;cases r0;refine⟨rs,c,dd,fun h' dd' hs=>⟨.ref s.heap.objs.size,_,?_,rfl,q2⟩⟩;have hz:(mergeK [] kvs).length<=sizeLine:=by
  have h1:=Qe kvs [];rw[length_nil]at h1;rw[sizeLine_eq];omega
 have he:∃q,h'.get? s.heap.objs.size=some q:=let ⟨q,_,_,hq,_⟩:=dd';⟨q,hq⟩;exact yB I2 (by rw[e];exact True.intro) hs he (wC hz hd (rk.merge .nil) dd')
section
variable{X:Cx}{pins:List (Addr×Obj)}{σ:St}{H:Hp}{s:Shared}{a:Addr}{y d:V}{u r:Value}{o:Option V}{A:Around}{E:Value->Shared->Prop}
end
section
variable{X:Cx}{o e f:Expr}{apos cpos:Pos}{td ty tx:TE}
end
section
variable{X:Cx}{pins:List (Addr×Obj)}{σ:St}{H:Hp}{s:Shared}{a:Addr}{kvs:List (Key×V)}{A:Around}{E:Value->Shared->Prop}
end
section
variable{X:Cx}{pins:List (Addr×Obj)}{σ:St}{H:Hp}{s:Shared}{a:Addr}{y:V}{u:Value}{A:Around}{E:Value->Shared->Prop}
end
section
variable{X:Cx}
end
section
variable{κ:Type}[DecidableEq κ]
theorem j2X{kvs:List (κ×V)}{k:κ}(h:valV kvs k=none):¬k∈kvs.map (·.1):=by
 intro m;obtain⟨p,hp,e⟩:=mem_map.mp m;have q:(kvs.any fun kv=>decide (kv.1=k))=true:=any_eq_true.mpr ⟨p,hp,decide_eq_true e⟩;rw[ZB,h]at q;exact absurd q (by simp)
theorem j3V{kvs:List (κ×V)}{k:κ}{v:V}(h:valV kvs k=some v):k∈kvs.map (·.1):=by
 have q:(kvs.any fun kv=>decide (kv.1=k))=true:=by
  rw[ZB,h]
  all_goals rfl
 obtain⟨p,hp,e⟩:=any_eq_true.mp q;exact mem_map.mpr ⟨p,hp,of_decide_eq_true e⟩
end
theorem compLoopT{prog:Program}{w:World}{A:Around}{R:Result->Shared->Prop}{s:Shared}{elt target iter:Expr}{ifs:List Expr}{scope:Scope}{pos:Pos}{it acc:Value}{env:Env}(I:Nat->Shared->Prop)
  (turn:∀n s,I n s->wpAny (model prog w) A (pyNext it) (fun r s₁=>match r with
   | none=>R (.ok .next) s₁
   | some v=>wpAny (model prog w) A (letOwnedTupleGo target it v) (fun _ s₂=>wpAny (model prog w) A (assign target env v) (fun _ s₃=>
     wpAny (model prog w) A (forIn ifs true fun c r=>if r=true then do let ok <-isTrue c env (eval c env);pure (ForInStep.yield ok)else pure (ForInStep.yield r)) (fun ok s₄=>
      if ok=true then wpAny (model prog w) A (eval elt env) (fun x s₅=>
       wpAny (model prog w) A (call (.builtin "list.append") [acc,x]) (fun _ s₆=>∃m,m<n/\I m s₆) (fun _ _=>False) s₅) (fun _ _=>False) s₄
      else∃m,m<n/\I m s₄) (fun _ _=>False) s₃) (fun _ _=>False) s₂) (fun _ _=>False) s₁) (fun _ _=>False) s)
  (n:Nat) (h:I n s) :
  codeAny (model prog w) A (.compLoop (.ListComp elt [⟨target,iter,ifs,0⟩] scope pos) 0 it acc env) R s:=by
 refine codeAny_loop rfl I (fun n s hI=>?_) n h;show wpAny _ A ((compTurn (.ListComp elt [⟨target,iter,ifs,0⟩] scope pos) 0 it acc env).onRaise (fun x=>do noteFrame x env;theTreesLotGoes x)) _ _ s;refine wpAny_noted ?_;rw[compTurn_list];refine wpAny_bind (wpAny_standAt (wpAny_bind (wpAny_mono (turn n s hI) (fun r s₁ h₁=>?_) fun _ _ h'=>h'.elim)));cases r with
 | none=>exact wpAny_pure h₁
 | some v=>
  refine wpAny_bind (wpAny_mono h₁ (fun _ s₂ h₂=>?_) fun _ _ h'=>h'.elim);refine wpAny_bind (wpAny_mono h₂ (fun _ s₃ h₃=>wpAny_bind (wpAny_mono h₃ (fun ok s₄ h₄=>?_) fun _ _ h'=>h'.elim)) fun _ _ h'=>h'.elim);cases ok with
  | false=>exact wpAny_pure ⟨rfl,h₄⟩
  | true=>
   exact wpAny_bind (wpAny_bind (wpAny_mono h₄ (fun x s₅ h₅=>wpAny_bind (wpAny_mono h₅ (fun _ s₆ h₆=>wpAny_pure (wpAny_pure ⟨rfl,h₆⟩)) fun _ _ h'=>h'.elim)) fun _ _ h'=>h'.elim))
def PF(X:Cx)(ifs:List Expr)(t:TT):Prop:=
 ∀(pins:List (Addr×Obj)) (s:Shared) (σ:St) (H:Hp) (Q:Bool->Hp->Prop),Inv X pins σ H s->t σ H Q->
  wpAny (model X.prog X.w) X.A (forIn ifs true fun c r=>if r=true then do let ok <-isTrue c X.env (eval c X.env);pure (ForInStep.yield ok)else pure (ForInStep.yield r)) (TP X pins σ Q) X.xe s
def tYes:TT:=fun _ H Q=>Q true H
theorem Jy{X:Cx}:PF X [] tYes:=fun _ _ _ H _ I h=>wpAny_tests_nil ⟨H,I,h⟩
theorem kR{X:Cx}{c:Expr}{t:TT}(hc:PT X c t):PF X [c] t:=fun pins s σ H Q I h=>wpAny_tests_one (hc pins s σ H Q I h)
noncomputable def closL(env:Env):List (Str×NameKind)->List (Str×Addr)->List (Str×Addr)
 | [],acc=>acc
 | (n,k)::r,acc=>closL env r (if k == .free then(n,(env.cells.lookup n).getD 0)::acc else acc)
theorem yx{scope:Scope}{env:Env}(h:∀y∈scope.names,y.2 = .free->∃c,env.cells.lookup y.1=some c):closureFor scope env=pure (closL env scope.names []):=by
 have go:∀(names:List (Str×NameKind)) (acc:List (Str×Addr)),(∀y∈names,y.2 = .free->∃c,env.cells.lookup y.1=some c)->
   (forIn (m:=Sem) names acc fun x r=>(match x with | (name,kind)=>if(kind == .free)=true then do let a <-cellOf env name;pure (ForInStep.yield ((name,a)::r))else pure (ForInStep.yield r)))=pure (closL env names acc):=by
  intro names
  induction names with
  | nil=>intro acc _;rfl
  | cons y r ih=>
   obtain⟨n,k⟩:=y;intro acc hh;rw[forIn_cons];cases hk:(k==NameKind.free)with
   | true=>
    have hk':k = .free:=by simpa using hk
    obtain⟨c,hc⟩:=hh (n,k) mem_cons_self hk';have ec:cellOf env n=pure c:=by unfold cellOf;rw[hc]
    simp only[hk,if_true,ec,pure_bind,closL,hc,Option.getD_some];exact ih _ fun y hy=>hh y (mem_cons_of_mem _ hy)
   | false=>
    simp only[hk,Bool.false_eq_true,if_false,pure_bind,closL];exact ih _ fun y hy=>hh y (mem_cons_of_mem _ hy)
 have g:=go scope.names [] h;unfold closureFor;simp only[g,pure_bind]
theorem KO{env:Env}:∀(names:List (Str×NameKind)) (acc:List (Str×Addr)),(∀y∈names,y.2 = .free->∃c,env.cells.lookup y.1=some c)->(∀x c,acc.lookup x=some c->env.cells.lookup x=some c)->
  ∀x c,(closL env names acc).lookup x=some c->env.cells.lookup x=some c
 | [],_,_,ha,x,c,h=>ha x c h
 | (n,k)::r,acc,hh,ha,x,c,h=>by
  refine KO r _ (fun y hy=>hh y (mem_cons_of_mem _ hy)) (fun x c e=>?_) x c h;cases hk:(k==NameKind.free)with
  | false=>rw[hk]at e;exact ha x c e
  | true=>
   rw[hk]at e;have hk':k = .free:=by simpa using hk
   obtain⟨c',hc⟩:=hh (n,k) mem_cons_self hk';simp only[if_true,hc,Option.getD_some]at e;rw[lookup_cons]at e;cases hx:(x==n)with
   | true=>
    rw[hx]at e;have:x=n:=by simpa using hx
    rw[this,hc];exact e
   | false=>rw[hx]at e;exact ha x c e
theorem KN{env:Env}:∀(names:List (Str×NameKind)) (acc:List (Str×Addr)) (x:Str),(∃c,acc.lookup x=some c)->∃c,(closL env names acc).lookup x=some c
 | [],_,_,h=>h
 | (n,k)::r,acc,x,h=>by
  refine KN r _ x ?_;cases hk:(k==NameKind.free)with
  | false=>exact h
  | true=>
   simp only[if_true];rw[lookup_cons];cases hx:(x==n)with
   | true=>exact⟨_,rfl⟩
   | false=>exact h
theorem y6{env:Env}:∀(names:List (Str×NameKind)) (acc:List (Str×Addr)) (x:Str),(x,NameKind.free)∈names->∃c,(closL env names acc).lookup x=some c
 | [],_,_,h=>by simp at h
 | (n,k)::r,acc,x,h=>by
  rcases mem_cons.mp h with e | h
  ·cases e;refine KN r _ _ ?_;simp
  ·exact y6 r _ x h
theorem QS{env:Env}:∀{names:List (Str×NameKind)} {x:Str} {k:NameKind},(names.map fun(n,k)=>if(k==NameKind.free&&env.scope.kind == .function&&env.kindOf n==some .cell)then(n,NameKind.cell)else(n,k)).lookup x=some k->
  ∃k',(x,k')∈names/\names.lookup x=some k'/\(k'=k\/(k' = .free/\k = .cell))
 | [],_,_,h=>by simp at h
 | (n,k₀)::r,x,k,h=>by
  have ih:=@QS env r x k;rw[map_cons]at h;dsimp only at h;cases hx:x==n with
  | true=>
   have e:x=n:=by simpa using hx
   subst e;refine⟨k₀,mem_cons_self,by simp,?_⟩;by_cases hc:(k₀==NameKind.free&&env.scope.kind == .function&&env.kindOf x==some .cell)=true
   ·rw[if_pos hc]at h;simp only[lookup_cons,beq_self_eq_true]at h;simp only[Bool.and_eq_true,beq_iff_eq]at hc;exact .inr ⟨hc.1.1,(Option.some.inj h).symm⟩
   ·rw[if_neg hc]at h;simp only[lookup_cons,beq_self_eq_true]at h;exact .inl (Option.some.inj h)
  | false=>
   have h':(r.map fun(n,k)=>if(k==NameKind.free&&env.scope.kind == .function&&env.kindOf n==some .cell)then(n,NameKind.cell)else(n,k)).lookup x=some k:=by
    by_cases hc:(k₀==NameKind.free&&env.scope.kind == .function&&env.kindOf n==some .cell)=true
    ·rw[if_pos hc]at h;simpa only[lookup_cons,hx]using h
    ·rw[if_neg hc]at h;simpa only[lookup_cons,hx]using h
   obtain⟨k',h1,h2,h3⟩:=ih h';exact⟨k',mem_cons_of_mem _ h1,by simpa only[lookup_cons,hx]using h2,h3⟩
theorem y4:∀(names:List (Str×NameKind)) (n:Nat) (acc:List (Str×Addr)) (x:Str) (c:Addr),(cellsFrom n names acc).lookup x=some c->n<=c\/acc.lookup x=some c
 | [],_,_,_,_,h=>.inr h
 | (y,k)::r,n,acc,x,c,h=>by
  unfold cellsFrom at h;split at h
  ·rcases y4 r (n+1) _ x c h with q | q
   ·exact .inl (by omega)
   ·rw[lookup_cons]at q;cases hx:x==y with
    | true=>rw[hx]at q;cases q;exact .inl (Nat.le_refl _)
    | false=>rw[hx]at q;exact .inr q
  ·exact y4 r n acc x c h
theorem xJ:∀(names:List (Str×NameKind)) (n:Nat) (acc:List (Str×Addr)),(∀x c,acc.lookup x=some c->c<n)->(∀x y c,acc.lookup x=some c->acc.lookup y=some c->x=y)->
  ∀x y c,(cellsFrom n names acc).lookup x=some c->(cellsFrom n names acc).lookup y=some c->x=y
 | [],_,_,_,hi,x,y,c,h1,h2=>hi x y c h1 h2
 | (z,k)::r,n,acc,hb,hi,x,y,c,h1,h2=>by
  unfold cellsFrom at h1 h2;split at h1
  ·rename_i hk;rw[if_pos hk]at h2;refine xJ r (n+1) _ (fun x c e=>?_) (fun x y c e1 e2=>?_) x y c h1 h2
   ·rw[lookup_cons]at e;cases hx:x==z with
    | true=>rw[hx]at e;cases e;exact Nat.lt_succ_self _
    | false=>rw[hx]at e;exact Nat.lt_succ_of_lt (hb x c e)
   ·rw[lookup_cons]at e1 e2;cases hx:x==z with
    | true=>
     rw[hx]at e1;cases e1;cases hy:y==z with
     | true=>rw[beq_iff_eq.mp hx,beq_iff_eq.mp hy]
     | false=>rw[hy]at e2;exact absurd (hb y n e2) (Nat.lt_irrefl _)
    | false=>
     rw[hx]at e1;cases hy:y==z with
     | true=>rw[hy]at e2;cases e2;exact absurd (hb x n e1) (Nat.lt_irrefl _)
     | false=>rw[hy]at e2;exact hi x y c e1 e2
  ·rename_i hk;rw[if_neg hk]at h2;exact xJ r n acc hb hi x y c h1 h2
theorem wA:∀(names:List (Str×NameKind)) (n:Nat) (acc:List (Str×Addr)) (x:Str),(∃c,acc.lookup x=some c)->∃c,(cellsFrom n names acc).lookup x=some c
 | [],_,_,_,h=>h
 | (y,k)::r,n,acc,x,h=>by
  unfold cellsFrom;split
  ·refine wA r (n+1) _ x ?_;rw[lookup_cons];cases hx:x==y with
   | true=>exact⟨_,rfl⟩
   | false=>exact h
  ·exact wA r n acc x h
theorem xI:∀(names:List (Str×NameKind)) (n:Nat) (acc:List (Str×Addr)) (x:Str),(x,NameKind.cell)∈names->∃c,(cellsFrom n names acc).lookup x=some c
 | [],_,_,_,h=>by simp at h
 | (y,k)::r,n,acc,x,h=>by
  unfold cellsFrom;rcases mem_cons.mp h with e | h
  ·cases e;simp only[beq_self_eq_true,if_true];exact wA r _ _ _ (by simp)
  ·split
   ·exact xI r _ _ x h
   ·exact xI r _ _ x h
theorem xL:∀(names:List (Str×NameKind)) (n:Nat) (acc:List (Str×Addr)) (x:Str),(x,NameKind.cell)∉names->(cellsFrom n names acc).lookup x=acc.lookup x
 | [],_,_,_,_=>rfl
 | (y,k)::r,n,acc,x,h=>by
  have hr:(x,NameKind.cell)∉r:=fun q=>h (mem_cons_of_mem _ q)
  unfold cellsFrom;split
  ·rename_i hk;rw[xL r _ _ x hr,lookup_cons];cases hx:x==y with
   | true=>rw[beq_iff_eq.mp hx,beq_iff_eq.mp hk]at h;exact absurd mem_cons_self h
   | false=>rfl
  ·exact xL r n acc x hr
theorem xK:∀(names:List (Str×NameKind)) (n₀ n:Nat) (acc:List (Str×Addr)) (x:Str) (c:Addr),n₀<=n->((x,NameKind.cell)∈names\/∀c,acc.lookup x=some c->n₀<=c)->(cellsFrom n names acc).lookup x=some c->n₀<=c
 | [],_,_,_,_,c,_,h,e=>h.elim (fun z=>by simp at z) fun z=>z c e
 | (y,k)::r,n₀,n,acc,x,c,hn,h,e=>by
  unfold cellsFrom at e;split at e
  ·refine xK r n₀ (n+1) _ x c (by omega) ?_ e;rcases h with h | h
   ·rcases mem_cons.mp h with q | q
    ·cases q;exact .inr fun c q=>by rw[lookup_cons,beq_self_eq_true]at q;cases q;exact hn
    ·exact .inl q
   ·refine .inr fun c q=>?_
    rw[lookup_cons]at q;cases hx:x==y with
    | true=>rw[hx]at q;cases q;exact hn
    | false=>rw[hx]at q;exact h c q
  ·rename_i hk;refine xK r n₀ n acc x c hn ?_ e;rcases h with h | h
   ·rcases mem_cons.mp h with q | q
    ·cases q;exact absurd rfl hk
    ·exact .inl q
   ·exact .inr h
theorem ka:∀(names:List (Str×NameKind)) (h:Heap) (acc:List (Str×Addr)) (x:Str) (c:Addr),(cellsFrom h.objs.size names acc).lookup x=some c->acc.lookup x=some c\/(pushCells h names).IsCell c none
 | [],_,_,_,_,e=>.inl e
 | (y,k)::r,h,acc,x,c,e=>by
  unfold cellsFrom at e;unfold pushCells;split
  ·rename_i hk;rw[if_pos hk]at e;rw[<-Heap.size_push h {cls:=.type "cell",data:=.cell none}]at e;rcases ka r _ _ x c e with q | q
   ·rw[lookup_cons]at q;cases hx:x==y with
    | true=>
     rw[hx]at q;cases q;exact .inr ⟨_,pushCells_keeps _ _ _ _ (Heap.get?_push_size _ rfl),rfl⟩
    | false=>rw[hx]at q;exact .inl q
   ·exact .inr q
  ·rename_i hk;rw[if_neg hk]at e;exact ka r h acc x c e
theorem envC{M:Model}{A:Around}{E:Value->Shared->Prop}{s:Shared}{scope:Scope}{globals:Addr}{cl:List (Str×Addr)}{qual:Str}{env:Env}{Q:Env->Shared->Prop}
  (h:Q (newEnv scope s.heap.objs.size globals (cellsFrom (s.heap.objs.size+1) scope.names cl) qual none .none (some env) builtinsNs) {s with heap:=pushCells (s.heap.push {cls:=.type "dict",data:=.dict #[]}) scope.names}) :
  wpAny M A (newFunctionEnv scope globals cl [] qual none .none (some env)) Q E s:=by
 simp only[newFunctionEnv,Option.isSome_some,if_true];refine wpAny_bind (wpAny_alloc ?_);refine wpAny_bind (wpAny_layCells _ (fun name kind cells=>by cases hkc:kind==NameKind.cell<;>simp[hkc]) _ _ _ _ ?_);rw[show({s with heap:=s.heap.push {cls:=.type "dict",data:=.dict #[]}}:Shared).heap.objs.size=s.heap.objs.size+1 from Heap.size_push ..];rw[forIn_nil];exact wpAny_bind (wpAny_pure (wpAny_pure h))
noncomputable def blk(X:Cx)(scope:Scope)(ow:List Str)(ci:List Nat)(C:Addr)(s₀:Shared)(H₀:Hp)(ex:List Addr)(pn:List (Addr×Obj)):Cx:=
 {X with N:=ow++ci.map fun j=>X.N.getD j "",s₀:=s₀,H₀:=H₀,env:=compEnvC scope (cellsFrom (C+1) scope.names (closL X.env scope.names [])) C X.env,outer:=X.stack,stack:=X.stack,ex:=ex,fn:=fun x=>scope.names.lookup x==some .cell,pn:=pn,xe:=fun _ _=>False}
structure CompScope(X:Cx)(scope:Scope)(ow:List Str)(ci:List Nat):Prop where
 kind:scope.kind = .function
 cell:∀y∈scope.names,y.2 = .cell->scope.names.lookup y.1=some .cell
 names:∀y∈scope.names,y.2 = .local->scope.names.lookup y.1=some .local
 free:∀y∈scope.names,y.2 = .free->X.env.kindOf y.1=some .cell\/X.env.kindOf y.1=some .free
 ix:∀j∈ci,j<X.N.length/\scope.names.lookup (X.N.getD j "")=some .free
noncomputable def compOk(fsc:Scope)(N:List Str)(scope:Scope)(ci:List Nat):Bool:=
 scope.kind == .function&&scope.names.all (fun y=>y.2 != .cell||scope.names.lookup y.1==some .cell)&&scope.names.all (fun y=>y.2 != .local||scope.names.lookup y.1==some .local) &&
 scope.names.all (fun y=>y.2 != .free||fsc.names.lookup y.1==some .cell||fsc.names.lookup y.1==some .free)&&ci.all (fun j=>decide (j<N.length)&&scope.names.lookup (N.getD j "")==some .free)
theorem CompScope.of{X:Cx}{scope:Scope}{ow:List Str}{ci:List Nat}(fsc:Scope)(N:List Str)(e1:X.env.scope=fsc)(e2:X.N=N)(h:compOk fsc N scope ci=true):CompScope X scope ow ci:=by
 subst e1 e2;unfold compOk at h;simp only[Bool.and_eq_true,all_eq_true,Bool.or_eq_true,bne_iff_ne,ne_eq,beq_iff_eq,decide_eq_true_eq]at h;obtain⟨⟨⟨⟨h1,h2⟩,h3⟩,h4⟩,h5⟩:=h;refine⟨h1,fun y hy e=>(h2 y hy).resolve_left fun z=>z e,fun y hy e=>?_,fun y hy e=>?_,fun j hj=>h5 j hj⟩
 ·rcases h3 y hy with z | z
  ·exact absurd e z
  ·exact z
 ·rcases h4 y hy with(z | z) | z
  ·exact absurd e z
  ·exact .inl z
  ·exact .inr z
theorem jS{X:Cx}{scope:Scope}{ow:List Str}{ci:List Nat}{C:Addr}{s₀:Shared}{H₀:Hp}{ex:List Addr}{pn:List (Addr×Obj)}(N:List Str)(e:X.N=N)(h:(ow++ci.map fun j=>N.getD j "").Nodup):(blk X scope ow ci C s₀ H₀ ex pn).N.Nodup:=by
 subst e;exact h
noncomputable def capAt(σ:St)(j:Nat):Option V:=match σ[j]? with | some o=>o | none=>none
noncomputable def capS(n:Nat)(ci:List Nat)(σ:St):St:=List.replicate n none++ci.map (capAt σ)
def tComp(wi:TI)(n:Nat)(ci:List Nat)(g:TG)(tf:TT)(te:TE):TE:=fun σ H Q=>wi σ H fun J H1=>∃W:Nat->Nat->List V->Hp->Prop,(∃m,W 0 m [] H1)/\∀i m ys H,W i m ys H->
 (J.stop i H/\ys.length<=sizeLine/\∀p,H p=none->Q (.ref p) (upd H p (.lst ys)))\/
 (J.go i H/\∃N:List V->Hp->Prop,(∀ys' H',N ys' H'->∃m',m'<m/\W (i+1) m' ys' H')/\∀x H',J.yld i H x H'->g x (capS n ci σ) H' fun σ2 H2=>tf σ2 H2 fun b H3=>
  if b=true then te σ2 H3 fun v H4=>ys.length<sizeLine/\N (ys++[v]) H4 else N ys H3)
section
variable{X:Cx}{pins:List (Addr×Obj)}{σ:St}{H:Hp}{s:Shared}{elt iter tg:Expr}{ifs:List Expr}{scope:Scope}{pos:Pos}{ow:List Str}{ci:List Nat}{g:TG}{tf:TT}{te:TE}
theorem CompScope.cells(S:CompScope X scope ow ci)(ok:X.Ok):∀y∈scope.names,y.2 = .free->∃c,X.env.cells.lookup y.1=some c:=fun y hy e=>ok.has y.1 (S.free y hy e)
theorem CompScope.sub(S:CompScope X scope ow ci)(ok:X.Ok):∀x c,(closL X.env scope.names []).lookup x=some c->X.env.cells.lookup x=some c:=
 KO scope.names [] (S.cells ok) fun _ _ e=>by simp at e
theorem CompScope.cel(S:CompScope X scope ow ci)(ok:X.Ok){C:Addr}{x:Str}{c:Addr}(h:(cellsFrom (C+1) scope.names (closL X.env scope.names [])).lookup x=some c):C+1<=c\/X.env.cells.lookup x=some c:=
 (y4 _ _ _ _ _ h).imp id (S.sub ok x c)
theorem j4j(S:CompScope X scope ow ci)(I:Inv X pins σ H s){C:Addr}{ex:List Addr}{pn:List (Addr×Obj)}(hC:s.heap.objs.size<=C)
  (hex:∀b∈ex,b<s.heap.objs.size/\FpOk X pins H b):(blk X scope ow ci C s H ex pn).Ok where
 mod:=I.ok.mod
 kind:=S.kind
 glob:=I.ok.glob
 blt:=I.ok.blt
 above:=hC
 inj:=xJ scope.names (C+1) _ (fun x c e=>by
   obtain⟨v,q⟩:=I.cell x c (S.sub I.ok x c e);exact Nat.lt_succ_of_le (Nat.le_of_lt (Nat.lt_of_lt_of_le q.lt hC))) fun x y c h1 h2=>I.ok.inj x y c (S.sub I.ok x c h1) (S.sub I.ok y c h2)
 has:=fun x h=>by
  have h':∃k,(relabel scope X.env).names.lookup x=some k/\(k = .cell\/k = .free):=by
   rcases h with h | h
   ·exact⟨_,h,.inl rfl⟩
   ·exact⟨_,h,.inr rfl⟩
  obtain⟨k,hl,hk⟩:=h';obtain⟨k',hm,_,e⟩:=QS (env:=X.env) hl;have hf:k' = .cell\/k' = .free:=by
   rcases e with e | ⟨e,_⟩
   ·subst e;exact hk
   ·exact .inr e
  rcases hf with hf | hf
  ·subst hf;exact xI scope.names _ _ x hm
  ·subst hf;exact wA scope.names _ _ x (y6 scope.names [] x hm)
 cab:=fun x c h e=>Nat.le_trans (Nat.le_trans hC (Nat.le_succ _)) (xK scope.names (C+1) (C+1) _ x c (Nat.le_refl _) (.inl (PySem.mem_of_lookup (beq_iff_eq.mp h))) e)
 hd:=I.ok.hd
 frames:=I.ok.frames
 stk:=.inl rfl
 exf:=fun b hb=>⟨Nat.ne_of_lt (Nat.lt_of_lt_of_le (hex b hb).1 hC),fun x c e=>(S.cel I.ok e).elim (fun q z=>Nat.lt_irrefl _ (Nat.lt_of_lt_of_le (z▸(hex b hb).1) (Nat.le_trans hC (Nat.le_trans (Nat.le_succ _) q)))) fun q=>(hex b hb).2.2.2.2.2.1 x c q⟩
 bs:=I.bs
 bsz:=Nat.le_trans I.ok.bsz I.sz
 noex:=fun b o e hb=>by
  obtain⟨_,_,_,h3,_⟩:=(hex b hb).2;rcases h3 with z | z
  ·exact I.ok.noex b o e z
  ·exact absurd (Nat.lt_of_lt_of_le (Heap.lt_size e) (Nat.le_trans I.ok.bsz z)) (Nat.lt_irrefl _)
 exfs:=fun b hb z=>by
  obtain⟨_,h1,h2,_⟩:=(hex b hb).2;rcases mem_cons.mp (I.stkSub b z)with e | e
  ·exact h1 e
  ·exact h2 e
 funs:=I.stack
 frf:=I.stkFree
theorem j0F(S:CompScope X scope ow ci)(I:Inv X pins σ H s){C:Addr}{ex:List Addr}{h₁:Heap}{t₁:Nat}{m₀:Str->Option Value}(hC:s.heap.objs.size<=C)
  (hex:∀b∈ex,b<s.heap.objs.size/\FpOk X pins H b) (hn:h₁.Ns C m₀) (k:∀b o,s.heap.get? b=some o->h₁.get? b=some o)
  (hnew:∀x c,(cellsFrom (C+1) scope.names (closL X.env scope.names [])).lookup x=some c->(closL X.env scope.names []).lookup x=some c\/h₁.IsCell c none) :
  Inv (blk X scope ow ci C s H ex (X.pn++pins)) [] (capS ow.length ci σ) H {s with heap:=h₁,toks:=t₁}:=by
 have ok:=j4j (pn:=X.pn++pins) S I hC hex;refine⟨ok,rfl,I.bare,Un.kept k,⟨m₀,hn,fun i x v e1 e2 e3=>?_⟩,fun x c e=>?_,I.hok.fresh hC,fun x c e=>(S.cel I.ok e).elim (fun q=>I.hok.fresh (Nat.le_trans hC (Nat.le_trans (Nat.le_succ _) q))) (I.freeC x c),fun p hp=>?_,I.hok.kept k,?_⟩
 ·have e1':(ow++ci.map fun j=>X.N.getD j "")[i]?=some x:=e1;unfold capS at e2;by_cases hi:i<ow.length
  ·rw[List.getElem?_append_left (by simpa using hi),List.getElem?_replicate,if_pos hi]at e2;cases e2
  ·rw[List.getElem?_append_right (by simpa using hi),List.getElem?_map,length_replicate]at e2;rw[List.getElem?_append_right (by omega),List.getElem?_map]at e1';cases hj:ci[i-ow.length]? with
   | none=>rw[hj]at e2;cases e2
   | some j=>
    rw[hj]at e1' e2;obtain⟨hl,hf⟩:=S.ix j (List.mem_of_getElem? hj);have ex':X.N.getD j ""= x:=Option.some.inj e1';have eN:X.N[j]?=some x:=by
     rw[<-ex',getD_eq_getElem?_getD,List.getElem?_eq_getElem hl];rfl
    have ev:σ[j]?=some (some v):=by
     have e2':capAt σ j=some v:=Option.some.inj e2;unfold capAt at e2';cases q:σ[j]? with
     | none=>rw[q]at e2';cases e2'
     | some o=>rw[q]at e2';rw[show o=some v from e2']
    rw[ex']at hf;have hmem:(x,NameKind.free)∈scope.names:=PySem.mem_of_lookup hf;have hk:=S.free _ hmem rfl;obtain⟨m,_,hl'⟩:=I.loc;have vis:Vis X.env.scope x:=by
     rcases hk with q | q
     ·exact .inr (.inl q)
     ·exact .inr (.inr q)
    obtain⟨u,r,lk⟩:=hl' j x v eN ev vis;refine⟨u,r,.inr ⟨?_,?_⟩⟩
    ·rcases e3 with q | q | q
     ·obtain⟨k',_,h2,h3⟩:=QS (env:=X.env) q;rw[hf]at h2;cases h2;rcases h3 with h3 | ⟨_,h3⟩<;>cases h3
     ·exact .inl q
     ·exact .inr q
    ·rcases lk with⟨q,_⟩ | ⟨_,c,hc,hcell⟩
     ·have q':X.env.kindOf x=some .local:=q;rcases hk with z | z<;>(rw[z]at q';cases q')
     ·obtain⟨c',hc'⟩:=y6 (env:=X.env) scope.names [] x hmem;have e:=S.sub I.ok x c' hc';rw[hc]at e;cases e;refine⟨c,?_,hcell.keeps k⟩;show(cellsFrom (C+1) scope.names (closL X.env scope.names [])).lookup x=some c;rw[xL scope.names _ _ x fun z=>?_]
      ·exact hc'
      ·have:=S.cell _ z rfl;rw[hf]at this;cases this
 ·rcases hnew x c e with q | q
  ·obtain⟨v,q⟩:=I.cell x c (S.sub I.ok x c q);exact⟨v,q.keeps k⟩
  ·exact⟨_,q⟩
 ·have hp':p∈X.pn++pins:=by
   rcases mem_append.mp hp with z | z
   ·exact z
   ·cases z
  obtain⟨e,n,ne,nf,d⟩:=I.pin p hp';refine⟨k _ _ e,n,Nat.ne_of_lt (Nat.lt_of_lt_of_le (Heap.lt_size e) hC),fun z=>?_,d⟩;rcases mem_cons.mp (I.stkSub p.1 z)with q | q
  ·exact ne q
  ·exact nf q
 ·show(capS ow.length ci σ).length=(ow++ci.map fun j=>X.N.getD j "").length;simp[capS]
theorem Inv.forget{σ':St}(I:Inv X pins σ' H s)(n:Nat)(ci:List Nat)(σ:St)(hl:(capS n ci σ).length=X.N.length)(h:∀i v,n<=i->(capS n ci σ)[i]?=some (some v)->σ'[i]?=some (some v)):Inv X pins (capS n ci σ) H s:=
 I.weak (by rw[hl,I.len]) fun i v e=>by
  by_cases hi:n<=i
  ·exact h i v hi e
  ·unfold capS at e;rw[List.getElem?_append_left (by simpa using hi),List.getElem?_replicate,if_pos (by omega)]at e;cases e
def GKeeps(n:Nat)(g:TG):Prop:=∀x σ H (Q:St->Hp->Prop),g x σ H Q->g x σ H fun σ2 H2=>(∀(i:Nat) v,n<=i->σ[i]?=some (some v)->σ2[i]?=some (some v))/\Q σ2 H2
theorem j4{n i:Nat}(h:i<n):GKeeps n (gName i):=fun x σ H Q q=>⟨fun j v hj e=>by rw[List.getElem?_set_ne (by omega)];exact e,q⟩
theorem YR{K:Frg}{n i j:Nat}(hi:i<n)(hj:j<n):GKeeps n (gTup K 2 (gCons (gName i) (gCons (gName j) gNil))):=fun x σ H Q q=>by
 obtain⟨a,xs,e1,e2,e3,v,r,e4,v',r',e5,e6,q⟩:=q;refine⟨a,xs,e1,e2,e3,v,r,e4,v',r',e5,e6,fun k u hk e=>?_,q⟩;rw[List.getElem?_set_ne (by omega),List.getElem?_set_ne (by omega)];exact e
theorem kc{E:Value->Shared->Prop}{J:It}{fp:List Addr}{it:Addr}{tn:Nat->Heap->Prop}{RR:Value->Addr->Result->Shared->Prop}(hc:X.calm=true)(S:CompScope X scope ow ci)(hk:GKeeps ow.length g)
  (hb:∀C s₀ H₀ ex pn,PG (blk X scope ow ci C s₀ H₀ ex pn) tg g/\PF (blk X scope ow ci C s₀ H₀ ex pn) ifs tf/\PE (blk X scope ow ci C s₀ H₀ ex pn) elt te)
  (I:Inv X pins σ H s) (T:Turn X.prog X.w X.K tg J fp it tn) (st:tn 0 s.heap) (hf:∀b∈fp,FpOk X pins H b) (Z:List V->Hp->Prop)
  (W:Nat->Nat->List V->Hp->Prop) (w0:∃m,W 0 m [] H)
  (turn:∀i m ys H,W i m ys H->(J.stop i H/\ys.length<=sizeLine/\Z ys H)\/
   (J.go i H/\∃N:List V->Hp->Prop,(∀ys' H',N ys' H'->∃m',m'<m/\W (i+1) m' ys' H')/\∀x H',J.yld i H x H'->g x (capS ow.length ci σ) H' fun σ2 H2=>tf σ2 H2 fun b H3=>
    if b=true then te σ2 H3 fun v H4=>ys.length<sizeLine/\N (ys++[v]) H4 else N ys H3))
  (fin:∀D C s' H' m ys,Inv X pins σ (upd H' D (.lst ys)) s'->H' D=none->Z ys H'->s'.heap.Ns C m->s.heap.objs.size<=C->C≠D->H' C=none->RR (.ref D) C (.ok .next) s') :
  wpAny (model X.prog X.w) X.A (newList []) (fun acc s₃=>wpAny (model X.prog X.w) X.A (newFunctionEnv scope X.env.globals (closL X.env scope.names []) [] X.env.qual none .none (some X.env)) (fun cenv s₄=>
   codeAny (model X.prog X.w) X.A (.compStart (.ListComp elt [⟨tg,iter,ifs,0⟩] scope pos) 0 (.ref it) acc {cenv with scope:=relabel scope X.env}) (RR acc cenv.locals) s₄) E s₃) E s:=by
 refine wpAny_newObj_type (envC ?_);dsimp only;generalize hs3:({s with heap:=s.heap.push {cls:=.type "list",dict:=none,data:=.seq ([]:List Value).toArray}}:Shared)=s3;have e3:s3.heap=s.heap.push {cls:=.type "list",dict:=none,data:=.seq ([]:List Value).toArray}:=by rw[<-hs3]
 rw[<-e3];generalize hh1:pushCells (s3.heap.push {cls:=.type "dict",data:=.dict #[]}) scope.names=h₁;have k3:∀b o,s.heap.get? b=some o->s3.heap.get? b=some o:=fun b o e=>by rw[e3];exact Heap.get?_push_of_some _ e
 have hsz:s3.heap.objs.size=s.heap.objs.size+1:=by rw[e3,Heap.size_push]
 have I3:Inv X pins σ H s3:=by rw[<-hs3];exact I.kept (t':=s.toks) fun b o e=>Heap.get?_push_of_some _ e
 have hD3:s3.heap.get? s.heap.objs.size=some {cls:=.type "list",dict:=none,data:=.seq ([]:List Value).toArray}:=by rw[e3];exact Heap.get?_push_size _ rfl
 generalize hDD:s.heap.objs.size=D at *;generalize hCC:s3.heap.objs.size=C at *;have hDC:D<C:=by omega
 have hHD:H D=none:=I.hok.fresh (Nat.le_of_eq hDD);have fpD:FpOk X pins H D:=I.fpOk (Nat.le_of_eq hDD) hHD;have ltD:∀(b:Addr) o,s.heap.get? b=some o->b<D:=fun b o e=>by rw[<-hDD];exact Heap.lt_size e
 have ltC:∀(b:Addr) o,s3.heap.get? b=some o->b<C:=fun b o e=>by rw[<-hCC];exact Heap.lt_size e
 have hflt:∀b∈fp,b<D:=fun b hb=>by
  obtain⟨o,e,_⟩:=T.obj 0 _ st b hb;exact ltD b o e
 have hex:∀b∈D::fp,b<s3.heap.objs.size/\FpOk X pins H b:=fun b hb=>by
  rw[hCC];rcases mem_cons.mp hb with rfl | hb
  ·exact⟨hDC,fpD⟩
  ·exact⟨Nat.lt_trans (hflt b hb) hDC,hf b hb⟩
 have kk:∀b o,s3.heap.get? b=some o->h₁.get? b=some o:=fun b o e=>by rw[<-hh1];exact pushCells_keeps _ _ b o (Heap.get?_push_of_some _ e)
 have hns₁:h₁.Ns C fun _=>none:=by rw[<-hh1,<-hCC];exact(Heap.Ns.new s3.heap (.type "dict")).keeps (pushCells_keeps _ _)
 have hnew:∀x c,(cellsFrom (C+1) scope.names (closL X.env scope.names [])).lookup x=some c->(closL X.env scope.names []).lookup x=some c\/h₁.IsCell c none:=fun x c e=>by
  rw[<-hh1];refine ka scope.names _ _ x c ?_;rw[Heap.size_push,hCC];exact e
 obtain⟨hg,hfl,he⟩:=hb C s3 H (D::fp) (X.pn++pins);generalize hY:blk X scope ow ci C s3 H (D::fp) (X.pn++pins)=Y at hg hfl he;have Yprog:Y.prog=X.prog:=by rw[<-hY];rfl
 have Yw:Y.w=X.w:=by rw[<-hY];rfl
 have YK:Y.K=X.K:=by rw[<-hY];rfl
 have YA:Y.A=X.A:=by rw[<-hY];rfl
 have Yc:Y.calm=true:=by rw[<-hY];exact hc
 have Yenv:Y.env=compEnvC scope (cellsFrom (C+1) scope.names (closL X.env scope.names [])) C X.env:=by rw[<-hY];rfl
 have Yxe:Y.xe=fun _ _=>False:=by rw[<-hY];rfl
 have Yfs:Y.fs=frs X.stack:=by rw[<-hY];rfl
 have Yex:Y.ex=D::fp:=by rw[<-hY];rfl
 have Ypn:Y.pn=X.pn++pins:=by rw[<-hY];rfl
 have Ys:Y.s₀=s3:=by rw[<-hY];rfl
 have YH:Y.H₀=H:=by rw[<-hY];rfl
 have YN:(capS ow.length ci σ).length=Y.N.length:=by rw[<-hY];show(capS ow.length ci σ).length=(ow++ci.map fun j=>X.N.getD j "").length;simp[capS]
 have own:∀b∈D::fp,b≠Y.env.locals/\b∉Y.fs/\b∈Y.ex/\(∀x c,Y.env.cells.lookup x=some c->c≠b)/\∀p∈Y.pn,p.1≠b:=fun b hb=>by
  obtain⟨h0,h1,h2,h3,h4,h5⟩:=(hex b hb).2;refine⟨by rw[Yenv];exact Nat.ne_of_lt (hCC▸(hex b hb).1),fun z=>?_,by rw[Yex];exact hb,fun x c e=>?_,by rw[Ypn];exact h5⟩
  ·rw[Yfs]at z;rcases mem_cons.mp (I.stkSub b z)with q | q
   ·exact h1 q
   ·exact h2 q
  ·rw[Yenv]at e;rcases S.cel I.ok e with q | q
   ·exact fun z=>Nat.lt_irrefl _ (Nat.lt_of_lt_of_le (hCC▸(hex b hb).1) (Nat.le_trans (Nat.le_succ _) (z▸q)))
   ·exact h4 x c q
 have nDf:D∉fp:=fun z=>Nat.lt_irrefl _ (hflt D z)
 have loop:∀s4:Shared,Inv Y [] (capS ow.length ci σ) H s4->tn 0 s4.heap->s4.heap.PlainList D #[]->
   codeAny (model X.prog X.w) X.A (.compLoop (.ListComp elt [⟨tg,iter,ifs,0⟩] scope pos) 0 (.ref it) (.ref D) (compEnvC scope (cellsFrom (C+1) scope.names (closL X.env scope.names [])) C X.env)) (RR (.ref D) C) s4:=by
  intro s4 J4 st4 pl4;obtain⟨m0,w0⟩:=w0;refine compLoopT (fun n s'=>∃i ys its H',Inv Y [] (capS ow.length ci σ) H' s'/\tn i s'.heap/\(∀b∈fp,H' b=none)/\H' D=none/\s'.heap.PlainList D its/\Vals ys its.toList/\W i n ys H') ?_ m0
   ⟨0,[],#[],H,J4,st4,fun b hb=>(hf b hb).1,hHD,pl4,.nil,w0⟩
  rintro n s5 ⟨i,ys,its,H5,J5,st5,fr5,hD5,⟨pn5,pl5⟩,va5,w5⟩;have vl:ys.length=its.size:=by have:=va5.length;simpa using this
  have pinD:∀{H':Hp} {s':Shared} {σ':St},Inv Y [] σ' H' s'->H' D=none->∀{o:Obj},s'.heap.get? D=some o->(∀v,o.data≠.cell v)->Inv Y [(D,o)] σ' H' s':=fun {H' s' σ'} K hD o e d=>
   K.pins_of fun p hp=>by
    have ep:p=(D,o):=by simpa using hp
    subst ep;obtain⟨a1,a2,_⟩:=own D mem_cons_self;exact⟨e,hD,a1,a2,d⟩
  have P5:=pinD J5 hD5 pl5 (fun v z=>by cases z);have fpk:∀{H':Hp},(∀b∈fp,H' b=none)->∀{o:Obj},∀b∈fp,FpOk Y [(D,o)] H' b:=fun {H'} hn {o} b hb=>by
   obtain⟨a1,a2,a3,a4,a5⟩:=own b (mem_cons_of_mem _ hb);refine⟨hn b hb,a1,a2,.inl a3,a4,fun p hp=>?_⟩;rcases mem_append.mp hp with q | q
   ·exact a5 p q
   ·have ep:p=(D,o):=by simpa using q
    subst ep;exact fun z=>nDf (by have z':D=b:=z;rw[z'];exact hb)
  rcases turn i n ys H5 w5 with⟨stop,hsz5,z5⟩ | ⟨go,NN,hNN,step⟩
  ·have d:=T.done Y Yprog Yw YK Yc i [(D,_)] s5 _ H5 (fun _ _=>False) P5 (fpk fr5) st5 stop;rw[YA]at d;refine thn d fun r s6 ⟨hr,J6⟩=>?_
   subst hr;have D6:=(J6.pin (D,_) (mem_append_right _ mem_cons_self)).1;obtain⟨mC,hnC,_⟩:=J6.loc;rw[Yenv]at hnC;have hnC':s6.heap.Ns C mC:=hnC;have hC6:H5 C=none:=by have:=J6.free;rw[Yenv]at this;exact this
   refine fin D C s6 H5 mC ys ?_ hD5 z5 hnC' (Nat.le_of_lt hDC) (Nat.ne_of_gt hDC) hC6;have B:=J6.base;rw[Yfs,Yex,YH,Ys]at B;have low:∀b o,s.heap.get? b=some o->b≠D/\b≠C:=fun b o e=>⟨Nat.ne_of_lt (ltD b o e),Nat.ne_of_lt (Nat.lt_trans (ltD b o e) hDC)⟩
   have nex:∀b o,s.heap.get? b=some o->b∉fp->b∉D::fp:=fun b o e hb z=>by
    rcases mem_cons.mp z with q | q
    ·exact(low b o e).1 q
    ·exact hb q
   have uN:Un (frs X.stack) fp H (upd H5 D (.lst ys)) s.heap s6.heap:=by
    refine⟨fun b o e n hb hx=>B.keep b o (k3 b o e) n hb (nex b o e hx),fun b o e n hb hx=>B.slot b o (k3 b o e) n hb (nex b o e hx),fun b o e n hx=>?_,fun b o e hx=>B.there b o (k3 b o e) (nex b o e hx),fun b xs q=>?_,fun b o u q=>?_,fun b ps q=>?_⟩
    ·rw[jo (low b o e).1];exact B.free b o (k3 b o e) n (nex b o e hx)
    ·rw[jo (jg (B.tups b xs q) hD5)];exact B.tups b xs q
    ·rw[jo (jg (B.frzs b o u q) hD5)];exact B.frzs b o u q
    ·obtain⟨mo,q'⟩:=B.tbls b ps q;exact⟨mo,by rw[jo (jg q' hD5)];exact q'⟩
   have hok6:HOk X.prog X.w H5 s6.heap:=by rw[<-Yprog,<-Yw];exact J6.hok
   have hokN:HOk X.prog X.w (upd H5 D (.lst ys)) s6.heap:=fun b u e=>by
    by_cases hbD:b=D
    ·subst hbD;rw[jh]at e;cases e;exact⟨hsz5,its.toList,_,va5,by simpa using D6⟩
    ·rw[jo hbD]at e;exact(hok6 b u e).stay (fun c v _ q=>q) (fun c q=>by rw[jo (jg q hD5)];exact q) fun c xs q=>by rw[jo (jg q hD5)];exact q
   refine I.call' (by rw[J6.os,Ys,<-hs3]) uN hokN J6.bare fun b hb=>?_
   obtain⟨h0,h1,h2,h3,h4,h5⟩:=hf b hb;exact⟨h3,h1,h4,h5⟩
  ·have d:=T.item Y Yprog Yw YK Yc i [(D,_)] s5 _ H5 (fun _ _=>False) P5 (fpk fr5) st5 go;rw[YA]at d;refine thn d fun r s6 ⟨u,hr,h6⟩=>?_
   subst hr;refine thn h6 fun _ s7 ⟨x,H7,J7,r7,y7,st7,fr7⟩=>?_
   have J7':=J7.pinned (fpk fr7) (T.obj _ _ st7);have h8:=hg _ s7 _ H7 x u _ J7' r7 (hk _ _ _ _ (step x H7 y7));rw[Yprog,Yw,YA,Yenv,Yxe]at h8;refine thn h8 fun _ s8 ⟨σ8,H8,J8,ks8,q8⟩=>?_
   have h9:=hfl _ s8 σ8 H8 _ J8 q8;rw[Yprog,Yw,YA,Yenv,Yxe]at h9;refine thn h9 fun b s9 ⟨H9,J9,q9⟩=>?_
   have back:∀{H':Hp} {s':Shared},Inv Y ([(D,({cls:=.type "list",data:=.seq its pn5}:Obj))]++pinsAt fp s7.heap) σ8 H' s'->Inv Y [] (capS ow.length ci σ) H' s'/\tn (i+1) s'.heap/\(∀b∈fp,H' b=none)/\H' D=none/\s'.heap.get? D=some {cls:=.type "list",data:=.seq its pn5}:=fun {H' s'} K=>by
    have pD:=K.pin (D,_) (mem_append_right _ (mem_append_left _ mem_cons_self));refine⟨(K.pins_of (pins':=[]) (by simp)).forget _ _ _ YN (fun j v hj e=>ks8 j v hj e),T.keep _ _ _ st7 fun b hb o e=>(K.pin (b,o) (mem_append_right _ (mem_append_right _ (zP hb e)))).1,fun b hb=>?_,pD.2.1,pD.1⟩;obtain⟨o,e,_⟩:=T.obj _ _ st7 b hb;exact(K.pin (b,o) (mem_append_right _ (mem_append_right _ (zP hb e)))).2.1
   cases b with
   | false=>
    rw[if_neg Bool.false_ne_true]at q9|-;obtain⟨m',hm,w9⟩:=hNN _ _ q9;obtain⟨K9,st9,fr9,hD9,e9⟩:=back J9;exact⟨m',hm,i+1,ys,its,H9,K9,st9,fr9,hD9,⟨_,e9⟩,va5,w9⟩
   | true=>
    rw[if_pos rfl]at q9|-;have h10:=he _ s9 σ8 H9 _ J9 q9;rw[Yprog,Yw,YA,Yenv,Yxe]at h10;refine thn h10 fun z s10 ⟨v,H10,J10,r10,hlt,n10⟩=>?_
    obtain⟨m',hm,w10⟩:=hNN _ _ n10;obtain⟨K10,st10,fr10,hD10,e10⟩:=back J10;refine wpAny_list_append_plain (hsz:=by rw[<-vl];exact Nat.le_of_lt hlt) ⟨_,e10⟩ fun h11 pl11 hs11=>?_
    obtain⟨a1,a2,a3,a4,a5⟩:=own D mem_cons_self;have K11:Inv Y [] (capS ow.length ci σ) H10 {s10 with heap:=h11}:=K10.turned (t':=s10.toks) (fun b o hb e=>(hs11.2 b hb).trans e) hD10 a1 (.inl a3) a4 (fun p hp=>a5 p (by simpa using hp));refine⟨m',hm,i+1,ys++[v],its.push z,H10,K11,T.keep _ _ _ st10 fun b hb o e=>(hs11.2 b (fun q=>nDf (q▸hb))).trans e,fr10,hD10,pl11,?_,w10⟩;rw[Array.toList_push];exact va5.append (.cons r10 .nil)
 have J4:Inv Y [] (capS ow.length ci σ) H {s3 with heap:=h₁}:=by
  rw[<-hY];exact j0F (t₁:=s3.toks) S I3 (Nat.le_of_eq hCC) hex hns₁ kk hnew
 have st4:tn 0 h₁:=T.keep _ _ _ st fun b _ o e=>kk b o (k3 b o e)
 have pl4:h₁.PlainList D #[]:=⟨_,kk _ _ hD3⟩
 have L:=loop _ J4 st4 pl4;subst hs3;exact codeAny_compStart_list L (T.self _ 0 _ _ _ st4 L)
variable{wi:TI}
theorem j9(hc:X.calm=true)(S:CompScope X scope ow ci)(hk:GKeeps ow.length g)(hi:PI X tg iter wi)
  (hb:∀C s₀ H₀ ex pn,PG (blk X scope ow ci C s₀ H₀ ex pn) tg g/\PF (blk X scope ow ci C s₀ H₀ ex pn) ifs tf/\PE (blk X scope ow ci C s₀ H₀ ex pn) elt te)
  (hs:∀x,foldedSetIterable iter X.env x=pure x:=by intro _;rfl):PE X (.ListComp elt [⟨tg,iter,ifs,0⟩] scope pos) (tComp wi ow.length ci g tf te):=by
 intro pins s σ H Q I h;rw[eval_ListComp];refine wpAny_comprehension_free (use:=none) rfl hs (yx (S.cells I.ok)) S.kind S.names (thn (hi pins s σ H _ I h) fun v s1 h1=>thn h1 fun itv s2 h2=>?_);obtain⟨it,fp,tn,J,H2,e,I2,T,st2,f2,W,w0,turn⟩:=h2;subst e;refine kc (RR:=fun acc C=>compPost (model X.prog X.w) X.A X.xe none (EP X pins σ Q) acc C) hc S hk hb I2 T st2 f2 (fun ys H=>∀p,H p=none->Q (.ref p) (upd H p (.lst ys))) W w0 turn fun D C s' H' m ys K hD z hn hC hCD hC0=>?_
 refine⟨m,hn,fun h' hs'=>⟨.ref D,upd H' D (.lst ys),?_,rfl,z D hD⟩⟩;obtain⟨f0,f1,f2',f3,f4,f5⟩:=I2.fpOk (H':=upd H' D (.lst ys)) hC (by rw[jo hCD];exact hC0);exact K.turned (t':=s'.toks) (fun b o hb e=>(hs'.2 b hb).trans e) f0 f1 f3 f4 f5
theorem yK{i:Nat}{x:Str}{px spos:Pos}(hc:X.calm=true)(S:CompScope X scope ow ci)(hk:GKeeps ow.length g)(hN:X.N.Nodup)(hx1:X.N[i]?=some x)(hx:Loc X.env.scope x)(hi:PI X tg iter wi)
  (hb:∀C s₀ H₀ ex pn,PG (blk X scope ow ci C s₀ H₀ ex pn) tg g/\PF (blk X scope ow ci C s₀ H₀ ex pn) ifs tf/\PE (blk X scope ow ci C s₀ H₀ ex pn) elt te)
  (hsw:swapsWith (.ListComp elt [⟨tg,iter,ifs,0⟩] scope pos) (some (.Name x px)) spos.line X.env=pure true:=by rfl)
  (hf:X.fn x=true\/X.env.scope.names.lookup x=some .local:=by first | exact .inl rfl | exact .inr rfl | assumption)
  (hs:∀x,foldedSetIterable iter X.env x=pure x:=by intro _;rfl):PS X (.Assign [.Name x px] (.ListComp elt [⟨tg,iter,ifs,0⟩] scope pos) spos) (tAsg (tComp wi ow.length ci g tf te) (gName i)):=by
 intro pins s σ H D I h;rw[exec_Assign_Name_used _ _ _ _ hsw];refine wpAny_bind (wpAny_standAt (wpAny_bind ?_));show wpAny _ X.A (do let _ <-comprehension (.ListComp elt [⟨tg,iter,ifs,0⟩] scope pos) scope X.env _ (newList []) false (eval iter X.env) (some (assign (.Name x px) X.env))) _ _ s;refine wpAny_bind (wpAny_mono (wpAny_comprehension_free (use:=some (assign (.Name x px) X.env)) (Q:=fun _ s'=>SP X pins D .next s') rfl hs (yx (S.cells I.ok)) S.kind S.names
  (thn (hi pins s σ H _ I h) fun v s1 h1=>thn h1 fun itv s2 h2=>?_)) (fun _ s' hq=>wpAny_pure (wpAny_pure hq)) fun _ _ e=>e)
 obtain⟨it,fp,tn,J,H2,e,I2,T,st2,f2,W,w0,turn⟩:=h2;subst e;refine kc (RR:=fun acc C=>compPost (model X.prog X.w) X.A X.xe (some (assign (.Name x px) X.env)) (fun _ s'=>SP X pins D .next s') acc C) hc S hk hb I2 T st2 f2
  (fun ys H=>∀p,H p=none->gName i (.ref p) σ (upd H p (.lst ys)) D.nx) W w0 turn fun P C s' H' m ys K hD z hn hC hCD hC0=>?_
 obtain⟨f0,f1,f2',f3,f4,f5⟩:=I2.fpOk (H':=upd H' P (.lst ys)) hC (by rw[jo hCD];exact hC0);show wpAny _ X.A (assign (.Name x px) X.env (.ref P)) _ _ s';refine wpAny_assign_Name (K7 K hN hx1 hx (v:=.ref P) rfl (fun s3 K3 ⟨a,hs3,ha⟩=>⟨m,hn.sameBut hs3 ?_,fun h' hs'=>?_⟩) hf)
 ·rcases ha with q | q
  ·rw[q];exact f1
  ·exact fun z=>f4 x a q z.symm
 ·exact⟨_,_,K3.turned (t':=s3.toks) (fun b o hb e=>(hs'.2 b hb).trans e) f0 f1 f3 f4 f5,z P hD⟩
theorem ke{lo:Int}{n k:Nat}{ci:List Nat}{g:TG}{tf:TT}{te:TE}{σ:St}{H:Hp}{Z:Addr->List V->Hp->Prop}(Pv:Nat->List V->Hp->Prop)(h0:Pv 0 [] H)
  (hs:∀i ys H,i<n->Pv i ys H->g (.int (lo+i)) (capS k ci σ) H fun σ2 H2=>tf σ2 H2 fun b H3=>if b=true then te σ2 H3 fun v H4=>ys.length<sizeLine/\Pv (i+1) (ys++[v]) H4 else Pv (i+1) ys H3)
  (hd:∀ys H,Pv n ys H->ys.length<=sizeLine/\∀p,H p=none->Z p ys H) :
  ∃W:Nat->Nat->List V->Hp->Prop,(∃m,W 0 m [] H)/\∀i m ys H,W i m ys H->
   ((Itr lo n).stop i H/\ys.length<=sizeLine/\∀p,H p=none->Z p ys H)\/
   ((Itr lo n).go i H/\∃N:List V->Hp->Prop,(∀ys' H',N ys' H'->∃m',m'<m/\W (i+1) m' ys' H')/\∀x H',(Itr lo n).yld i H x H'->g x (capS k ci σ) H' fun σ2 H2=>tf σ2 H2 fun b H3=>
    if b=true then te σ2 H3 fun v H4=>ys.length<sizeLine/\N (ys++[v]) H4 else N ys H3):=by
 refine⟨fun i m ys H=>m=n-i/\i<=n/\Pv i ys H,⟨n,by simp,Nat.zero_le _,h0⟩,?_⟩;rintro i m ys H ⟨rfl,hi,p⟩;by_cases hlt:i<n
 ·refine .inr ⟨hlt,Pv (i+1),fun ys' H' p'=>⟨n-(i+1),by omega,rfl,hlt,p'⟩,fun x H' y=>?_⟩;obtain⟨e,y⟩:=y;subst e y;exact hs i ys _ hlt p
 ·have e:i=n:=by omega
  subst e;exact .inl ⟨Nat.le_refl _,hd ys H p⟩
theorem jN{K:Frg}{a:Addr}{xs:List V}{k:Nat}{ci:List Nat}{g:TG}{tf:TT}{te:TE}{σ:St}{H:Hp}{Z:Addr->List V->Hp->Prop}(Pv:Nat->List V->Hp->Prop)(h0:Pv 0 [] H)(hl:∀i ys H,i<=xs.length->Pv i ys H->SqL K H a xs)
  (hs:∀i x ys H,xs[i]?=some x->Pv i ys H->g x (capS k ci σ) H fun σ2 H2=>tf σ2 H2 fun b H3=>if b=true then te σ2 H3 fun v H4=>ys.length<sizeLine/\Pv (i+1) (ys++[v]) H4 else Pv (i+1) ys H3)
  (hd:∀ys H,Pv xs.length ys H->ys.length<=sizeLine/\∀p,H p=none->Z p ys H) :
  ∃W:Nat->Nat->List V->Hp->Prop,(∃m,W 0 m [] H)/\∀i m ys H,W i m ys H->
   ((Itl K a).stop i H/\ys.length<=sizeLine/\∀p,H p=none->Z p ys H)\/
   ((Itl K a).go i H/\∃N:List V->Hp->Prop,(∀ys' H',N ys' H'->∃m',m'<m/\W (i+1) m' ys' H')/\∀x H',(Itl K a).yld i H x H'->g x (capS k ci σ) H' fun σ2 H2=>tf σ2 H2 fun b H3=>
    if b=true then te σ2 H3 fun v H4=>ys.length<sizeLine/\N (ys++[v]) H4 else N ys H3):=by
 refine⟨fun i m ys H=>m=xs.length-i/\i<=xs.length/\Pv i ys H,⟨xs.length,by simp,Nat.zero_le _,h0⟩,?_⟩;rintro i m ys H ⟨rfl,hi,p⟩;have q:=hl i ys H hi p;by_cases hlt:i<xs.length
 ·refine .inr ⟨⟨xs,xs[i],q,by simp[hlt]⟩,Pv (i+1),fun ys' H' p'=>⟨xs.length-(i+1),by omega,rfl,hlt,p'⟩,fun x H' y=>?_⟩;obtain⟨e,y⟩:=y;subst e;exact hs i x ys _ (y xs q) p
 ·have e:i=xs.length:=by omega
  subst e;exact .inl ⟨⟨xs,q,Nat.le_refl _⟩,hd ys H p⟩
end
theorem j0g:(10:Nat)^250<2^831:=by decide +kernel
theorem WB{x:Int}(h1 : -10^250<=x)(h2:x<=10^250):Builtin.Int.intBits x<=1048576:=by
 refine Nat.le_trans (PySem.intBits_le_iff.mpr ?_:Builtin.Int.intBits x<=831) (by decide);have:x.natAbs<=10^250:=by omega
 exact Nat.lt_of_le_of_lt this j0g
theorem mulOk{x y:Int}(h1 : -10^250<=x)(h2:x<=10^250)(h3 : -10^250<=y)(h4:y<=10^250):IntMulOk x y:=.of_bits (WB h1 h2) (WB h3 h4)
section
variable{X:Cx}
theorem qN:OpR X (binaryOp .Mult) (rI IntMulOk fun i j=>.int (i*j)):=opI fun _ _ _ _ _ _ _ hc q=>mul_int q hc
def CDivB(_ j:Int):Prop:=0<j/\j<=10^250
theorem cdivB{i j:Int}(h1:0<j)(h2:j<=10^250):CDivB i j:=⟨h1,h2⟩
theorem JJ:OpR X (binaryOp .FloorDiv) (rI CDivB fun i j=>.int (i/j)):=opI fun i j _ _ _ _ _ hc q=>by
 have h1:(0:Int)<j:=hc.1;have h2:j<=10^250:=hc.2;refine floordiv_int (by omega) ?_ (.inl (PyProof.noPylong_of_log2 ?_))
 ·rw[Int.fdiv_eq_ediv_of_nonneg _ (by omega)];exact q
 ·have e:j.natAbs<=10^250:=by omega
  have g:j.natAbs.log2<831:=(Nat.log2_lt (by omega)).mpr (Nat.lt_of_le_of_lt e j0g);omega
theorem j1n{prog:Program}{w:World}{A:Around}{E:Value->Shared->Prop}{s:Shared}{l:Addr}{xs:Array (Int×Tok)}{Q:Value->Shared->Prop}(hh:A.handled=none)(hl:s.heap.IsList l (intItems xs))
  (h:∀h' tk t',(∀b o,s.heap.get? b=some o->h'.get? b=some o)->Q (.int (preSum (numAt xs) xs.size) t') {s with heap:=h',toks:=tk}) :
  wpAny (model prog w) A (call (.builtin "sum") [.ref l]) Q E s:=by
 obtain⟨o,ho,hc,n,hd⟩:=id hl;have hne:l≠s.heap.objs.size:=Nat.ne_of_lt (Heap.lt_size ho);have hsz:(intItems xs).size=xs.size:=by simp[intItems]
 have W:=(Walks.list (prog:=prog) (w:=w) (A:=A.in1) hh s.heap.objs.size l hne (intItems xs)).toS;rw[hsz]at W;refine call_sum_walkAnyS (wpAny_pyIter_list hl ?_);refine⟨s.heap.objs.size,_,_,_,_,_,_,numAt xs,rfl,W,⟨⟨_,Heap.get?_push_size _ rfl,rfl,rfl⟩,hl.at fun o e=>Heap.get?_push_of_some _ e⟩,fun b hb=>?_,fun i v hP=>intItems_at hP,fun s' t' hm=>?_⟩
 ·rcases mem_cons.mp hb with rfl | hb
  ·exact Heap.lt_size (Heap.get?_push_size _ rfl)
  ·obtain rfl:=mem_singleton.mp hb;exact Heap.lt_size (Heap.get?_push_of_some _ ho)
 ·obtain⟨h',g',d',tk',os'⟩:=s';have e1:g'=s.gens:=hm.gens;have e2:d'=s.drawn:=hm.drawn;have e3:os'=s.os:=hm.os;subst e1 e2 e3;exact h h' tk' t' fun b o e=>hm.heap b o (fun hb=>absurd (Heap.lt_size e) ((mem_singleton.mp hb)▸Nat.lt_irrefl _)) (Heap.get?_push_of_some _ e)
theorem ZK(hc:X.calm=true):CallR X (.builtin "sum") (fun xs H Q=>∃(p:Addr) (ns:List Int),xs=[.ref p]/\SqL X.K H p (ns.map V.int)/\Q (.int ns.sum) H):=by
 intro pins s σ H xs us Q I r h;obtain⟨p,ns,rfl,hx,q⟩:=h;obtain⟨u,rfl,rx⟩:=vals1 r;cases rx;obtain⟨its,r',pl,hz⟩:=I.list hx;have hi:IntsAre its ns:=intsAre_of r';obtain⟨ys,hy⟩:=hi.allInts.items;have hn:numsOf its.toArray.toList=ns:=by rw[show its.toArray.toList=its from rfl,hi.numsOf]
 have hl:=pl.isList;rw[hy]at hl hn;rw[nums_intItems]at hn;refine j1n (I.ok.hd hc) hl fun h' tk t' hk=>?_
 rw[preSum_eq,take_of_length_le (by simp),hn];exact⟨.int ns.sum,H,I.kept hk,⟨_,rfl⟩,q⟩
end
end L2
namespace Att
open PySem PySem.W PySem.Calls PyProof.Rows
theorem Yv:∀(ns:List Int) (x:Int),x∈ns->Builtin.Int.intBits x<=WData.weightAll (ns.map WData.int)
 | [],_,h=>by cases h
 | n::r,x,h=>by
  show _<=WData.weight (.int n)+1+WData.weightAll (r.map WData.int);rcases mem_cons.mp h with e | h
  ·subst e;have e:Builtin.Int.intBits x=WData.weight (.int x):=by
    unfold Builtin.Int.intBits WData.weight;rfl
   omega
  ·have:=Yv r x h;omega
theorem wu{l:OpenLaw}{n:Nat}{q:Program}{loose:List Str}{XP:(Str->Option Value)->Heap->Prop}{YP:World->Heap->Prop}{d:DefRec}
  (hn:l.most=some n) (hdf:d.params.defaults=[])
  (call:∀(w:World) (s₀ s₁:Shared) (mg mb:Str->Option Value) (fa:Addr) (o:Obj) (pm cd doc:Value) (a:Addr) (vs:List Value) (ns:List Int),
   Ground q loose [] XP w s₀ mg mb s₁.heap->YP w s₁.heap->
   s₁.heap.get? fa=some o->o.data = .func (docDef d.name d.params d.body d.scope pm cd doc)->s₁.heap.CodeRec cd d.name->mg d.name=some (.ref fa)->
   s₁.heap.get? a=some {cls:=.type "list",data:=.seq vs.toArray}->IntsAre vs ns->ns.length<=n->(∀x∈ns,Builtin.Int.intBits x<=1048576)->s₁.gens = #[]->
   codeAny (model l.prog w) callerA (.call (.ref fa) ⟨[.ref a],[]⟩) (fun r s'=>r = .ok (.ret (.bool true))/\OldK s₁.heap s'.heap/\s'.os=s₁.os/\AllBare s'.gens) s₁) :
  WalkO q loose XP YP l.row.toRowW d [] (fun f vs=>PySem.call f vs):=by
 intro w s₀ s₁ mg mb G Y fa o pm cd doc dV kV ho hd hcd hD hmg hg args vals as hpre hlay hrd hwl hlo;obtain rfl:dV = .none:=Dflts.none hD hdf;obtain rfl:kV = .none:=Dflts.noKw hD;obtain⟨a,vs,ns,rfl,rfl,hobj,hints,hlen⟩:=j1j hn hpre hwl;have hbits:∀x∈ns,Builtin.Int.intBits x<=1048576:=by
  have hw:(WData.list (ns.map WData.int)).weight<=2^20:=(layableW_iff.mp (layW_cons hlay).1).2.2;intro x hx;exact Nat.le_trans (Yv ns x hx) hw
 refine enter_call (codeAny_mono (call w s₀ s₁ mg mb fa o pm cd doc a vs ns G Y ho (fd_plain hd) hcd hmg hobj hints hlen hbits hg) fun r s' hq=>?_);obtain⟨rfl,h2,h3,h4⟩:=hq;exact⟨.inl ⟨.bool true,.bool true,[],rfl,fun _=>rfl,.bool true,j1c l _,fun _=>⟨List.Pairwise.nil,fun _ hm=>(nomatch hm)⟩⟩,h2,h3,h4⟩
end Att
namespace L2
open PySem PySem.Spec PyProof.Rows
theorem j2Y{l:PySem.W.OpenLaw}{n k:Nat}{q:Program}{loose:List Str}{XP:(Str->Option Value)->Heap->Prop}{YP:World->Heap->Prop}{d:DefRec}{K:Params->Frg}{CX:CXT}{sp:Frg->Sp}{x:Str}
  (hn:l.most=some n) (hn2:n<=sizeLine) (hdf:d.params.defaults=[]) (hr:Room k callerA)
  (hY:∀(w:World) (h:Heap),YP w h->(K w.params).In h)
  (F:∀(w:World) (mg:Str->Option Value) (fa:Addr) (h:Heap),(K w.params).In h->h.Ns mainGlobals mg->mg d.name=some (.ref fa)->
   ∃fd:FuncData,(∀(s:Shared) (u:Value),BindsTo s fd ⟨[u],[]⟩ [(x,u)])/\
    ∀base:Heap,(K w.params).In base->base.Ns mainGlobals mg->FnOk l.prog w (K w.params) mg base CX k fa fd [x] (sp (K w.params)))
  (hsp:∀(K:Frg) (H:Hp) (a:Addr) (ns:List Int),ns.length<=n->(∀x∈ns,Builtin.Int.intBits x<=1048576)->Only H->SqL K H a (ns.map V.int)->sp K [.ref a] H (fun v _=>v = .bl true) fun _ _ _=>False)
  (hCX:∀(H:Hp) (s:Shared) (e:Value) (s':Shared),CX [] H s (fun _ _ _=>False) e s'->False) :
  PySem.W.WalkO q loose XP YP l.row.toRowW d [] (fun f vs=>PySem.call f vs):=by
 refine Att.wu hn hdf fun w s₀ s₁ mg mb fa o pm cd doc a vs ns G Y ho hd hcd hmg hobj hints hlen hbits hg=>?_
 have KX:=hY w _ Y;obtain⟨fd,hb,hF⟩:=F w mg fa _ KX G.T.g hmg;exact j21 KX G.T.g G.T.b G.T.builtins G.T.nolimit hg hobj hints (Nat.le_trans hlen hn2) hr hF hb (fun H hO hS=>hsp _ H a ns hlen hbits hO hS) fun H e s'=>hCX H s₁ e s'
structure FunD(K:Frg)(x qual:Str)(st:Stmt)(T:Addr)(f:Addr)(fd:FuncData):Prop where
 ex:∃(oc:Value) (od:Option Addr) (kV doc pm:Value) (an:Option Addr) (cdv ct:Value) (osl:Array (Option Value)),
  fd=PySem.W.fnOf x qual (defArgs st) (defBody st) (defScope st) (.ref T) kV doc pm an cdv ct/\K.lookup f=some ⟨oc,od,.func fd,osl⟩/\PySem.W.codeIn K cdv qual=true
 kp:PySem.W.keepIn K (.ref f)=true
section
variable{P:Program}{w:World}{K:Frg}{mg:Str->Option Value}{base:Heap}
theorem FunD.ok{x qual:Str}{st:Stmt}{T f:Addr}{fd:FuncData}{N ps:List Str}{k:Nat}{sp:Sp}(F:FunD K x qual st T f fd)(S:FnScope N ps (defScope st))(len:∀vs H Q E,sp vs H Q E->vs.length=ps.length)
  (hbody:∀(cdv:Value) (A:Around) (outer:List Env) (s:Shared) (H:Hp) (vs:List V) (Q:VK) (E:XK),Room k (A.deeper (envOfC qual (defScope st) s.heap.objs.size f cdv))->sp vs H Q E->
   ∃t,PSs (cxOf CX0 P w K mg base N qual (defScope st) f cdv A outer s H E).nox (defBody st) t/\t {nx:=fun _ H'=>Q .non H',rt:=Q} (start N vs) H):FnOk P w K mg base CX0 (k+1) f fd ps sp:=by
 obtain⟨oc,od,kV,doc,pm,an,cdv,ct,osl,rfl,lk,hcd⟩:=F.ex;refine j45 lk hcd S len fun A outer s H vs Q E hr hsp=>?_
 obtain⟨t,h,q⟩:=hbody cdv A outer s H vs Q E hr hsp;exact⟨t,h.nox,q⟩
theorem FunD.binds{x qual:Str}{st:Stmt}{T f:Addr}{fd:FuncData}{ps:List Str}{ds:List Value}{o:Obj}{items:Array Value}{n:Nat}(m:Nat)(F:FunD K x qual st T f fd)(ht:K.lookup T=some o)(hs:o.data = .seq items n)(hm:m+ds.length=ps.length)
  (h:∀(kV doc pm:Value) (an:Option Addr) (cdv ct:Value) (us:List Value),us.length=m->∃k,bindArgs (PySem.W.fnOf x qual (defArgs st) (defBody st) (defScope st) (.ref T) kV doc pm an cdv ct) ⟨us,[]⟩=seqItems? (.ref T) >>= k/\k (some items)=pure (ps.zip (us++ds))):Binds K fd ps ds:=by
 obtain⟨oc,od,kV,doc,pm,an,cdv,ct,osl,rfl,lk,hcd⟩:=F.ex;intro s us KX hl;obtain⟨k,h1,h2⟩:=h kV doc pm an cdv ct us (by rw[List.length_append]at hl;omega);exact BindsTo.of_defaults rfl (KX _ _ ht) hs h1 h2
theorem j3h{x qual:Str}{st:Stmt}{T f:Addr}{oc:Value}{od an:Option Addr}{osl:Array (Option Value)}{kV doc pm cdv ct:Value}(l:K.lookup f=some ⟨oc,od,.func (PySem.W.fnOf x qual (defArgs st) (defBody st) (defScope st) (.ref T) kV doc pm an cdv ct),osl⟩)
  (c:PySem.W.codeIn K cdv qual=true) (k:PySem.W.keepIn K (.ref f)=true):FunD K x qual st T f (PySem.W.fnOf x qual (defArgs st) (defBody st) (defScope st) (.ref T) kV doc pm an cdv ct):=⟨⟨oc,od,kV,doc,pm,an,cdv,ct,osl,rfl,l,c⟩,k⟩
end
theorem SP.nx{X:Cx}{pins:List (Addr×Obj)}{D:Ends}{R:St->Hp->Prop}(hR:∀σ' H',R σ' H'->D.nx σ' H'){f:Flow}{s:Shared}(h:SP X pins {D with nx:=R} f s):SP X pins D f s:=by
 cases f with
 | next=>obtain⟨σ',H',I,q⟩:=h;exact⟨σ',H',I,hR _ _ q⟩
 | brk=>exact h
 | cont=>exact h
 | ret u=>exact h
def tIfJ(c:TT)(t u:TS):TS:=fun D σ H=>∃R:St->Hp->Prop,(∀σ' H',R σ' H'->D.nx σ' H')/\tIfS c t u {D with nx:=R} σ H
theorem yd{X:Cx}{pos:Pos}{t u:TS}{c:Expr}{a b:List Stmt}{tc:TT}(hc:PT X c tc)(ha:PSs X a t)(hb:PSs X b u):PS X (.If c a b pos) (tIfJ tc t u):=by
 intro pins s σ H D I h;obtain⟨R,hR,h⟩:=h;exact thn (jJ hc ha hb pins s σ H _ I h) fun f s' q=>q.nx hR
open PySem
theorem jK:bootBuiltins "len"= some (.builtin "len"):=by decide +kernel
theorem xD:bootBuiltins "max"= some (.builtin "max"):=by decide +kernel
theorem j1F:bootBuiltins "min"= some (.builtin "min"):=by decide +kernel
theorem ww:bootBuiltins "sum"= some (.builtin "sum"):=by decide +kernel
theorem xB:bootBuiltins "all"= some (.builtin "all"):=by decide +kernel
theorem zm:bootBuiltins "sorted"= some (.builtin "sorted"):=by decide +kernel
theorem xC:bootBuiltins "int"= some (.type "int"):=by decide +kernel
theorem j1G:bootBuiltins "str"= some (.type "str"):=by decide +kernel
theorem ZJ:bootBuiltins "list"= some (.type "list"):=by decide +kernel
theorem Zl:bootBuiltins "tuple"= some (.type "tuple"):=by decide +kernel
theorem j34:bootBuiltins "dict"= some (.type "dict"):=by decide +kernel
theorem j4k:bootBuiltins "set"= some (.type "set"):=by decide +kernel
theorem yw:bootBuiltins "enumerate"= some (.type "enumerate"):=by decide +kernel
theorem xE:bootBuiltins "zip"= some (.type "zip"):=by decide +kernel
def Its(z:Str):It:=⟨fun i _=>i<z.cps.size,fun i H x H'=>H'=H/\∃c,z.cps[i]?=some c/\x = .str ⟨#[c]⟩,fun i _=>i=z.cps.size⟩
theorem xp{P:Program}{w:World}{K:Frg}{tg:Expr}{it:Addr}{x:Str}{t:Tok}{cn:String}(ht:∀a v,letOwnedTupleGo tg a v=pure ())
  (W:∀A:Around,A.handled=none->Walks P w A it [it] [it] x.cps.size (SignAt x) (fun i h=>h.IsStrIter it cn x t i))
  (sf:∀(A:Around) (i:Nat) (s:Shared) (Q:Value->Shared->Prop) (E:Value->Shared->Prop),s.heap.IsStrIter it cn x t i->Q (.ref it) s->wpAny (model P w) A (pyIter (.ref it)) Q E s) :
  Turn P w K tg (Its x) [it] it (fun i h=>h.IsStrIter it cn x t i) where
 mem:=by simp
 obj:=fun i h st b hb=>by
  have e:b=it:=by simpa using hb
  subst e;obtain⟨o,e,c,d⟩:=st;exact⟨o,e,fun v z=>by rw[d]at z;cases z⟩
 keep:=fun i h h' st k=>let ⟨o,ho,r⟩:=st;⟨o,k it (by simp) o ho,r⟩
 item:=by
  intro X hP hw hK hc i pins s σ H E I hf st hg;subst hP hw hK;obtain⟨f0,f1,f2,f3,f4,f5⟩:=hf it (by simp);refine(W X.A (I.ok.hd hc)).item i s _ _ hg st fun v h' tk hv st' kk=>?_
  obtain⟨c,u,e1,rfl⟩:=hv;have I1:Inv X pins σ H {s with heap:=h',toks:=tk}:=I.turned (fun b o hb e=>kk b o (by simpa using hb) e) f0 f1 f3 f4 f5;refine⟨_,rfl,?_⟩;rw[ht];exact wpAny_pure ⟨.str ⟨#[c]⟩,H,I1,⟨_,rfl⟩,⟨rfl,c,e1,rfl⟩,st',fun b hb=>(hf b hb).1⟩
 done:=by
  intro X hP hw hK hc i pins s σ H E I hf st hg;subst hP hw hK;obtain⟨f0,f1,f2,f3,f4,f5⟩:=hf it (by simp);have e:i=x.cps.size:=hg;subst e;exact(W X.A (I.ok.hd hc)).done s _ _ st fun h' tk kk=>⟨rfl,I.turned (fun b o hb e=>kk b o (by simpa using hb) e) f0 f1 f3 f4 f5⟩
 self:=fun A i s Q E st h=>sf A i s Q E st h
section
variable{X:Cx}{tg:Expr}
def iStr(tl:TE):TI:=fun σ H R=>tl σ H fun x H1=>∃z,x = .str z/\R (Its z) H1
theorem j4V{l:Expr}{tl:TE}(hl:PE X l tl)(ht:∀a v,letOwnedTupleGo tg a v=pure ():=by intro _ _;rfl):PI X tg l (iStr tl):=by
 intro pins s σ H R I h;refine thn (hl pins s σ H _ I h) fun v s1 ⟨x,H1,I1,r1,q1⟩=>?_
 obtain⟨z,e,q⟩:=q1;subst e;obtain⟨t,rfl⟩:=r1;have fr:∀b∈[s1.heap.objs.size],FpOk X pins H1 b:=fun b hb=>by
  have e:b=s1.heap.objs.size:=by simpa using hb
  subst e;exact I1.fpOk (Nat.le_refl _) (I1.hok.fresh (Nat.le_refl _))
 cases ha:z.cps.all (· < 128)
 ·refine wpAny_pyIter_wide ha ?_;exact⟨s1.heap.objs.size,[s1.heap.objs.size],_,_,H1,rfl,I1.kept (t':=s1.toks) fun b o e=>Heap.get?_push_of_some _ e,
   xp ht (fun A hA=>Walks.strWide hA _ z t) (fun A i s Q E st h=>wpAny_pyIter_striter_wide st h),⟨_,Heap.get?_push_size _ rfl,rfl,rfl⟩,fr,q⟩
 ·refine wpAny_pyIter_ascii ha ?_;exact⟨s1.heap.objs.size,[s1.heap.objs.size],_,_,H1,rfl,I1.kept (t':=s1.toks) fun b o e=>Heap.get?_push_of_some _ e,
   xp ht (fun A hA=>Walks.strAscii hA _ z t) (fun A i s Q E st h=>wpAny_pyIter_striter_ascii st h),⟨_,Heap.get?_push_size _ rfl,rfl,rfl⟩,fr,q⟩
theorem j1I{z:Str}{k:Nat}{ci:List Nat}{g:TG}{tf:TT}{te:TE}{σ:St}{H:Hp}{Z:Addr->List V->Hp->Prop}(Pv:Nat->List V->Hp->Prop)(h0:Pv 0 [] H)
  (hs:∀i c ys H,z.cps[i]?=some c->Pv i ys H->g (.str ⟨#[c]⟩) (capS k ci σ) H fun σ2 H2=>tf σ2 H2 fun b H3=>if b=true then te σ2 H3 fun v H4=>ys.length<sizeLine/\Pv (i+1) (ys++[v]) H4 else Pv (i+1) ys H3)
  (hd:∀ys H,Pv z.cps.size ys H->ys.length<=sizeLine/\∀p,H p=none->Z p ys H) :
  ∃W:Nat->Nat->List V->Hp->Prop,(∃m,W 0 m [] H)/\∀i m ys H,W i m ys H->
   ((Its z).stop i H/\ys.length<=sizeLine/\∀p,H p=none->Z p ys H)\/
   ((Its z).go i H/\∃N:List V->Hp->Prop,(∀ys' H',N ys' H'->∃m',m'<m/\W (i+1) m' ys' H')/\∀x H',(Its z).yld i H x H'->g x (capS k ci σ) H' fun σ2 H2=>tf σ2 H2 fun b H3=>
    if b=true then te σ2 H3 fun v H4=>ys.length<sizeLine/\N (ys++[v]) H4 else N ys H3):=by
 refine⟨fun i m ys H=>m=z.cps.size-i/\i<=z.cps.size/\Pv i ys H,⟨z.cps.size,by simp,Nat.zero_le _,h0⟩,?_⟩;rintro i m ys H ⟨rfl,hi,p⟩;by_cases hlt:i<z.cps.size
 ·refine .inr ⟨hlt,Pv (i+1),fun ys' H' p'=>⟨z.cps.size-(i+1),by omega,rfl,hlt,p'⟩,fun x H' y=>?_⟩;obtain⟨e,c,e1,e2⟩:=y;subst e e2;exact hs i c ys _ e1 p
 ·have e:i=z.cps.size:=by omega
  subst e;exact .inl ⟨rfl,hd ys H p⟩
theorem Wn:SlR X (fun x lo hi H Q=>∃z,x = .str z/\z.length<=sizeLine/\Q (.str (Txt.slice z lo hi)) H):=by
 intro pins s σ H x v vl vu lo hi sl Q I rx hs pl pu h;obtain⟨z,rfl,hz,q⟩:=h;obtain⟨t,rfl⟩:=rx;refine⟨"str",_,F.slot_str_getitem.lookup,typeIs_str _ _ _,?_⟩;have fin:∀(lo hi:Option Int),Q (.str (Txt.slice z lo hi)) H->∀t' k,EP X pins σ Q (.str (Txt.slice z lo hi) t') {s with toks:=k}:=fun lo hi q t' k=>⟨.str _,H,I.tok _,⟨_,rfl⟩,q⟩
 cases pl with
 | none=>
  cases pu with
  | none=>exact wpAny_getItem_str_slice (l:=none) (u:=none) (st:=none) hs rfl (post_val_or_str ⟨Nat.le_trans (Txt.slice_le z _ _) hz,fin _ _ q⟩)
  | int j uj=>exact wpAny_getItem_str_slice (l:=none) (u:=some (j,uj)) (st:=none) hs rfl (post_val_or_str ⟨Nat.le_trans (Txt.slice_le z _ _) hz,fin _ _ q⟩)
 | int i ui=>
  cases pu with
  | none=>exact wpAny_getItem_str_slice (l:=some (i,ui)) (u:=none) (st:=none) hs rfl (post_val_or_str ⟨Nat.le_trans (Txt.slice_le z _ _) hz,fin _ _ q⟩)
  | int j uj=>exact wpAny_getItem_str_slice (l:=some (i,ui)) (u:=some (j,uj)) (st:=none) hs rfl (post_val_or_str ⟨Nat.le_trans (Txt.slice_le z _ _) hz,fin _ _ q⟩)
theorem Xw{ys:List Str}:∀{us:List Value},Vals (ys.map V.str) us->StrsAre us ys:=by
 induction ys with
 | nil=>intro us r;rw[map_nil]at r;cases r;exact .nil
 | cons n ns ih=>
  intro us r;rw[map_cons]at r;cases r with
  | cons r1 r2=>
   obtain⟨t,e⟩:=r1;subst e;exact .cons n t (ih r2)
theorem YU:MtR X "str.join" (fun x vs H Q=>∃(z:Str) (p:Addr) (ys:List Str),x = .str z/\vs=[.ref p]/\SqL X.K H p (ys.map V.str)/\(ys.map (·.length)).sum+ys.length*z.length<=16777216/\Q (.str (Txt.join z ys)) H):=by
 intro pins s σ H x vs v us Q I rx rv h;obtain⟨z,p,ys,rfl,rfl,hx,hz,q⟩:=h;obtain⟨t,rfl⟩:=rx;obtain⟨u,rfl,ru⟩:=vals1 rv;cases ru;obtain⟨its,r',pl,_⟩:=I.list hx;exact join_list pl.isList (by simpa using Xw r') hz fun t' k=>⟨.str _,H,I.tok _,⟨_,rfl⟩,q⟩
theorem j4O:OpR X (compareOp .In) (fun x y H Q=>∃(c:Nat) (z:Str),x = .str ⟨#[c]⟩/\y = .str z/\Q (.bl (decide (c∈z.cps.toList))) H):=by
 intro pins s σ H x y v u Q I rx ry h;obtain⟨c,z,rfl,rfl,q⟩:=h;refine j16 pins s σ H _ _ v u Q I rx ry ⟨_,_,rfl,rfl,?_⟩;rw[StrLaws.found_one];exact q
theorem KI:CallR X (.type "int") (fun xs H Q=>∃(x:Str) (n:Int),xs=[.str x]/\PySem.intText? x=some n/\x.length<=640/\Q (.int n) H):=by
 intro pins s σ H xs us Q I r h;obtain⟨x,n,rfl,e,hl,q⟩:=h;obtain⟨u,rfl,t,rfl⟩:=vals1 r;exact PySem.W.KIN.call_text e hl ⟨.int n,H,I.tok _,⟨_,rfl⟩,q⟩
theorem j3F:OpR X (binaryOp .Mult) (fun x y H Q=>∃(z:Str) (n:Int),x = .str z/\y = .int n/\MulOk z n/\Q (.str (Txt.mul z n)) H):=by
 intro pins s σ H x y v u Q I rx ry h;obtain⟨z,n,rfl,rfl,hk,q⟩:=h;obtain⟨t,rfl⟩:=rx;obtain⟨t',rfl⟩:=ry;exact SB.mul hk fun t' k=>⟨.str _,H,I.tok _,⟨_,rfl⟩,q⟩
theorem y3(hc:X.calm=true):CallR X (.builtin "all") (fun xs H Q=>∃(p:Addr) (bs:List Bool),xs=[.ref p]/\SqL X.K H p (bs.map V.bl)/\Q (.bl (bs.all id)) H):=by
 intro pins s σ H xs us Q I r h;obtain⟨p,bs,rfl,hx,q⟩:=h;obtain⟨u,rfl,rx⟩:=vals1 r;cases rx;obtain⟨its,r',pl,_⟩:=I.list hx;have hl:=pl.isList;obtain⟨o,ho,_⟩:=id hl;have hne:p≠s.heap.objs.size:=Nat.ne_of_lt (Heap.lt_size ho);have W:=Walks.list (prog:=X.prog) (w:=X.w) (A:=X.A.in1) (I.ok.hd hc) s.heap.objs.size p hne its.toArray;refine call_all_walk (wpAny_pyIter_list hl ⟨s.heap.objs.size,_,_,_,_,_,fun i=>bs.getD i true,rfl,W,⟨⟨_,Heap.get?_push_size _ rfl,rfl,rfl⟩,hl.at fun o e=>Heap.get?_push_of_some _ e⟩,?_,?_⟩)
 ·intro i v s' Q' E' hP hQ;have hP':its[i]?=some v:=by simpa using hP
  have hb:∃b,bs[i]?=some b/\v = .bool b:=by
   have hlen:i<bs.length:=by
    have:=(List.getElem?_eq_some_iff.mp hP').1;have e:=r'.length;rw[length_map]at e;omega
   obtain⟨u,hu,ru⟩:=r'.get (i:=i) (x:=.bl bs[i]) (by rw[List.getElem?_map,List.getElem?_eq_getElem hlen];rfl);rw[hP']at hu;cases hu;exact⟨_,List.getElem?_eq_getElem hlen,ru⟩
  obtain⟨b,e1,rfl⟩:=hb;dsimp only at hQ;rw[getD_eq_getElem?_getD,e1]at hQ;exact wpAny_truthy_bool hQ
 ·intro h' tk hk;have e:(List.range its.toArray.size).all (fun i=>bs.getD i true)=bs.all id:=by
   have hl2:its.toArray.size=bs.length:=by
    have e:=r'.length;rw[length_map]at e;simp[e]
   rw[hl2,Bool.eq_iff_iff];simp only[all_eq_true,mem_range,id_eq];constructor
   ·intro hh b hb;obtain⟨i,hi,rfl⟩:=mem_iff_getElem.mp hb;have:=hh i hi;rw[getD_eq_getElem?_getD,List.getElem?_eq_getElem hi]at this;exact this
   ·intro hh i hi;rw[getD_eq_getElem?_getD,List.getElem?_eq_getElem hi];exact hh _ (getElem_mem hi)
  rw[e];refine⟨.bl _,H,I.kept fun b o e=>hk b o ?_ (Heap.get?_push_of_some _ e),rfl,q⟩;intro hb;have:b=s.heap.objs.size:=by simpa using hb
  exact absurd (Heap.lt_size e) (this▸Nat.lt_irrefl _)
theorem rd_iStr{tl:TE}{σ:St}{H:Hp}{R:It->Hp->Prop}(h:tl σ H fun x H1=>∃z,x = .str z/\R (Its z) H1):iStr tl σ H R:=h
theorem rd_str{z:Str}{R:Str->Prop}(h:R z):∃z',V.str z = .str z'/\R z':=⟨z,rfl,h⟩
end
section
variable{X:Cx}{K:Frg}
theorem Qq(e:X.K=K):IxR X (rIxL K):=by subst e;exact ju
theorem X8(e:X.K=K):IxR X (rIxT K):=by subst e;exact jA
theorem kO(e:X.K=K):OpR X (compareOp .In) (rIn K false):=by subst e;exact zw
theorem Z1(e:X.K=K):OpR X (compareOp .NotIn) (rIn K true):=by subst e;exact w6
end
mutual
inductive DV(H:Hp):V->PyData->Prop
 | non:DV H .non .none
 | bl (b:Bool):DV H (.bl b) (.bool b)
 | int (i:Int):DV H (.int i) (.int i)
 | str (x:Str):DV H (.str x) (.str x)
 | lst {a:Addr} {xs:List V} {ds:List PyData}:H a=some (.lst xs)->DVs H xs ds->DV H (.ref a) (.list ds)
 | tup {a:Addr} {xs:List V} {ds:List PyData}:H a=some (.tup xs)->DVs H xs ds->DV H (.ref a) (.tuple ds)
inductive DVs(H:Hp):List V->List PyData->Prop
 | nil:DVs H [] []
 | cons {x:V} {d:PyData} {xs:List V} {ds:List PyData}:DV H x d->DVs H xs ds->DVs H (x::xs) (d::ds)
end
mutual
theorem DV.mono{H H':Hp}(k:Same H H'):∀{v:V} {d:PyData},DV H v d->DV H' v d
 | _,_,.non=>.non
 | _,_,.bl b=>.bl b
 | _,_,.int i=>.int i
 | _,_,.str x=>.str x
 | _,_,.lst e r=>.lst (k _ _ e) (DVs.mono k r)
 | _,_,.tup e r=>.tup (k _ _ e) (DVs.mono k r)
theorem DVs.mono{H H':Hp}(k:Same H H'):∀{vs:List V} {ds:List PyData},DVs H vs ds->DVs H' vs ds
 | _,_,.nil=>.nil
 | _,_,.cons a r=>.cons (DV.mono k a) (DVs.mono k r)
end
section
variable{X:Cx}
mutual
theorem QR{pins:List (Addr×Obj)}{s:Shared}{σ:St}{H:Hp}(I:Inv X pins σ H s):∀{v:V} {d:PyData} {u:Value},DV H v d->RelV v u->∃as,Reads s.heap u d as
 | _,_,_,.non,r=>⟨_,by cases r;exact Reads.none⟩
 | _,_,_,.bl b,r=>⟨_,by cases r;exact Reads.bool b⟩
 | _,_,_,.int i,r=>by obtain⟨t,rfl⟩:=r;exact⟨_,Reads.int i t⟩
 | _,_,_,.str x,r=>by obtain⟨t,rfl⟩:=r;exact⟨_,Reads.str x t⟩
 | _,_,_,.lst e q,r=>by
  cases r;obtain⟨_,its,c,rv,he⟩:=I.hok _ _ e;obtain⟨as,ra⟩:=Ya I q rv;exact⟨_,reads_list_at he rfl rfl (by simpa using ra)⟩
 | _,_,_,.tup e q,r=>by
  cases r;obtain⟨its,rv,pl,_⟩:=I.tuple (SqT.of e);obtain⟨o,ho,hc,n,hd⟩:=pl;obtain⟨as,ra⟩:=Ya I q rv;exact⟨_,reads_tuple_at ho hc hd (by simpa using ra)⟩
theorem Ya{pins:List (Addr×Obj)}{s:Shared}{σ:St}{H:Hp}(I:Inv X pins σ H s):∀{vs:List V} {ds:List PyData} {us:List Value},DVs H vs ds->Vals vs us->∃as,ReadsAll s.heap us ds as
 | _,_,_,.nil,r=>by cases r;exact⟨_,ReadsAll.nil⟩
 | _,_,_,.cons a q,r=>by
  cases r with
  | cons r1 r2=>
   obtain⟨as,ra⟩:=QR I a r1;obtain⟨bs,rb⟩:=Ya I q r2;exact⟨_,ReadsAll.cons ra rb⟩
end
theorem wZ(hu:X.A.units+64<cLine):OpR X (compareOp .Eq) (fun x y H Q=>∃d e,DV H x d/\DV H y e/\SeqAt.shaped d=true/\SeqAt.shaped e=true/\Q (.bl (PyData.eqv d e)) H):=by
 intro pins s σ H x y v u Q I rx ry h;obtain⟨d,e,hd,he,sd,se,q⟩:=h;obtain⟨as,ra⟩:=QR I hd rx;obtain⟨bs,rb⟩:=QR I he ry;exact eq_dataH ra rb sd se hu ⟨.bl _,H,I,rfl,q⟩
theorem kP(hu:X.A.units+64<cLine):OpR X (compareOp .NotEq) (fun x y H Q=>∃d e,DV H x d/\DV H y e/\SeqAt.shaped d=true/\SeqAt.shaped e=true/\Q (.bl (!PyData.eqv d e)) H):=by
 intro pins s σ H x y v u Q I rx ry h;obtain⟨d,e,hd,he,sd,se,q⟩:=h;obtain⟨as,ra⟩:=QR I hd rx;obtain⟨bs,rb⟩:=QR I he ry;exact ne_dataH ra rb sd se hu ⟨.bl _,H,I,rfl,q⟩
theorem xq{us:List Value}:∀{ns:List Int},IntsAre us ns->Vals (ns.map V.int) us:=by
 induction us with
 | nil=>intro ns r;cases r;exact .nil
 | cons u us ih=>
  intro ns r;cases r with
  | cons n t r=>exact .cons ⟨t,rfl⟩ (ih r)
theorem zN:CallR X (.builtin "sorted") (fun xs H Q=>∃(p:Addr) (ns:List Int),xs=[.ref p]/\SqL X.K H p (ns.map V.int)/\ns.length<64/\∀(l:Addr) (ms:List Int),H l=none->ms.Perm ns->ms.Pairwise (·<=·)->Q (.ref l) (upd H l (.lst (ms.map V.int)))):=by
 intro pins s σ H xs us Q I r h;obtain⟨p,ns,rfl,hx,hn,q⟩:=h;obtain⟨u,rfl,rx⟩:=vals1 r;cases rx;obtain⟨its,r',pl,_⟩:=I.list hx;have hi:=intsAre_of r';have hlen:=r'.length;rw[length_map]at hlen;refine sorted_ints pl.isList hi (by omega) fun out ms ho hp hs=>?_
 obtain⟨e,he⟩:=sortedAll_at s.heap its out;refine⟨.ref (s.heap.objs.size+1),_,I.laid (t':=s.toks) (a:=s.heap.objs.size+1) (o:=.lst (ms.map V.int)) (fun b o hb=>sortedAll_old hb) (Nat.le_succ _) ?_,rfl,q _ ms (I.hok.fresh (Nat.le_succ _)) hp hs⟩;have hml:ms.length=ns.length:=hp.length_eq;exact⟨by rw[length_map,hml];exact Nat.le_trans (Nat.le_of_lt hn) (by decide),out.toList,e,xq ho,by simpa using he⟩
theorem KJ(hc:X.calm=true):CallR X (.builtin "max") (fun xs H Q=>∃(p:Addr) (ns:List Int),xs=[.ref p]/\SqL X.K H p (ns.map V.int)/\0<ns.length/\∀m∈ns,(∀a∈ns,a<=m)->Q (.int m) H):=by
 intro pins s σ H xs us Q I r h;obtain⟨p,ns,rfl,hx,hne,q⟩:=h;obtain⟨u,rfl,rx⟩:=vals1 r;cases rx;obtain⟨its,r',pl,_⟩:=I.list hx;have hi:=intsAre_of r';have hl:=pl.isList;obtain⟨xs,e⟩:=hi.allInts.items;have hns:ns=xs.toList.map (·.1):=by rw[<-hi.numsOf,<-nums_intItems,<-e]
 have hsz:0<xs.size:=by
  have h3:=hne;rw[hns,length_map,Array.length_toList]at h3;exact h3
 rw[e]at hl;refine max_intList (I.ok.hd hc) hl hsz fun v h' tk hv hk=>?_
 obtain⟨t,rfl⟩:=intItems_at hv;obtain⟨h1,h2⟩:=argBest_gt (numAt xs) (xs.size-1);refine⟨.int _,H,I.kept (t':=tk) hk,⟨_,rfl⟩,q _ ?_ fun a ha=>?_⟩
 ·rw[hns,numAt_eq];exact getD_mem (by rw[length_map,Array.length_toList];omega)
 ·rw[hns]at ha;obtain⟨j,hj,rfl⟩:=mem_getD ha;rw[length_map,Array.length_toList]at hj;rw[<-numAt_eq];exact h2 j (by omega)
end
section
variable{σ:St}{H:Hp}{Q:VK}
theorem rd_dget{td ty:TE}(h:td σ H fun x H1=>ty σ H1 fun y H2=>∃a v,x = .ref a/\DGet H2 a y (some v)/\Q v H2):tDGet td ty σ H Q:=h
theorem j0j{trs:List (TE×TE)}(h:∀p,H p=none->tPairs trs σ (upd H p (.dK [])) fun ps H2=>H2 p=some (.dK [])/\∃kvs:List (Key×V),ps=kvs.map (fun kv=>(kV kv.1,kv.2))/\kvs.length<=15/\Q (.ref p) (upd H2 p (.dK (mergeK [] kvs)))):tDisp trs σ H Q:=h
theorem rd_prN{R:List (V×V)->Hp->Prop}(h:R [] H):tPairs [] σ H R:=h
theorem rd_prC{tk tv:TE}{r:List (TE×TE)}{R:List (V×V)->Hp->Prop}(h:tk σ H fun x H1=>tv σ H1 fun y H2=>tPairs r σ H2 fun ps H3=>R ((x,y)::ps) H3):tPairs ((tk,tv)::r) σ H R:=h
end
def TabK(K:Frg)(a:Addr)(D:List (Str×PyProof.Rows.KTD.Dat)):Prop:=PyProof.Rows.KTD.tabLook (PyProof.Rows.KTD.datLooks fun b=>K.lookup b) (fun b=>K.lookup b) a D=true
section
variable{X:Cx}
theorem Xl:OpR X (compareOp .In) (fun x y H Q=>∃a k D,x = .str k/\y = .ref a/\TabK X.K a D/\Q (.bl (PyProof.Rows.KTD.inKeys k D)) H):=by
 intro pins s σ H x y v u Q I rx ry h;obtain⟨a,k,D,rfl,rfl,T,q⟩:=h;obtain⟨t,rfl⟩:=rx;cases ry;exact PyProof.Rows.KTD.in_text (h₀:=s.heap) ⟨PySem.W.kt_text_in I.kIn T,fun _ _ e=>e⟩ ⟨.bl _,H,I.tok _,rfl,q⟩
theorem j17:OpR X (compareOp .NotIn) (fun x y H Q=>∃a k D,x = .str k/\y = .ref a/\TabK X.K a D/\Q (.bl (!PyProof.Rows.KTD.inKeys k D)) H):=by
 intro pins s σ H x y v u Q I rx ry h;obtain⟨a,k,D,rfl,rfl,T,q⟩:=h;obtain⟨t,rfl⟩:=rx;cases ry;exact PyProof.Rows.KTD.notin_text (h₀:=s.heap) ⟨PySem.W.kt_text_in I.kIn T,fun _ _ e=>e⟩ ⟨.bl _,H,I.tok _,rfl,q⟩
theorem KL:CallR X (.type "str") (fun xs H Q=>(∃i,xs=[.int i]/\i.natAbs.log2<1920/\Q (.str (toString i)) H)\/∃x,xs=[.str x]/\Q (.str x) H):=by
 intro pins s σ H xs us Q I r h;rcases h with⟨i,rfl,hz,q⟩ | ⟨x,rfl,q⟩
 ·obtain⟨u,rfl,t,rfl⟩:=vals1 r;exact PySem.P.str_of_int hz ⟨.str _,H,I.tok _,⟨_,rfl⟩,q⟩
 ·obtain⟨u,rfl,t,rfl⟩:=vals1 r;exact PySem.P.str_of_str ⟨.str x,H,I,⟨_,rfl⟩,q⟩
end
theorem yy{K:Frg}{a:Addr}{xs:List V}{k:Nat}{ci:List Nat}{g:TG}{tf:TT}{te:TE}{σ:St}{H:Hp}{Z:Addr->List V->Hp->Prop}(Pv:Nat->List V->Hp->Prop)(h0:Pv 0 [] H)(hl:∀i ys H,i<=xs.length->Pv i ys H->SqT K H a xs)
  (hs:∀i x ys H,xs[i]?=some x->Pv i ys H->g x (capS k ci σ) H fun σ2 H2=>tf σ2 H2 fun b H3=>if b=true then te σ2 H3 fun v H4=>ys.length<sizeLine/\Pv (i+1) (ys++[v]) H4 else Pv (i+1) ys H3)
  (hd:∀ys H,Pv xs.length ys H->ys.length<=sizeLine/\∀p,H p=none->Z p ys H) :
  ∃W:Nat->Nat->List V->Hp->Prop,(∃m,W 0 m [] H)/\∀i m ys H,W i m ys H->
   ((Itt K a).stop i H/\ys.length<=sizeLine/\∀p,H p=none->Z p ys H)\/
   ((Itt K a).go i H/\∃N:List V->Hp->Prop,(∀ys' H',N ys' H'->∃m',m'<m/\W (i+1) m' ys' H')/\∀x H',(Itt K a).yld i H x H'->g x (capS k ci σ) H' fun σ2 H2=>tf σ2 H2 fun b H3=>
    if b=true then te σ2 H3 fun v H4=>ys.length<sizeLine/\N (ys++[v]) H4 else N ys H3):=by
 refine⟨fun i m ys H=>m=xs.length-i/\i<=xs.length/\Pv i ys H,⟨xs.length,by simp,Nat.zero_le _,h0⟩,?_⟩;rintro i m ys H ⟨rfl,hi,p⟩;have q:=hl i ys H hi p;by_cases hlt:i<xs.length
 ·refine .inr ⟨⟨xs,xs[i],q,by simp[hlt]⟩,Pv (i+1),fun ys' H' p'=>⟨xs.length-(i+1),by omega,rfl,hlt,p'⟩,fun x H' y=>?_⟩;obtain⟨e,y⟩:=y;subst e;exact hs i x ys _ (y xs q) p
 ·have e:i=xs.length:=by omega
  subst e;exact .inl ⟨⟨xs,q,Nat.le_refl _⟩,hd ys H p⟩
theorem rd_iTup{K:Frg}{te:TE}{σ:St}{H:Hp}{R:It->Hp->Prop}(h:te σ H fun x H1=>∃a,x = .ref a/\(∃xs,SqT K H1 a xs)/\R (Itt K a) H1):iTup K te σ H R:=h
theorem qP{K:Frg}{i j:Nat}{a:Addr}{x y:V}{σ:St}{H:Hp}{R:St->Hp->Prop}(e:SqT K H a [x,y])(h:gName i x σ H fun σ' H'=>gName j y σ' H' R):gTup K 2 (gCons (gName i) (gCons (gName j) gNil)) (.ref a) σ H R:=
 ⟨a,[x,y],rfl,e,rfl,x,[y],rfl,y,[],rfl,rfl,h⟩
theorem rd_dnew{σ:St}{H:Hp}{Q:VK}(h:∀p,H p=none->Q (.ref p) (upd H p (.dK []))):tDNewK σ H Q:=h
theorem rd_dput{td ty tv:TE}{σ:St}{H:Hp}{D:Ends}(h:tv σ H fun v H1=>td σ H1 fun x H2=>ty σ H2 fun y H3=>∃a H4,x = .ref a/\DPut H3 a y v H4/\D.nx σ H4):sDPut td ty tv D σ H:=h
theorem rd_bm0{K:Frg}{T:String}{r:V->List V->Hp->VK->Prop}{to:TE}{σ:St}{H:Hp}{Q:VK}(h:to σ H fun x H1=>tyV K T x H1/\r x [] H1 Q):tBM0 K T r to σ H Q:=h
section
variable{X:Cx}{pins:List (Addr×Obj)}{σ:St}{H:Hp}{s:Shared}{h':Heap}
theorem Inv.turnedL{t':Nat}{ch:List Addr}(I:Inv X pins σ H s)(hf:∀b∈ch,FpOk X pins H b)(k:∀b o,b∉ch->s.heap.get? b=some o->h'.get? b=some o):Inv X pins σ H {s with heap:=h',toks:=t'}:=by
 have nit:∀b u,H b=some u->b∉ch:=fun b u e z=>by rw[(hf b z).1]at e;cases e
 refine I.step (g':=s.gens) (d':=s.drawn) (ch:=ch) (fun b hb=>?_) (fun b o _ _ hc e _=>k b o hc e) (fun b o _ _ hc e _=>⟨o.slots,k b o hc e⟩) (fun _ _ _ _ n=>n)
  (fun b o hc e=>⟨o,k b o hc e⟩) (fun _ _ e=>e) (fun _ _ _ e=>e) (fun b ps e=>⟨#[],by rw[e];simp⟩) (fun m hm=>?_) (fun b u e=>?_) I.bare
 ·obtain⟨_,f1,_,f3,f4,f5⟩:=hf b hb;exact⟨f3,f1,f4,f5⟩
 ·obtain⟨o,es,ep,ho,r⟩:=hm;exact⟨o,es,ep,k _ o (fun z=>(hf _ z).2.1 rfl) ho,r⟩
 ·refine(I.hok b u e).stay (fun c v hc q=>k c v ?_ q) (fun _ q=>q) fun _ _ q=>q
  rcases hc with z | z
  ·rw[z];exact nit b u e
  ·exact nit c _ z
theorem Inv.pair{t':Nat}{ch:List Addr}{x y:V}{u v:Value}(I:Inv X pins σ H s)(hf:∀b∈ch,FpOk X pins H b)(hl:∀b∈ch,b<s.heap.objs.size)(rx:RelV x u)(ry:RelV y v)
  (hT:h'.get? s.heap.objs.size=some {cls:=.type "tuple",data:=.seq #[u,v]}) (k:∀b o,b∉ch->s.heap.get? b=some o->h'.get? b=some o) :
  Inv X pins σ (upd H s.heap.objs.size (.tup [x,y])) {s with heap:=h',toks:=t'}/\∀b∈ch,FpOk X pins (upd H s.heap.objs.size (.tup [x,y])) b:=by
 have f:∀b∈ch,FpOk X pins (upd H s.heap.objs.size (.tup [x,y])) b:=fun b hb=>⟨(jo (Nat.ne_of_lt (hl b hb))).trans (hf b hb).1,(hf b hb).2⟩
 have I1:Inv X pins σ (upd H s.heap.objs.size (.tup [x,y])) {s with heap:=s.heap.push {cls:=.type "tuple",data:=.seq #[u,v]},toks:=t'}:=
  I.laid (t':=t') (fun b o e=>Heap.get?_push_of_some _ e) (Nat.le_refl _) (show ObjOk X.prog X.w _ _ _ (.tup [x,y])from⟨(by show 2<=sizeLine;decide),[u,v],.cons rx (.cons ry .nil),IsTup.new _ _⟩)
 refine⟨I1.turnedL (h':=h') (t':=t') f fun b o hb e=>?_,f⟩;rcases Heap.get?_push_cases e with⟨rfl,rfl⟩ | e
 ·exact hT
 ·exact k b o hb e
end
def Ite(K:Frg)(a:Addr):It:=
 ⟨fun i H=>∃xs x,SqL K H a xs/\xs[i]?=some x,fun i H x H'=>∃T v,x = .ref T/\H T=none/\H'=upd H T (.tup [.int i,v])/\∀xs,SqL K H a xs->xs[i]?=some v,fun i H=>∃xs,SqL K H a xs/\xs.length<=i⟩
theorem j1q{P:Program}{w:World}{K:Frg}{elts:List Expr}{k:Nat}{pos:Pos}(a e it:Addr)(hne:e≠it) :
  Turn P w K (.Tuple elts k pos) (Ite K a) [e,it] e (fun i h=>(∃old,IsEnum h e it ((i:Nat):Int) old)/\h.IsListIter it a i) where
 mem:=by simp
 obj:=fun i h st b hb=>by
  rcases(by simpa using hb:b=e\/b=it)with rfl | rfl
  ·obtain⟨old,he⟩:=st.1;exact⟨_,he,fun v z=>by cases z⟩
  ·obtain⟨o,e,c,d⟩:=st.2;exact⟨o,e,fun v z=>by rw[d]at z;cases z⟩
 keep:=fun i h h' st k=>⟨let ⟨old,he⟩:=st.1;⟨old,k e (by simp) _ he⟩,st.2.at fun o q=>k it (by simp) o q⟩
 item:=by
  intro X hP hw hK hc i pins s σ H E I hf st hg;subst hP hw hK;obtain⟨xs,x,hq,hx⟩:=hg;obtain⟨its,rv,p,hz⟩:=I.list hq;obtain⟨u,hu,ru⟩:=rv.get hx;obtain⟨⟨old,he⟩,hit⟩:=st;have le:e<s.heap.objs.size:=Heap.lt_size he;have li:it<s.heap.objs.size:=by obtain⟨o,q,_⟩:=id hit;exact Heap.lt_size q
  refine wpAny_pyNext_enum_item he hit p.isList (x:=u) (by simpa using hu) hne fun h' ho hit' hT hsz hk=>?_
  obtain⟨I1,f1⟩:=I.pair (t':=s.toks+1) (ch:=[e,it]) (x:=.int i) (y:=x) hf (fun b hb=>by rcases(by simpa using hb:b=e\/b=it)with rfl | rfl<;>assumption) ⟨s.toks,rfl⟩ ru hT
   (fun b o hb q=>hk b o (fun z=>hb (by simp[z])) (fun z=>hb (by simp[z])) q)
  refine⟨_,rfl,wpAny_letOwnedTupleGo_enum ho fun h2 he2 sb=>?_⟩;have I2:=I1.turnedL (h':=h2) (t':=s.toks+1) (ch:=[e,it]) f1 fun b o hb q=>(sb.2 b fun z=>hb (by simp[z])).trans q
  exact⟨.ref s.heap.objs.size,_,I2,rfl,⟨_,x,rfl,I.hok.fresh (Nat.le_refl _),rfl,fun ys hy=>by rw[I.list_inj hy hq];exact hx⟩,
   ⟨⟨u,by simpa using he2⟩,hit'.at fun o q=>(sb.2 it hne.symm).trans q⟩,fun b hb=>(f1 b hb).1⟩
 done:=by
  intro X hP hw hK hc i pins s σ H E I hf st hg;subst hP hw hK;obtain⟨xs,hq,hx⟩:=hg;obtain⟨its,rv,p,hz⟩:=I.list hq;obtain⟨⟨old,he⟩,hit⟩:=st;have hl:=rv.length;exact wpAny_pyNext_enum_end (I.ok.hd hc) he hit p.isList (by simp;omega) fun h' eb=>⟨rfl,I.turnedL (t':=s.toks) (ch:=[e,it]) hf fun b o hb q=>eb b o (fun z=>hb (by simp[z])) q⟩
 self:=fun _ _ _ _ _ st h=>let ⟨_,he⟩:=st.1;wpAny_pyIter_enum he h
def iEnum(K:Frg)(ta:TA):TI:=fun σ H R=>ta σ H fun vs H1=>∃a xs,vs=[.ref a]/\SqL K H1 a xs/\R (Ite K a) H1
theorem YW{X:Cx}{a:Expr}{ta:TA}{elts:List Expr}{k:Nat}{p pos pos':Pos}(hg:Gl X "enumerate")(hm:X.mg "enumerate"= none)(ha:PA X [a] ta)(hs:starEach [a] X.env=[(false,eval a X.env)]:=by rfl) :
  PI X (.Tuple elts k pos') (.Call (.Name "enumerate" p) [a] [] pos) (iEnum X.K ta):=by
 intro pins s σ H R I h;refine Call_ (qp I hg hm yw (PyProof.Rows.callWith_type1 (thn (ha pos pins s σ H _ I h) fun us s1 ⟨vs,H1,I1,r1,q1⟩=>?_) hs rfl));obtain⟨b,xs,rfl,hq,q⟩:=q1;obtain⟨u,rfl,ru⟩:=vals1 r1;cases ru;obtain⟨its,rv,p,hz⟩:=I1.list hq;refine call_enumerate_list p.isList fun h' he hit hsz hk=>?_
 refine wpAny_pyIter_enum he ?_;refine⟨s1.heap.objs.size+1,[s1.heap.objs.size+1,s1.heap.objs.size],_,_,H1,rfl,I1.kept (t':=s1.toks) hk,j1q b _ _ (Nat.succ_ne_self _),⟨⟨_,by simpa using he⟩,hit⟩,fun c hc=>?_,q⟩;rcases(by simpa using hc:c=s1.heap.objs.size+1\/c=s1.heap.objs.size)with rfl | rfl
 ·exact I1.fpOk (Nat.le_succ _) (I1.hok.fresh (Nat.le_succ _))
 ·exact I1.fpOk (Nat.le_refl _) (I1.hok.fresh (Nat.le_refl _))
theorem yD{K:Frg}{a:Addr}{xs:List V}{g:TG}{tb:TS}{D:Ends}{σ:St}{H:Hp}(Pv:Nat->St->Hp->Prop)(h0:Pv 0 σ H)(hl:∀i σ H,i<=xs.length->Pv i σ H->SqL K H a xs)
  (hs:∀i v σ H T H',xs[i]?=some v->Pv i σ H->Same H H'->H' T=some (.tup [.int i,v])->g (.ref T) σ H' fun σ2 H2=>tb {D with nx:=Pv (i+1),ct:=Pv (i+1),bk:=D.nx} σ2 H2) (hd:∀σ H,Pv xs.length σ H->D.nx σ H) :
  ∃W:Nat->Nat->St->Hp->Prop,(∃m,W 0 m σ H)/\∀i m σ H,W i m σ H->
   ((Ite K a).stop i H/\D.nx σ H)\/((Ite K a).go i H/\∃N:St->Hp->Prop,(∀σ' H',N σ' H'->∃m',m'<m/\W (i+1) m' σ' H')/\∀x H',(Ite K a).yld i H x H'->g x σ H' fun σ2 H2=>tb {D with nx:=N,ct:=N,bk:=D.nx} σ2 H2):=by
 refine⟨fun i m σ H=>m=xs.length-i/\i<=xs.length/\Pv i σ H,⟨xs.length,by simp,Nat.zero_le _,h0⟩,?_⟩;rintro i m σ H ⟨rfl,hi,p⟩;have q:=hl i σ H hi p;by_cases hlt:i<xs.length
 ·refine .inr ⟨⟨xs,xs[i],q,by simp[hlt]⟩,Pv (i+1),fun σ' H' p'=>⟨xs.length-(i+1),by omega,rfl,hlt,p'⟩,fun x H' y=>?_⟩;obtain⟨T,v,rfl,hT,e,y⟩:=y;exact hs i v σ H T H' (y xs q) p (fun b o h=>by rw[e,jo (jg h hT)];exact h) (by rw[e];exact jh)
 ·have e:i=xs.length:=by omega
  subst e;exact .inl ⟨⟨xs,q,Nat.le_refl _⟩,hd σ H p⟩
theorem rd_iEnum{K:Frg}{ta:TA}{σ:St}{H:Hp}{R:It->Hp->Prop}(h:ta σ H fun vs H1=>∃a xs,vs=[.ref a]/\SqL K H1 a xs/\R (Ite K a) H1):iEnum K ta σ H R:=h
def Itz(K:Frg)(a b:Addr):It:=
 ⟨fun i H=>∃xs x ys y,SqL K H a xs/\xs[i]?=some x/\SqL K H b ys/\ys[i]?=some y,
  fun i H x H'=>∃T u v,x = .ref T/\H T=none/\H'=upd H T (.tup [u,v])/\(∀xs,SqL K H a xs->xs[i]?=some u)/\∀ys,SqL K H b ys->ys[i]?=some v,
  fun i H=>∃xs ys,SqL K H a xs/\SqL K H b ys/\(xs.length<=i\/ys.length<=i)⟩
theorem J0{h:Heap}{a b:Addr}{o u:Obj}(h1:h.get? a=some o)(h2:h.get? b=some u)(hc:o.cls≠u.cls):a≠b:=fun e=>by
 subst e;rw[h1]at h2;cases h2;exact hc rfl
theorem j2V{P:Program}{w:World}{K:Frg}{elts:List Expr}{k:Nat}{pos:Pos}(l1 l2 z TI TO i1 i2:Addr)
  (D:∀l1 l2,l1≠z->l1≠TO->l1≠i1->l1≠i2->l2≠z->l2≠TO->l2≠i1->l2≠i2->ZipApart z TI TO i1 i2 l1 l2) :
  Turn P w K (.Tuple elts k pos) (Itz K l1 l2) [z,TI,TO,i1,i2] z (fun i h=>IsZip h z TI TO .none/\IsPair h TI (.ref i1) (.ref i2)/\(∃a b,IsPair h TO a b)/\h.IsListIter i1 l1 i/\h.IsListIter i2 l2 i) where
 mem:=by simp
 obj:=fun i h st b hb=>by
  obtain⟨hz,hTI,⟨a,c,hTO⟩,h1,h2⟩:=st;rcases(by simpa using hb:b=z\/b=TI\/b=TO\/b=i1\/b=i2)with rfl | rfl | rfl | rfl | rfl
  ·exact⟨_,hz,fun v z=>by cases z⟩
  ·exact⟨_,hTI,fun v z=>by cases z⟩
  ·exact⟨_,hTO,fun v z=>by cases z⟩
  ·obtain⟨o,e,c,d⟩:=h1;exact⟨o,e,fun v z=>by rw[d]at z;cases z⟩
  ·obtain⟨o,e,c,d⟩:=h2;exact⟨o,e,fun v z=>by rw[d]at z;cases z⟩
 keep:=fun i h h' st k=>by
  obtain⟨hz,hTI,⟨a,c,hTO⟩,h1,h2⟩:=st;exact⟨k z (by simp) _ hz,k TI (by simp) _ hTI,⟨a,c,k TO (by simp) _ hTO⟩,h1.at fun o q=>k i1 (by simp) o q,h2.at fun o q=>k i2 (by simp) o q⟩
 item:=by
  intro X hP hw hK hc i pins s σ H E I hf st hg;subst hP hw hK;obtain⟨xs,x,ys,y,hq,hx,hr,hy⟩:=hg;obtain⟨its,rv,p,_⟩:=I.list hq;obtain⟨jts,rw',p',_⟩:=I.list hr;obtain⟨u,hu,ru⟩:=rv.get hx;obtain⟨v,hv,rv'⟩:=rw'.get hy;obtain⟨hz,hTI,⟨a,c,hTO⟩,h1,h2⟩:=st;obtain⟨o1,n1,e1,c1,_⟩:=id p;obtain⟨o2,n2,e2,c2,_⟩:=id p';obtain⟨o3,e3,c3,_⟩:=id h1;obtain⟨o4,e4,c4,_⟩:=id h2;have D':=D l1 l2 (J0 e1 hz (by rw[c1];show Value.type "list"≠Value.type "zip";decide)) (J0 e1 hTO (by rw[c1];show Value.type "list"≠Value.type "tuple";decide)) (J0 e1 e3 (by rw[c1,c3];decide)) (J0 e1 e4 (by rw[c1,c4];decide))
   (J0 e2 hz (by rw[c2];show Value.type "list"≠Value.type "zip";decide)) (J0 e2 hTO (by rw[c2];show Value.type "list"≠Value.type "tuple";decide)) (J0 e2 e3 (by rw[c2,c3];decide)) (J0 e2 e4 (by rw[c2,c4];decide))
  have lt:∀b∈[z,TI,TO,i1,i2],b<s.heap.objs.size:=fun b hb=>by
   rcases(by simpa using hb:b=z\/b=TI\/b=TO\/b=i1\/b=i2)with rfl | rfl | rfl | rfl | rfl
   ·exact Heap.lt_size hz
   ·exact Heap.lt_size hTI
   ·exact Heap.lt_size hTO
   ·exact Heap.lt_size e3
   ·exact Heap.lt_size e4
  refine wpAny_pyNext_zip_item D' hz hTI hTO h1 h2 p.isList p'.isList (x:=u) (y:=v) (by simpa using hu) (by simpa using hv) fun h' a1 a2 a3 a4 a5 a6 hk=>?_
  obtain⟨I1,f1⟩:=I.pair (t':=s.toks) (ch:=[z,TI,TO,i1,i2]) (x:=x) (y:=y) hf lt ru rv' a5
   (fun b o hb q=>hk b o (fun e=>hb (by simp[e])) (fun e=>hb (by simp[e])) (fun e=>hb (by simp[e])) (fun e=>hb (by simp[e])) q)
  refine⟨_,rfl,wpAny_letOwnedTupleGo_zip a1 fun h3 hz3 sb=>?_⟩;have I2:=I1.turnedL (h':=h3) (t':=s.toks) (ch:=[z,TI,TO,i1,i2]) f1 fun b o hb q=>(sb.2 b fun e=>hb (by simp[e])).trans q
  exact⟨.ref s.heap.objs.size,_,I2,rfl,⟨_,x,y,rfl,I.hok.fresh (Nat.le_refl _),rfl,(fun ys hy=>by rw[I.list_inj hy hq];exact hx),fun ys hy'=>by rw[I.list_inj hy' hr];exact hy⟩,
   ⟨hz3,(sb.2 TI D'.TIz).trans (hk TI _ D'.TIz D'.TITO D'.TIi1 D'.TIi2 hTI),⟨_,_,(sb.2 TO D'.TOz).trans a2⟩,a3.at fun o q=>(sb.2 i1 D'.i1z).trans q,a4.at fun o q=>(sb.2 i2 D'.i2z).trans q⟩,fun b hb=>(f1 b hb).1⟩
 done:=by
  intro X hP hw hK hc i pins s σ H E I hf st hg;subst hP hw hK;obtain⟨xs,ys,hq,hr,hl⟩:=hg;obtain⟨its,rv,p,_⟩:=I.list hq;obtain⟨jts,rw',p',_⟩:=I.list hr;obtain⟨hz,hTI,⟨a,c,hTO⟩,h1,h2⟩:=st;obtain⟨o1,n1,e1,c1,_⟩:=id p;obtain⟨o2,n2,e2,c2,_⟩:=id p';obtain⟨o3,e3,c3,_⟩:=id h1;obtain⟨o4,e4,c4,_⟩:=id h2;have D':=D l1 l2 (J0 e1 hz (by rw[c1];show Value.type "list"≠Value.type "zip";decide)) (J0 e1 hTO (by rw[c1];show Value.type "list"≠Value.type "tuple";decide)) (J0 e1 e3 (by rw[c1,c3];decide)) (J0 e1 e4 (by rw[c1,c4];decide))
   (J0 e2 hz (by rw[c2];show Value.type "list"≠Value.type "zip";decide)) (J0 e2 hTO (by rw[c2];show Value.type "list"≠Value.type "tuple";decide)) (J0 e2 e3 (by rw[c2,c3];decide)) (J0 e2 e4 (by rw[c2,c4];decide))
  have l1':=rv.length;have l2':=rw'.length;refine wpAny_pyNext_zip_end (I.ok.hd hc) D' hz hTI hTO h1 h2 p.isList p'.isList ?_ fun h' hk=>⟨rfl,I.turnedL (t':=s.toks) (ch:=[z,TI,TO,i1,i2]) hf fun b o hb q=>hk b o (fun e=>hb (by simp[e])) (fun e=>hb (by simp[e])) (fun e=>hb (by simp[e])) (fun e=>hb (by simp[e])) q⟩
  rcases hl with q | q
  ·exact .inl (by simp;omega)
  ·exact .inr (by simp;omega)
 self:=fun _ _ _ _ _ st h=>wpAny_pyIter_zip st.1 h
theorem jT{n i j:Nat}(h:i≠j):n+i≠n+j:=fun e=>h (Nat.add_left_cancel e)
def iZip(K:Frg)(ta:TA):TI:=fun σ H R=>ta σ H fun vs H1=>∃a b xs ys,vs=[.ref a,.ref b]/\SqL K H1 a xs/\SqL K H1 b ys/\R (Itz K a b) H1
theorem j2v{X:Cx}{a b:Expr}{ta:TA}{elts:List Expr}{k:Nat}{p pos pos':Pos}(hg:Gl X "zip")(hm:X.mg "zip"= none)(ha:PA X [a,b] ta)(hs:starEach [a,b] X.env=[(false,eval a X.env),(false,eval b X.env)]:=by rfl)(hs2:starEach [b] X.env=[(false,eval b X.env)]:=by rfl) :
  PI X (.Tuple elts k pos') (.Call (.Name "zip" p) [a,b] [] pos) (iZip X.K ta):=by
 intro pins s σ H R I h;refine Call_ (qp I hg hm xE (PyProof.Rows.callWith_type1 (thn (ha pos pins s σ H _ I h) fun us s1 ⟨vs,H1,I1,r1,q1⟩=>?_) (by rw[hs,hs2]) (by rw[hs2];rfl)));obtain⟨l1,l2,xs,ys,rfl,hq,hr,q⟩:=q1;cases r1 with
 | cons r rr=>
  cases rr with
  | cons r' rr=>
   cases rr;cases r;cases r';obtain⟨its,rv,p,hz⟩:=I1.list hq;obtain⟨jts,rw',p',hz'⟩:=I1.list hr;refine call_zip_2 p.isList p'.isList fun h' a1 a2 a3 a4 a5 a6 hk=>?_
   refine wpAny_pyIter_zip a1 ?_;refine⟨s1.heap.objs.size+4,[s1.heap.objs.size+4,s1.heap.objs.size+2,s1.heap.objs.size+3,s1.heap.objs.size,s1.heap.objs.size+1],_,_,H1,rfl,I1.kept (t':=s1.toks) hk,
    j2V l1 l2 _ _ _ _ _ (fun l1 l2 b1 b2 b3 b4 b5 b6 b7 b8=>⟨jT (by decide),jT (by decide),jT (i:=0) (by decide),jT (by decide),jT (by decide),jT (j:=0) (by decide),jT (by decide),jT (j:=0) (by decide),jT (by decide),jT (i:=0) (by decide),b1,b2,b3,b4,b5,b6,b7,b8⟩),⟨a1,a2,⟨_,_,a3⟩,a4,a5⟩,fun c hc=>?_,q⟩
   have hc':s1.heap.objs.size<=c:=by
    rcases(by simpa using hc:c=s1.heap.objs.size+4\/c=s1.heap.objs.size+2\/c=s1.heap.objs.size+3\/c=s1.heap.objs.size\/c=s1.heap.objs.size+1)with rfl | rfl | rfl | rfl | rfl<;>omega
   exact I1.fpOk hc' (I1.hok.fresh hc')
theorem j3g{K:Frg}{a b:Addr}{xs ys:List V}{g:TG}{tb:TS}{D:Ends}{σ:St}{H:Hp}(Pv:Nat->St->Hp->Prop)(hlen:xs.length=ys.length)(h0:Pv 0 σ H)(hl:∀i σ H,i<=xs.length->Pv i σ H->SqL K H a xs/\SqL K H b ys)
  (hs:∀i u v σ H T H',xs[i]?=some u->ys[i]?=some v->Pv i σ H->Same H H'->H' T=some (.tup [u,v])->g (.ref T) σ H' fun σ2 H2=>tb {D with nx:=Pv (i+1),ct:=Pv (i+1),bk:=D.nx} σ2 H2) (hd:∀σ H,Pv xs.length σ H->D.nx σ H) :
  ∃W:Nat->Nat->St->Hp->Prop,(∃m,W 0 m σ H)/\∀i m σ H,W i m σ H->
   ((Itz K a b).stop i H/\D.nx σ H)\/((Itz K a b).go i H/\∃N:St->Hp->Prop,(∀σ' H',N σ' H'->∃m',m'<m/\W (i+1) m' σ' H')/\∀x H',(Itz K a b).yld i H x H'->g x σ H' fun σ2 H2=>tb {D with nx:=N,ct:=N,bk:=D.nx} σ2 H2):=by
 refine⟨fun i m σ H=>m=xs.length-i/\i<=xs.length/\Pv i σ H,⟨xs.length,by simp,Nat.zero_le _,h0⟩,?_⟩;rintro i m σ H ⟨rfl,hi,p⟩;obtain⟨q,q'⟩:=hl i σ H hi p;by_cases hlt:i<xs.length
 ·refine .inr ⟨⟨xs,xs[i],ys,ys[i],q,by simp[hlt],q',by simp⟩,Pv (i+1),fun σ' H' p'=>⟨xs.length-(i+1),by omega,rfl,hlt,p'⟩,fun x H' y=>?_⟩;obtain⟨T,u,v,rfl,hT,e,y,y'⟩:=y;exact hs i u v σ H T H' (y xs q) (y' ys q') p (fun b o h=>by rw[e,jo (jg h hT)];exact h) (by rw[e];exact jh)
 ·have e:i=xs.length:=by omega
  subst e;exact .inl ⟨⟨xs,ys,q,q',.inl (Nat.le_refl _)⟩,hd σ H p⟩
theorem rd_iZip{K:Frg}{ta:TA}{σ:St}{H:Hp}{R:It->Hp->Prop}(h:ta σ H fun vs H1=>∃a b xs ys,vs=[.ref a,.ref b]/\SqL K H1 a xs/\SqL K H1 b ys/\R (Itz K a b) H1):iZip K ta σ H R:=h
theorem KQ:entryFor table "dict.update.loop"= some Builtin.«dict.update.loop»:=entryFor_of_tree (by kernel_rfl)
theorem ZQ:plainId "dict.update.loop"= true:=by decide +kernel
theorem j0Z:typeLookup (.type "list") "keys"= pure none:=by rw[typeLookup_type,builtinLookup_eq_fast];kernel_rfl
section
variable{prog:Program}{w:World}{A:Around}{E:Value->Shared->Prop}{s:Shared}
theorem noKeys{a:Addr}{o:Obj}{xs:Array Value}{k:Nat}{Q:Option Value->Shared->Prop}(hx:s.heap.get? a=some o)(hc:o.cls = .type "list")(hdat:o.data = .seq xs k)(hd:o.dict=none)(hA:A.handled=none)
  (h:∀h' tk,(∀b o,s.heap.get? b=some o->h'.get? b=some o)->Q none {s with heap:=h',toks:=tk}):wpAny (model prog w) A (getAttr? (.ref a) "keys") Q E s:=by
 obtain⟨c,dct,dat,sl⟩:=o;simp only at hc hdat hd;subst hc hdat hd;obtain⟨hp,g,d,tk,os⟩:=s;have hT:∀tk',(⟨hp,g,d,tk',os⟩:Shared).TypeIs (.ref a) "list":=fun _=>⟨_,hx,rfl⟩
 have f1:=sub_AttributeError;have f3:=F.slot_list_getattribute.lookup;have f4:=F.slot_list_getattribute.bind (.ref a);have f5:=am_list_getattr_none;unfold getAttr? getAttrBy? getAttrBy
 repeat (any_goals (first | assumption | exact hT _ | ((with_reducible show wpAny _ _ (call (Value.builtin "list.__getattribute__") _ _) _ _ _);refine call_meets F.slot_list_getattribute (hT _) am_entry_list_getattribute (F.args_list_getattribute_2 _ _) (meets_getattribute_miss_list a xs k sl "keys" _ j0Z (by decide +kernel) (by decide +kernel)) ⟨hx,hA,fun h' tk' e hx'=>?_⟩) | wp_step))
 obtain⟨t',u',he⟩:=hx'.there;show wpAny _ _ (getattributeRaised _ _ _ _ _ _ _) _ _ _;unfold getattributeRaised
 repeat (any_goals (first | assumption | wp_step))
 exact h _ _ hx'.keeps
variable{K:Type}[DecidableEq K]{knd:KeyKind prog w K}
noncomputable def foldS(acc:List (K×Value))(ps:List (K×Value)):List (K×Value):=ps.foldl (fun acc kv=>stored acc kv.1 kv.2) acc
theorem Xv(acc:List (K×Value))(k:K)(v:Value):(stored acc k v).length<=acc.length+1:=by
 unfold stored;split
 ·rw[length_map];exact Nat.le_succ _
 ·rw[List.length_append];exact Nat.le_refl _
theorem dul{R:Result->Shared->Prop}{d it l:Addr}{items:List Value}{res:Value}(hh:A.handled=none)(hdi:d≠it)(hdl:d≠l)(hil:it≠l) :
  ∀(ps:List (K×Value)) (i:Nat) (acc:List (K×Value)) (s:Shared),s.heap.IsListIter it l i->s.heap.IsList l items.toArray->(items.length=i+ps.length)->
   (∀j kv,ps[j]?=some kv->∃a key,items[i+j]?=some (.ref a)/\IsTup s.heap a #[key,kv.2]/\knd.is kv.1 key=true/\a≠d/\a≠it)->s.heap.DictOf knd d acc->acc.length+ps.length<=sizeLine->
   (∀h' tk,(∀b o,b≠d->b≠it->s.heap.get? b=some o->h'.get? b=some o)->h'.DictOf knd d (foldS acc ps)->R (.ok (.ret res)) {s with heap:=h',toks:=tk})->
   codeAny (model prog w) A (.builtin "dict.update.loop" ⟨[.ref d,.ref it,rawInt i,res],[]⟩) R s
 | [],i,acc,s,hit,hl,hn,hp,hd,hz,hR=>by
  refine codeAny_builtin KQ ?_;rw[Around.under_plainId ZQ _];show wpAny _ A.in1 (pyNext (.ref it) >>= _) _ _ s;refine wpAny_bind (wpAny_pyNext_list_end (A:=A.in1) hh hit hl (by simp;simp at hn;omega) fun h' eb=>?_);show wpAny _ A.in1 (Builtin.Dict.addKeywords d [] >>= _) _ _ _;refine wpAny_bind (wpAny_pure (wpAny_pure (hR h' s.toks (fun b o _ hb e=>eb b o hb e) ?_)));exact hd.extBut eb hdi
 | kv::ps,i,acc,s,hit,hl,hn,hp,hd,hz,hR=>by
  obtain⟨a,key,ha,ht,hk,had,hai⟩:=hp 0 kv rfl;refine codeAny_builtin KQ ?_;rw[Around.under_plainId ZQ _];show wpAny _ A.in1 (pyNext (.ref it) >>= _) _ _ s;refine wpAny_bind (wpAny_pyNext_list_item (A:=A.in1) hit hl (x:=.ref a) (by simpa using ha) fun h1 hit1 sb=>?_);obtain⟨ot,eo,oc,n,od⟩:=ht;have eo1:h1.get? a=some ot:=(sb.2 a hai).trans eo;show wpAny _ A.in1 (holding [Value.ref a] _ >>= _) _ _ _;refine wpAny_bind (wpAny_holding ?_);refine wpAny_bind (wpAny_tryCatch ?_);unfold Builtin.Dict.pairItems;refine wpAny_bind (wpAny_typeOf (T:="tuple") ⟨_,eo1,oc⟩ ?_);show wpAny _ A.in1 (if((Value.type "tuple"== Value.type "list")||(Value.type "tuple"== Value.type "tuple"))=true then _ else _) _ _ _;rw[if_pos (by decide)];refine wpAny_bind (wpAny_seqItems eo1 od ?_);refine wpAny_pure ?_;show wpAny _ A.in1 (holding [key,kv.2] (dictSet d key kv.2)) _ _ _;have hd1:h1.DictOf knd d acc:=hd.extBut (fun b o hb e=>(sb.2 b hb).trans e) hdi;refine wpAny_holding (wpAny_dictSet_pairs (s:={s with heap:=h1}) hk hd1 (fun h2 hd2 sb2=>?_) (by simp at hz;omega));show wpAny _ A.in1 (again _) _ _ _;refine wpAny_pure ⟨plainId_quiet ZQ _,?_⟩;have kp:∀b o,b≠d->b≠it->s.heap.get? b=some o->h2.get? b=some o:=fun b o h1' h2' e=>(sb2.2 b h1').trans ((sb.2 b h2').trans e)
  have sl:=Xv acc kv.1 kv.2;refine dul hh hdi hdl hil ps (i+1) (stored acc kv.1 kv.2) _ (hit1.at fun o e=>(sb2.2 it hdi.symm).trans e) (hl.at fun o e=>kp l o hdl.symm hil.symm e) (by simp at hn;omega) (fun j kv' hj=>?_) hd2 (by simp at hz;omega) fun h3 tk k3 hd3=>?_
  ·obtain⟨a',key',ha',ht',hk',had',hai'⟩:=hp (j+1) kv' (by simpa using hj);obtain⟨o',e',r'⟩:=ht';exact⟨a',key',by rw[<-ha'];congr 1;omega,⟨o',kp _ _ had' hai' e',r'⟩,hk',had',hai'⟩
  ·exact hR h3 tk (fun b o h1' h2' e=>k3 b o h1' h2' (kp b o h1' h2' e)) hd3
end
open PySem PySem.W PyProof.Rows
section
variable{n:Nat}{key:Nat->Int}{p:Array Nat}
noncomputable def Tw(n:Nat)(key:Nat->Int){α:Type}:KasT α->(α->Prop)->Prop
 | .ret a,Q=>Q a
 | .ask i j k,Q=>i<n/\j<n/\Tw n key (k (decide (key i<key j))) Q
theorem Tw.bind{α β:Type}{f:α->KasT β}{Q:β->Prop}:∀{t:KasT α},Tw n key t (fun a=>Tw n key (f a) Q)->Tw n key (t.bind f) Q
 | .ret _,h=>h
 | .ask _ _ _,h=>⟨h.1,h.2.1,Tw.bind h.2.2⟩
theorem Tw.mono{α:Type}{Q Q':α->Prop}(hq:∀a,Q a->Q' a):∀{t:KasT α},Tw n key t Q->Tw n key t Q'
 | .ret _,h=>hq _ h
 | .ask _ _ _,h=>⟨h.1,h.2.1,Tw.mono hq h.2.2⟩
theorem Tw.run{α:Type}{cmp:Nat->Nat->(Bool->Shared->Prop)->Shared->Prop}{Q:α->Shared->Prop}{s:Shared}(hc:∀i j C,i<n->j<n->C (decide (key i<key j)) s->cmp i j C s) :
  ∀{t:KasT α},Tw n key t (fun a=>Q a s)->t.kasWp cmp Q s
 | .ret _,h=>h
 | .ask i j k,h=>hc i j _ h.1 h.2.1 (Tw.run hc h.2.2)
theorem Tw.asks{α:Type}{i j:Nat}{k:Bool->KasT α}{Q:α->Prop}(hi:i<n)(hj:j<n)(h1:key i<key j->Tw n key (k true) Q)(h2:¬key i<key j->Tw n key (k false) Q):Tw n key (.ask i j k) Q:=by
 refine⟨hi,hj,?_⟩;by_cases c:key i<key j
 ·rw[decide_eq_true c];exact h1 c
 ·rw[decide_eq_false c];exact h2 c
def Pk(n:Nat)(p:Array Nat):Prop:=p.toList.Perm (List.range n)
noncomputable def kv(key:Nat->Int)(p:Array Nat)(i:Nat):Int:=key (p.getD i 0)
def Up(key:Nat->Int)(p:Array Nat)(k:Nat):Prop:=∀i j,i<=j->j<k->kv key p i<=kv key p j
def Dn(key:Nat->Int)(p:Array Nat)(k:Nat):Prop:=∀i j,i<=j->j<k->kv key p j<=kv key p i
def Eqs(key:Nat->Int)(p:Array Nat)(m q:Nat):Prop:=∀k,m-(q+1)<=k->k<m->kv key p k=kv key p (m-1)
theorem Pk.size(h:Pk n p):p.size=n:=by have:=h.length_eq;simpa using this
theorem Pk.lt(h:Pk n p)(h0:0<n)(i:Nat):p.getD i 0<n:=by
 rw[Array.getD_eq_getD_getElem?];cases e:p[i]? with
 | none=>exact h0
 | some x=>exact mem_range.mp (h.mem_iff.mp (Array.mem_toList_iff.mpr (Array.mem_of_getElem? e)))
theorem Pk.of(h:Pk n p){q:Array Nat}(hq:q.Perm p):Pk n q:=(Array.perm_iff_toList_perm.mp hq).trans h
theorem WP{a b:Array Nat}{i j:Nat}(h:a[i]?=b[j]?):kv key a i=kv key b j:=by
 unfold kv;rw[Array.getD_eq_getD_getElem?,Array.getD_eq_getD_getElem?,h]
theorem xU{i j:Nat}(hj:j<=p.size)(k:Nat):kv key (kas_rev p i j) k=if i<=k/\k<j then kv key p (i+j-1-k)else kv key p k:=by
 have h:=getElem?_mirror_all (xs:=p) (i:=i) hj k;split
 ·rename_i c;rw[if_pos c]at h;exact WP h
 ·rename_i c;rw[if_neg c]at h;exact WP h
theorem j4E{src d:Nat}(hs:src<p.size)(hd:d<=src)(k:Nat):kv key (bubble p src d) k=if k=src-d then kv key p src else if src-d<k/\k<=src then kv key p (k-1)else kv key p k:=by
 have h:=getElem?_bubble (xs:=p) hs d hd k;split
 ·rename_i c;rw[if_pos c]at h;exact WP h
 ·rename_i c;rw[if_neg c]at h;split
  ·rename_i c';rw[if_pos c']at h;exact WP h
  ·rename_i c';rw[if_neg c']at h;exact WP h
theorem Up.snoc{m:Nat}(h:Up key p m)(h1:1<=m)(hc:¬kv key p m<kv key p (m-1)):Up key p (m+1):=fun i j hij hj=>by
 by_cases e:j<m
 ·exact h i j hij e
 ·have ej:j=m:=by omega
  subst ej;by_cases ei:i=j
  ·rw[ei];exact Int.le_refl _
  ·have:=h i (j-1) (by omega) (by omega);omega
theorem Dn.snoc{m:Nat}(h:Dn key p m)(h1:1<=m)(hc:kv key p m<=kv key p (m-1)):Dn key p (m+1):=fun i j hij hj=>by
 by_cases e:j<m
 ·exact h i j hij e
 ·have ej:j=m:=by omega
  subst ej;by_cases ei:i=j
  ·rw[ei];exact Int.le_refl _
  ·have:=h i (j-1) (by omega) (by omega);omega
theorem j2Q(hp:Pk n p):∀f m,1<=m->m+f<=n->Up key p m->Tw n key (kas_asc p f m) fun r=>m<=r/\r<=m+f/\Up key p r/\(r<m+f->kv key p r<kv key p (r-1))
 | 0,m,h1,hn,hu=>⟨Nat.le_refl _,Nat.le_refl _,hu,fun h=>absurd h (Nat.lt_irrefl _)⟩
 | f+1,m,h1,hn,hu=>by
  refine Tw.asks (hp.lt (by omega) _) (hp.lt (by omega) _) (fun c=>?_) (fun c=>?_)<;>simp only[Bool.false_eq_true,if_true,if_false]
  ·exact⟨Nat.le_refl _,by omega,hu,fun _=>c⟩
  ·exact Tw.mono (fun r h=>⟨by omega,by omega,h.2.2.1,fun hr=>h.2.2.2 (by omega)⟩) (j2Q hp f (m+1) (by omega) (by omega) (hu.snoc h1 c))
theorem j00{m q:Nat}(hm:m<=p.size)(he:Eqs key p m q)(k:Nat):kv key (kas_rev p (m-(q+1)) m) k=kv key p k:=by
 rw[xU hm];split
 ·rename_i c;rw[he k c.1 c.2,he _ (by omega) (by omega)]
 ·rfl
theorem Wt:∀f (p:Array Nat) m q,Pk n p->1<=m->m+f<=n->q+1<=m->Dn key p m->Eqs key p m q->
  Tw n key (kas_desc f p m q) fun r=>Pk n r.1/\m<=r.2.1/\r.2.1<=m+f/\Dn key r.1 r.2.1/\r.2.2+1<=r.2.1/\Eqs key r.1 r.2.1 r.2.2
 | 0,p,m,q,hp,h1,hn,hq,hd,he=>⟨hp,Nat.le_refl _,Nat.le_refl _,hd,hq,he⟩
 | f+1,p,m,q,hp,h1,hn,hq,hd,he=>by
  have sz:=hp.size;refine Tw.asks (hp.lt (by omega) _) (hp.lt (by omega) _) (fun c=>?_) (fun c=>?_)<;>simp only[Bool.false_eq_true,if_true,if_false]
  ·have c:kv key p m<kv key p (m-1):=c;split
   ·have hk:=j00 (key:=key) (p:=p) (m:=m) (q:=q) (by omega) he;have hp':Pk n (kas_rev p (m-(q+1)) m):=hp.of (mirror_perm _ _ _ _);refine Tw.mono (fun r h=>⟨h.1,by omega,by omega,h.2.2.2⟩) (Wt f _ (m+1) 0 hp' (by omega) (by omega) (by omega) (fun i j hij hj=>?_) fun k k1 k2=>?_)
    ·rw[hk,hk];exact hd.snoc h1 (by omega) i j hij hj
    ·rw[show k=m+1-1 by omega]
   ·refine Tw.mono (fun r h=>⟨h.1,by omega,by omega,h.2.2.2⟩) (Wt f p (m+1) 0 hp (by omega) (by omega) (by omega) (hd.snoc h1 (by omega)) fun k k1 k2=>?_);rw[show k=m+1-1 by omega]
  ·have c:¬kv key p m<kv key p (m-1):=c;refine Tw.asks (hp.lt (by omega) _) (hp.lt (by omega) _) (fun c2=>?_) (fun c2=>?_)<;>simp only[Bool.false_eq_true,if_true,if_false]
   ·exact⟨hp,Nat.le_refl _,Nat.le_add_right m (f+1),hd,hq,he⟩
   ·have c2:¬kv key p (m-1)<kv key p m:=c2;refine Tw.mono (fun r h=>⟨h.1,by omega,by omega,h.2.2.2⟩) (Wt f p (m+1) (q+1) hp (by omega) (by omega) (by omega) (hd.snoc h1 (by omega)) fun k k1 k2=>?_);rw[Nat.add_sub_cancel];by_cases e:k=m
    ·rw[e]
    ·rw[he k (by omega) (by omega)];omega
theorem j2S{m:Nat}(hp:Pk n p)(h1:1<=m)(hn:m<=n)(hd:Dn key p m):Tw n key (kas_tail3 m n p) fun r=>Pk n r.2/\1<=r.1/\r.1<=n/\Up key r.2 r.1:=by
 have sz:=hp.size;have hp':Pk n (kas_rev p 0 m):=hp.of (mirror_perm _ _ _ _);have hk:=xU (key:=key) (p:=p) (i:=0) (j:=m) (by omega);refine Tw.bind (Tw.mono (fun r h=>?_) (j2Q hp' (n-m) m h1 (by omega) fun i j hij hj=>?_))
 ·exact⟨hp',by omega,by omega,h.2.2.1⟩
 ·rw[hk,hk,if_pos ⟨Nat.zero_le _,by omega⟩,if_pos ⟨Nat.zero_le _,hj⟩];exact hd _ _ (by omega) (by omega)
theorem j2R{m:Nat}(hp:Pk n p)(hn:m+1<=n)(hd:Dn key p (m+1)):Tw n key (kas_descPart m n p) fun r=>Pk n r.2/\1<=r.1/\r.1<=n/\Up key r.2 r.1:=by
 refine Tw.bind (Tw.mono (fun r h=>?_) (Wt (n-(m+1)) p (m+1) 0 hp (by omega) (by omega) (by omega) hd fun k k1 k2=>by rw[show k=m+1-1 by omega]));obtain⟨a,b,c,d,e,g⟩:=h;have sz:=a.size;split
 ·have hk:=j00 (key:=key) (p:=r.1) (m:=r.2.1) (q:=r.2.2) (by omega) g;exact j2S (a.of (mirror_perm _ _ _ _)) (by omega) (by omega) fun i j hij hj=>by rw[hk,hk];exact d i j hij hj
 ·exact j2S a (by omega) (by omega) d
theorem j3S(hp:Pk n p)(h1:1<=n):Tw n key (kas_count n p) fun r=>Pk n r.2/\1<=r.1/\r.1<=n/\Up key r.2 r.1:=by
 have sz:=hp.size;refine Tw.bind (Tw.mono (fun r h=>?_) (j2Q (key:=key) hp (n-1) 1 (by omega) (by omega) fun i j hij hj=>by rw[show i=j by omega];exact Int.le_refl _));obtain⟨a,b,c,d⟩:=h;split
 ·exact⟨hp,a,by omega,c⟩
 rename_i hne;have hrn:r<n:=by
  have:r≠n:=fun e=>hne (by rw[e];simp)
  omega
 have d:=d (by omega);split
 ·refine Tw.asks (hp.lt (by omega) _) (hp.lt (by omega) _) (fun q=>?_) (fun q=>?_)<;>simp only[Bool.false_eq_true,if_true,if_false]
  ·exact⟨hp,a,by omega,c⟩
  ·have q:¬kv key p 0<kv key p (r-1):=q;have hk:=xU (key:=key) (p:=p) (i:=0) (j:=r) (by omega);have eqs:∀i,i<r->kv key p i=kv key p (r-1):=fun i hi=>by
    have h1:=c 0 i (Nat.zero_le _) hi;have h2:=c i (r-1) (by omega) (by omega);omega
   have eqk:∀i,kv key (kas_rev p 0 r) i=kv key p i:=fun i=>by
    rw[hk];split
    ·rename_i q';rw[eqs _ q'.2,eqs _ (by omega)]
    ·rfl
   refine j2R (hp.of (mirror_perm _ _ _ _)) (by omega) fun i j hij hj=>?_
   rw[eqk,eqk];by_cases e:j=r
   ·by_cases e2:i=r
    ·rw[e,e2];exact Int.le_refl _
    ·rw[e,eqs i (by omega)];omega
   ·rw[eqs i (by omega),eqs j (by omega)];exact Int.le_refl _
 ·have er:r=1:=by omega
  subst er;refine j2R hp (by omega) fun i j hij hj=>?_
  rcases(by omega:(i=0/\j=0)\/(i=0/\j=1)\/(i=1/\j=1))with⟨rfl,rfl⟩ | ⟨rfl,rfl⟩ | ⟨rfl,rfl⟩
  ·exact Int.le_refl _
  ·have:kv key p 1<kv key p (1-1):=d;exact Int.le_of_lt this
  ·exact Int.le_refl _
theorem Wu{k:Nat}(hp:Pk n p)(hkn:k<n)(hu:Up key p k):∀f l r,l<=r->r<=k->r-l<=f->(∀i,i<l->kv key p i<=kv key p k)->(∀i,r<=i->i<k->kv key p k<kv key p i)->
  Tw n key (kas_place p k f l r) fun m=>m<=k/\(∀i,i<m->kv key p i<=kv key p k)/\∀i,m<=i->i<k->kv key p k<kv key p i
 | 0,l,r,h1,h2,h3,a,b=>⟨by omega,a,fun i hi=>b i (by omega)⟩
 | f+1,l,r,h1,h2,h3,a,b=>by
  unfold kas_place;split
  ·exact⟨by omega,a,fun i hi=>b i (by omega)⟩
  refine Tw.asks (hp.lt (by omega) _) (hp.lt (by omega) _) (fun q=>?_) (fun q=>?_)<;>simp only[Bool.false_eq_true,if_true,if_false]
  ·have q:kv key p k<kv key p ((l+r)/2):=q;exact Wu hp hkn hu f l _ (by omega) (by omega) (by omega) a fun i hi hk=>by
    have:=hu ((l+r)/2) i hi hk;omega
  ·have q:¬kv key p k<kv key p ((l+r)/2):=q;exact Wu hp hkn hu f _ r (by omega) h2 (by omega) (fun i hi=>by
    have:=hu i ((l+r)/2) (by omega) (by omega);omega) b
theorem j4b:∀f (p:Array Nat) k,Pk n p->k+f<=n->Up key p k->Tw n key (kas_bin f p k) fun q=>Pk n q/\Up key q (k+f)
 | 0,p,k,hp,hn,hu=>⟨hp,hu⟩
 | f+1,p,k,hp,hn,hu=>by
  have sz:=hp.size;refine Tw.bind (Tw.mono (fun l h=>?_) (Wu hp (by omega) hu k 0 k (Nat.zero_le _) (Nat.le_refl _) (by omega) (fun i hi=>absurd hi (Nat.not_lt_zero _)) fun i h1 h2=>absurd h1 (by omega)));obtain⟨a,b,c⟩:=h;have hk:=j4E (key:=key) (p:=p) (src:=k) (d:=k-l) (by omega) (by omega);refine Tw.mono (fun q h=>⟨h.1,by rw[show k+(f+1)=k+1+f by omega];exact h.2⟩) (j4b f _ (k+1) (hp.of (bubble_perm _ _ _)) (by omega) fun i j hij hj=>?_);rw[hk,hk,show k-(k-l)=l by omega]
  repeat' split
  all_goals first
   | exact Int.le_refl _
   | (exfalso;omega)
   | exact Int.le_of_lt (c _ (by omega) (by omega))
   | exact b _ (by omega)
   | exact hu _ _ (by omega) (by omega)
   | (have h1:=b i (by omega);have h2:=c (j-1) (by omega) (by omega);omega)
theorem j53(h2:1<=n):Tw n key (kas_sort n) fun q=>Pk n q/\Up key q n:=by
 have hp:Pk n (List.toArray (List.range n)):=List.Perm.refl _;refine Tw.bind (Tw.mono (fun r h=>?_) (j3S (key:=key) hp h2));obtain⟨a,b,c,d⟩:=h;split
 ·refine Tw.mono (fun q h=>⟨h.1,?_⟩) (j4b (n-max r.1 1) r.2 (max r.1 1) a (by omega) (by rw[show max r.1 1=r.1 by omega];exact d));have e:max r.1 1+(n-max r.1 1)=n:=by omega
  rw[e]at h;exact h.2
 ·have e:r.1=n:=by omega
  exact⟨a,by rw[<-e];exact d⟩
end
section
variable{prog:Program}{w:World}{A:Around}{E:Value->Shared->Prop}{s:Shared}
def PrAt(h:Heap)(as:List Addr)(key:Nat->Int):Prop:=∀i a,as[i]?=some a->∃o t u n,h.get? a=some o/\o.cls = .type "tuple"/\o.data = .seq #[.int (key i) t,u] n
theorem PrAt.keep{h h':Heap}{as:List Addr}{key:Nat->Int}(x:PrAt h as key)(k:∀a∈as,∀o,h.get? a=some o->h'.get? a=some o):PrAt h' as key:=fun i a e=>by
 obtain⟨o,t,u,n,q,r⟩:=x i a e;exact⟨o,t,u,n,k a (List.mem_of_getElem? e) _ q,r⟩
theorem j5f{as:List Addr}{key:Nat->Int}(x:PrAt s.heap as key)(inj:∀i j,i<as.length->j<as.length->key i=key j->i=j){i j:Nat}{C:Bool->Shared->Prop}(hi:i<as.length)(hj:j<as.length)
  (h:C (decide (key i<key j)) s):kas_ask prog w A (tuples' true) (as.map Value.ref) i j C s:=by
 unfold kas_ask;obtain⟨o,t,u,n,q1,c1,d1⟩:=x i _ (List.getElem?_eq_getElem hi);obtain⟨o',t',u',n',q2,c2,d2⟩:=x j _ (List.getElem?_eq_getElem hj);have e1:(as.map Value.ref).getD i Value.none = .ref as[i]:=by rw[getD_eq_getElem?_getD,List.getElem?_map,List.getElem?_eq_getElem hi];rfl
 have e2:(as.map Value.ref).getD j Value.none = .ref as[j]:=by rw[getD_eq_getElem?_getD,List.getElem?_map,List.getElem?_eq_getElem hj];rfl
 rw[e1,e2];refine kat_lt q1 d1 q2 d2 ?_;show KatLex prog w A true _ C [(.int (key i) t,.int (key j) t'),(u,u')] 0 s;refine kat_cons (wpAny_eqBool_int ?_);by_cases c:key i=key j
 ·have ij:=inj i j hi hj c;subst ij;rw[beq_self_eq_true];have eu:u=u':=by
   have e:o=o':=Option.some.inj (q1.symm.trans q2);subst e;have e:=d1.symm.trans d2;injection e with e _;have:=congrArg (fun a:Array Value=>a[1]?) e;simpa using this
  subst eu;refine kat_yes (kat_cons (SeqAt.EqAt.same _ _ _ _ _ ?_));refine kat_yes (kat_nil ?_);rw[decide_eq_false (Int.lt_irrefl _)]at h;exact h
 ·rw[beq_false_of_ne c];exact kat_no (oneLt_int h)
theorem j0i{h:Heap}{key:Nat->Int}:∀{as:List Addr} (_:PrAt h as key),∃fs,KatTups h (as.map Value.ref) fs/\fs.length=as.length/\∀v∈fs,∃n t,v=Value.int n t
 | [],_=>⟨[],KatTups.nil,rfl,fun v hv=>nomatch hv⟩
 | a::r,x=>by
  obtain⟨o,t,u,n,q,c,d⟩:=x 0 a rfl;obtain⟨fs,k,l,f⟩:=j0i (key:=fun i=>key (i+1)) (as:=r) fun i b e=>x (i+1) b (by simpa using e)
  refine⟨.int (key 0) t::fs,KatTups.cons q c d rfl k,by rw[length_cons,l,length_cons],fun v hv=>?_⟩;rcases mem_cons.mp hv with rfl | hv
  ·exact⟨_,_,rfl⟩
  ·exact f v hv
theorem j3W(vs:List Value):(vs.toArray.zip vs.toArray).map (·.2)=vs.toArray:=by
 apply Array.toList_inj.mp;rw[Array.toList_map,Array.toList_zip];exact List.map_snd_zip (Nat.le_refl _)
theorem j1g(vs:List Value):(List.range vs.length).map (fun i=>vs.getD i Value.none)=vs:=by
 refine ext_getElem (by simp) fun i h1 h2=>?_
 rw[getElem_map,getElem_range,getD_eq_getElem?_getD,List.getElem?_eq_getElem h2];rfl
theorem j2B:∀{l:List Int},l.length<2->l.Pairwise (·<=·)
 | [],_=>.nil
 | [_],_=>pairwise_singleton _ _
 | _::_::_,h=>absurd h (by rw[length_cons,length_cons];omega)
theorem j2N{a:Addr}{as:List Addr}{key:Nat->Int}{c0:Nat}{P:PySem.Fin->Shared->Prop}(hob:s.heap.get? a=some (seqObj "list" (as.map Value.ref).toArray c0))(hna:a∉as)(x:PrAt s.heap as key)
  (inj:∀i j,i<as.length->j<as.length->key i=key j->i=j) (h64:as.length<64)
  (hend:∀(q:List Nat) (h':Heap) (c:Nat),q.Perm (List.range as.length)->(q.map key).Pairwise (·<=·)->(∀b o,b≠a->s.heap.get? b=some o->h'.get? b=some o)->
   h'.get? a=some (seqObj "list" ((q.map fun i=>as.getD i 0).map Value.ref).toArray c)->P (.done (.ret .none)) {s with heap:=h'}) :
  wpAny (model prog w) A (Builtin.«list.sort» ⟨[.ref a],[]⟩) P E s:=by
 have hlt:a<s.heap.objs.size:=Heap.lt_size hob;obtain⟨c1,hob1⟩:∃c1,(s.heap.update a (Obj.mapSeq fun _=>(#[]:Array Value))).get? a=some (seqObj "list" #[] c1):=⟨_,get?_update_seq hob fun _=>#[]⟩
 have sb1:=Heap.SameBut.update s.heap a (Obj.mapSeq fun _=>(#[]:Array Value));rw[list_sort_plain];refine wpAny_bind (listItems_at (s:=s) hob rfl ?_);refine wpAny_bind (listUpdate_at (s:=s) hob rfl ?_ (by rw[size_toArray,length_map,sizeLine_eq];omega) (Nat.zero_le _));refine wpAny_bind (seqEpoch_at (n:=c1) hob1 rfl ?_);refine wpAny_bind (wpAny_newTuple ?_ (by show(as.map Value.ref).length<=_;rw[length_map,sizeLine_eq];omega));refine wpAny_bind (wpAny_newList ?_ (Nat.zero_le (sizeLine)));refine wpAny_holding ?_;generalize hH:((s.heap.update a (Obj.mapSeq fun _=>(#[]:Array Value))).push (seqObj "tuple" (as.map Value.ref).toArray 0)).push (seqObj "list" #[] 0)=hX;have kX:∀b o,b≠a->s.heap.get? b=some o->hX.get? b=some o:=fun b o hb e=>by
  rw[<-hH];exact Heap.get?_push_of_some _ (Heap.get?_push_of_some _ ((sb1.2 b hb).trans e))
 have oX:hX.get? a=some (seqObj "list" #[] c1):=by
  rw[<-hH];exact Heap.get?_push_of_some _ (Heap.get?_push_of_some _ hob1)
 have xX:PrAt hX as key:=x.keep fun b hb o e=>kX b o (fun z=>hna (z▸hb)) e
 show wpAny (model prog w) A _ P E {s with heap:=hX};dsimp only;have szv:(as.map Value.ref).toArray.size=as.length:=by rw[size_toArray,length_map]
 have outE:∀q:List Nat,q.Perm (List.range as.length)->(List.map (fun i=>(as.map Value.ref).getD i Value.none) q)=(q.map fun i=>as.getD i 0).map Value.ref:=fun q hq=>by
  rw[map_map];refine map_congr_left fun i hi=>?_
  have hl:i<as.length:=mem_range.mp (hq.mem_iff.mp hi);show(as.map Value.ref).getD i Value.none=Value.ref (as.getD i 0);rw[getD_eq_getElem?_getD,getD_eq_getElem?_getD,List.getElem?_map,List.getElem?_eq_getElem hl];rfl
 have done:∀(q:List Nat),q.Perm (List.range as.length)->(q.map key).Pairwise (·<=·)->∀out:Array Value,out=(List.map (fun i=>(as.map Value.ref).getD i Value.none) q).toArray->
   P (.done (.ret .none)) {s with heap:=hX.update a (Obj.mapSeq fun _=>out)}:=fun q hq hs out ho=>by
  subst ho;have o2:=get?_update_seq oX fun _=>(List.map (fun i=>(as.map Value.ref).getD i Value.none) q).toArray
  have sb2:=Heap.SameBut.update hX a (Obj.mapSeq fun _=>(List.map (fun i=>(as.map Value.ref).getD i Value.none) q).toArray);rw[outE q hq]at o2 sb2|-;exact hend q _ _ hq hs (fun b o hb e=>(sb2.2 b hb).trans (kX b o hb e)) o2
 by_cases h2:(as.map Value.ref).toArray.size<2
 ·rw[if_pos h2,if_pos h2];refine wpAny_bind (wpAny_pure ?_);rw[StateT.run_pure];refine wpAny_bind (wpAny_pure ?_);dsimp only;refine wpAny_bind (seqEpoch_at (n:=c1) oX rfl ?_);have eo:(arrOf (SortSt.mk' general' ((as.map Value.ref).toArray.zip (as.map Value.ref).toArray) #[] 7 none)).map (·.2)=(List.map (fun i=>(as.map Value.ref).getD i Value.none) (List.range as.length)).toArray:=by
   have e:=j1g (as.map Value.ref);rw[length_map]at e;rw[e];exact j3W _
  rw[eo];refine wpAny_bind (listUpdate_at (s:={s with heap:=hX}) oX rfl ?_ (Nat.zero_le _) (by rw[size_toArray,length_map,length_range,sizeLine_eq];omega));simp only[bne_self_eq_false,Bool.false_eq_true,if_false];refine wpAny_pure (done (List.range as.length) (List.Perm.refl _) ?_ _ rfl);rw[szv]at h2;exact j2B (by rw[length_map,length_range];exact h2)
 ·rw[if_neg h2,if_neg h2];rw[szv]at h2;obtain⟨fs,kt,kl,ki⟩:=j0i xX;have hX':hX=({s with heap:=hX}:Shared).heap:=rfl;refine wpAny_bind (kat_kind (s:={s with heap:=hX}) (T:=Value.type "int") kt (by omega) (fun v hv=>?_) (by decide) ?_)
  ·obtain⟨m,t,rfl⟩:=ki v hv;exact Looks.of_pure rfl
  refine wpAny_bind (wpAny_mono (kat_run (s:={s with heap:=hX}) (ks:=as.map Value.ref) (vs:=as.map Value.ref) (κ:=tuples' true) (Q:=fun st' s'=>∃p:Array Nat,Pk as.length p/\Up key p as.length/\arrOf st'=p.map (kas_item ((as.map Value.ref).toArray.zip (as.map Value.ref).toArray))/\failedOf st'=none/\s'={s with heap:=hX}) (G:=fun p s'=>Pk as.length p/\Up key p as.length/\s'={s with heap:=hX})
   rfl (by rw[length_map];omega) (by rw[length_map];exact h64) (fun p st' s' _ a2 a3 a4=>⟨p,a4.1,a4.2.1,a2,a3,a4.2.2⟩) ?_) ?_ fun _ _ e=>e)
  ·rw[length_map];exact Tw.run (n:=as.length) (key:=key) (fun i j C hi hj hC=>j5f xX inj hi hj hC) (Tw.mono (fun q h=>⟨h.1,h.2,rfl⟩) (j53 (key:=key) (by omega)))
  rintro⟨⟨⟩,st'⟩ s' ⟨p,hp,hu,har,hf,rfl⟩;dsimp only;rw[kat_snds rfl har];refine wpAny_bind (seqEpoch_at (n:=c1) oX rfl ?_);have psz:=hp.size;refine wpAny_bind (listUpdate_at (s:={s with heap:=hX}) oX rfl ?_ (Nat.zero_le _) (by rw[size_toArray,length_map,Array.length_toList,psz,sizeLine_eq];omega));rw[hf];simp only[bne_self_eq_false,Bool.false_eq_true,if_false];refine wpAny_pure (done p.toList hp ?_ _ rfl);refine pairwise_map.mpr (pairwise_iff_getElem.mpr fun i j hi hj hij=>?_);rw[Array.length_toList]at hi hj;have:=hu i j (by omega) (by omega);unfold kv at this;rw[Array.getD_eq_getD_getElem?,Array.getD_eq_getD_getElem?,Array.getElem?_eq_getElem hi,Array.getElem?_eq_getElem hj]at this;exact this
end
open PySem PySem.Spec PySem.W PyProof.Rows
section
variable{X:Cx}{pins:List (Addr×Obj)}{σ:St}{H:Hp}{s:Shared}
def NewA(X:Cx)(pins:List (Addr×Obj))(T:Addr):Prop:=X.s₀.heap.objs.size<=T/\T≠X.env.locals/\(∀x c,X.env.cells.lookup x=some c->c≠T)/\∀p∈X.pn++pins,p.1≠T
theorem Inv.newA(I:Inv X pins σ H s){T:Addr}(hT:s.heap.objs.size<=T):NewA X pins T:=by
 obtain⟨_,f1,_,_,f4,f5⟩:=I.fpOk (H':=fun _=>none) hT rfl;exact⟨Nat.le_trans I.sz hT,f1,f4,f5⟩
theorem ObjOk.obj{P:Program}{w:World}{h:Heap}{a:Addr}{o:HO}(x:ObjOk P w H h a o):∃u,h.get? a=some u:=by
 cases o with
 | lst xs=>obtain⟨_,_,_,_,e⟩:=x;exact⟨_,e⟩
 | tup xs=>obtain⟨_,_,_,u,e,_⟩:=x;exact⟨u,e⟩
 | dK kvs=>obtain⟨_,_,_,_,u,_,_,e,_⟩:=x;exact⟨u,e⟩
 | dT kvs=>obtain⟨_,_,_,_,u,_,_,e,_⟩:=x;exact⟨u,e⟩
 | set S n=>obtain⟨u,_,_,_,e,_⟩:=x;exact⟨u,e⟩
 | ins C dx fs=>obtain⟨_,_,_,e,_⟩:=x;exact⟨_,e⟩
 | own y=>exact x
 | xd fs=>obtain⟨_,⟨u,_,_,e,_⟩,_⟩:=x;exact⟨u,e⟩
 | rng lo hi=>obtain⟨_,_,_,e⟩:=x;exact⟨_,e⟩
 | frz u v=>exact⟨_,x.1⟩
 | tbl ps=>exact⟨_,x⟩
 | met f y=>exact⟨_,x⟩
 | ext φ=>exact x.2.1
theorem Inv.none_at{h1:Heap}(I:Inv X pins σ H s)(hk:∀b o,s.heap.get? b=some o->h1.get? b=some o):H h1.objs.size=none:=by
 cases e:H h1.objs.size with
 | none=>rfl
 | some u=>
  obtain⟨v,q⟩:=(I.hok _ _ e).obj;exact absurd (Heap.lt_size (hk _ _ q)) (Nat.lt_irrefl _)
theorem Inv.newB{h1:Heap}(I:Inv X pins σ H s)(hk:∀b o,s.heap.get? b=some o->h1.get? b=some o):NewA X pins h1.objs.size:=by
 have lt:∀b o,s.heap.get? b=some o->b<h1.objs.size:=fun b o e=>Heap.lt_size (hk b o e)
 obtain⟨m,⟨o,_,_,ho,_⟩,_⟩:=I.loc;have hL:=lt _ _ ho;refine⟨Nat.le_of_lt (Nat.lt_of_le_of_lt I.ok.above hL),Nat.ne_of_gt hL,fun x c e=>?_,fun p hp=>Nat.ne_of_lt (lt _ _ (I.pin p hp).1)⟩;obtain⟨v,o,ho,_⟩:=I.cell x c e;exact Nat.ne_of_lt (lt _ _ ho)
theorem Inv.track{T:Addr}{o:HO}(I:Inv X pins σ H s)(h0:H T=none)(hn:NewA X pins T)(new:ObjOk X.prog X.w (upd H T o) s.heap T o):Inv X pins σ (upd H T o) s:=by
 have ne:∀b u,H b=some u->b≠T:=fun b u e z=>by rw[z,h0]at e;cases e
 refine I.step (h':=s.heap) (H':=upd H T o) (g':=s.gens) (d':=s.drawn) (t':=s.toks) (ch:=[T]) (fun b hb=>?_) (fun b o _ _ _ e _=>e) (fun b o _ _ _ e _=>⟨o.slots,e⟩) (fun b u hb _ n=>?_) (fun b u _ e=>⟨u,e⟩)
  (fun b xs e=>(jo (ne _ _ e)).trans e) (fun b u v e=>(jo (ne _ _ e)).trans e) (fun b ps e=>⟨#[],by rw[jo (ne _ _ e),e];simp⟩) (fun m hm=>hm) (fun b u e=>?_) I.bare
 ·have e:b=T:=by simpa using hb
  subst e;exact⟨.inr hn.1,hn.2.1,hn.2.2.1,hn.2.2.2⟩
 ·exact(jo fun z=>hb (by simp[z])).trans n
 ·by_cases z:b=T
  ·subst z;rw[jh]at e;cases e;exact new
  ·rw[jo z]at e;exact(I.hok b u e).stay (fun c v _ q=>q) (fun c q=>(jo (ne _ _ q)).trans q) fun c ys q=>(jo (ne _ _ q)).trans q
theorem Inv.trackAll:∀(ws:List (Addr×HO)) {H:Hp},Inv X pins σ H s->(∀p∈ws,H p.1=none/\NewA X pins p.1/\∀H',ObjOk X.prog X.w H' s.heap p.1 p.2)->(ws.map (·.1)).Nodup->∃H',Inv X pins σ H' s/\Same H H'/\∀p∈ws,H' p.1=some p.2
 | [],H,I,_,_=>⟨H,I,Same.refl _,fun p hp=>nomatch hp⟩
 | w::r,H,I,h,nd=>by
  obtain⟨a,b,c⟩:=h w mem_cons_self;rw[map_cons,nodup_cons]at nd;have I1:=I.track a b (c _);obtain⟨H',I2,s2,k2⟩:=Inv.trackAll r I1 (fun p hp=>by
   obtain⟨a',b',c'⟩:=h p (mem_cons_of_mem _ hp);exact⟨(jo fun z:p.1=w.1=>nd.1 (by rw[<-z];exact mem_map.mpr ⟨p,hp,rfl⟩)).trans a',b',c'⟩) nd.2
  have s1:Same H (upd H w.1 w.2):=fun b u q=>(jo (jg q a)).trans q
  refine⟨H',I2,s1.trans s2,fun p hp=>?_⟩;rcases mem_cons.mp hp with rfl | hp
  ·exact s2 _ _ jh
  ·exact k2 p hp
end
section
variable{X:Cx}
theorem valsR:∀as:List Addr,Vals (as.map V.ref) (as.map Value.ref)
 | []=>.nil
 | _::r=>.cons rfl (valsR r)
theorem KV.get{κ:Type}:∀{kvs:List (κ×V)} {vs:List (κ×Value)} {i:Nat} {p:κ×V},KV kvs vs->kvs[i]?=some p->∃q,vs[i]?=some q/\p.1=q.1/\RelV p.2 q.2
 | _,_,_,_,.nil,e=>by simp at e
 | _,_,0,_,.cons r _,e=>by simp at e;subst e;exact⟨_,rfl,r⟩
 | _,_,i+1,p,.cons _ t,e=>by
  obtain⟨q,h1,h2⟩:=KV.get (i:=i) (p:=p) t (by simpa using e);exact⟨q,by simpa using h1,h2⟩
theorem j11:MtR X "dict.update" (fun x vs H Q=>∃d o kvs more,x = .ref d/\vs=[.ref o]/\H d=some (.dK kvs)/\H o=some (.dK more)/\d≠o/\kvs.length+more.length<=sizeLine/\Q .non (upd H d (.dK (mergeK kvs more)))):=by
 intro pins s σ H x vs v us Q I rx rv h;obtain⟨d,o,kvs,more,rfl,rfl,ed,eo,hne,hz,q⟩:=h;cases rx;obtain⟨u,rfl,ru⟩:=vals1 rv;cases ru;obtain⟨z1,hd1,vs1,r1,dd1⟩:=kh I.hok ed;obtain⟨z2,hd2,vs2,r2,dd2⟩:=kh I.hok eo;refine call_meetsIn PySem.F.slot_dict_update dd1.typeIs PySem.F.entry_dict_update (PySem.F.args_dict_update_2 _ _) (meets_dict_update (mixKind X.prog X.w) d o hne hd2) ⟨vs1,vs2,dd1,dd2,by rw[<-r1.length,<-r2.length];exact hz,fun h' dd' _ hs=>?_⟩;have he:∃q,h'.get? d=some q:=let ⟨q,_,_,hq,_⟩:=dd';⟨q,hq⟩;have hl:=Qe more kvs;exact⟨.non,_,yB (t':=s.toks) I (by rw[ed];exact True.intro) hs he (wC (by omega) hd1 (r2.merge r1) dd'),rfl,q⟩
noncomputable def IView(v d:Addr):HO:=.ext fun h=>h.get? v=some {cls:=.type "dict_items",data:=.fields #[.ref d]}
theorem j2c:MtR X "dict.items" (fun x vs H Q=>∃d kvs,x = .ref d/\vs=[]/\H d=some (.dK kvs)/\∀v,H v=none->Q (.ref v) (upd H v (IView v d))):=by
 intro pins s σ H x vs v us Q I rx rv h;obtain⟨d,kvs,rfl,rfl,ed,q⟩:=h;cases rx;have hus:=rv.zero;subst hus;obtain⟨z1,hd1,vs1,r1,dd1⟩:=kh I.hok ed;refine call_meetsIn PySem.F.slot_dict_items dd1.typeIs PySem.F.entry_dict_items (PySem.F.args_dict_items_1 (.ref d)) (meets_dict_items (mixKind X.prog X.w) d hd1) ⟨⟨vs1,dd1⟩,?_⟩;have e:(s.heap.push {cls:=.type "dict_items",data:=.fields #[.ref d]}).get? s.heap.objs.size=some {cls:=.type "dict_items",data:=.fields #[.ref d]}:=Heap.get?_push_size _ rfl;exact⟨.ref s.heap.objs.size,_,I.laid (t':=s.toks) (o:=IView s.heap.objs.size d) (fun b u q=>Heap.get?_push_of_some _ q) (Nat.le_refl _) (show ObjOk X.prog X.w _ _ _ (IView s.heap.objs.size d)from⟨e,⟨_,e⟩,fun h1 h2 q k=>k _ q⟩),rfl,q _ (I.hok.fresh (Nat.le_refl _))⟩
noncomputable def iiK(p:Int×Int):Key×V:=(Sum.inl p.1,.int p.2)
theorem wz(hc:X.calm=true):CallR X (.builtin "sorted") (fun xs H Q=>∃(v d:Addr) (kvs:List (Int×Int)),xs=[.ref v]/\H v=some (IView v d)/\H d=some (.dK (kvs.map iiK))/\kvs.length<64/\
  ∀(l:Addr) (as:List Addr) (ms:List (Int×Int)) (H':Hp),Same H H'->H l=none->H' l=some (.lst (as.map V.ref))->(∀a∈as,H a=none)->ms.Perm kvs->(ms.map (·.1)).Pairwise (·<=·)->as.length=ms.length->(∀(i:Nat) (a:Addr) (p:Int×Int),as[i]?=some a->ms[i]?=some p->H' a=some (.tup [.int p.1,.int p.2]))->Q (.ref l) H'):=by
 intro pins s σ H xs us Q I r h;obtain⟨v,d,kvs,rfl,ev,ed,h64,q⟩:=h;obtain⟨u,rfl,ru⟩:=vals1 r;cases ru;obtain⟨z1,hd1,vs1,r1,dd1⟩:=kh I.hok ed;have hv:s.heap.get? v=some {cls:=.type "dict_items",data:=.fields #[.ref d]}:=(I.hok v _ ev).1;obtain⟨ep,da⟩:=dd1.dictAt;have lv:=r1.length;rw[length_map]at lv;have nd:(kvs.map (·.1)).Nodup:=by
  have n1:(vs1.map (·.1)).Nodup:=let ⟨_,_,_,_,_,_,_,_,hn⟩:=dd1;hn;rw[<-r1.keys,map_map]at n1;refine pairwise_map.mpr ((pairwise_map.mp n1).imp fun {a b} h e=>h ?_);show(Sum.inl a.1:Key)=Sum.inl b.1;rw[e]
 refine Calls.call_function_entry kind_sorted plain_sorted entry_sorted (args_sorted1 (.ref v)) ?_;unfold Builtin.«sorted»;refine wpAny_bind (m:=checkCount "sorted" 1 1 1) (wpAny_pure ?_);refine wpAny_bind (kdx_collect (knd:=mixKind X.prog X.w) (kvs:=vs1) (ep:=ep) (A:=X.A.in1) (I.ok.hd hc) ⟨_,hv,rfl,rfl⟩ da (by rw[<-lv,sizeLine_eq];omega) fun h1 tk as hk hl hG=>?_);rw[<-lv]at hl;refine wpAny_bind (wpAny_newList ?_ (by rw[length_map,hl,sizeLine_eq];omega));have hoL:(h1.push (seqObj "list" (as.map Value.ref).toArray 0)).get? h1.objs.size=some (seqObj "list" (as.map Value.ref).toArray 0):=Heap.get?_push_size _ rfl;have hna:h1.objs.size∉as:=fun z=>Nat.lt_irrefl _ (hG.there z)
 have key:∀i p,kvs[i]?=some p->(fun i=>(kvs.getD i (0,0)).1) i=p.1/\(fun i=>(kvs.getD i (0,0)).2) i=p.2:=fun i p e=>by
  dsimp only;rw[getD_eq_getElem?_getD,e];exact⟨rfl,rfl⟩
 have xQ:∀i a,as[i]?=some a->∃t u,(h1.push (seqObj "list" (as.map Value.ref).toArray 0)).get? a=some {cls:=.type "tuple",data:=.seq #[.int ((fun i=>(kvs.getD i (0,0)).1) i) t,.int ((fun i=>(kvs.getD i (0,0)).2) i) u]}:=fun i a e=>by
  obtain⟨ky,k,x,e1,e2,e3⟩:=hG.pairs i a e;have hi:i<kvs.length:=by rw[<-hl];exact(List.getElem?_eq_some_iff.mp e).1
  obtain⟨w',e4,rw'⟩:=KV.get r1 (i:=i) (p:=iiK kvs[i]) (by rw[List.getElem?_map,List.getElem?_eq_getElem hi];rfl);rw[e1]at e4;cases e4;obtain⟨ek,t2,ex⟩:=rw';have ek':k=Sum.inl kvs[i].1:=ek.symm;subst ek';have ex':x = .int kvs[i].2 t2:=ex;subst ex';obtain⟨g1,g2⟩:=key i _ (List.getElem?_eq_getElem hi);rw[show(fun i=>(kvs.getD i (0,0)).1) i=kvs[i].1 from g1,show(fun i=>(kvs.getD i (0,0)).2) i=kvs[i].2 from g2];rcases jZ (show keyIs (Sum.inl kvs[i].1) ky=true from e2)with⟨n,t,q1,q2⟩ | ⟨n,t,q1,q2⟩
  ·cases q1;subst q2;exact⟨t,t2,Heap.get?_push_of_some _ e3⟩
  ·cases q1
 have xP:PrAt (h1.push (seqObj "list" (as.map Value.ref).toArray 0)) as (fun i=>(kvs.getD i (0,0)).1):=fun i a e=>by
  obtain⟨t,u,z⟩:=xQ i a e;exact⟨_,t,_,_,z,rfl,rfl⟩
 have inj:∀i j,i<as.length->j<as.length->(fun i=>(kvs.getD i (0,0)).1) i=(fun i=>(kvs.getD i (0,0)).1) j->i=j:=fun i j hi hj e=>by
  rw[hl]at hi hj;obtain⟨g1,_⟩:=key i _ (List.getElem?_eq_getElem hi);obtain⟨g2,_⟩:=key j _ (List.getElem?_eq_getElem hj);rw[g1,g2]at e;rcases Nat.lt_trichotomy i j with z | z | z
  ·exact absurd e (by have:=pairwise_iff_getElem.mp nd i j (by rw[length_map];exact hi) (by rw[length_map];exact hj) z;simpa using this)
  ·exact z
  ·exact absurd e.symm (by have:=pairwise_iff_getElem.mp nd j i (by rw[length_map];exact hj) (by rw[length_map];exact hi) z;simpa using this)
 refine wpAny_bind (wpAny_holding (wpAny_call_entry slot_list_sort ⟨_,hoL,rfl⟩ entry_list_sort (j2N (s:={s with heap:=h1.push (seqObj "list" (as.map Value.ref).toArray 0),toks:=tk}) hoL hna xP inj (by rw[hl];exact h64) fun qs h2 c hq hs kk o2=>⟨_,rfl,?_⟩) (args_list_sort _)));refine wpAny_pure ⟨_,rfl,?_⟩;have ltB:∀b o,s.heap.get? b=some o->b<h1.objs.size:=fun b o e=>Heap.lt_size (hk b o e)
 have k2:∀b o,s.heap.get? b=some o->h2.get? b=some o:=fun b o e=>kk b o (Nat.ne_of_lt (ltB b o e)) (Heap.get?_push_of_some _ (hk b o e))
 have I2:Inv X pins σ H {s with heap:=h2,toks:=tk}:=I.kept (t':=tk) k2;have hB:H h1.objs.size=none:=I.none_at hk;have nB:=I.newB hk;have ha:∀a∈as,H a=none/\NewA X pins a:=fun a h=>⟨I.hok.fresh (Nat.le_of_lt (hG.above a h)),I.newA (Nat.le_of_lt (hG.above a h))⟩
 have qlt:∀i∈qs,i<as.length:=fun i hi=>mem_range.mp (hq.mem_iff.mp hi)
 have ndw:(((h1.objs.size,HO.lst ((qs.map fun i=>as.getD i 0).map V.ref))::(List.range as.length).map fun i=>(as.getD i 0,HO.tup [.int (kvs.getD i (0,0)).1,.int (kvs.getD i (0,0)).2])).map (·.1)).Nodup:=by
  rw[map_cons,nodup_cons,map_map];have e2:(List.range as.length).map ((fun x=>x.1)∘fun i=>(as.getD i 0,HO.tup [.int (kvs.getD i (0,0)).1,.int (kvs.getD i (0,0)).2]))=as:=ext_getElem (by simp) fun i h1 h2=>by
   rw[getElem_map,getElem_range];show as.getD i 0=_;rw[getD_eq_getElem?_getD,List.getElem?_eq_getElem h2];rfl
  rw[e2];exact⟨hna,hG.rise.imp fun h=>Nat.ne_of_lt h⟩
 obtain⟨H',I3,s3,k3⟩:=I2.trackAll ((h1.objs.size,HO.lst ((qs.map fun i=>as.getD i 0).map V.ref))::(List.range as.length).map fun i=>(as.getD i 0,HO.tup [.int (kvs.getD i (0,0)).1,.int (kvs.getD i (0,0)).2])) (fun p hp=>by
  rcases mem_cons.mp hp with rfl | hp
  ·refine⟨hB,nB,fun H'=>⟨?_,_,c,valsR _,o2⟩⟩;rw[length_map,length_map,hq.length_eq,length_range,hl,sizeLine_eq];omega
  ·obtain⟨i,hi,rfl⟩:=mem_map.mp hp;have hi:=mem_range.mp hi;have e:as[i]?=some (as.getD i 0):=by rw[getD_eq_getElem?_getD,List.getElem?_eq_getElem hi];rfl
   obtain⟨t1,t2,eo⟩:=xQ i _ e;have hm:=List.mem_of_getElem? e;obtain⟨n1,n2⟩:=ha _ hm;exact⟨n1,n2,fun H'=>⟨(by show 2<=sizeLine;decide),[_,_],.cons ⟨t1,rfl⟩ (.cons ⟨t2,rfl⟩ .nil),⟨_,kk _ _ (fun z=>hna (z▸hm)) eo,rfl,_,rfl⟩⟩⟩) ndw
 ·refine⟨.ref h1.objs.size,H',I3,rfl,q h1.objs.size (qs.map fun i=>as.getD i 0) (qs.map fun i=>kvs.getD i (0,0)) H' s3 hB (k3 _ mem_cons_self) (fun a h=>?_) ?_ ?_ (by rw[length_map,length_map]) fun i a p e1 e2=>?_⟩
  ·obtain⟨i,hi,rfl⟩:=mem_map.mp h;have e:as[i]?=some (as.getD i 0):=by rw[getD_eq_getElem?_getD,List.getElem?_eq_getElem (qlt i hi)];rfl
   exact(ha _ (List.mem_of_getElem? e)).1
  ·have e:=hq.map fun i=>kvs.getD i (0,0)
   rw[hl]at e;have e2:(List.range kvs.length).map (fun i=>kvs.getD i (0,0))=kvs:=ext_getElem (by simp) fun i h1 h2=>by
    rw[getElem_map,getElem_range,getD_eq_getElem?_getD,List.getElem?_eq_getElem h2];rfl
   rw[e2]at e;exact e
  ·rw[map_map];exact hs
  ·rw[List.getElem?_map]at e1 e2;obtain⟨j,hj,rfl⟩:=Option.map_eq_some_iff.mp e1;rw[hj]at e2;cases e2;exact k3 _ (mem_cons_of_mem _ (mem_map.mpr ⟨j,mem_range.mpr (qlt j (List.mem_of_getElem? hj)),rfl⟩))
end
theorem Yp:∀{as:List Addr} {us:List Value},Vals (as.map V.ref) us->us=as.map Value.ref
 | [],_,r=>by cases r;rfl
 | a::as,_,r=>by
  cases r with
  | cons r1 r2=>rw[Yp r2,show _=Value.ref a from r1];rfl
theorem W9{h:Heap}:∀{as:List Addr} {kvs:List (Int×Int)},as.length=kvs.length->(∀(i:Nat) (a:Addr) (q:Int×Int),as[i]?=some a->kvs[i]?=some q->∃t u,IsTup h a #[.int q.1 t,.int q.2 u])->
  ∃ps:List (Key×Value),KV (kvs.map iiK) ps/\ps.length=kvs.length/\∀(j:Nat) (kv:Key×Value),ps[j]?=some kv->∃a key,as[j]?=some a/\IsTup h a #[key,kv.2]/\keyIs kv.1 key=true
 | [],[],_,_=>⟨[],.nil,rfl,fun j kv e=>by simp at e⟩
 | [],_::_,l,_=>by simp at l
 | _::_,[],l,_=>by simp at l
 | a::as,q::kvs,l,f=>by
  obtain⟨ps,h1,h2,h3⟩:=W9 (as:=as) (kvs:=kvs) (by simpa using l) fun i a q e1 e2=>f (i+1) a q (by simpa using e1) (by simpa using e2)
  obtain⟨t,u,e⟩:=f 0 a q rfl rfl;refine⟨(Sum.inl q.1,.int q.2 u)::ps,.cons ⟨rfl,u,rfl⟩ h1,by rw[length_cons,h2,length_cons],fun j kv ej=>?_⟩;cases j with
  | zero=>simp at ej;subst ej;exact⟨a,_,rfl,e,KW _ _⟩
  | succ j=>obtain⟨b,ky,b1,b2,b3⟩:=h3 j kv (by simpa using ej);exact⟨b,ky,by simpa using b1,b2,b3⟩
section
variable{X:Cx}
theorem xF(hc:X.calm=true):CallR X (.type "dict") (fun xs H Q=>∃(p:Addr) (as:List Addr) (kvs:List (Int×Int)),xs=[.ref p]/\H p=some (.lst (as.map V.ref))/\as.length=kvs.length/\
  (∀(i:Nat) (a:Addr) (q:Int×Int),as[i]?=some a->kvs[i]?=some q->H a=some (.tup [.int q.1,.int q.2]))/\∀d,H d=none->Q (.ref d) (upd H d (.dK (mergeK [] (kvs.map iiK))))):=by
 intro pins s σ H xs us Q I r h;obtain⟨p,as,kvs,rfl,ep,hl,ht,q⟩:=h;obtain⟨u,rfl,ru⟩:=vals1 r;cases ru;obtain⟨z,its,n,rv,lv,e⟩:=I.lstM ep;have ei:=Yp rv;subst ei;rw[length_map]at z;have hp:p<s.heap.objs.size:=Heap.lt_size e;obtain⟨ps,kp,pl,pt⟩:=W9 (h:=s.heap) hl fun i a q e1 e2=>by
  obtain⟨_,its,r',t'⟩:=I.hok a _ (ht i a q e1 e2);cases r' with
  | cons ra rr=>
   cases rr with
   | cons rb rr=>
    cases rr;obtain⟨t1,rfl⟩:=ra;obtain⟨t2,rfl⟩:=rb;exact⟨t1,t2,t'⟩
 refine callType_codes (Q₁:=fun obj s₁=>obj = .ref s.heap.objs.size/\s₁={s with heap:=s.heap.push {cls:=.type "dict",data:=.dict #[]}}) PySem.F.kt_called_dict (PySem.F.kt_typeCall_dict_1 (.ref p)) PySem.F.entry_dict_init (kt_code_dict_new (.ref p) ⟨rfl,rfl⟩) ?_;rintro obj s₁ ⟨rfl,rfl⟩;have hnew:(s.heap.push {cls:=.type "dict",data:=.dict #[]}).DictOf (mixKind X.prog X.w) s.heap.objs.size []:=Heap.DictOf.new s.heap;have k0:∀b o,s.heap.get? b=some o->(s.heap.push {cls:=.type "dict",data:=.dict #[]}).get? b=some o:=fun b o e=>Heap.get?_push_of_some _ e
 generalize s.heap.push {cls:=.type "dict",data:=.dict #[]}=h0 at hnew k0;refine⟨hnew.typeIs (s:={s with heap:=h0}),PySem.F.args_dict_init_2 _ _,?_⟩;unfold Builtin.«dict.__init__»;refine wpAny_bind ?_;unfold Builtin.Dict.selfAndRest;refine wpAny_bind (wpAny_notOrdered_dict (hnew.typeIs (s:={s with heap:=h0})) ?_);show wpAny (model X.prog X.w) _ (pure (s.heap.objs.size,[Value.ref p])) _ _ _;refine wpAny_pure ?_;show wpAny (model X.prog X.w) _ (Builtin.Dict.updateFrom "dict.__init__" s.heap.objs.size (.ref p) [] .none) _ _ _;unfold Builtin.Dict.updateFrom;refine wpAny_bind (wpAny_typeOf (T:="list") ⟨_,k0 _ _ e,rfl⟩ ?_);rw[if_pos (by decide)];refine wpAny_bind (noKeys (s:={s with heap:=h0}) (k0 _ _ e) rfl rfl rfl (I.ok.hd hc) fun h1 tk k1=>?_);rw[if_pos (show(none:Option Value).isNone=true from rfl)];have k01:∀b o,s.heap.get? b=some o->h1.get? b=some o:=fun b o e=>k1 b o (k0 b o e)
 have dd1:h1.DictOf (mixKind X.prog X.w) s.heap.objs.size []:=hnew.keep k1;have ld:s.heap.objs.size<h1.objs.size:=by obtain⟨_,_,_,hg,_⟩:=dd1;exact Heap.lt_size hg
 have lp:p<h1.objs.size:=Nat.lt_trans hp ld;refine wpAny_bind (wpAny_rule ?_);refine wpAny_bind (wpAny_pyIter_list (l:=p) (items:=(as.map Value.ref).toArray) ⟨_,k01 _ _ e,rfl,n,rfl⟩ ?_);refine wpAny_pure ⟨plainId_quiet ZQ _,?_⟩;refine dul (knd:=mixKind X.prog X.w) (A:=X.A.in1) (d:=s.heap.objs.size) (it:=h1.objs.size) (l:=p) (items:=as.map Value.ref) (res:=.none) (I.ok.hd hc) (Nat.ne_of_lt ld) (Nat.ne_of_gt hp) (Nat.ne_of_gt lp) ps 0 [] _
  ⟨_,Heap.get?_push_size _ rfl,rfl,rfl⟩ ⟨_,Heap.get?_push_of_some _ (k01 _ _ e),rfl,n,rfl⟩ (by rw[length_map,hl,pl,Nat.zero_add]) (fun j kv ej=>?_) (dd1.push _) (by rw[length_nil,pl,<-hl,Nat.zero_add];exact z) fun h2 tk2 k2 dd2=>?_
 ·obtain⟨a,ky,b1,⟨o,b2,b3⟩,b4⟩:=pt j kv ej;have la:a<s.heap.objs.size:=Heap.lt_size b2;exact⟨a,ky,by rw[Nat.zero_add,List.getElem?_map,b1];rfl,⟨o,Heap.get?_push_of_some _ (k01 _ _ b2),b3⟩,b4,Nat.ne_of_lt la,Nat.ne_of_lt (Nat.lt_trans la ld)⟩
 ·refine⟨rfl,.ref s.heap.objs.size,upd H s.heap.objs.size (.dK (mergeK [] (kvs.map iiK))),I.laid (t':=tk2) (fun b o eb=>k2 b o (Nat.ne_of_lt (Heap.lt_size eb)) (Nat.ne_of_lt (Nat.lt_trans (Heap.lt_size eb) ld)) (Heap.get?_push_of_some _ (k01 _ _ eb))) (Nat.le_refl _) ?_,rfl,q _ (I.hok.fresh (Nat.le_refl _))⟩;have hm:=Qe (kvs.map iiK) [];rw[length_nil,length_map]at hm;have hns:(s.heap.objs.size==sysModules)=false:=by
   rw[beq_eq_false_iff_ne];exact Nat.ne_of_gt I.big
  exact wC (by omega) hns (kp.merge .nil) dd2
end
theorem yC{H:Hp}:∀(ks:List Int),DVs H (ks.map V.int) (ks.map PyData.int)
 | []=>.nil
 | k::r=>.cons (.int k) (yC r)
theorem X0(ks:List Int):PyData.eqv (.list (ks.map PyData.int)) (.list [])=decide (ks=[]):=by
 cases ks<;>simp[PyData.eqv,PyData.eqvAll]
theorem j4P{X:Cx}(hu:X.A.units+64<cLine):OpR X (compareOp .In) (fun x y H Q=>∃(a l:Addr) (as:List Addr) (hs:List (List Int)),x = .ref a/\y = .ref l/\H a=some (.lst [])/\H l=some (.lst (as.map V.ref))/\as.length=hs.length/\
  (∀(i:Nat) (b:Addr) (ks:List Int),as[i]?=some b->hs[i]?=some ks->H b=some (.lst (ks.map V.int)))/\Q (.bl (hs.any fun ks=>decide (ks=[]))) H):=by
 intro pins s σ H x y v u Q I rx ry h;obtain⟨a,l,as,hs,rfl,rfl,ea,el,hl,hh,q⟩:=h;cases rx;cases ry;obtain⟨its,r,pl,hz⟩:=I.list (SqL.of el);have ei:=Yp r;subst ei;obtain⟨ba,ra⟩:=QR I (DV.lst ea .nil) (show RelV (.ref a) (.ref a)from rfl)
 classical
 have rd:∀(i:Nat) (b:Addr) (ks:List Int),as[i]?=some b->hs[i]?=some ks->∃bb,Reads s.heap (.ref b) (.list (ks.map PyData.int)) bb:=fun i b ks e1 e2=>QR I (DV.lst (hh i b ks e1 e2) (yC ks)) (show RelV (.ref b) (.ref b)from rfl)
 have fe:∀(i:Nat) (b:Addr) (ks:List Int),as[i]?=some b->hs[i]?=some ks->decide (∃bb,Reads s.heap (.ref b) (.list []) bb)=decide (ks=[]):=fun i b ks e1 e2=>by
  obtain⟨bb,rb⟩:=rd i b ks e1 e2;rw[decide_eq_decide];constructor
  ·rintro⟨cc,rc⟩;have e:=SeqAt.Reads.unique _ _ _ _ _ (show PyData.canLay0 (.list [])=true from rfl) rc rb;cases ks with
   | nil=>rfl
   | cons k r=>simp at e
  ·rintro rfl;exact⟨bb,rb⟩
 refine SeqAt.in_listAt (fun w=>decide (∃bb,Reads s.heap w (.list []) bb)) pl.isList (fun w hw=>?_) ⟨.bl _,H,I,rfl,?_⟩
 ·obtain⟨i,hi,e⟩:=mem_iff_getElem.mp (show w∈as.map Value.ref by simpa using hw);rw[getElem_map]at e;rw[length_map]at hi;subst e;have e1:as[i]?=some as[i]:=List.getElem?_eq_getElem hi;have e2:hs[i]?=some hs[i]:=List.getElem?_eq_getElem (by omega);obtain⟨bb,rb⟩:=rd i _ _ e1 e2;have z:=SeqAt.eqAt_reads _ _ X.A.in1 s _ _ _ _ rb ra (by show PyData.canLayAll0 _=true;exact ke_canLayAll0 _) rfl (by
   show X.A.in1.units+min (PyData.depthAll _+1) (0+1)<cLine;have h1:X.A.in1.units=X.A.units+1:=rfl;omega)
  rw[X0,<-fe i _ _ e1 e2]at z;exact z
 ·have e:(as.map Value.ref).toArray.any (fun w=>decide (∃bb,Reads s.heap w (.list []) bb))=hs.any fun ks=>decide (ks=[]):=by
   rw[List.any_toArray,List.any_map,Bool.eq_iff_iff,any_eq_true,any_eq_true];constructor
   ·rintro⟨b,hb,hw⟩;obtain⟨i,hi,rfl⟩:=mem_iff_getElem.mp hb;exact⟨hs[i],getElem_mem _,by rw[<-fe i _ _ (List.getElem?_eq_getElem hi) (List.getElem?_eq_getElem (by omega))];exact hw⟩
   ·rintro⟨ks,hk,hw⟩;obtain⟨i,hi,rfl⟩:=mem_iff_getElem.mp hk;refine⟨as[i],getElem_mem _,?_⟩;show decide _=true;rw[fe i _ _ (List.getElem?_eq_getElem (by omega)) (List.getElem?_eq_getElem hi)];exact hw
  rw[e];exact q
section
variable{X:Cx}
end
theorem j1J{K:Frg}{a b:Addr}{xs zs:List V}{k:Nat}{ci:List Nat}{g:TG}{tf:TT}{te:TE}{σ:St}{H:Hp}{Z:Addr->List V->Hp->Prop}(Pv:Nat->List V->Hp->Prop)(hlen:xs.length=zs.length)(h0:Pv 0 [] H)(hl:∀i ys H,i<=xs.length->Pv i ys H->SqL K H a xs/\SqL K H b zs)
  (hs:∀i u v ys H T H',xs[i]?=some u->zs[i]?=some v->Pv i ys H->Same H H'->H' T=some (.tup [u,v])->g (.ref T) (capS k ci σ) H' fun σ2 H2=>tf σ2 H2 fun b H3=>if b=true then te σ2 H3 fun v H4=>ys.length<sizeLine/\Pv (i+1) (ys++[v]) H4 else Pv (i+1) ys H3)
  (hd:∀ys H,Pv xs.length ys H->ys.length<=sizeLine/\∀p,H p=none->Z p ys H) :
  ∃W:Nat->Nat->List V->Hp->Prop,(∃m,W 0 m [] H)/\∀i m ys H,W i m ys H->
   ((Itz K a b).stop i H/\ys.length<=sizeLine/\∀p,H p=none->Z p ys H)\/
   ((Itz K a b).go i H/\∃N:List V->Hp->Prop,(∀ys' H',N ys' H'->∃m',m'<m/\W (i+1) m' ys' H')/\∀x H',(Itz K a b).yld i H x H'->g x (capS k ci σ) H' fun σ2 H2=>tf σ2 H2 fun b H3=>
    if b=true then te σ2 H3 fun v H4=>ys.length<sizeLine/\N (ys++[v]) H4 else N ys H3):=by
 refine⟨fun i m ys H=>m=xs.length-i/\i<=xs.length/\Pv i ys H,⟨xs.length,by simp,Nat.zero_le _,h0⟩,?_⟩;rintro i m ys H ⟨rfl,hi,p⟩;obtain⟨q,q'⟩:=hl i ys H hi p;by_cases hlt:i<xs.length
 ·refine .inr ⟨⟨xs,xs[i],zs,zs[i],q,by simp[hlt],q',by simp⟩,Pv (i+1),fun ys' H' p'=>⟨xs.length-(i+1),by omega,rfl,hlt,p'⟩,fun x H' y=>?_⟩;obtain⟨T,u,v,rfl,hT,e,y,y'⟩:=y;exact hs i u v ys H T H' (y xs q) (y' zs q') p (fun b o h=>by rw[e,jo (jg h hT)];exact h) (by rw[e];exact jh)
 ·have e:i=xs.length:=by omega
  subst e;exact .inl ⟨⟨xs,zs,q,q',.inl (Nat.le_refl _)⟩,hd ys H p⟩
section
variable{X:Cx}{e:Expr}{te:TE}
end
abbrev IsZipK(h:Heap)(z TI TO T:Addr)(f:Bool):Prop:=h.get? z=some {cls:=.type "zip",dict:=none,data:=.fields #[rawInt T,.bool f,.bool false,.ref TI,.ref TO],slots:=#[]}
section
variable{prog:Program}{w:World}{A:Around}{E:Value->Shared->Prop}{s:Shared}
theorem yP{z TI TO T:Addr}{f:Bool}{oT:Obj}(hz:IsZipK s.heap z TI TO T f)(hT:s.heap.get? T=some oT) :
  wpAny (model prog w) A (Builtin.SmallTypes.ownedTupleIsFree (.ref z)) (fun a s₁=>a=false/\∃h₁,s₁={s with heap:=h₁}/\IsZipK h₁ z TI TO T true/\Heap.SameBut z s.heap h₁) E s:=by
 unfold Builtin.SmallTypes.ownedTupleIsFree;refine wpAny_bind (wpAny_field hz rfl (x:=rawInt T) rfl ?_);show wpAny _ _ (loadIfAlive ((T:Int).toNat) >>= _) _ _ _;rw[Int.toNat_natCast];refine wpAny_bind (kdx_alive hT ?_);simp only[Option.isNone_some,Bool.false_eq_true,if_false];refine wpAny_bind (wpAny_field hz rfl (x:=.bool f) rfl ?_);cases f with
 | true=>
  rw[if_neg (show¬((Value.bool true != Value.bool true)=true)from Bool.false_ne_true)];exact wpAny_pure ⟨rfl,_,rfl,hz,Heap.SameBut.refl ..⟩
 | false=>
  rw[if_pos (show(Value.bool false != Value.bool true)=true from rfl)];refine wpAny_bind (wpAny_setField_rec hz (by simp) fun h₃ he₃ hs₃=>?_);exact wpAny_pure ⟨rfl,h₃,rfl,he₃,hs₃⟩
theorem Kh{z TI TO T i1 i2 l1 l2:Addr}{f:Bool}{oT:Obj}{k1 k2:Nat}{xs ys:Array Value}{x y:Value}{Q:Value->Shared->Prop}(D:ZipApart z TI TO i1 i2 l1 l2)
  (hz:IsZipK s.heap z TI TO T f) (hT:s.heap.get? T=some oT) (hTI:IsPair s.heap TI (.ref i1) (.ref i2))
  (h1:s.heap.IsListIter i1 l1 k1) (h2:s.heap.IsListIter i2 l2 k2) (hl1:s.heap.IsList l1 xs) (hl2:s.heap.IsList l2 ys) (hx:xs[k1]?=some x) (hy:ys[k2]?=some y)
  (hQ:∀h',IsZipK h' z TI TO T true->h'.IsListIter i1 l1 (k1+1)->h'.IsListIter i2 l2 (k2+1)->IsPair h' s.heap.objs.size x y->h'.objs.size=s.heap.objs.size+1->
   (∀c o,c≠z->c≠i1->c≠i2->s.heap.get? c=some o->h'.get? c=some o)->Q (.ref s.heap.objs.size) {s with heap:=h'}) :
  wpAny (model prog w) A (Builtin.«zip.__next__» ⟨[.ref z],[]⟩) (fun fin s'=>∃v,fin=Fin.done (.ret v)/\Q v s') E s:=by
 show wpAny _ _ (field (.ref z) 2 >>= _) _ _ _;refine wpAny_bind (wpAny_field hz rfl (x:=.bool false) rfl ?_);show wpAny _ _ (field (.ref z) 3 >>= _) _ _ _;refine wpAny_bind (wpAny_field hz rfl (x:=.ref TI) rfl ?_);refine wpAny_bind (wpAny_seqItems hTI rfl ?_);show wpAny _ _ (Builtin.SmallTypes.ownedTupleIsFree (.ref z) >>= _) _ _ _;refine wpAny_bind (thn (yP hz hT) fun a s₁ ⟨ha,h₁,es,hz₁,hs₁⟩=>?_);subst ha es;simp only[Bool.false_eq_true,if_false];refine wpAny_bind ?_;rw[<-Array.forIn_toList];simp only[forIn_cons,forIn_nil];refine wpAny_bind (wpAny_bind (wpAny_holding ?_));show wpAny _ _ (Builtin.SmallTypes.nextOf (.ref i1) >>= _) _ _ _;refine wpAny_bind (wpAny_nextOf_list_item (h1.extBut hs₁.extBut D.i1z) (hl1.extBut hs₁.extBut D.l1z) hx fun h₂ h1₂ hs₂=>wpAny_pure ?_);refine wpAny_pure ?_;refine wpAny_bind (wpAny_bind (wpAny_holding ?_));show wpAny _ _ (Builtin.SmallTypes.nextOf (.ref i2) >>= _) _ _ _;refine wpAny_bind (wpAny_nextOf_list_item ((h2.extBut hs₁.extBut D.i2z).extBut hs₂.extBut D.i12.symm) ((hl2.extBut hs₁.extBut D.l2z).extBut hs₂.extBut D.l2i1) hy fun h₄ h2₄ hs₄=>wpAny_pure ?_);refine wpAny_pure (wpAny_pure ?_);refine wpAny_bind (wpAny_newTuple (hsz:=by show 2<=sizeLine;decide) ?_);have hsz:h₄.objs.size=s.heap.objs.size:=by rw[hs₄.1,hs₂.1,hs₁.1]
 have hz₄:IsZipK h₄ z TI TO T true:=hs₄.extBut _ _ D.i2z.symm (hs₂.extBut _ _ D.i1z.symm hz₁);have hk:∀c o,c≠z->c≠i1->c≠i2->s.heap.get? c=some o->h₄.get? c=some o:=fun c o c1 c3 c4 e=>hs₄.extBut _ _ c4 (hs₂.extBut _ _ c3 (hs₁.extBut _ _ c1 e))
 refine wpAny_pure ⟨_,rfl,?_⟩;show Q (.ref h₄.objs.size) _;have hT:(h₄.push {cls:=.type "tuple",data:=.seq #[x,y]}).get? h₄.objs.size=some {cls:=.type "tuple",data:=.seq #[x,y]}:=Heap.get?_push_size _ rfl;rw[hsz]at hT|-;exact hQ _ (Heap.get?_push_of_some _ hz₄) ((h1₂.extBut hs₄.extBut D.i12).at fun o e=>Heap.get?_push_of_some _ e) (h2₄.at fun o e=>Heap.get?_push_of_some _ e) hT (by rw[Heap.size_push,hsz]) fun c o c1 c3 c4 e=>Heap.get?_push_of_some _ (hk c o c1 c3 c4 e)
theorem zY{z TI TO T i1 i2 l1 l2:Addr}{f:Bool}{oT:Obj}{k1 k2:Nat}{xs ys:Array Value}{x y:Value}{Q:Option Value->Shared->Prop}(D:ZipApart z TI TO i1 i2 l1 l2)
  (hz:IsZipK s.heap z TI TO T f) (hT:s.heap.get? T=some oT) (hTI:IsPair s.heap TI (.ref i1) (.ref i2))
  (h1:s.heap.IsListIter i1 l1 k1) (h2:s.heap.IsListIter i2 l2 k2) (hl1:s.heap.IsList l1 xs) (hl2:s.heap.IsList l2 ys) (hx:xs[k1]?=some x) (hy:ys[k2]?=some y)
  (hQ:∀h',IsZipK h' z TI TO T true->h'.IsListIter i1 l1 (k1+1)->h'.IsListIter i2 l2 (k2+1)->IsPair h' s.heap.objs.size x y->h'.objs.size=s.heap.objs.size+1->
   (∀c o,c≠z->c≠i1->c≠i2->s.heap.get? c=some o->h'.get? c=some o)->Q (some (.ref s.heap.objs.size)) {s with heap:=h'}) :
  wpAny (model prog w) A (pyNext (.ref z)) Q E s:=by
 have hTy:s.TypeIs (.ref z) "zip":=⟨_,hz,rfl⟩
 unfold pyNext;refine wpAny_bind (wpAny_attempt (wpAny_callSpecial?_slot (name:=Str.ofString "__next__") hTy F.slot_zip_next
  (wpAny_call_entry F.slot_zip_next hTy F.entry_zip_next (Kh D hz hT hTI h1 h2 hl1 hl2 hx hy fun h' a1 a2 a3 a4 a5 a6=>?_) (F.args_zip_next_1 _))))
 exact wpAny_pure (hQ h' a1 a2 a3 a4 a5 a6)
theorem Kv{z TI TO T i1 i2 l1 l2:Addr}{f:Bool}{oT:Obj}{k1:Nat}{xs:Array Value}{Q:Fin->Shared->Prop}(hh:A.handled=none)(D:ZipApart z TI TO i1 i2 l1 l2)
  (hz:IsZipK s.heap z TI TO T f) (hT:s.heap.get? T=some oT) (hTI:IsPair s.heap TI (.ref i1) (.ref i2))
  (h1:s.heap.IsListIter i1 l1 k1) (hl1:s.heap.IsList l1 xs) (hx:xs[k1]?=none)
  (hE:∀h' e,(∀c o,c≠z->c≠i1->c≠i2->s.heap.get? c=some o->h'.get? c=some o)->(∃o,h'.get? e=some o/\o.cls = .type "StopIteration")->E (.ref e) {s with heap:=h'}) :
  wpAny (model prog w) A (Builtin.«zip.__next__» ⟨[.ref z],[]⟩) Q E s:=by
 show wpAny _ _ (field (.ref z) 2 >>= _) _ _ _;refine wpAny_bind (wpAny_field hz rfl (x:=.bool false) rfl ?_);show wpAny _ _ (field (.ref z) 3 >>= _) _ _ _;refine wpAny_bind (wpAny_field hz rfl (x:=.ref TI) rfl ?_);refine wpAny_bind (wpAny_seqItems hTI rfl ?_);show wpAny _ _ (Builtin.SmallTypes.ownedTupleIsFree (.ref z) >>= _) _ _ _;refine wpAny_bind (thn (yP hz hT) fun a s₁ ⟨ha,h₁,es,hz₁,hs₁⟩=>?_);subst ha es;simp only[Bool.false_eq_true,if_false];refine wpAny_bind ?_;rw[<-Array.forIn_toList];simp only[forIn_cons,forIn_nil];refine wpAny_bind (wpAny_bind (wpAny_holding ?_));show wpAny _ _ (Builtin.SmallTypes.nextOf (.ref i1) >>= _) _ _ _;refine wpAny_bind (wpAny_nextOf_list_end hh (h1.extBut hs₁.extBut D.i1z) (hl1.extBut hs₁.extBut D.l1z) hx fun h₂ e hs₂ he=>?_);exact hE h₂ e (fun c o c1 c3 _ x=>hs₂ _ _ c3 (hs₁.extBut _ _ c1 x)) he
theorem Ze{z TI TO T i1 i2 l1 l2:Addr}{f:Bool}{oT:Obj}{k1:Nat}{xs:Array Value}{Q:Option Value->Shared->Prop}(hh:A.handled=none)(D:ZipApart z TI TO i1 i2 l1 l2)
  (hz:IsZipK s.heap z TI TO T f) (hT:s.heap.get? T=some oT) (hTI:IsPair s.heap TI (.ref i1) (.ref i2))
  (h1:s.heap.IsListIter i1 l1 k1) (hl1:s.heap.IsList l1 xs) (hx:xs[k1]?=none)
  (hQ:∀h',(∀c o,c≠z->c≠i1->c≠i2->s.heap.get? c=some o->h'.get? c=some o)->Q none {s with heap:=h'}):wpAny (model prog w) A (pyNext (.ref z)) Q E s:=by
 have hTy:s.TypeIs (.ref z) "zip":=⟨_,hz,rfl⟩
 unfold pyNext;refine wpAny_bind (wpAny_attempt (wpAny_callSpecial?_slot (name:=Str.ofString "__next__") hTy F.slot_zip_next
  (wpAny_call_entry F.slot_zip_next hTy F.entry_zip_next (Kv hh D hz hT hTI h1 hl1 hx fun h' e hk he=>?_) (F.args_zip_next_1 _))))
 obtain⟨o,ho,hc⟩:=he;refine wpAny_bind (wpAny_isInstance (T:="StopIteration") (b:=true) ⟨o,ho,hc⟩ isSubtype_stop ?_);exact wpAny_pure (hQ _ hk)
theorem XD:typeLookup (.type "zip") "__len__"= pure none:=by rw[typeLookup_type,builtinLookup_eq_fast];kernel_rfl
theorem xr:typeLookup (.type "zip") "__length_hint__"= pure none:=by rw[typeLookup_type,builtinLookup_eq_fast];kernel_rfl
def ZipSt(h:Heap)(z TI TO i1 i2 l1 l2:Addr)(i:Nat):Prop:=
 IsPair h TI (.ref i1) (.ref i2)/\h.IsListIter i1 l1 i/\h.IsListIter i2 l2 i/\((i=0/\IsZip h z TI TO .none/\∃a b,IsPair h TO a b)\/(∃T f oT,IsZipK h z TI TO T f/\h.get? T=some oT/\T≠z/\T≠i1/\T≠i2))
theorem XB{z TI TO i1 i2 l1 l2:Addr}{i:Nat}{xs ys:Array Value}{x y:Value}{Q:Option Value->Shared->Prop}(D:ZipApart z TI TO i1 i2 l1 l2)(st:ZipSt s.heap z TI TO i1 i2 l1 l2 i)
  (hl1:s.heap.IsList l1 xs) (hl2:s.heap.IsList l2 ys) (hx:xs[i]?=some x) (hy:ys[i]?=some y)
  (hQ:∀h',ZipSt h' z TI TO i1 i2 l1 l2 (i+1)->IsPair h' s.heap.objs.size x y->h'.objs.size=s.heap.objs.size+1->(∀c o,c≠z->c≠TO->c≠i1->c≠i2->s.heap.get? c=some o->h'.get? c=some o)->Q (some (.ref s.heap.objs.size)) {s with heap:=h'}) :
  wpAny (model prog w) A (pyNext (.ref z)) Q E s:=by
 obtain⟨hTI,h1,h2,st⟩:=st;have n1:s.heap.objs.size≠i1:=by obtain⟨o,e,_⟩:=id h1;exact Nat.ne_of_gt (Heap.lt_size e)
 have n2:s.heap.objs.size≠i2:=by obtain⟨o,e,_⟩:=id h2;exact Nat.ne_of_gt (Heap.lt_size e)
 rcases st with⟨rfl,hz,a,b,hTO⟩ | ⟨T,f,oT,hz,hT,t1,t2,t3⟩
 ·have nz:s.heap.objs.size≠z:=Nat.ne_of_gt (Heap.lt_size hz);refine wpAny_pyNext_zip_item D hz hTI hTO h1 h2 hl1 hl2 hx hy fun h' a1 a2 a3 a4 a5 a6 hk=>?_
  exact hQ h' ⟨hk TI _ D.TIz D.TITO D.TIi1 D.TIi2 hTI,a3,a4,.inr ⟨_,false,_,a1,a5,nz,n1,n2⟩⟩ a5 a6 hk
 ·refine zY D hz hT hTI h1 h2 hl1 hl2 hx hy fun h' a1 a3 a4 a5 a6 hk=>?_
  exact hQ h' ⟨hk TI _ D.TIz D.TIi1 D.TIi2 hTI,a3,a4,.inr ⟨T,true,oT,a1,hk T _ t1 t2 t3 hT,t1,t2,t3⟩⟩ a5 a6 fun c o c1 c2 c3 c4 e=>hk c o c1 c3 c4 e
theorem j1u{z TI TO i1 i2 l1 l2:Addr}{i:Nat}{xs ys:Array Value}{Q:Option Value->Shared->Prop}(hh:A.handled=none)(D:ZipApart z TI TO i1 i2 l1 l2)(st:ZipSt s.heap z TI TO i1 i2 l1 l2 i)
  (hl1:s.heap.IsList l1 xs) (hl2:s.heap.IsList l2 ys) (hx:xs[i]?=none)
  (hQ:∀h',(∀c o,c≠z->c≠TO->c≠i1->c≠i2->s.heap.get? c=some o->h'.get? c=some o)->Q none {s with heap:=h'}):wpAny (model prog w) A (pyNext (.ref z)) Q E s:=by
 obtain⟨hTI,h1,h2,st⟩:=st;rcases st with⟨rfl,hz,a,b,hTO⟩ | ⟨T,f,oT,hz,hT,t1,t2,t3⟩
 ·exact wpAny_pyNext_zip_end hh D hz hTI hTO h1 h2 hl1 hl2 (.inl hx) hQ
 ·exact Ze hh D hz hT hTI h1 hl1 hx fun h' hk=>hQ h' fun c o c1 c2 c3 c4 e=>hk c o c1 c3 c4 e
def ZPs(h:Heap)(lo:Nat)(as:List Addr)(xs ys:Array Value):Prop:=as.Pairwise (· < ·)/\(∀a∈as,lo<=a/\a<h.objs.size)/\∀(j:Nat) (a:Addr),as[j]?=some a->∃x y,xs[j]?=some x/\ys[j]?=some y/\IsPair h a x y
theorem j30{R:Result->Shared->Prop}{z TI TO i1 i2 l1 l2 S:Addr}{lo:Nat}{xs ys:Array Value}(hh:A.in1.handled=none)(D:ZipApart z TI TO i1 i2 l1 l2)(hS:S≠z/\S≠TI/\S≠TO/\S≠i1/\S≠i2/\S≠l1/\S≠l2)(hlo:z<lo/\TO<lo/\i1<lo/\i2<lo/\S<lo)(hlen:xs.size=ys.size)(hn:xs.size<=sizeLine)(res:Value) :
  ∀(k i:Nat) (s:Shared) (as:List Addr) (c:Nat),xs.size-i=k->i<=xs.size->ZipSt s.heap z TI TO i1 i2 l1 l2 i->s.heap.IsList l1 xs->s.heap.IsList l2 ys->lo<=s.heap.objs.size->
  s.heap.get? S=some {cls:=.type "list",dict:=none,data:=.seq (as.map Value.ref).toArray c,slots:=#[]}->as.length=i->ZPs s.heap lo as xs ys->
  (∀h' as' c',h'.get? S=some {cls:=.type "list",dict:=none,data:=.seq (as'.map Value.ref).toArray c',slots:=#[]}->as'.length=xs.size->ZPs h' lo as' xs ys->
   (∀b o,b≠S->b≠z->b≠TO->b≠i1->b≠i2->s.heap.get? b=some o->h'.get? b=some o)->R (.ok (.ret res)) {s with heap:=h'})->
  codeAny (model prog w) A (.builtin "list.extend.loop" ⟨[.ref S,.ref z,res],[]⟩) R s:=by
 intro k
 induction k with
 | zero=>
  intro i s as c hk hi st hl1 hl2 hlo' hSo hla hP hR;have hin:i=xs.size:=by omega
  refine codeAny_builtin F.entry_extend_loop ?_;rw[Around.under_plainId F.plain_extend_loop _];show wpAny _ A.in1 (pyNext (.ref z) >>= _) _ _ s;refine wpAny_bind (j1u hh D st hl1 hl2 (by rw[Array.getElem?_eq_none_iff];omega) fun h' hk'=>?_);have ap:∀a∈as,a≠z/\a≠TO/\a≠i1/\a≠i2/\a≠S:=fun a ha=>⟨Nat.ne_of_gt (Nat.lt_of_lt_of_le hlo.1 (hP.2.1 a ha).1),Nat.ne_of_gt (Nat.lt_of_lt_of_le hlo.2.1 (hP.2.1 a ha).1),Nat.ne_of_gt (Nat.lt_of_lt_of_le hlo.2.2.1 (hP.2.1 a ha).1),Nat.ne_of_gt (Nat.lt_of_lt_of_le hlo.2.2.2.1 (hP.2.1 a ha).1),Nat.ne_of_gt (Nat.lt_of_lt_of_le hlo.2.2.2.2 (hP.2.1 a ha).1)⟩
  have keep:∀a∈as,∀o,s.heap.get? a=some o->h'.get? a=some o:=fun a ha o e=>hk' a o (ap a ha).1 (ap a ha).2.1 (ap a ha).2.2.1 (ap a ha).2.2.2.1 e
  refine wpAny_pure (hR h' as c (hk' S _ hS.1 hS.2.2.1 hS.2.2.2.1 hS.2.2.2.2.1 hSo) (by omega) ⟨hP.1,fun a ha=>?_,fun j a e=>?_⟩ fun b o _ b1 b2 b3 b4 e=>hk' b o b1 b2 b3 b4 e)
  ·obtain⟨j,hj,ej⟩:=List.getElem_of_mem ha;obtain⟨x,y,_,_,p⟩:=hP.2.2 j a (by rw[List.getElem?_eq_getElem hj,ej]);exact⟨(hP.2.1 a ha).1,Heap.lt_size (keep a ha _ p)⟩
  ·obtain⟨x,y,p1,p2,p⟩:=hP.2.2 j a e;exact⟨x,y,p1,p2,keep a (List.mem_of_getElem? e) _ p⟩
 | succ k ih=>
  intro i s as c hk hi st hl1 hl2 hlo' hSo hla hP hR;have hlt:i<xs.size:=by omega
  refine codeAny_builtin F.entry_extend_loop ?_;rw[Around.under_plainId F.plain_extend_loop _];show wpAny _ A.in1 (pyNext (.ref z) >>= _) _ _ s;have ex:xs[i]?=some xs[i]:=by simp[hlt]
  have ey:ys[i]?=some (ys[i]'(by omega)):=by simp[<-hlen,hlt]
  refine wpAny_bind (XB D st hl1 hl2 ex ey fun h' st' hp hsz hk'=>?_);have hS':=hk' S _ hS.1 hS.2.2.1 hS.2.2.2.1 hS.2.2.2.2.1 hSo;show wpAny _ A.in1 (updateSeq S (·.push (.ref s.heap.objs.size)) >>= _) _ _ _;refine wpAny_bind ?_;have sz1:(as.map Value.ref).toArray.size=i:=by simp[hla]
  refine wpAny_updateSeq hS' rfl (wpAny_pure ⟨plainId_quiet F.plain_extend_loop _,?_⟩) (by rw[sz1];omega) (by show((as.map Value.ref).toArray.push _).size<=sizeLine+1;rw[Array.size_push,sz1];omega);have oth:∀b o,b≠S->h'.get? b=some o->(h'.update S (Obj.mapSeq (·.push (.ref s.heap.objs.size)))).get? b=some o:=fun b o hb e=>(Heap.get?_update_other _ _ (Ne.symm hb)).trans e
  have hS2:=Heap.get?_update_self (Obj.mapSeq (·.push (.ref s.heap.objs.size))) hS' rfl;have e2:∃c2,(Obj.mapSeq (·.push (.ref s.heap.objs.size)) {cls:=.type "list",dict:=none,data:=.seq (as.map Value.ref).toArray c,slots:=#[]}:Obj)={cls:=.type "list",dict:=none,data:=.seq ((as++[s.heap.objs.size]).map Value.ref).toArray c2,slots:=#[]}:=by
   have e3:(as.map Value.ref).toArray.push (.ref s.heap.objs.size)=((as++[s.heap.objs.size]).map Value.ref).toArray:=by simp
   rw[<-e3];exact⟨_,rfl⟩
  obtain⟨c2,e2⟩:=e2;rw[e2]at hS2;have usz:(h'.update S (Obj.mapSeq (·.push (.ref s.heap.objs.size)))).objs.size=s.heap.objs.size+1:=by rw[<-hsz];exact(Heap.SameBut.update ..).1
  have nS:s.heap.objs.size≠S:=Nat.ne_of_gt (Nat.lt_of_lt_of_le hlo.2.2.2.2 hlo');have ap:∀a∈as,a≠z/\a≠TO/\a≠i1/\a≠i2/\a≠S:=fun a ha=>⟨Nat.ne_of_gt (Nat.lt_of_lt_of_le hlo.1 (hP.2.1 a ha).1),Nat.ne_of_gt (Nat.lt_of_lt_of_le hlo.2.1 (hP.2.1 a ha).1),Nat.ne_of_gt (Nat.lt_of_lt_of_le hlo.2.2.1 (hP.2.1 a ha).1),Nat.ne_of_gt (Nat.lt_of_lt_of_le hlo.2.2.2.1 (hP.2.1 a ha).1),Nat.ne_of_gt (Nat.lt_of_lt_of_le hlo.2.2.2.2 (hP.2.1 a ha).1)⟩
  have low:∀a∈as,a<s.heap.objs.size:=fun a ha=>(hP.2.1 a ha).2
  have keep:∀a∈as,∀o,s.heap.get? a=some o->(h'.update S (Obj.mapSeq (·.push (.ref s.heap.objs.size)))).get? a=some o:=fun a ha o e=>oth a o (ap a ha).2.2.2.2 (hk' a o (ap a ha).1 (ap a ha).2.1 (ap a ha).2.2.1 (ap a ha).2.2.2.1 e)
  refine ih (i+1) _ (as++[s.heap.objs.size]) c2 (by omega) hlt ?_ ?_ ?_ ?_ hS2 (by rw[List.length_append,hla];rfl) ?_ ?_
  ·obtain⟨q1,q2,q3,q4⟩:=st';refine⟨oth _ _ hS.2.1.symm q1,q2.at fun o e=>oth _ _ hS.2.2.2.1.symm e,q3.at fun o e=>oth _ _ hS.2.2.2.2.1.symm e,?_⟩;rcases q4 with⟨z0,_⟩ | ⟨T,f,oT,q5,q6,q7,q8,q9⟩
   ·cases z0
   ·by_cases zS:T=S
    ·subst zS;exact .inr ⟨T,f,_,oth _ _ hS.1.symm q5,hS2,q7,q8,q9⟩
    ·exact .inr ⟨T,f,oT,oth _ _ hS.1.symm q5,oth _ _ zS q6,q7,q8,q9⟩
  ·obtain⟨o,e,r⟩:=hl1;exact⟨o,oth _ _ hS.2.2.2.2.2.1.symm (hk' _ _ D.l1z D.l1TO D.l1i1 D.l1i2 e),r⟩
  ·obtain⟨o,e,r⟩:=hl2;exact⟨o,oth _ _ hS.2.2.2.2.2.2.symm (hk' _ _ D.l2z D.l2TO D.l2i1 D.l2i2 e),r⟩
  ·show lo<=(h'.update S _).objs.size;rw[usz];exact Nat.le_succ_of_le hlo'
  ·refine⟨List.pairwise_append.mpr ⟨hP.1,pairwise_singleton _ _,fun a ha b hb=>by rw[mem_singleton.mp hb];exact low a ha⟩,fun a ha=>?_,fun j a e=>?_⟩
   ·show lo<=a/\a<(h'.update S _).objs.size;rw[usz];rcases mem_append.mp ha with q | q
    ·exact⟨(hP.2.1 a q).1,Nat.lt_succ_of_lt (hP.2.1 a q).2⟩
    ·rw[mem_singleton.mp q];exact⟨hlo',Nat.lt_succ_self _⟩
   ·by_cases hj:j<as.length
    ·rw[List.getElem?_append_left hj]at e;obtain⟨x,y,p1,p2,p⟩:=hP.2.2 j a e;exact⟨x,y,p1,p2,keep a (List.mem_of_getElem? e) _ p⟩
    ·rw[List.getElem?_append_right (by omega)]at e;have hj':j=i:=by
      have:=(List.getElem?_eq_some_iff.mp e).1;simp at this;omega
     rw[hj',hla,Nat.sub_self]at e;have ea:s.heap.objs.size=a:=by simpa using e
     subst ea;subst hj';exact⟨_,_,ex,ey,oth _ _ nS hp⟩
  ·intro h'' as' c' a1 a2 a3 a4;exact hR h'' as' c' a1 a2 a3 fun b o b0 b1 b2 b3 b4 e=>a4 b o b0 b1 b2 b3 b4 (oth b o b0 (hk' b o b1 b2 b3 b4 e))
theorem XC{R:Result->Shared->Prop}{z TI TO i1 i2 l1 l2 S:Addr}{lo c₀:Nat}{xs ys:Array Value}(hh:A.in1.handled=none)(D:ZipApart z TI TO i1 i2 l1 l2)(hS:S≠z/\S≠TI/\S≠TO/\S≠i1/\S≠i2/\S≠l1/\S≠l2)(hlo:z<lo/\TO<lo/\i1<lo/\i2<lo/\S<lo)(hlen:xs.size=ys.size)(hn:xs.size<=sizeLine)(res:Value)
  (st:ZipSt s.heap z TI TO i1 i2 l1 l2 0) (hz:IsZip s.heap z TI TO .none) (hl1:s.heap.IsList l1 xs) (hl2:s.heap.IsList l2 ys) (hlo':lo<=s.heap.objs.size) (hSo:s.heap.get? S=some {cls:=.type "list",data:=.seq #[] c₀})
  (hR:∀h' as' c',h'.get? S=some {cls:=.type "list",dict:=none,data:=.seq (as'.map Value.ref).toArray c',slots:=#[]}->as'.length=xs.size->ZPs h' lo as' xs ys->
   (∀b o,b≠S->b≠z->b≠TO->b≠i1->b≠i2->s.heap.get? b=some o->h'.get? b=some o)->R (.ok (.ret res)) {s with heap:=h'}) :
  wpAny (model prog w) A.in1 (Builtin.List.listExtendWith (.ref S) (.ref z) res)
   (fun fin s'=>match fin with | .done f=>R (.ok f) s' | .again c'=>c'.quiet=true/\codeAny (model prog w) A c' R s') (fun e s'=>R (.error e) s') s:=by
 have hT:s.TypeIs (.ref z) "zip":=⟨_,hz,rfl⟩
 unfold Builtin.List.listExtendWith;refine wpAny_bind (wpAny_typeOf hT ?_);have h1:Builtin.List.listSameRef (.ref S) (.ref z)=false:=by simp[Builtin.List.listSameRef,hS.1]
 have h2:(Value.type "zip"== Value.type "list")=false:=by decide
 have h3:(Value.type "zip"== Value.type "tuple")=false:=by decide
 simp only[h1,h2,h3,Bool.or_false,Bool.false_eq_true,if_false];refine wpAny_bind (wpAny_pyIter_zip hz ?_);refine wpAny_bind (wpAny_holding ?_);unfold Builtin.List.listLengthHint;refine wpAny_bind (wpAny_specialOf hT XD ?_);show wpAny _ A.in1 (specialOf (Value.ref z) (Str.ofString "__length_hint__") >>= _) _ _ _;refine wpAny_bind (wpAny_specialOf hT xr ?_);refine wpAny_pure ?_;show wpAny _ A.in1 (rule "list.extend.makes-room" >>= fun _=>Builtin.List.listTouch (.ref S) >>= fun _=>
  again (.builtin "list.extend.loop" ⟨[.ref S,.ref z,res],[]⟩)) _ _ _
 refine wpAny_bind (wpAny_rule ?_);refine wpAny_bind ?_;show wpAny _ A.in1 (updateSeq S (·.push .none) >>= fun _=>updateSeq S (·.pop)) _ _ _;refine wpAny_bind (wpAny_updateSeq hSo rfl ?_);have hS₂:=Heap.get?_update_self (Obj.mapSeq (·.push Value.none)) hSo rfl;refine wpAny_updateSeq (hz:=by seq_fits) hS₂ rfl ?_;have hS₃:=Heap.get?_update_self (Obj.mapSeq (·.pop)) hS₂ rfl;have oth:∀b o,b≠S->s.heap.get? b=some o->((s.heap.update S (Obj.mapSeq (·.push Value.none))).update S (Obj.mapSeq (·.pop))).get? b=some o:=
  fun b o hb e=>(Heap.get?_update_other _ _ (Ne.symm hb)).trans ((Heap.get?_update_other _ _ (Ne.symm hb)).trans e)
 have usz:((s.heap.update S (Obj.mapSeq (·.push Value.none))).update S (Obj.mapSeq (·.pop))).objs.size=s.heap.objs.size:=by rw[(Heap.SameBut.update ..).1,(Heap.SameBut.update ..).1]
 obtain⟨q1,q2,q3,q4⟩:=st;obtain⟨o1,e1,r1⟩:=hl1;obtain⟨o2,e2,r2⟩:=hl2;have hTO:∃a b,IsPair s.heap TO a b:=by
  rcases q4 with⟨_,_,h⟩ | ⟨T,f,oT,h,_⟩
  ·exact h
  ·have:=hz.symm.trans h;have:=congrArg (fun o=>(o.map fun o:Obj=>o.data)) this;simp[rawInt]at this
 obtain⟨ta,tb,hTO⟩:=hTO;refine wpAny_pure ⟨plainId_quiet F.plain_extend_loop _,j30 hh D hS hlo hlen hn res xs.size 0 _ [] _ rfl (Nat.zero_le _)
  ⟨oth _ _ hS.2.1.symm q1,q2.at fun o e=>oth _ _ hS.2.2.2.1.symm e,q3.at fun o e=>oth _ _ hS.2.2.2.2.1.symm e,.inl ⟨rfl,oth _ _ hS.1.symm hz,ta,tb,oth _ _ hS.2.2.1.symm hTO⟩⟩
  ⟨o1,oth _ _ hS.2.2.2.2.2.1.symm e1,r1⟩ ⟨o2,oth _ _ hS.2.2.2.2.2.2.symm e2,r2⟩ (by show lo<=Array.size _;rw[usz];exact hlo') hS₃ rfl ⟨.nil,(fun a h=>nomatch h),fun j a h=>by simp at h⟩ fun h' as' c' a1 a2 a3 a4=>?_⟩
 exact hR h' as' c' a1 a2 a3 fun b o b0 b1 b2 b3 b4 e=>a4 b o b0 b1 b2 b3 b4 (oth b o b0 e)
theorem Kw{R:Result->Shared->Prop}{z TI TO i1 i2 l1 l2 S:Addr}{lo:Nat}{xs ys:Array Value}(hh:A.in1.handled=none)(D:ZipApart z TI TO i1 i2 l1 l2)(hS:S≠z/\S≠TI/\S≠TO/\S≠i1/\S≠i2/\S≠l1/\S≠l2)(hlo:z<lo/\TO<lo/\i1<lo/\i2<lo/\S<lo)(hlen:xs.size=ys.size)(hn:xs.size<=sizeLine)
  (st:ZipSt s.heap z TI TO i1 i2 l1 l2 0) (hz:IsZip s.heap z TI TO .none) (hl1:s.heap.IsList l1 xs) (hl2:s.heap.IsList l2 ys) (hlo':lo<=s.heap.objs.size) (hSo:s.heap.get? S=some {cls:=.type "list",data:=.seq #[]})
  (hTO:∃a b,IsPair s.heap TO a b)
  (hR:∀h' as' c',h'.get? S=some {cls:=.type "list",dict:=none,data:=.seq (as'.map Value.ref).toArray c',slots:=#[]}->as'.length=xs.size->ZPs h' lo as' xs ys->
   (∀b o,b≠S->b≠z->b≠TO->b≠i1->b≠i2->s.heap.get? b=some o->h'.get? b=some o)->R (.ok (.ret .none)) {s with heap:=h'}) :
  wpAny (model prog w) A.in1 (Builtin.«list.__init__» ⟨[.ref S,.ref z],[]⟩)
   (fun fin s'=>match fin with | .done f=>R (.ok f) s' | .again c'=>c'.quiet=true/\codeAny (model prog w) A c' R s') (fun e s'=>R (.error e) s') s:=by
 show wpAny _ A.in1 (do let old <-Builtin.List.listItems (.ref S);Builtin.List.listUpdate (.ref S) (fun _=>#[]);letGo old.toList.reverse;Builtin.List.listExtendWith (.ref S) (.ref z) .none) _ _ s;refine wpAny_bind ?_;unfold Builtin.List.listItems;refine wpAny_bind (wpAny_seqItems hSo rfl (wpAny_pure ?_));show wpAny _ A.in1 (updateSeq S (fun _=>#[]) >>= fun _=>letGo (#[]:Array Value).toList.reverse >>= fun _=>Builtin.List.listExtendWith (.ref S) (.ref z) .none) _ _ s;refine wpAny_bind (wpAny_updateSeq hSo rfl ?_);have hS₂:=Heap.get?_update_self (Obj.mapSeq (fun _=>(#[]:Array Value))) hSo rfl;have oth:∀b o,b≠S->s.heap.get? b=some o->(s.heap.update S (Obj.mapSeq (fun _=>(#[]:Array Value)))).get? b=some o:=
  fun b o hb e=>(Heap.get?_update_other _ _ (Ne.symm hb)).trans e
 have usz:(s.heap.update S (Obj.mapSeq (fun _=>(#[]:Array Value)))).objs.size=s.heap.objs.size:=(Heap.SameBut.update ..).1;obtain⟨q1,q2,q3,q4⟩:=st;obtain⟨o1,e1,r1⟩:=hl1;obtain⟨o2,e2,r2⟩:=hl2;obtain⟨ta,tb,hTO⟩:=hTO;refine wpAny_bind (wpAny_letGo ?_);refine XC hh D hS hlo hlen hn .none
  ⟨oth _ _ hS.2.1.symm q1,q2.at fun o e=>oth _ _ hS.2.2.2.1.symm e,q3.at fun o e=>oth _ _ hS.2.2.2.2.1.symm e,.inl ⟨rfl,oth _ _ hS.1.symm hz,ta,tb,oth _ _ hS.2.2.1.symm hTO⟩⟩
  (oth _ _ hS.1.symm hz) ⟨o1,oth _ _ hS.2.2.2.2.2.1.symm e1,r1⟩ ⟨o2,oth _ _ hS.2.2.2.2.2.2.symm e2,r2⟩ (by show lo<=Array.size _;rw[usz];exact hlo') hS₂ fun h' as' c' a1 a2 a3 a4=>?_
 exact hR h' as' c' a1 a2 a3 fun b o b0 b1 b2 b3 b4 e=>a4 b o b0 b1 b2 b3 b4 (oth b o b0 e)
theorem Kj{z TI TO i1 i2 l1 l2:Addr}{xs ys:Array Value}{Q:Value->Shared->Prop}(hh:A.handled=none)(D:ZipApart z TI TO i1 i2 l1 l2)(hlen:xs.size=ys.size)(hn:xs.size<=sizeLine)
  (hz:IsZip s.heap z TI TO .none) (hTI:IsPair s.heap TI (.ref i1) (.ref i2)) (hTO:∃a b,IsPair s.heap TO a b) (h1:s.heap.IsListIter i1 l1 0) (h2:s.heap.IsListIter i2 l2 0) (hl1:s.heap.IsList l1 xs) (hl2:s.heap.IsList l2 ys)
  (hQ:∀h' as' c',h'.get? s.heap.objs.size=some {cls:=.type "list",dict:=none,data:=.seq (as'.map Value.ref).toArray c',slots:=#[]}->as'.length=xs.size->ZPs h' (s.heap.objs.size+1) as' xs ys->
   (∀b o,b≠z->b≠TO->b≠i1->b≠i2->s.heap.get? b=some o->h'.get? b=some o)->Q (.ref s.heap.objs.size) {s with heap:=h'}) :
  wpAny (model prog w) A (call (.type "list") [.ref z]) Q E s:=by
 have lz:=Heap.lt_size hz;have lTI:=Heap.lt_size hTI;obtain⟨ta,tb,hTO⟩:=hTO;have lTO:=Heap.lt_size hTO;have li1:i1<s.heap.objs.size:=by obtain⟨o,e,_⟩:=id h1;exact Heap.lt_size e
 have li2:i2<s.heap.objs.size:=by obtain⟨o,e,_⟩:=id h2;exact Heap.lt_size e
 have ll1:l1<s.heap.objs.size:=by obtain⟨o,e,_⟩:=id hl1;exact Heap.lt_size e
 have ll2:l2<s.heap.objs.size:=by obtain⟨o,e,_⟩:=id hl2;exact Heap.lt_size e
 refine callType_codes (Q₁:=fun obj s₁=>obj = .ref s.heap.objs.size/\s₁={s with heap:=s.heap.push {cls:=.type "list",data:=.seq #[]}}) F.called_list (F.typeCall_list_1 _) F.entry_list_init
  (code_list_new _ ⟨rfl,rfl⟩) fun obj s₁ h₁=>?_
 obtain⟨rfl,rfl⟩:=h₁;have hS:(s.heap.push {cls:=.type "list",data:=.seq #[]}).get? s.heap.objs.size=some {cls:=.type "list",data:=.seq #[]}:=Heap.get?_push_size _ rfl;refine⟨⟨_,hS,rfl⟩,F.args_list_init_2 _ _,Kw (lo:=s.heap.objs.size+1) (by simp[hh]) D ⟨Nat.ne_of_gt lz,Nat.ne_of_gt lTI,Nat.ne_of_gt lTO,Nat.ne_of_gt li1,Nat.ne_of_gt li2,Nat.ne_of_gt ll1,Nat.ne_of_gt ll2⟩ ⟨Nat.lt_succ_of_lt lz,Nat.lt_succ_of_lt lTO,Nat.lt_succ_of_lt li1,Nat.lt_succ_of_lt li2,Nat.lt_succ_self _⟩ hlen hn
  ⟨Heap.get?_push_of_some _ hTI,h1.at fun o e=>Heap.get?_push_of_some _ e,h2.at fun o e=>Heap.get?_push_of_some _ e,.inl ⟨rfl,Heap.get?_push_of_some _ hz,ta,tb,Heap.get?_push_of_some _ hTO⟩⟩ (Heap.get?_push_of_some _ hz) (hl1.push _) (hl2.push _) (by rw[Heap.size_push];exact Nat.le_refl _) hS ⟨ta,tb,Heap.get?_push_of_some _ hTO⟩ fun h' as' c' a1 a2 a3 a4=>?_⟩
 exact⟨rfl,hQ h' as' c' a1 a2 a3 fun b o b1 b2 b3 b4 e=>a4 b o (Nat.ne_of_lt (Heap.lt_size e)) b1 b2 b3 b4 (Heap.get?_push_of_some _ e)⟩
end
def tLZ(K:Frg)(ta:TA):TE:=fun σ H Q=>ta σ H fun vs H1=>∃a b xs ys,vs=[.ref a,.ref b]/\SqL K H1 a xs/\SqL K H1 b ys/\xs.length=ys.length/\∀(l:Addr) (as:List Addr) (H':Hp),Same H1 H'->H1 l=none->H' l=some (.lst (as.map V.ref))->as.length=xs.length->
 (∀(i:Nat) (c:Addr) (x y:V),as[i]?=some c->xs[i]?=some x->ys[i]?=some y->H' c=some (.tup [x,y]))->Q (.ref l) H'
theorem rd_lz{K:Frg}{ta:TA}{σ:St}{H:Hp}{Q:VK} (h:ta σ H fun vs H1=>∃a b xs ys,vs=[.ref a,.ref b]/\SqL K H1 a xs/\SqL K H1 b ys/\xs.length=ys.length/\∀(l:Addr) (as:List Addr) (H':Hp),Same H1 H'->H1 l=none->H' l=some (.lst (as.map V.ref))->as.length=xs.length->
 (∀(i:Nat) (c:Addr) (x y:V),as[i]?=some c->xs[i]?=some x->ys[i]?=some y->H' c=some (.tup [x,y]))->Q (.ref l) H'):tLZ K ta σ H Q:=h
theorem Xn{X:Cx}{a b:Expr}{ta:TA}{p p' pos pos':Pos}(hc:X.calm=true)(hgl:Gl X "list")(hml:X.mg "list"= none)(hgz:Gl X "zip")(hmz:X.mg "zip"= none)(ha:PA X [a,b] ta)
  (hs0:starEach [.Call (.Name "zip" p') [a,b] [] pos'] X.env=[(false,eval (.Call (.Name "zip" p') [a,b] [] pos') X.env)]:=by rfl)
  (hs:starEach [a,b] X.env=[(false,eval a X.env),(false,eval b X.env)]:=by rfl) (hs2:starEach [b] X.env=[(false,eval b X.env)]:=by rfl) :
  PE X (.Call (.Name "list" p) [.Call (.Name "zip" p') [a,b] [] pos'] [] pos) (tLZ X.K ta):=by
 intro pins s σ H Q I h;refine wpAny_Call_Name_kw (qp I hgl hml ZJ ?_);refine PyProof.Rows.callWith_type1 ?_ hs0 rfl;rw[hs0];refine Calls.spliced_cons ?_;refine Call_ (qp I hgz hmz xE (PyProof.Rows.callWith_type1 (thn (ha pos' pins s σ H _ I h) fun us s1 ⟨vs,H1,I1,r1,q1⟩=>?_) (by rw[hs,hs2]) (by rw[hs2];rfl)));obtain⟨l1,l2,xs,ys,rfl,hq,hr,hlen,q⟩:=q1;cases r1 with
 | cons r rr=>
  cases rr with
  | cons r' rr=>
   cases rr;cases r;cases r';obtain⟨its,rv,pl1,hz1⟩:=I1.list hq;obtain⟨jts,rw',pl2,hz2⟩:=I1.list hr;have lx:=rv.length;have ly:=rw'.length;refine call_zip_2 pl1.isList pl2.isList fun h' a1 a2 a3 a4 a5 a6 hk=>?_
   refine Calls.spliced_nil ?_;have ll1:l1<s1.heap.objs.size:=by obtain⟨o,e,_⟩:=id pl1.isList;exact Heap.lt_size e
   have ll2:l2<s1.heap.objs.size:=by obtain⟨o,e,_⟩:=id pl2.isList;exact Heap.lt_size e
   have up:∀{l k:Nat},l<s1.heap.objs.size->l≠s1.heap.objs.size+k:=fun h=>Nat.ne_of_lt (Nat.lt_of_lt_of_le h (Nat.le_add_right _ _))
   refine Kj (s:={s1 with heap:=h'}) (xs:=its.toArray) (ys:=jts.toArray) (I1.ok.hd hc)
    ⟨jT (by decide),jT (by decide),jT (i:=0) (by decide),jT (by decide),jT (by decide),jT (j:=0) (by decide),jT (by decide),jT (j:=0) (by decide),jT (by decide),jT (i:=0) (by decide),up ll1,up ll1,up (k:=0) ll1,up ll1,up ll2,up ll2,up (k:=0) ll2,up ll2⟩
    (by rw[size_toArray,size_toArray];omega) (by rw[size_toArray];omega) a1 a2 ⟨_,_,a3⟩ a4 a5 ?_ ?_ fun h2 as c o2 la zp k2=>?_
   ·obtain⟨o,e,r⟩:=pl1.isList;exact⟨o,hk _ _ e,r⟩
   ·obtain⟨o,e,r⟩:=pl2.isList;exact⟨o,hk _ _ e,r⟩
   have a6:h'.objs.size=s1.heap.objs.size+5:=a6;have o2:h2.get? h'.objs.size=_:=o2;have zp:ZPs h2 (h'.objs.size+1) as its.toArray jts.toArray:=zp;rw[a6]at o2 zp;show EP X pins σ Q (.ref h'.objs.size) _;rw[a6];have la':as.length=its.length:=by rw[size_toArray]at la;exact la
   have k3:∀b o,s1.heap.get? b=some o->h2.get? b=some o:=fun b o e=>k2 b o (up (Heap.lt_size e)) (up (Heap.lt_size e)) (up (k:=0) (Heap.lt_size e)) (up (Heap.lt_size e)) (hk b o e)
   have I2:Inv X pins σ H1 {s1 with heap:=h2}:=I1.kept (t':=s1.toks) k3;have lo:∀c∈as,s1.heap.objs.size<=c:=fun c hc=>Nat.le_trans (Nat.le_add_right _ 6) (zp.2.1 c hc).1
   have ws:∀q∈((s1.heap.objs.size+5,HO.lst (as.map V.ref))::(List.range as.length).map fun i=>(as.getD i 0,HO.tup [xs.getD i .non,ys.getD i .non])),H1 q.1=none/\NewA X pins q.1/\∀H',ObjOk X.prog X.w H' h2 q.1 q.2:=fun q hq=>by
    rcases mem_cons.mp hq with rfl | hq
    ·exact⟨I1.hok.fresh (Nat.le_add_right _ _),I1.newA (Nat.le_add_right _ _),fun H'=>⟨by rw[length_map];omega,as.map Value.ref,c,valsR as,o2⟩⟩
    ·obtain⟨i,hi,rfl⟩:=mem_map.mp hq;have hi:=mem_range.mp hi;have ea:as[i]?=some (as.getD i 0):=by rw[getD_eq_getElem?_getD,List.getElem?_eq_getElem hi];rfl
     have lc:=lo _ (List.mem_of_getElem? ea);obtain⟨u,v,e1,e2,pr⟩:=zp.2.2 i _ ea;have ex:xs[i]?=some (xs.getD i .non):=by rw[getD_eq_getElem?_getD,List.getElem?_eq_getElem (by omega)];rfl
     have ey:ys[i]?=some (ys.getD i .non):=by rw[getD_eq_getElem?_getD,List.getElem?_eq_getElem (by omega)];rfl
     obtain⟨u',eu,ru⟩:=rv.get ex;obtain⟨v',ev,rv'⟩:=rw'.get ey;have:u=u':=by have:=e1.symm.trans (show its.toArray[i]?=some u' by simpa using eu);exact Option.some.inj this
     subst this;have:v=v':=by have:=e2.symm.trans (show jts.toArray[i]?=some v' by simpa using ev);exact Option.some.inj this
     subst this;exact⟨I1.hok.fresh lc,I1.newA lc,fun H'=>⟨(by show 2<=sizeLine;decide),[u,v],.cons ru (.cons rv' .nil),⟨_,pr,rfl,_,rfl⟩⟩⟩
   have nd:(((s1.heap.objs.size+5,HO.lst (as.map V.ref))::(List.range as.length).map fun i=>(as.getD i 0,HO.tup [xs.getD i .non,ys.getD i .non])).map (·.1)).Nodup:=by
    rw[map_cons,nodup_cons,map_map];have e2:(List.range as.length).map ((fun x=>x.1)∘fun i=>(as.getD i 0,HO.tup [xs.getD i .non,ys.getD i .non]))=as:=ext_getElem (by simp) fun i h1 h2=>by
     rw[getElem_map,getElem_range];show as.getD i 0=_;rw[getD_eq_getElem?_getD,List.getElem?_eq_getElem h2];rfl
    rw[e2];exact⟨fun h=>absurd (zp.2.1 _ h).1 (Nat.not_succ_le_self _),zp.1.imp fun h=>Nat.ne_of_lt h⟩
   obtain⟨H',I3,s3,k4⟩:=Inv.trackAll _ I2 ws nd;refine⟨.ref (s1.heap.objs.size+5),H',I3,rfl,q _ as H' s3 (I1.hok.fresh (Nat.le_add_right _ _)) (k4 _ mem_cons_self) (by omega) fun i c x y e1 e2 e3=>?_⟩;have hi:=(List.getElem?_eq_some_iff.mp e1).1;have:=k4 (as.getD i 0,HO.tup [xs.getD i .non,ys.getD i .non]) (mem_cons_of_mem _ (mem_map.mpr ⟨i,mem_range.mpr hi,rfl⟩));rw[getD_eq_getElem?_getD,getD_eq_getElem?_getD,getD_eq_getElem?_getD,e1,e2,e3]at this;exact this
def Itd(lo:Int)(n:Nat):It:=⟨fun i _=>i<n,fun i H x H'=>H'=H/\x = .int (lo-i),fun i _=>n<=i⟩
theorem xo{P:Program}{w:World}{K:Frg}{tg:Expr}(it:Addr)(lo:Int)(n:Nat):Turn P w K tg (Itd lo n) [it] it (fun i h=>IsRangeIter h it (lo+(i:Nat)*(-1)) ((n:Int)-(i:Nat)) (-1)) where
 mem:=by simp
 obj:=fun i h st b hb=>by
  have e:b=it:=by simpa using hb
  subst e;exact⟨_,st,fun v z=>by
   have z':Data.fields _=Data.cell v:=z;cases z'⟩
 keep:=fun i h h' st k=>k it (by simp) _ st
 item:=by
  intro X hP hw hK hc i pins s σ H E I hf st hg;subst hP hw hK;obtain⟨f0,f1,f2,f3,f4,f5⟩:=hf it (by simp);have W:=Walks.range (prog:=X.prog) (w:=X.w) (I.ok.hd hc) it lo (-1) n;refine W.item i s _ _ hg st fun v h' tk hv st' kk=>?_
  obtain⟨t,rfl⟩:=hv;have I1:Inv X pins σ H {s with heap:=h',toks:=tk}:=I.turned (fun b o hb e=>kk b o (by simpa using hb) e) f0 f1 f3 f4 f5;refine⟨_,rfl,WN (s:={s with heap:=h',toks:=tk}) (n:="range_iterator") st' rfl rfl (by decide) ⟨.int (lo-i),H,I1,⟨t,?_⟩,⟨rfl,rfl⟩,st',fun b hb=>(hf b hb).1⟩⟩;rw[show lo+(i:Int)*(-1)=lo-i by omega]
 done:=by
  intro X hP hw hK hc i pins s σ H E I hf st hg;subst hP hw hK;obtain⟨f0,f1,f2,f3,f4,f5⟩:=hf it (by simp);exact wpAny_pyNext_range_end (I.ok.hd hc) st (by have:n<=i:=hg;omega) fun h' eb=>⟨rfl,I.turned (t':=s.toks) (fun b o hb e=>eb b o hb e) f0 f1 f3 f4 f5⟩
 self:=fun _ _ _ _ _ st h=>wpAny_pyIter_rangeiter st h
section
variable{X:Cx}{tg:Expr}
theorem Z3(a b:Int):Builtin.Range.rangeSize a b (-1)=if b<a then a-b else 0:=by
 unfold Builtin.Range.rangeSize;simp only[show¬((-1:Int)>0) by decide,if_false,show(- -1:Int)=1 by decide,Int.ediv_one];split<;>omega
theorem j1m{a b:Int}(h1 : -(2^61)<=a)(h2:a<2^61)(h3 : -(2^61)<=b)(h4:b<2^61):Builtin.Range.small a b (-1)=true:=by
 have f:∀x:Int,-(2^62)<=x->x<2^62->Builtin.Range.rangeFitsLong x=true:=fun x h1 h2=>by
  unfold Builtin.Range.rangeFitsLong;simp;omega
 unfold Builtin.Range.small;rw[Z3];have g : -(2^62)<=(if b<a then a-b else 0)/\(if b<a then a-b else 0)<2^62:=by split<;>omega
 rw[f a (by omega) (by omega),f b (by omega) (by omega),f (-1) (by decide) (by decide),f _ g.1 g.2,if_neg (show¬((-1:Int)>0) by decide),f (b+(-1+1)) (by omega) (by omega)];simp
theorem j1h{pins:List (Addr×Obj)}{σ:St}{H:Hp}{s:Shared}{R:It->Hp->Prop}{E:Value->Shared->Prop}{lo hi:Int}{t u v:Tok}{tk:Nat}(I:Inv X pins σ H s)(h1 : -(2^61)<=lo)(h2:lo<2^61)(h3 : -(2^61)<=hi)(h4:hi<2^61)
  (q:R (Itd lo (lo-hi).toNat) H):wpAny (model X.prog X.w) X.A (pyIter (.ref s.heap.objs.size)) (PIE X pins σ tg R) E {s with heap:=s.heap.push {cls:=.type "range",data:=.fields #[.int lo t,.int hi u,.int (-1) v]},toks:=tk}:=by
 refine wpAny_pyIter_range (IsRange.new ..) (j1m h1 h2 h3 h4) ?_;have I1:Inv X pins σ H {s with heap:=s.heap.push {cls:=.type "range",data:=.fields #[.int lo t,.int hi u,.int (-1) v]},toks:=tk}:=I.kept fun b o e=>Heap.get?_push_of_some _ e
 refine⟨(s.heap.push {cls:=.type "range",data:=.fields #[.int lo t,.int hi u,.int (-1) v]}).objs.size,[(s.heap.push {cls:=.type "range",data:=.fields #[.int lo t,.int hi u,.int (-1) v]}).objs.size],_,_,H,rfl,
  I1.kept (t':=tk) fun b o e=>Heap.get?_push_of_some _ e,xo _ lo (lo-hi).toNat,?_,fun b hb=>?_,q⟩
 ·have e1:lo+((0:Nat):Int)*(-1)=lo:=by simp
  have e2:(((lo-hi).toNat:Nat):Int)-((0:Nat):Int)=Builtin.Range.rangeSize lo hi (-1):=by rw[Z3];split<;>omega
  show IsRangeIter _ _ (lo+((0:Nat):Int)*(-1)) ((((lo-hi).toNat:Nat):Int)-((0:Nat):Int)) (-1);rw[e1,e2];exact Heap.get?_push_size _ rfl
 ·have e:b=(s.heap.push {cls:=.type "range",data:=.fields #[.int lo t,.int hi u,.int (-1) v]}).objs.size:=by simpa using hb
  subst e;exact I1.fpOk (Nat.le_refl _) (I1.hok.fresh (Nat.le_refl _))
def iRngD(ta:TA):TI:=fun σ H R=>ta σ H fun vs H1=>∃i j:Int,vs=[.int i,.int j,.int (-1)]/\(-(2^61)<=i/\i<2^61/\-(2^61)<=j/\j<2^61)/\R (Itd i (i-j).toNat) H1
theorem j1a{a b c:Expr}{ta:TA}{p pos:Pos}(hg:Gl X "range")(hm:X.mg "range"= none)(ha:PA X [a,b,c] ta)(hs:starEach [a,b,c] X.env=(false,eval a X.env)::starEach [b,c] X.env:=by rfl)(hs2:(backTo pos (starEach [b,c] X.env)).any (·.1)=false:=by rfl) :
  PI X tg (.Call (.Name "range" p) [a,b,c] [] pos) (iRngD ta):=by
 intro pins s σ H R I h;refine Call_ (qp I hg hm boot_range (PyProof.Rows.callWith_type1 (thn (ha pos pins s σ H _ I h) fun us s1 ⟨vs,H1,I1,r1,q1⟩=>?_) hs hs2));obtain⟨i,j,e,⟨q1,q2,q3,q4⟩,q⟩:=q1;subst e;cases r1 with
 | cons r rr=>
  cases rr with
  | cons r' rr=>
   cases rr with
   | cons r'' rr=>
    cases rr;obtain⟨t,rfl⟩:=r;obtain⟨t',rfl⟩:=r';obtain⟨t'',rfl⟩:=r'';exact call_range_3 (by decide) (j1h I1 q1 q2 q3 q4 q) (.inl (PyProof.noPylong_small (by omega)))
end
theorem rd_rngD{ta:TA}{σ:St}{H:Hp}{R:It->Hp->Prop}(h:ta σ H fun vs H1=>∃i j:Int,vs=[.int i,.int j,.int (-1)]/\(-(2^61)<=i/\i<2^61/\-(2^61)<=j/\j<2^61)/\R (Itd i (i-j).toNat) H1):iRngD ta σ H R:=h
theorem j1U{lo:Int}{n:Nat}{g:TG}{tb:TS}{D:Ends}{σ:St}{H:Hp}(Pv:Nat->St->Hp->Prop)(h0:Pv 0 σ H)(hs:∀i σ H,i<n->Pv i σ H->g (.int (lo-i)) σ H fun σ2 H2=>tb {D with nx:=Pv (i+1),ct:=Pv (i+1),bk:=D.nx} σ2 H2)(hd:∀σ H,Pv n σ H->D.nx σ H) :
  ∃W:Nat->Nat->St->Hp->Prop,(∃m,W 0 m σ H)/\∀i m σ H,W i m σ H->
   ((Itd lo n).stop i H/\D.nx σ H)\/((Itd lo n).go i H/\∃N:St->Hp->Prop,(∀σ' H',N σ' H'->∃m',m'<m/\W (i+1) m' σ' H')/\∀x H',(Itd lo n).yld i H x H'->g x σ H' fun σ2 H2=>tb {D with nx:=N,ct:=N,bk:=D.nx} σ2 H2):=by
 refine⟨fun i m σ H=>m=n-i/\i<=n/\Pv i σ H,⟨n,by simp,Nat.zero_le _,h0⟩,?_⟩;rintro i m σ H ⟨rfl,hi,p⟩;by_cases hlt:i<n
 ·refine .inr ⟨hlt,Pv (i+1),fun σ' H' p'=>⟨n-(i+1),by omega,rfl,hlt,p'⟩,fun x H' y=>?_⟩;obtain⟨e,y⟩:=y;subst e y;exact hs i σ _ hlt p
 ·have e:i=n:=by omega
  subst e;exact .inl ⟨Nat.le_refl _,hd σ H p⟩
section
variable{X:Cx}
end
section
variable{prog:Program}{w:World}{A:Around}{E:Value->Shared->Prop}{s:Shared}
end
section
variable{X:Cx}{pos:Pos}
end
end L2
namespace Sp
open PySem PySem.Builtin.Str PySem.StrLaws
noncomputable def pos(c:Nat):Nat->List Nat->List Nat
 | _,[]=>[]
 | k,a::r=>if a=c then k::pos c (k+1) r else pos c (k+1) r
theorem Wd{c:Nat}:∀{k:Nat} {w r:List Nat},c∉w->pos c k (w++r)=pos c (k+w.length) r
 | k,[],r,_=>rfl
 | k,a::w,r,h=>by
  have ne:¬a=c:=fun e=>h (by rw[e];exact mem_cons_self)
  rw[cons_append,pos,if_neg ne,Wd fun e=>h (mem_cons_of_mem _ e),length_cons];congr 1;omega
theorem We{c k:Nat}{r:List Nat}:pos c k (c::r)=k::pos c (k+1) r:=by rw[pos,if_pos rfl]
theorem j0q{x:Str}{c i:Nat}:subAt x ⟨#[c]⟩ i=true↔x.cps.toList[i]?=some c:=by
 unfold subAt;rw[beq_iff_eq];show x.cps.extract i (i+1) = #[c]↔_;constructor
 ·intro h;have h1:(x.cps.extract i (i+1))[0]?=some c:=by rw[h];rfl
  rw[Array.getElem?_extract]at h1;split at h1
  ·rw[Array.getElem?_toList];simpa using h1
  ·cases h1
 ·intro h;rw[Array.getElem?_toList]at h;have hi:i<x.cps.size:=(Array.getElem?_eq_some_iff.mp h).1;apply Array.ext
  ·simp;omega
  ·intro j h1 h2;have:j=0:=by simp at h2;omega
   subst this;have e:=(Array.getElem?_eq_some_iff.mp h).2;simp[e]
theorem kG{x:Str}{c:Nat}:∀(l:List Nat) (k:Nat) (st:Array Nat×Nat),x.cps.toList.drop k=l->k+l.length=x.length->st.1.size<=k->st.2<=k->
  (forIn (List.range' k (l.length+1)) st (occBody x ⟨#[c]⟩ x.length (x.length+1))).run.1.toList=st.1.toList++pos c k l
 | [],k,st,_,hk,h1,h2=>by
  rw[show List.range' k (([]:List Nat).length+1)=[k]from rfl,forIn_cons];unfold occBody;rw[if_neg (fun h=>by have:k+1<=x.length:=h.1.2;have:k+0=x.length:=hk;omega)];rw[pos,append_nil];rfl
 | a::l,k,st,hd,hk,h1,h2=>by
  rw[length_cons]at hk;have ha:x.cps.toList[k]?=some a:=by
   have:=congrArg (fun l=>l[0]?) hd;simpa using this
  have hd':x.cps.toList.drop (k+1)=l:=by
   rw[<-List.drop_drop,hd];rfl
  rw[show List.range' k ((a::l).length+1)=k::List.range' (k+1) (l.length+1)from rfl,forIn_cons];by_cases e:a=c
  ·subst e;unfold occBody;rw[if_pos ⟨⟨⟨by show st.1.size<x.length+1;omega,h2⟩,by show k+1<=x.length;omega⟩,j0q.mpr ha⟩,We];have:=kG (c:=a) l (k+1) (st.1.push k,k+1) hd' (by omega) (by rw[Array.size_push];omega) (Nat.le_refl _);rw[show st.1.toList++k::pos a (k+1) l=(st.1.push k).toList++pos a (k+1) l by simp,<-this];rfl
  ·unfold occBody;rw[if_neg (fun h=>e (Option.some.inj (ha.symm.trans (j0q.mp h.2)))),pos,if_neg e];exact kG l (k+1) st hd' (by omega) (by omega) (by omega)
theorem j0c(x:Str)(c:Nat):occurrences x ⟨#[c]⟩ 0 x.length (x.length+1)=pos c 0 x.cps.toList:=by
 rw[occ_eq];have:=kG (x:=x) (c:=c) x.cps.toList 0 (#[],0) rfl (by rw[Nat.zero_add];rfl) (Nat.le_refl _) (Nat.le_refl _);rw[show x.length+1-0=x.cps.toList.length+1 from rfl];simpa using this
noncomputable def glue(c:Nat):List (List Nat)->List Nat
 | []=>[]
 | [w]=>w
 | w::v::r=>w++c::glue c (v::r)
noncomputable def cutAll(x:Str)(st:Nat)(cuts:List Nat):List Str:=((st::cuts.map (· + 1)).zip (cuts++[x.length])).map fun(i,j)=>strSub x i j
theorem j1K{x:Str}{st k:Nat}{cuts:List Nat}:cutAll x st (k::cuts)=strSub x st k::cutAll x (k+1) cuts:=rfl
theorem j0p{x:Str}{p w r:List Nat}(h:x.cps.toList=p++(w++r)):strSub x p.length (p.length+w.length)=⟨w.toArray⟩:=by
 unfold strSub;congr 1;apply Array.toList_inj.mp;rw[Array.toList_extract,h];simp[List.extract]
theorem XQ{x:Str}{c:Nat}:∀(ws:List (List Nat)) (p:List Nat),ws≠[]->(∀w∈ws,c∉w)->x.cps.toList=p++glue c ws->cutAll x p.length (pos c p.length (glue c ws))=ws.map fun w=>⟨w.toArray⟩
 | [],_,h,_,_=>absurd rfl h
 | [w],p,_,hw,hx=>by
  have e:pos c p.length (glue c [w])=[]:=by
   have:=Wd (k:=p.length) (r:=[]) (hw w mem_cons_self);rw[append_nil]at this;exact this
  rw[e];have hx':x.cps.toList=p++(w++[]):=by rw[hx,append_nil];rfl
  have hl:x.length=p.length+w.length:=by
   have:=congrArg List.length hx;rw[List.length_append]at this;exact this
  show[strSub x p.length x.length]=_;rw[hl,j0p hx'];rfl
 | w::v::r,p,_,hw,hx=>by
  have e:pos c p.length (glue c (w::v::r))=(p.length+w.length)::pos c (p.length+w.length+1) (glue c (v::r)):=by
   show pos c p.length (w++c::glue c (v::r))=_;rw[Wd (hw w mem_cons_self),We]
  have hx':x.cps.toList=p++(w++c::glue c (v::r)):=hx;have ih:=XQ (x:=x) (c:=c) (v::r) (p++(w++[c])) (by simp) (fun y hy=>hw y (mem_cons_of_mem _ hy)) (by rw[hx'];simp);rw[show(p++(w++[c])).length=p.length+w.length+1 by simp;omega]at ih;rw[e,j1K,j0p hx',ih];rfl
theorem j2O{x:Str}{c:Nat}{ws:List (List Nat)}(h:ws≠[])(hw:∀w∈ws,c∉w)(hx:x.cps.toList=glue c ws):partsBetween x (occurrences x ⟨#[c]⟩ 0 x.length (x.length+1)) 1=ws.map fun w=>⟨w.toArray⟩:=by
 rw[j0c,hx];exact XQ ws [] h hw hx
end Sp
namespace L2
open PySem PySem.Spec PyProof.Rows
section
variable{X:Cx}
theorem wb:∀(ws:List Str) (k:Nat),Vals (ws.map V.str) (strsFrom k ws)
 | [],_=>.nil
 | x::r,k=>.cons ⟨k,rfl⟩ (wb r (k+1))
theorem kE:MtR X "str.split" (fun x vs H Q=>∃(z:Str) (c:Nat) (v w:List Nat) (ws:List (List Nat)),x = .str z/\vs=[.str ⟨#[c]⟩]/\c<256/\(∀u∈v::w::ws,c∉u)/\z.cps.toList=Sp.glue c (v::w::ws)/\ws.length+2<=sizeLine/\z.length<=sizeLine/\
  ∀p,H p=none->Q (.ref p) (upd H p (.lst (((v::w::ws).map fun u=>(⟨u.toArray⟩:Str)).map V.str)))):=by
 intro pins s σ H x vs val us Q I rx rv h;obtain⟨z,c,v,w,ws,rfl,rfl,hc,hw,hz,hl,hx,q⟩:=h;obtain⟨t,rfl⟩:=rx;obtain⟨u,rfl,t',rfl⟩:=vals1 rv;have sp:=Sp.j2O (x:=z) (c:=c) (ws:=v::w::ws) (by simp) hw hz;have z1:1<=z.length:=by
  have:z.length=(Sp.glue c (v::w::ws)).length:=by rw[<-hz];rfl
  rw[this];show 1<=(v++c::Sp.glue c (w::ws)).length;rw[List.length_append,length_cons];omega
 have k1:Builtin.Str.strKind ⟨#[c]⟩=1:=by
  unfold Builtin.Str.strKind;rw[if_pos (by simpa using hc)]
 have k2:1<=Builtin.Str.strKind z:=by
  unfold Builtin.Str.strKind;split
  ·exact Nat.le_refl _
  ·split<;>decide
 have h1:(decide (z.length<(⟨#[c]⟩:Str).length)||decide (Builtin.Str.strKind z<Builtin.Str.strKind ⟨#[c]⟩))=false:=by
  rw[k1];show(decide (z.length<1)||decide (Builtin.Str.strKind z<1))=false;rw[decide_eq_false (show¬z.length<1 by omega),decide_eq_false (show¬Builtin.Str.strKind z<1 by omega)];rfl
 have hf:(Builtin.Str.occurrences z ⟨#[c]⟩ 0 z.length (z.length+1)).isEmpty=false:=by
  rw[Sp.j0c,hz];show(Sp.pos c 0 (v++c::Sp.glue c (w::ws))).isEmpty=false;rw[Sp.Wd (hw v mem_cons_self),Sp.We];rfl
 have hn:(Builtin.Str.partsBetween z (Builtin.Str.occurrences z ⟨#[c]⟩ 0 z.length (z.length+1)) (⟨#[c]⟩:Str).length).length<=sizeLine:=by
  show(Builtin.Str.partsBetween z _ 1).length<=_;rw[sp,length_map];exact hl
 refine call_meets F.slot_str_split (typeIs_str _ _ _) F.entry_str_split (F.args_str_split_2 _ _) (meets_str_split_sep z ⟨#[c]⟩ t t' h1 rfl hf hx hn) ?_;rw[show(⟨#[c]⟩:Str).length=1 from rfl,sp];refine⟨.ref s.heap.objs.size,_,I.laid (o:=.lst (((v::w::ws).map fun u=>(⟨u.toArray⟩:Str)).map V.str)) (fun b ob e=>Heap.get?_push_of_some _ e) (Nat.le_refl _) ?_,rfl,q _ (I.hok.fresh (Nat.le_refl _))⟩;exact⟨by rw[length_map,length_map];exact hl,_,0,wb _ _,Heap.get?_push_size _ rfl⟩
end
noncomputable def ev{α:Type}:List α->List α
 | []=>[]
 | [a]=>[a]
 | a::_::r=>a::ev r
theorem X3{α:Type}:∀l:List α,(List.range ((l.length+1)/2)).filterMap (fun j=>l[2*j]?)=ev l
 | []=>by simp[ev]
 | [a]=>by simp[ev,range_succ]
 | a::b::r=>by
  rw[show((a::b::r).length+1)/2=(r.length+1)/2+1 by rw[length_cons,length_cons];omega,List.range_succ_eq_map,filterMap_cons];show a::_=_;rw[List.filterMap_map];show a::List.filterMap (fun j=>(a::b::r)[2*(j+1)]?) _=a::ev r;rw[<-X3 r];rfl
theorem j1S{α:Type}:∀l:List α,(ev l).length<=l.length
 | []=>Nat.le_refl _
 | [a]=>Nat.le_refl _
 | a::b::r=>by
  have:=j1S r;show(ev r).length+1<=r.length+1+1;omega
theorem j0v:∀{xs:List V} {us:List Value},Vals xs us->Vals (ev xs) (ev us)
 | _,_,.nil=>.nil
 | _,_,.cons r .nil=>.cons r .nil
 | _,_,.cons r (.cons _ t)=>.cons r (j0v t)
theorem j2x(items:Array Value)(k:Nat)(hk:k<=items.size):slicePick items (some (k:Int)) none (some 2)=(ev (items.toList.drop k)).toArray:=by
 unfold slicePick;have b:sliceBounds (some (k:Int)) none (some 2) items.size=((k:Int),(items.size:Int),2):=by
  unfold sliceBounds;simp only[Option.getD_some];rw[if_neg (show¬((k:Int)<0) by omega),if_pos (show(2:Int)>0 by decide),if_pos (show(2:Int)>0 by decide)];congr 1;omega
 rw[b];show((sliceRange (k:Int) (items.size:Int) 2).filterMap (items[·]?)).toArray=_;congr 1;rw[<-X3];unfold sliceRange;have c:((if(2:Int)>0 then(if(k:Int)<(items.size:Int)then((items.size:Int)-k+2-1)/2 else 0)else(if(k:Int)>(items.size:Int)then((k:Int)-items.size-2-1)/(-2)else 0):Int)).toNat=((items.toList.drop k).length+1)/2:=by
  rw[if_pos (by decide),length_drop,Array.length_toList];split<;>omega
 show(List.map _ (List.range (Int.toNat _))).filterMap _=_;rw[c,List.filterMap_map];congr 1;funext j;show items[((k:Int)+2*(j:Int)).toNat]?=_;rw[List.getElem?_drop,Array.getElem?_toList,show((k:Int)+2*(j:Int)).toNat=k+2*j by omega]
section
variable{X:Cx}{e:Expr}{te:TE}
def tStep(K:Frg)(te:TE)(tl ts:TO):TE:=fun σ H Q=>te σ H fun x H1=>tl σ H1 fun lo H2=>ts σ H2 fun st H3=>st=some 2/\∃(a:Addr) (xs:List V) (k:Nat),lo=some (k:Int)/\k<=xs.length/\x = .ref a/\SqL K H3 a xs/\∀p,H3 p=none->Q (.ref p) (upd H3 p (.lst (ev (xs.drop k))))
theorem j0f{lo st:Expr}{tl ts:TO}{p2 pos:Pos}(he:PE X e te)(hl:PO X (some lo) tl)(hs:PO X (some st) ts):PE X (.Subscript e (.Slice (some lo) none (some st) p2) pos) (tStep X.K te tl ts):=by
 intro pins s σ H Q I h;refine Subscript_ (thn (he pins s σ H _ I h) fun v s1 ⟨x,H1,I1,r1,q1⟩=>?_);refine wpAny_Slice ?_;refine thn (hl pins s1 σ H1 _ I1 q1) fun vl s2 ⟨lo',H2,I2,plo,q2⟩=>?_
 rw[evalPart_none];refine wpAny_pure ?_;refine thn (hs pins s2 σ H2 _ I2 q2) fun vk s3 ⟨so,H3,I3,pk,est,a,xs,k,elo,hk,ex,hx,q⟩=>?_
 subst est ex elo;cases r1;have I4:Inv X pins σ H3 {s3 with heap:=s3.heap.push {cls:=.type "slice",data:=.fields #[vl,.none,vk]}}:=I3.kept (t':=s3.toks) fun b ob q=>Heap.get?_push_of_some _ q
 obtain⟨its,r,ht,hz⟩:=I4.list hx;have hlen:=r.length;show wpAny (model X.prog X.w) X.A (subscriptTail e (.Slice (some lo) none (some st) p2) (.ref a) (.ref s3.heap.objs.size)) (EP X pins σ Q) X.xe {s3 with heap:=s3.heap.push {cls:=.type "slice",data:=.fields #[vl,.none,vk]}};refine tail_any (ops:=[.ref a,.ref s3.heap.objs.size]) ht.isList.typeIs slot_list_getitem.lookup ?_ (by with_unfolding_all rfl);refine wpAny_getItem_list_slice ht.isList (Heap.IsSliceOf.new ..) plo .none pk (by decide) ?_ (by rw[size_toArray]<;>omega);rw[j2x _ _ (by rw[size_toArray];omega)];refine⟨.ref (s3.heap.push {cls:=.type "slice",data:=.fields #[vl,.none,vk]}).objs.size,_,I4.laid (t':=s3.toks) (o:=.lst (ev (xs.drop k))) (fun b ob q=>Heap.get?_push_of_some _ q) (Nat.le_refl _) ?_,rfl,q _ (I4.hok.fresh (Nat.le_refl _))⟩;refine⟨?_,_,0,j0v (r.drop k),Heap.get?_push_size _ rfl⟩;have:=j1S (xs.drop k);rw[length_drop]at this;omega
end
theorem rd_step{K:Frg}{te:TE}{tl ts:TO}{σ:St}{H:Hp}{Q:VK}(h:te σ H fun x H1=>tl σ H1 fun lo H2=>ts σ H2 fun st H3=>st=some 2/\∃(a:Addr) (xs:List V) (k:Nat),lo=some (k:Int)/\k<=xs.length/\x = .ref a/\SqL K H3 a xs/\∀p,H3 p=none->Q (.ref p) (upd H3 p (.lst (ev (xs.drop k))))):tStep K te tl ts σ H Q:=h
theorem kHeap{K:Frg}{h:Heap}(x:K.In h):∃hK:Heap,(∀b o,K.lookup b=some o->hK.get? b=some o)/\∀b o,hK.get? b=some o->K.lookup b=some o:=by
 have at_:∀b,((Array.range h.objs.size).map fun b=>(K.lookup b).getD ⟨.none,none,.freed,#[]⟩)[b]?=if b<h.objs.size then some ((K.lookup b).getD ⟨.none,none,.freed,#[]⟩)else none:=fun b=>by
  rw[Array.getElem?_map];by_cases c:b<h.objs.size
  ·rw[if_pos c,Array.getElem?_range,if_pos c];rfl
  ·rw[if_neg c,Array.getElem?_range,if_neg c];rfl
 refine⟨⟨(Array.range h.objs.size).map fun b=>(K.lookup b).getD ⟨.none,none,.freed,#[]⟩,h.life⟩,fun b o e=>?_,fun b o e=>?_⟩
 ·have e1:=x b o e;have lt:=Heap.lt_size e1;unfold Heap.get?;show(match((Array.range h.objs.size).map fun b=>(K.lookup b).getD ⟨.none,none,.freed,#[]⟩)[b]? with | some ⟨_,_,.freed,_⟩=>none | o=>o)=some o;rw[at_,if_pos lt,e];show(match some o with | some ⟨_,_,.freed,_⟩=>none | o=>o)=some o;have nf:o.data≠.freed:=fun z=>by
   unfold Heap.get? at e1;split at e1
   ·cases e1
   ·rename_i hn;obtain⟨c,d,da,sl⟩:=o;simp only at z;subst z;exact hn _ _ _ e1
  obtain⟨c,d,da,sl⟩:=o;cases da<;>first | rfl | exact absurd rfl nf
 ·unfold Heap.get? at e;have e:(match((Array.range h.objs.size).map fun b=>(K.lookup b).getD ⟨.none,none,.freed,#[]⟩)[b]? with | some ⟨_,_,.freed,_⟩=>none | o=>o)=some o:=e;rw[at_]at e;split at e
  ·cases e
  ·split at e
   ·cases hk:K.lookup b with
    | none=>rw[hk]at e;rename_i hn _;rw[hk]at hn;rw[if_pos (by assumption)]at hn;exact absurd rfl (hn _ _ _)
    | some o'=>rw[hk]at e;exact e
   ·cases e
section
variable{X:Cx}
theorem km:∀{vs:List Value} {ss:List Str},KTD.Flats vs (ss.map PyData.str)->Vals (ss.map V.str) vs
 | _,[],.nil=>.nil
 | _,x::r,.cons f t=>.cons (by have f:=f {};cases f;exact⟨_,rfl⟩) (km t)
theorem X7:IxR X (fun x y H Q=>∃(a:Addr) (k:Str) (D:List (Str×KTD.Dat)) (ss:List Str),x = .ref a/\y = .str k/\TabK X.K a D/\KTD.datumAt k D=some (.tup (ss.map PyData.str))/\ss.length<=100/\∀b,(∀H',SqT X.K H' b (ss.map V.str))->Q (.ref b) H):=by
 intro value slice pins s σ H x y v u Q I rx ry h hs;obtain⟨a,k,D,ss,rfl,rfl,T,hd,hz,q⟩:=h;cases rx;obtain⟨t,rfl⟩:=ry;obtain⟨hK,k1,k2⟩:=kHeap I.kIn;have Hr:KTD.Here hK s.heap a D:=⟨KTD.text_of_look k1 T,fun b o e=>I.kIn b o (k2 b o e)⟩
 refine tail_any (ops:=[.ref a,.str k t]) Hr.typeIs slot_dict_getitem.lookup ?_ hs;unfold getItem
 try with_reducible refine wpAny_holding ?_
 refine wpAny_bind (wpAny_sequenceKey Hr.typeIs (by decide) ?_);refine wpAny_bind (wpAny_callSpecial?_slot (name:=Str.ofString "__getitem__") Hr.typeIs slot_dict_getitem
  (wpAny_call_entry slot_dict_getitem Hr.typeIs entry_dict_getitem ?_ (args_dict_getitem _ _)))
 show wpAny _ _ (dictGet a (.str k t) >>= _) _ _ s;refine wpAny_bind (KTD.dictGet_text Hr (fun d v ha hv=>wpAny_pure ⟨v,rfl,wpAny_pure ?_⟩) fun hn=>by rw[hd]at hn;cases hn);rw[hd]at ha;cases ha;obtain⟨b,vs,rfl,⟨o,h1,h2,n,h3⟩,hf⟩:=hv;have fv:=km hf;refine⟨.ref b,H,I.tok _,rfl,q b fun H'=>.inr ⟨o,vs.toArray,n,k2 _ _ h1,h2,h3,?_,by simpa using fv⟩⟩;have:=fv.length;rw[length_map]at this;rw[size_toArray,sizeLine_eq];omega
theorem X6:IxR X (fun x y H Q=>∃(a:Addr) (k:Str) (D:List (Str×KTD.Dat)) (i:Int),x = .ref a/\y = .str k/\TabK X.K a D/\KTD.datumAt k D=some (.flat (.int i))/\Q (.int i) H):=by
 intro value slice pins s σ H x y v u Q I rx ry h hs;obtain⟨a,k,D,i,rfl,rfl,T,hd,q⟩:=h;cases rx;obtain⟨t,rfl⟩:=ry;have Hr:KTD.Here s.heap s.heap a D:=⟨PySem.W.kt_text_in I.kIn T,fun _ _ e=>e⟩
 refine tail_any (ops:=[.ref a,.str k t]) Hr.typeIs slot_dict_getitem.lookup ?_ hs;unfold getItem
 try with_reducible refine wpAny_holding ?_
 refine wpAny_bind (wpAny_sequenceKey Hr.typeIs (by decide) ?_);refine wpAny_bind (wpAny_callSpecial?_slot (name:=Str.ofString "__getitem__") Hr.typeIs slot_dict_getitem
  (wpAny_call_entry slot_dict_getitem Hr.typeIs entry_dict_getitem ?_ (args_dict_getitem _ _)))
 show wpAny _ _ (dictGet a (.str k t) >>= _) _ _ s;refine wpAny_bind (KTD.dictGet_text Hr (fun d v ha hv=>wpAny_pure ⟨v,rfl,wpAny_pure ?_⟩) fun hn=>by rw[hd]at hn;cases hn);rw[hd]at ha;cases ha;have hv:=hv s.heap;cases hv;exact⟨.int i,H,I.tok _,⟨_,rfl⟩,q⟩
end
section
variable{prog:Program}{w:World}{A:Around}{R:Result->Shared->Prop}{I:Addr}{fp wr:List Addr}{G:Array GenState->Array GenState->Prop}{n:Nat}{P:Nat->Value->Prop}{St:Nat->Shared->Prop}
theorem j1k(W:WalksS prog w A.in1 I fp wr G n P St)(a:Addr)(ha:a∉fp)(xs:List Str)(nd:xs.Nodup)(hn:xs.length=n)(hx:∀i v,P i v->∃x t,xs[i]?=some x/\v = .str x t)(hb:n+1<scanBound) :
  ∀(k i:Nat) (s:Shared),n-i=k->i<=n->St i s->s.heap.SetOf (strKind prog w) a (fun y=>decide (y∈xs.take i)) i->
   (∀s',Moved (a::wr) G s s'->(∃S,s'.heap.SetOf (strKind prog w) a S n)->R (.ok (.ret .none)) s')->codeAny (model prog w) A (.builtin "set.update.loop" ⟨[.ref a,.ref I],[]⟩) R s:=by
 have aw:a∉wr:=fun z=>ha (W.sub _ z)
 have up:∀c∈wr,c∈a::wr:=fun c h=>mem_cons_of_mem _ h
 intro k
 induction k with
 | zero=>
  intro i s e le st hS q;obtain rfl:i=n:=by omega
  refine codeAny_builtin F.entry_set_update_loop ?_;rw[Around.under_plainId F.plain_set_update_loop _];refine wpAny_bind (m:=pyNext (.ref I)) (W.done s _ _ st fun s' mv=>wpAny_pure (q s' (mv.mono up) ⟨fun y=>decide (y∈xs.take i),?_⟩));obtain⟨o,es,ep,t,h1,h2⟩:=hS;exact⟨o,es,ep,t,mv.heap a _ aw h1,h2⟩
 | succ k ih=>
  intro i s e le st hS q;have lt:i<n:=by omega
  refine codeAny_builtin F.entry_set_update_loop ?_;rw[Around.under_plainId F.plain_set_update_loop _];refine wpAny_bind (m:=pyNext (.ref I)) (W.item i s _ _ lt st fun v s' pv st' mv=>?_);obtain⟨x,t,ex,rfl⟩:=hx i v pv;have hS':s'.heap.SetOf (strKind prog w) a (fun y=>decide (y∈xs.take i)) i:=by
   obtain⟨o,es,ep,tb,h1,h2⟩:=hS;exact⟨o,es,ep,tb,mv.heap a _ aw h1,h2⟩
  refine wpAny_bind (m:=holding [Value.str x t] (setAdd a (.str x t))) (wpAny_holding ?_);unfold setAdd;refine wpAny_holding ?_;refine wpAny_bind ((strKind prog w).pyHash (k:=x) (strKind_is _ _ _ _) ?_);refine wpAny_setAddHashed_of (knd:=strKind prog w) (s:={s' with toks:=s'.toks+1}) (strKind_is _ _ _ _) rfl hS' (by omega) fun h' sb hS2=>?_
  have fresh_:decide (x∈xs.take i)=false:=decide_eq_false fun z=>by
   obtain⟨j,hj⟩:=List.getElem?_of_mem z;rw[List.getElem?_take]at hj;split at hj
   ·rename_i ji;have:=List.getElem?_inj (List.getElem?_eq_some_iff.mp hj).1 nd |>.mp (hj.trans ex.symm);omega
   ·cases hj
  rw[fresh_]at hS2;have hS3:h'.SetOf (strKind prog w) a (fun y=>decide (y∈xs.take (i+1))) (i+1):=by
   refine SetOf_congr hS2 (fun y=>?_) rfl;have e2:xs.take (i+1)=xs.take i++[x]:=by
    rw[List.take_succ,ex];rfl
   rw[e2];by_cases c1:y∈xs.take i<;>by_cases c2:y=x<;>simp[c1,c2]
  refine wpAny_pure ⟨plainId_quiet F.plain_set_update_loop _,ih (i+1) _ (by omega) lt (W.frame _ s' _ _ st' (Nat.le_succ _) fun b hb o e=>?_) hS3 fun s'' mv2 hS''=>?_⟩
  ·rw[sb.2 b (fun z:b=a=>ha (by rw[<-z];exact hb))];exact e
  ·refine q s'' (Moved.trans W.gtrans ((mv.mono up).then_heap (Nat.le_succ _) fun b o hb e=>?_) mv2) hS'';rw[sb.2 b (fun z:b=a=>hb (by rw[z];exact mem_cons_self))];exact e
end
structure Nxt(prog:Program)(w:World)(it:Addr)(fp:List Addr)(P P':Heap->Prop)(x:Value):Prop where
 run:∀(A:Around) (s:Shared) (Q:Value->Shared->Prop) (E:Value->Shared->Prop),P s.heap->(∀h',P' h'->Heap.SameBut it s.heap h'->Q x {s with heap:=h'})->wpAny (model prog w) A (Builtin.SmallTypes.nextOf (.ref it)) Q E s
 kp:∀h h',P h->(∀b∈fp,∀o,h.get? b=some o->h'.get? b=some o)->P h'
 kp':∀h h',P' h->(∀b∈fp,∀o,h.get? b=some o->h'.get? b=some o)->P' h'
structure ZA(z TI TO i j:Addr)(f g:List Addr):Prop where
 a1:TI≠z
 a2:TO≠z
 a3:i≠z
 a4:j≠z
 a5:TI≠TO
 a6:TI≠i
 a7:TI≠j
 a8:TO≠i
 a9:TO≠j
 b1:z∉f
 b2:TO∉f
 b3:j∉f
 c1:z∉g
 c2:TO∉g
 c3:i∉g
section
variable{prog:Program}{w:World}{A:Around}{E:Value->Shared->Prop}{s:Shared}
theorem Xa{it t:Addr}{i:Nat}{xs:Array Value}{x:Value}{Q:Value->Shared->Prop}(hit:s.heap.IsTupleIter it t i)(ht:s.heap.IsTuple t xs)(hx:xs[i]?=some x)
  (hQ:∀h',h'.IsTupleIter it t (i+1)->Heap.SameBut it s.heap h'->Q x {s with heap:=h'}):wpAny (model prog w) A (Builtin.SmallTypes.nextOf (.ref it)) Q E s:=by
 obtain⟨o,ho,hc,hd⟩:=id hit;obtain⟨ol,hol,_,nl,hdl⟩:=ht;unfold Builtin.SmallTypes.nextOf;refine wpAny_bind (wpAny_callSpecial?_slot (name:=Str.ofString "__next__") hit.typeIs F.slot_tuple_iterator_next (wpAny_call_entry F.slot_tuple_iterator_next hit.typeIs F.entry_tuple_iterator_next ?_ (F.args_tuple_iterator_next_1 _)));show wpAny _ _ (field (.ref it) 0 >>= _) _ _ s;refine wpAny_bind (wpAny_field ho hd (x:=.ref t) rfl ?_);show wpAny _ _ (if(Value.ref t==Value.none)=true then _ else _) _ _ s;rw[if_neg (show¬((Value.ref t==Value.none)=true)from Bool.false_ne_true)];show wpAny _ _ (field (.ref it) 1 >>= _) _ _ s;refine wpAny_bind (wpAny_field ho hd (x:=.int i 0) rfl ?_);show wpAny _ _ (seqItems? (.ref t) >>= _) _ _ s;refine wpAny_bind (wpAny_seqItems hol hdl ?_);simp only[Int.toNat_natCast,hx];refine wpAny_bind (wpAny_setField ho hd (by simp) (wpAny_pure ⟨x,rfl,wpAny_pure (hQ _ ?_ (Heap.SameBut.update ..))⟩));exact⟨_,Heap.get?_update_self _ ho (Obj.isFreed_of_fields (Obj.data_mapFields hd _)),(Obj.cls_mapFields ..).trans hc,by rw[Obj.data_mapFields hd];simp[rawInt]⟩
theorem j12{it t:Addr}{i:Nat}{xs:Array Value}{Q:Value->Shared->Prop}(hh:A.handled=none)(hit:s.heap.IsTupleIter it t i)(ht:s.heap.IsTuple t xs)(hx:xs[i]?=none)
  (hE:∀h' e,Heap.ExtBut it s.heap h'->(∃o,h'.get? e=some o/\o.cls = .type "StopIteration")->E (.ref e) {s with heap:=h'}):wpAny (model prog w) A (Builtin.SmallTypes.nextOf (.ref it)) Q E s:=by
 obtain⟨o,ho,hc,hd⟩:=id hit;obtain⟨ol,hol,_,nl,hdl⟩:=ht;unfold Builtin.SmallTypes.nextOf;refine wpAny_bind (wpAny_callSpecial?_slot (name:=Str.ofString "__next__") hit.typeIs F.slot_tuple_iterator_next (wpAny_call_entry F.slot_tuple_iterator_next hit.typeIs F.entry_tuple_iterator_next ?_ (F.args_tuple_iterator_next_1 _)));show wpAny _ _ (field (.ref it) 0 >>= _) _ _ s;refine wpAny_bind (wpAny_field ho hd (x:=.ref t) rfl ?_);show wpAny _ _ (if(Value.ref t==Value.none)=true then _ else _) _ _ s;rw[if_neg (show¬((Value.ref t==Value.none)=true)from Bool.false_ne_true)];show wpAny _ _ (field (.ref it) 1 >>= _) _ _ s;refine wpAny_bind (wpAny_field ho hd (x:=.int i 0) rfl ?_);show wpAny _ _ (seqItems? (.ref t) >>= _) _ _ s;refine wpAny_bind (wpAny_seqItems hol hdl ?_);simp only[Int.toNat_natCast,hx];refine wpAny_bind (wpAny_rule (wpAny_bind (wpAny_setField ho hd (by simp) ?_)));show wpAny _ _ (newExc (.type "StopIteration") [] >>= _) _ _ _;refine wpAny_bind ?_;simp only[newExc,newTuple];refine wpAny_bind (wpAny_newObj_type ?_ (by size_fits));refine wpAny_bind (m:=firstArgMember _ _) (wpAny_of_eq (a:=Value.none) (by first | rfl | (simp only[firstArgMember];rfl)) ?_);refine wpAny_newObj_type ?_ (by size_fits);simp only[raiseNew];refine wpAny_bind (wpAny_handled ?_)
 first | rw[show A.in1.handled=none from hh] | rw[hh]
 refine wpAny_bind (wpAny_pure (wpAny_throw ?_));exact hE _ _ (((Heap.SameBut.update ..).extBut.push _).push _) ⟨_,Heap.get?_push_size _ rfl,rfl⟩
theorem j3A{it t:Addr}{i:Nat}{xs:Array Value}{x:Value}(ne:t≠it)(hx:xs[i]?=some x):Nxt prog w it [it,t] (fun h=>h.IsTupleIter it t i/\h.IsTuple t xs) (fun h=>h.IsTupleIter it t (i+1)/\h.IsTuple t xs) x where
 run:=fun A s Q E p q=>Xa p.1 p.2 hx fun h' a sb=>q h' ⟨a,p.2.extBut sb.extBut ne⟩ sb
 kp:=fun h h' ⟨⟨o,e,r⟩,o',e',r'⟩ k=>⟨⟨o,k it (by simp) o e,r⟩,o',k t (by simp) o' e',r'⟩
 kp':=fun h h' ⟨⟨o,e,r⟩,o',e',r'⟩ k=>⟨⟨o,k it (by simp) o e,r⟩,o',k t (by simp) o' e',r'⟩
theorem j0b{it t:Addr}{i:Nat}{xs:Array Value}{x:Value}(ne:t≠it)(hx:xs[i]?=some x):Nxt prog w it [it,t] (fun h=>h.IsListIter it t i/\h.IsList t xs) (fun h=>h.IsListIter it t (i+1)/\h.IsList t xs) x where
 run:=fun A s Q E p q=>wpAny_nextOf_list_item p.1 p.2 hx fun h' a sb=>q h' ⟨a,p.2.extBut sb.extBut ne⟩ sb
 kp:=fun h h' ⟨⟨o,e,r⟩,o',e',r'⟩ k=>⟨⟨o,k it (by simp) o e,r⟩,o',k t (by simp) o' e',r'⟩
 kp':=fun h h' ⟨⟨o,e,r⟩,o',e',r'⟩ k=>⟨⟨o,k it (by simp) o e,r⟩,o',k t (by simp) o' e',r'⟩
theorem j1t{z TI TO i j:Addr}{f g:List Addr}{P P' R R':Heap->Prop}{x y a b:Value}{Q:Value->Shared->Prop}(N1:Nxt prog w i f P P' x)(N2:Nxt prog w j g R R' y)(D:ZA z TI TO i j f g)
  (hz:IsZip s.heap z TI TO .none) (hTI:IsPair s.heap TI (.ref i) (.ref j)) (hTO:IsPair s.heap TO a b) (h1:P s.heap) (h2:R s.heap)
  (hQ:∀h',IsZip h' z TI TO (rawInt s.heap.objs.size)->IsPair h' TO x y->P' h'->R' h'->IsPair h' s.heap.objs.size x y->(∀c o,c≠z->c≠TO->c≠i->c≠j->s.heap.get? c=some o->h'.get? c=some o)->Q (.ref s.heap.objs.size) {s with heap:=h'}) :
  wpAny (model prog w) A (Builtin.«zip.__next__» ⟨[.ref z],[]⟩) (fun fin s'=>∃v,fin = .done (.ret v)/\Q v s') E s:=by
 show wpAny _ _ (field (.ref z) 2 >>= _) _ _ _;refine wpAny_bind (wpAny_field hz rfl (x:=.bool false) rfl ?_);show wpAny _ _ (field (.ref z) 3 >>= _) _ _ _;refine wpAny_bind (wpAny_field hz rfl (x:=.ref TI) rfl ?_);refine wpAny_bind (wpAny_seqItems hTI rfl ?_);show wpAny _ _ (Builtin.SmallTypes.ownedTupleIsFree (.ref z) >>= _) _ _ _;refine wpAny_bind ?_;unfold Builtin.SmallTypes.ownedTupleIsFree;refine wpAny_bind (wpAny_field hz rfl (x:=.none) rfl (wpAny_pure ?_));simp only[if_true];refine wpAny_bind (wpAny_rule ?_);refine wpAny_bind (wpAny_field hz rfl (x:=.ref TO) rfl ?_);refine wpAny_bind (wpAny_setField_rec hz (by simp) fun k1 z1 e1=>?_)
 replace z1:IsZip k1 z TI TO .ellipsis:=z1
 refine wpAny_bind ?_;simp only[zipIdx_cons,List.zipIdx_nil,forIn_cons,forIn_nil];have u1:∀c o,c≠z->s.heap.get? c=some o->k1.get? c=some o:=fun c o n=>e1.extBut c o n
 refine wpAny_bind (wpAny_bind (wpAny_onRaise ?_));show wpAny _ _ (Builtin.SmallTypes.nextOf (.ref i) >>= _) _ _ _;refine wpAny_bind (N1.run _ _ _ _ (N1.kp _ _ h1 fun b hb o q=>u1 b o (fun e=>D.b1 (e▸hb)) q) fun k2 p2 e2=>wpAny_pure ?_);have u2:∀c o,c≠i->k1.get? c=some o->k2.get? c=some o:=fun c o n=>e2.extBut c o n
 have t2:IsPair k2 TO a b:=u2 _ _ D.a8 (u1 _ _ D.a2 hTO);refine wpAny_bind (wpAny_seqItems t2 rfl ?_);refine wpAny_bind (wpAny_updateSeq_pair t2 fun k3 t3 e3=>?_)
 replace t3:IsPair k3 TO x b:=t3
 have u3:∀c o,c≠TO->k2.get? c=some o->k3.get? c=some o:=fun c o n=>e3.extBut c o n
 refine wpAny_bind (wpAny_letGo (wpAny_pure ?_));refine wpAny_bind (wpAny_bind (wpAny_onRaise ?_));show wpAny _ _ (Builtin.SmallTypes.nextOf (.ref j) >>= _) _ _ _;have r3:R k3:=N2.kp _ _ h2 fun b hb o q=>u3 b o (fun e=>D.c2 (e▸hb)) (u2 b o (fun e=>D.c3 (e▸hb)) (u1 b o (fun e=>D.c1 (e▸hb)) q))
 refine wpAny_bind (N2.run _ _ _ _ r3 fun k4 p4 e4=>wpAny_pure ?_);have u4:∀c o,c≠j->k3.get? c=some o->k4.get? c=some o:=fun c o n=>e4.extBut c o n
 have t4:IsPair k4 TO x b:=u4 _ _ D.a9 t3;refine wpAny_bind (wpAny_seqItems t4 rfl ?_);refine wpAny_bind (wpAny_updateSeq_pair t4 fun k5 t5 e5=>?_)
 replace t5:IsPair k5 TO x y:=t5
 have u5:∀c o,c≠TO->k4.get? c=some o->k5.get? c=some o:=fun c o n=>e5.extBut c o n
 refine wpAny_bind (wpAny_letGo (wpAny_pure (wpAny_pure ?_)));refine wpAny_bind (wpAny_seqItems t5 rfl ?_);refine wpAny_bind (wpAny_newTuple (hsz:=by show 2<=sizeLine;decide) ?_);have sz:k5.objs.size=s.heap.objs.size:=by rw[e5.1,e4.1,e3.1,e2.1,e1.1]
 have z5:IsZip k5 z TI TO .ellipsis:=u5 _ _ D.a2.symm (u4 _ _ D.a4.symm (u3 _ _ D.a2.symm (u2 _ _ D.a3.symm z1)));show wpAny _ _ (Builtin.SmallTypes.ownedTupleHandOut (.ref z) (.ref k5.objs.size) >>= _) _ _ _;refine wpAny_bind ?_;unfold Builtin.SmallTypes.ownedTupleHandOut;have z6:IsZip (k5.push {cls:=.type "tuple",data:=.seq #[x,y]}) z TI TO .ellipsis:=Heap.get?_push_of_some _ z5;refine wpAny_bind (wpAny_setField_rec z6 (by simp) fun k7 z7 e7=>?_)
 replace z7:IsZip k7 z TI TO (rawInt k5.objs.size):=z7
 refine wpAny_setField_rec z7 (by simp) fun k8 z8 e8=>?_
 replace z8:IsZip k8 z TI TO (rawInt k5.objs.size):=z8
 have u8:∀c o,c≠z->k5.get? c=some o->k8.get? c=some o:=fun c o n q=>e8.extBut c o n (e7.extBut c o n (Heap.get?_push_of_some _ q))
 have nz:k5.objs.size≠z:=Nat.ne_of_gt (Heap.lt_size z5);have t8:IsPair k8 k5.objs.size x y:=e8.extBut _ _ nz (e7.extBut _ _ nz (Heap.get?_push_size _ rfl));have p8:P' k8:=N1.kp' _ _ p2 fun b hb o q=>u8 b o (fun e=>D.b1 (e▸hb)) (u5 b o (fun e=>D.b2 (e▸hb)) (u4 b o (fun e=>D.b3 (e▸hb)) (u3 b o (fun e=>D.b2 (e▸hb)) q)))
 have r8:R' k8:=N2.kp' _ _ p4 fun b hb o q=>u8 b o (fun e=>D.c1 (e▸hb)) (u5 b o (fun e=>D.c2 (e▸hb)) q)
 refine wpAny_pure ⟨_,rfl,?_⟩;show Q (.ref k5.objs.size) _;rw[sz]at z8 t8|-;exact hQ k8 z8 (u8 _ _ D.a2 t5) p8 r8 t8 fun c o n1 n2 n3 n4 q=>u8 c o n1 (u5 c o n2 (u4 c o n4 (u3 c o n2 (u2 c o n3 (u1 c o n1 q)))))
theorem j2Z{z TI TO i j:Addr}{f g:List Addr}{a b:Value}{Q:Fin->Shared->Prop}(D:ZA z TI TO i j f g)(P:Heap->Prop)(kp:∀h h',P h->(∀b∈f,∀o,h.get? b=some o->h'.get? b=some o)->P h')
  (ends:∀(s:Shared) (Q:Value->Shared->Prop) (E:Value->Shared->Prop),P s.heap->(∀h' e,Heap.ExtBut i s.heap h'->(∃o,h'.get? e=some o/\o.cls = .type "StopIteration")->E (.ref e) {s with heap:=h'})->wpAny (model prog w) A (Builtin.SmallTypes.nextOf (.ref i)) Q E s)
  (hz:IsZip s.heap z TI TO .none) (hTI:IsPair s.heap TI (.ref i) (.ref j)) (hTO:IsPair s.heap TO a b) (h1:P s.heap)
  (hE:∀h' e,(∀c o,c≠z->c≠TO->c≠i->c≠j->s.heap.get? c=some o->h'.get? c=some o)->(∃o,h'.get? e=some o/\o.cls = .type "StopIteration")->E (.ref e) {s with heap:=h'}) :
  wpAny (model prog w) A (Builtin.«zip.__next__» ⟨[.ref z],[]⟩) Q E s:=by
 show wpAny _ _ (field (.ref z) 2 >>= _) _ _ _;refine wpAny_bind (wpAny_field hz rfl (x:=.bool false) rfl ?_);show wpAny _ _ (field (.ref z) 3 >>= _) _ _ _;refine wpAny_bind (wpAny_field hz rfl (x:=.ref TI) rfl ?_);refine wpAny_bind (wpAny_seqItems hTI rfl ?_);show wpAny _ _ (Builtin.SmallTypes.ownedTupleIsFree (.ref z) >>= _) _ _ _;refine wpAny_bind ?_;unfold Builtin.SmallTypes.ownedTupleIsFree;refine wpAny_bind (wpAny_field hz rfl (x:=.none) rfl (wpAny_pure ?_));simp only[if_true];refine wpAny_bind (wpAny_rule ?_);refine wpAny_bind (wpAny_field hz rfl (x:=.ref TO) rfl ?_);refine wpAny_bind (wpAny_setField_rec hz (by simp) fun k1 z1 e1=>?_)
 replace z1:IsZip k1 z TI TO .ellipsis:=z1
 refine wpAny_bind ?_;simp only[zipIdx_cons,List.zipIdx_nil,forIn_cons,forIn_nil];refine wpAny_bind (wpAny_bind (wpAny_onRaise ?_));show wpAny _ _ (Builtin.SmallTypes.nextOf (.ref i) >>= _) _ _ _;refine wpAny_bind (ends _ _ _ (kp _ _ h1 fun b hb o q=>e1.extBut b o (fun e=>D.b1 (e▸hb)) q) fun k2 e x2 he=>?_);obtain⟨oe,hoe,hce⟩:=he;have z2:IsZip k2 z TI TO .ellipsis:=x2 _ _ D.a3.symm z1;have ez:e≠z:=fun q=>by subst q;rw[z2]at hoe;cases hoe;simp at hce
 exact wpAny_setField_rec z2 (by simp) fun k3 _ e3=>hE k3 e (fun c o c1 _ c3 _ q=>e3.extBut _ _ c1 (x2 _ _ c3 (e1.extBut _ _ c1 q))) ⟨oe,e3.extBut _ _ ez hoe,hce⟩
noncomputable abbrev zT1(h:Heap)(t:Addr):Heap:=h.push {cls:=.type "tuple_iterator",data:=.fields #[.ref t,.int 0 0]}
noncomputable abbrev zT2(h:Heap)(t l:Addr):Heap:=(zT1 h t).push {cls:=.type "list_iterator",data:=.fields #[.ref l,.int 0 0]}
noncomputable abbrev zT3(h:Heap)(t l:Addr):Heap:=(zT2 h t l).push {cls:=.type "tuple",data:=.seq #[.ref h.objs.size,.ref (zT1 h t).objs.size]}
noncomputable abbrev zT4(h:Heap)(t l:Addr):Heap:=(zT3 h t l).push {cls:=.type "tuple",data:=.seq #[.none,.none]}
noncomputable abbrev zT5(h:Heap)(t l:Addr):Heap:=(zT4 h t l).push {cls:=.type "zip",data:=.fields #[.none,.bool false,.bool false,.ref (zT2 h t l).objs.size,.ref (zT3 h t l).objs.size]}
theorem x5(t l:Addr)(xs ys:Array Value):Meets (Builtin.«zip.__new__» ⟨[.type "zip",.ref t,.ref l],[]⟩) (fun _ R s=>s.heap.IsTuple t xs/\s.heap.IsList l ys/\R (.ok (.ret (.ref (zT4 s.heap t l).objs.size))) {s with heap:=zT5 s.heap t l}):=
 .of_wp fun prog w A R s h=>by
  obtain⟨hp,g,d,tk,os⟩:=s;obtain⟨q1,q2,h⟩:=h;have hsub:=sub_zip;have e1:Heap.IsTuple (Shared.heap ⟨hp,g,d,tk,os⟩) t xs:=q1;have e2:Heap.IsList (Shared.heap ⟨hp.push {cls:=.type "tuple_iterator",data:=.fields #[.ref t,.int 0 0]},g,d,tk,os⟩) l ys:=Heap.IsList.push q2 _
  wp_walk using wpAny_pyIter_tuple e1,wpAny_pyIter_list e2
  exact⟨_,rfl,h⟩
theorem j0L{t l:Addr}{xs ys:Array Value}{Q:Value->Shared->Prop}(q1:s.heap.IsTuple t xs)(q2:s.heap.IsList l ys)
  (h:∀h',IsZip h' (s.heap.objs.size+4) (s.heap.objs.size+2) (s.heap.objs.size+3) .none->IsPair h' (s.heap.objs.size+2) (.ref s.heap.objs.size) (.ref (s.heap.objs.size+1))->IsPair h' (s.heap.objs.size+3) .none .none->
   h'.IsTupleIter s.heap.objs.size t 0->h'.IsListIter (s.heap.objs.size+1) l 0->(∀c o,s.heap.get? c=some o->h'.get? c=some o)->Q (.ref (s.heap.objs.size+4)) {s with heap:=h'}):wpAny (model prog w) A (call (.type "zip") [.ref t,.ref l]) Q E s:=by
 refine callType_new F.called_zip (by decide) (F.typeCall_zip_2 _ _) (F.newCall_zip_2 _ _) (fun obj=>F.args_object_init_3 obj _ _) F.entry_zip_new (x5 t l xs ys) ⟨q1,q2,?_⟩;have n1:(zT1 s.heap t).objs.size=s.heap.objs.size+1:=Heap.size_push ..;have n2:(zT2 s.heap t l).objs.size=s.heap.objs.size+2:=by rw[Heap.size_push,n1]
 have n3:(zT3 s.heap t l).objs.size=s.heap.objs.size+3:=by rw[Heap.size_push,n2]
 have n4:(zT4 s.heap t l).objs.size=s.heap.objs.size+4:=by rw[Heap.size_push,n3]
 have up:∀{h:Heap} {o o':Obj} {c:Addr},h.get? c=some o->(h.push o').get? c=some o:=fun q=>Heap.get?_push_of_some _ q
 have g5:(zT5 s.heap t l).get? (zT4 s.heap t l).objs.size=some _:=Heap.get?_push_size _ rfl;have g4:(zT5 s.heap t l).get? (zT3 s.heap t l).objs.size=some _:=up (Heap.get?_push_size _ rfl);have g3:(zT5 s.heap t l).get? (zT2 s.heap t l).objs.size=some _:=up (up (Heap.get?_push_size _ rfl));have g2:(zT5 s.heap t l).get? (zT1 s.heap t).objs.size=some _:=up (up (up (Heap.get?_push_size _ rfl)));have g1:(zT5 s.heap t l).get? s.heap.objs.size=some _:=up (up (up (up (Heap.get?_push_size _ rfl))));show _/\_;rw[n2,n3,n4]at g5;rw[n1,n2]at g3;rw[n3]at g4;rw[n1]at g2;rw[n4];exact⟨⟨_,g5,rfl⟩,h _ g5 g3 g4 ⟨_,g1,rfl,rfl⟩ ⟨_,g2,rfl,rfl⟩ fun c o x=>up (up (up (up (up x))))⟩
end
def Izt(K:Frg)(a b:Addr):It:=
 ⟨fun i H=>∃xs x ys y,SqT K H a xs/\xs[i]?=some x/\SqL K H b ys/\ys[i]?=some y,
  fun i H x H'=>∃T u v,x = .ref T/\H T=none/\H'=upd H T (.tup [u,v])/\(∀xs,SqT K H a xs->xs[i]?=some u)/\∀ys,SqL K H b ys->ys[i]?=some v,
  fun i H=>∃xs,SqT K H a xs/\xs.length<=i⟩
theorem j1s{P:Program}{w:World}{K:Frg}{elts:List Expr}{k:Nat}{pos:Pos}(t l z TI TO i1 i2:Addr)(D:ZA z TI TO i1 i2 [i1,t] [i2,l])(ne1:t≠i1)(ne2:l≠i2) :
  Turn P w K (.Tuple elts k pos) (Izt K t l) [z,TI,TO,i1,i2] z (fun i h=>IsZip h z TI TO .none/\IsPair h TI (.ref i1) (.ref i2)/\(∃a b,IsPair h TO a b)/\h.IsTupleIter i1 t i/\h.IsListIter i2 l i) where
 mem:=by simp
 obj:=fun i h st b hb=>by
  obtain⟨hz,hTI,⟨a,c,hTO⟩,⟨o1,e1,_,d1⟩,o2,e2,_,d2⟩:=st;rcases(by simpa using hb:b=z\/b=TI\/b=TO\/b=i1\/b=i2)with rfl | rfl | rfl | rfl | rfl
  ·exact⟨_,hz,fun v z=>by cases z⟩
  ·exact⟨_,hTI,fun v z=>by cases z⟩
  ·exact⟨_,hTO,fun v z=>by cases z⟩
  ·exact⟨o1,e1,fun v z=>by rw[d1]at z;cases z⟩
  ·exact⟨o2,e2,fun v z=>by rw[d2]at z;cases z⟩
 keep:=fun i h h' ⟨hz,hTI,⟨a,c,hTO⟩,h1,h2⟩ k=>⟨k z (by simp) _ hz,k TI (by simp) _ hTI,⟨a,c,k TO (by simp) _ hTO⟩,h1.at fun o q=>k i1 (by simp) o q,h2.at fun o q=>k i2 (by simp) o q⟩
 item:=by
  intro X hP hw hK hc i pins s σ H E I hf st hg;subst hP hw hK;obtain⟨xs,x,ys,y,hq,hx,hr,hy⟩:=hg;obtain⟨its,rv,p,_⟩:=I.tuple hq;obtain⟨jts,rw',p',_⟩:=I.list hr;obtain⟨u,hu,ru⟩:=rv.get hx;obtain⟨v,hv,rv'⟩:=rw'.get hy;obtain⟨hz,hTI,⟨a,c,hTO⟩,h1,h2⟩:=st;have lt:∀b∈[z,TI,TO,i1,i2],b<s.heap.objs.size:=fun b hb=>by
   rcases(by simpa using hb:b=z\/b=TI\/b=TO\/b=i1\/b=i2)with rfl | rfl | rfl | rfl | rfl
   ·exact Heap.lt_size hz
   ·exact Heap.lt_size hTI
   ·exact Heap.lt_size hTO
   ·obtain⟨o,e,_⟩:=h1;exact Heap.lt_size e
   ·obtain⟨o,e,_⟩:=h2;exact Heap.lt_size e
  have hTy:s.TypeIs (.ref z) "zip":=⟨_,hz,rfl⟩
  unfold pyNext;refine wpAny_bind (wpAny_attempt (wpAny_callSpecial?_slot (name:=Str.ofString "__next__") hTy F.slot_zip_next (wpAny_call_entry F.slot_zip_next hTy F.entry_zip_next ?_ (F.args_zip_next_1 _))));refine j1t (j3A ne1 (x:=u) (xs:=its.toArray) (by simpa using hu)) (j0b ne2 (x:=v) (xs:=jts.toArray) (by simpa using hv)) D hz hTI hTO ⟨h1,p⟩ ⟨h2,p'.isList⟩ fun h' a1 a2 a3 a4 a5 hk=>wpAny_pure ?_
  obtain⟨I1,f1⟩:=I.pair (t':=s.toks) (ch:=[z,TI,TO,i1,i2]) (x:=x) (y:=y) hf lt ru rv' a5
   (fun b o hb q=>hk b o (fun e=>hb (by simp[e])) (fun e=>hb (by simp[e])) (fun e=>hb (by simp[e])) (fun e=>hb (by simp[e])) q)
  refine⟨_,rfl,wpAny_letOwnedTupleGo_zip a1 fun h3 hz3 sb=>?_⟩;have I2:=I1.turnedL (h':=h3) (t':=s.toks) (ch:=[z,TI,TO,i1,i2]) f1 fun b o hb q=>(sb.2 b fun e=>hb (by simp[e])).trans q
  exact⟨.ref s.heap.objs.size,_,I2,rfl,⟨_,x,y,rfl,I.hok.fresh (Nat.le_refl _),rfl,(fun ys hy=>by rw[I.tuple_inj hy hq];exact hx),fun ys hy'=>by rw[I.list_inj hy' hr];exact hy⟩,
   ⟨hz3,(sb.2 TI D.a1).trans (hk TI _ D.a1 D.a5 D.a6 D.a7 hTI),⟨_,_,(sb.2 TO D.a2).trans a2⟩,a3.1.at fun o q=>(sb.2 i1 D.a3).trans q,a4.1.at fun o q=>(sb.2 i2 D.a4).trans q⟩,fun b hb=>(f1 b hb).1⟩
 done:=by
  intro X hP hw hK hc i pins s σ H E I hf st hg;subst hP hw hK;obtain⟨xs,hq,hl⟩:=hg;obtain⟨its,rv,p,_⟩:=I.tuple hq;obtain⟨hz,hTI,⟨a,c,hTO⟩,h1,h2⟩:=st;have l1':=rv.length;have hTy:s.TypeIs (.ref z) "zip":=⟨_,hz,rfl⟩
  unfold pyNext;refine wpAny_bind (wpAny_attempt (wpAny_callSpecial?_slot (name:=Str.ofString "__next__") hTy F.slot_zip_next (wpAny_call_entry F.slot_zip_next hTy F.entry_zip_next ?_ (F.args_zip_next_1 _))));refine j2Z D (fun h=>h.IsTupleIter i1 t i/\h.IsTuple t its.toArray) (fun h h' ⟨⟨o,e,r⟩,o',e',r'⟩ k=>⟨⟨o,k i1 (by simp) o e,r⟩,o',k t (by simp) o' e',r'⟩)
   (fun s Q E p q=>j12 (I.ok.hd hc) p.1 p.2 (by simp;omega) q) hz hTI hTO ⟨h1,p⟩ fun h' e hk he=>?_
  obtain⟨o,ho,hc⟩:=he;refine wpAny_bind (wpAny_isInstance (T:="StopIteration") (b:=true) ⟨o,ho,hc⟩ isSubtype_stop ?_);exact wpAny_pure ⟨rfl,I.turnedL (t':=s.toks) (ch:=[z,TI,TO,i1,i2]) hf fun b o hb q=>hk b o (fun e=>hb (by simp[e])) (fun e=>hb (by simp[e])) (fun e=>hb (by simp[e])) (fun e=>hb (by simp[e])) q⟩
 self:=fun _ _ _ _ _ st h=>wpAny_pyIter_zip st.1 h
def iZipT(K:Frg)(ta:TA):TI:=fun σ H R=>ta σ H fun vs H1=>∃a b xs ys,vs=[.ref a,.ref b]/\SqT K H1 a xs/\SqL K H1 b ys/\R (Izt K a b) H1
theorem j3H{X:Cx}{a b:Expr}{ta:TA}{elts:List Expr}{k:Nat}{p pos pos':Pos}(hg:Gl X "zip")(hm:X.mg "zip"= none)(ha:PA X [a,b] ta)(hs:starEach [a,b] X.env=[(false,eval a X.env),(false,eval b X.env)]:=by rfl)(hs2:starEach [b] X.env=[(false,eval b X.env)]:=by rfl) :
  PI X (.Tuple elts k pos') (.Call (.Name "zip" p) [a,b] [] pos) (iZipT X.K ta):=by
 intro pins s σ H R I h;refine Call_ (qp I hg hm xE (PyProof.Rows.callWith_type1 (thn (ha pos pins s σ H _ I h) fun us s1 ⟨vs,H1,I1,r1,q1⟩=>?_) (by rw[hs,hs2]) (by rw[hs2];rfl)));obtain⟨t,l,xs,ys,rfl,hq,hr,q⟩:=q1;obtain⟨u,w',rfl,r,r'⟩:=vals2 r1;cases r;cases r';obtain⟨its,rv,p,hz⟩:=I1.tuple hq;obtain⟨jts,rw',p',hz'⟩:=I1.list hr;have lt:t<s1.heap.objs.size:=by obtain⟨o,e,_⟩:=id p;exact Heap.lt_size e
 have ll:l<s1.heap.objs.size:=by obtain⟨o,e,_⟩:=id p'.isList;exact Heap.lt_size e
 refine j0L p p'.isList fun h' a1 a2 a3 a4 a5 hk=>?_
 refine wpAny_pyIter_zip a1 ?_;have ne:∀{x:Addr} (i:Nat),x<s1.heap.objs.size->s1.heap.objs.size+i≠x:=fun i h=>Nat.ne_of_gt (Nat.lt_of_lt_of_le h (Nat.le_add_right _ _))
 have D:ZA (s1.heap.objs.size+4) (s1.heap.objs.size+2) (s1.heap.objs.size+3) s1.heap.objs.size (s1.heap.objs.size+1) [s1.heap.objs.size,t] [s1.heap.objs.size+1,l]:=
  ⟨jT (by decide),jT (by decide),jT (i:=0) (by decide),jT (by decide),jT (by decide),jT (j:=0) (by decide),jT (by decide),jT (j:=0) (by decide),jT (by decide),
   by simp[jT (n:=s1.heap.objs.size) (i:=4) (j:=0) (by decide),ne 4 lt],by simp[ne 3 lt],by simp[ne 1 lt],
   by simp[ne 4 ll],by simp[ne 3 ll],by simp[ne 0 ll,Nat.ne_of_gt ll]⟩
 refine⟨s1.heap.objs.size+4,[s1.heap.objs.size+4,s1.heap.objs.size+2,s1.heap.objs.size+3,s1.heap.objs.size,s1.heap.objs.size+1],_,_,H1,rfl,I1.kept (t':=s1.toks) hk,
  j1s t l _ _ _ _ _ D (Nat.ne_of_lt lt) (Nat.ne_of_lt (Nat.lt_succ_of_lt ll)),⟨a1,a2,⟨_,_,a3⟩,a4,a5⟩,fun c hc=>?_,q⟩
 have hc':s1.heap.objs.size<=c:=by
  rcases(by simpa using hc:c=s1.heap.objs.size+4\/c=s1.heap.objs.size+2\/c=s1.heap.objs.size+3\/c=s1.heap.objs.size\/c=s1.heap.objs.size+1)with rfl | rfl | rfl | rfl | rfl<;>omega
 exact I1.fpOk hc' (I1.hok.fresh hc')
theorem rd_iZipT{K:Frg}{ta:TA}{σ:St}{H:Hp}{R:It->Hp->Prop}(h:ta σ H fun vs H1=>∃a b xs ys,vs=[.ref a,.ref b]/\SqT K H1 a xs/\SqL K H1 b ys/\R (Izt K a b) H1):iZipT K ta σ H R:=h
theorem j0M{K:Frg}{a b:Addr}{xs zs:List V}{k:Nat}{ci:List Nat}{g:TG}{tf:TT}{te:TE}{σ:St}{H:Hp}{Z:Addr->List V->Hp->Prop}(Pv:Nat->List V->Hp->Prop)(hlen:xs.length=zs.length)(h0:Pv 0 [] H)(hl:∀i ys H,i<=xs.length->Pv i ys H->SqT K H a xs/\SqL K H b zs)
  (hs:∀i u v ys H T H',xs[i]?=some u->zs[i]?=some v->Pv i ys H->Same H H'->H' T=some (.tup [u,v])->g (.ref T) (capS k ci σ) H' fun σ2 H2=>tf σ2 H2 fun b H3=>if b=true then te σ2 H3 fun v H4=>ys.length<sizeLine/\Pv (i+1) (ys++[v]) H4 else Pv (i+1) ys H3)
  (hd:∀ys H,Pv xs.length ys H->ys.length<=sizeLine/\∀p,H p=none->Z p ys H) :
  ∃W:Nat->Nat->List V->Hp->Prop,(∃m,W 0 m [] H)/\∀i m ys H,W i m ys H->
   ((Izt K a b).stop i H/\ys.length<=sizeLine/\∀p,H p=none->Z p ys H)\/
   ((Izt K a b).go i H/\∃N:List V->Hp->Prop,(∀ys' H',N ys' H'->∃m',m'<m/\W (i+1) m' ys' H')/\∀x H',(Izt K a b).yld i H x H'->g x (capS k ci σ) H' fun σ2 H2=>tf σ2 H2 fun b H3=>
    if b=true then te σ2 H3 fun v H4=>ys.length<sizeLine/\N (ys++[v]) H4 else N ys H3):=by
 refine⟨fun i m ys H=>m=xs.length-i/\i<=xs.length/\Pv i ys H,⟨xs.length,by simp,Nat.zero_le _,h0⟩,?_⟩;rintro i m ys H ⟨rfl,hi,p⟩;obtain⟨q,q'⟩:=hl i ys H hi p;by_cases hlt:i<xs.length
 ·refine .inr ⟨⟨xs,xs[i],zs,zs[i],q,by simp[hlt],q',by simp⟩,Pv (i+1),fun ys' H' p'=>⟨xs.length-(i+1),by omega,rfl,hlt,p'⟩,fun x H' y=>?_⟩;obtain⟨T,u,v,rfl,hT,e,y,y'⟩:=y;exact hs i u v ys H T H' (y xs q) (y' zs q') p (fun b o h=>by rw[e,jo (jg h hT)];exact h) (by rw[e];exact jh)
 ·have e:i=xs.length:=by omega
  subst e;exact .inl ⟨⟨xs,q,Nat.le_refl _⟩,hd ys H p⟩
section
variable{prog:Program}{w:World}{A:Around}{E:Value->Shared->Prop}{s:Shared}
noncomputable abbrev emS(led:Bool):Obj:={cls:=.type "set",dict:=none,data:=.set #[] 0 (.fresh 0 0 led)}
set_option maxRecDepth 100000 in
set_option maxHeartbeats 3200000 in
theorem j0K{l:Addr}{items:Array Value}{xs:List Str}{Q:Value->Shared->Prop}(hh:A.handled=none)(hl:s.heap.IsList l items)(nd:xs.Nodup)(hn:xs.length=items.size)(hx:∀(i:Nat) (v:Value),items[i]?=some v->∃(x:Str) (t:Tok),xs[i]?=some x/\v = .str x t)(hb:items.size+1<scanBound)
  (h:∀(h':Heap) (tk:Nat),(∃S,h'.SetOf (strKind prog w) s.heap.objs.size S items.size)->(∀b o,s.heap.get? b=some o->h'.get? b=some o)->Q (.ref s.heap.objs.size) {s with heap:=h',toks:=tk}) :
  wpAny (model prog w) A (call (.type "set") [.ref l]) Q E s:=by
 obtain⟨c,tl,mr⟩:=F.called_set.mro;have k1:=F.called_set.made;have k2:=F.called_set.sub;refine wpAny_call (codeAny_of_tree ?_);show wpAny _ _ (callAny (.type "set") _) _ _ _;refine wpAny_pure ⟨Code.quiet_builtin _ (by decide +kernel),codeAny_builtin F.entry_type_call ?_⟩;rw[Around.under_plain (weight_type_call_type "set" [.ref l] []) rfl];have k3:=F.called_set.notType;have k4:=F.called_set.canCreate;have k5:=F.typeCall_set_1 (.ref l)
 repeat (any_goals (first | assumption | wp_step))
 refine codeAny_mono (code_set_new_1 (.ref l) (E:=E) (Q₁:=fun obj s₁=>∃led:Bool,obj = .ref s.heap.objs.size/\s₁={s with heap:=s.heap.push (emS led)}) fun led=>⟨led,rfl,rfl⟩) fun r s1 hr=>?_
 cases r with
 | error e=>exact hr
 | ok fl=>
  cases fl with
  | ret obj=>
   obtain⟨led,rfl,rfl⟩:=hr;have hS:(s.heap.push (emS led)).get? s.heap.objs.size=some (emS led):=Heap.get?_push_size _ rfl;have hT:Shared.TypeIs {s with heap:=s.heap.push (emS led)} (.ref s.heap.objs.size) "set":=⟨_,hS,rfl⟩
   have k6:=F.called_set.init.lookup;have k7:=F.called_set.init.bind (.ref s.heap.objs.size)
   repeat (any_goals (first | assumption | wp_step))
   refine codeAny_mono (codeAny_call_builtin (R:=wants (fun r s₂=>r = .none/\∃h' tk,s₂={s with heap:=h',toks:=tk}/\(∃S,h'.SetOf (strKind prog w) s.heap.objs.size S items.size)/\(∀b o,s.heap.get? b=some o->h'.get? b=some o)) E) F.called_set.init.plain F.entry_set_init (check_set_init_1 hT ?_)) fun r2 s2 hr2=>?_
   ·obtain⟨ol,hol,hcl,nl,hdl⟩:=hl;obtain⟨oc,od,odt,osl⟩:=ol;simp only at hcl hdl;subst hcl hdl;have hol':(s.heap.push (emS led)).get? l=some {cls:=.type "list",dict:=od,data:=.seq items nl,slots:=osl}:=Heap.get?_push_of_some _ hol;have j1:=F.sub_list_set;have j2:=F.sub_list_frozenset;have j3:(Value.type "list"== Value.type "dict")=false:=by decide
    have hl1:(s.heap.push (emS led)).IsList l items:=⟨_,hol',rfl,nl,rfl⟩
    unfold Builtin.«set.__init__» noKeywords Builtin.Frozenset.updateFrom;generalize hPI:pyIter=PI
    wp_walk
    subst hPI;refine wpAny_pyIter_list hl1 ?_;refine wpAny_bind (wpAny_runValue ?_);have lS:l<s.heap.objs.size:=Heap.lt_size hol;have h3:A.in1.in1.in1.handled=none:=by simp[hh]
    have n1:l≠(s.heap.push (emS led)).objs.size:=by rw[Heap.size_push];exact Nat.ne_of_lt (Nat.lt_succ_of_lt lS)
    have n2:s.heap.objs.size∉[(s.heap.push (emS led)).objs.size,l]:=by
     rw[Heap.size_push];simp only[mem_cons,not_mem_nil,or_false,not_or];exact⟨Nat.ne_of_lt (Nat.lt_succ_self _),Nat.ne_of_gt lS⟩
    refine j1k ((Walks.list h3 _ l n1 items).toS) s.heap.objs.size n2 xs nd hn hx hb (items.size-0) 0 _ (by omega) (Nat.zero_le _) ⟨⟨_,Heap.get?_push_size _ rfl,rfl,rfl⟩,(hl1.push _)⟩ ?hS0 ?hR
    case hS0=>
     have hg:((s.heap.push (emS led)).push {cls:=.type "list_iterator",data:=.fields #[.ref l,.int 0 0]}).get? s.heap.objs.size=some (emS led):=Heap.get?_push_of_some _ hS;exact PyProof.Rows.SetOf_congr ((PyProof.Rows.setObjOf_fresh (knd:=strKind prog w) led).setOf hg (by unfold scanBound;omega)) (fun y=>by simp) rfl
    case hR=>
     intro s' hm hS';obtain⟨h',g',d',tk',os'⟩:=s';have eg:g'=s.gens:=hm.gens;have ed:d'=s.drawn:=hm.drawn;have eo:os'=s.os:=hm.os;subst eg ed eo;show wpAny _ _ _ _ _ _;refine wpAny_pure ?_;show wpAny _ _ (ret Value.none) _ _ _;refine wpAny_pure ⟨rfl,h',tk',rfl,hS',fun b o e=>?_⟩;have lb:=Heap.lt_size e;have b2:b≠(s.heap.push (emS led)).objs.size:=by rw[Heap.size_push];exact Nat.ne_of_lt (Nat.lt_succ_of_lt lb)
     exact hm.heap b o (by simp only[mem_cons,not_mem_nil,or_false,not_or];exact⟨Nat.ne_of_lt lb,b2⟩) (Heap.get?_push_of_some _ (Heap.get?_push_of_some _ e))
   ·cases r2 with
    | error e=>exact hr2
    | ok fl2=>
     cases fl2 with
     | ret r=>
      obtain⟨rfl,h',tk,rfl,q1,q2⟩:=hr2
      repeat (any_goals (first | assumption | wp_step))
      exact h _ _ q1 q2
     | _=>exact hr2.elim
  | _=>exact hr.elim
end
section
variable{X:Cx}
def tLS(K:Frg)(te:TE):TE:=fun σ H Q=>te σ H fun x H1=>∃(a:Addr) (xs:List Str),x = .ref a/\SqL K H1 a (xs.map V.str)/\xs.Nodup/\xs.length<=200/\Q (.int xs.length) H1
theorem rd_ls{K:Frg}{te:TE}{σ:St}{H:Hp}{Q:VK}(h:te σ H fun x H1=>∃(a:Addr) (xs:List Str),x = .ref a/\SqL K H1 a (xs.map V.str)/\xs.Nodup/\xs.length<=200/\Q (.int xs.length) H1):tLS K te σ H Q:=h
theorem j19{e:Expr}{te:TE}{p p' pos pos':Pos}(hc:X.calm=true)(g1:Gl X "len")(m1:X.mg "len"= none)(g2:Gl X "set")(m2:X.mg "set"= none)(he:PE X e te)(b1:bootBuiltins "len"= some (.builtin "len"):=by decide +kernel)
  (hs0:starEach [.Call (.Name "set" p') [e] [] pos'] X.env=[(false,eval (.Call (.Name "set" p') [e] [] pos') X.env)]:=by rfl) (hs:starEach [e] X.env=[(false,eval e X.env)]:=by rfl) :
  PE X (.Call (.Name "len" p) [.Call (.Name "set" p') [e] [] pos'] [] pos) (tLS X.K te):=by
 intro pins s σ H Q I h;refine wpAny_Call_Name_kw (qp I g1 m1 b1 ?_);refine PyProof.Rows.callWith_builtin1 ?_ hs0 rfl;rw[hs0];refine Calls.spliced_cons ?_;refine Call_ (qp I g2 m2 j4k (PyProof.Rows.callWith_type1 ?_ hs rfl));rw[hs];refine Calls.spliced_cons (thn (he pins s σ H _ I h) fun u s1 ⟨x,H1,I1,r1,a,xs,ex,hq,nd,hz,q⟩=>Calls.spliced_nil ?_);subst ex;cases r1;obtain⟨its,rv,pl,_⟩:=I1.list hq;have lx:=rv.length;rw[length_map]at lx;refine j0K (xs:=xs) (I1.ok.hd hc) pl.isList nd (by rw[size_toArray];exact lx) (fun i v hv=>?_) (by rw[size_toArray,<-lx];unfold scanBound;omega) fun h' tk ⟨S,hS⟩ hk=>?_
 ·have hi:i<its.length:=by
   have:=(Array.getElem?_eq_some_iff.mp hv).1;simpa using this
  have ex:xs[i]?=some (xs[i]'(by omega)):=List.getElem?_eq_getElem _;obtain⟨u,hu,ru⟩:=rv.get (i:=i) (x:=V.str (xs[i]'(by omega))) (by rw[List.getElem?_map,ex];rfl);obtain⟨t,rfl⟩:=ru;have:v=_:=Option.some.inj (hv.symm.trans (show its.toArray[i]?=some _ by simpa using hu));exact⟨_,t,ex,this⟩
 ·refine Calls.spliced_nil ?_;obtain⟨o,es,ep,t,ho,hex,hd,_,_,hlt,hf,hsz⟩:=hS;have hsz:es.size=xs.length:=by rw[lx];exact hsz
  refine call_len_set ho hex hd hf (by rw[hsz];omega) ?_;have I2:Inv X pins σ H1 {s1 with heap:=h',toks:=tk}:=I1.kept hk;rw[hsz];exact⟨.int xs.length,H1,(I2.tok _).tok _,⟨_,rfl⟩,q⟩
end
section
variable{prog:Program}{w:World}{A:Around}{E:Value->Shared->Prop}{s:Shared}
theorem j3c(a v:Value):checkTypeCall "enumerate" ⟨[a],[(Str.ofString "start",v)]⟩=pure ():=by kernel_rfl
theorem j4s(a v:Value):checkBuiltinCall "enumerate.__new__" ⟨[.type "enumerate",a],[(Str.ofString "start",v)]⟩=pure ():=by kernel_rfl
theorem j3b(a b v:Value):argsOk "object.__init__" ⟨[a,b],[(Str.ofString "start",v)]⟩:=by
 unfold argsOk;rw[signature?_of (id:="object.__init__") (n:=['_','_','t','i','n','i','_','_']) (o:=['t','c','e','j','b','o']) (by kernel_rfl) F.owner_object];kernel_rfl
set_option maxRecDepth 100000 in
theorem WW(l:Addr)(items:Array Value)(n:Nat)(dct:Option Addr)(sl:Array (Option Value))(t:Tok) :
  Meets (Builtin.«enumerate.__new__» ⟨[.type "enumerate",.ref l],[(Str.ofString "start",.int 1 t)]⟩) (fun _ R s=>s.heap.get? l=some {cls:=.type "list",dict:=dct,data:=.seq items n,slots:=sl}/\
   R (.ok (.ret (.ref (s.heap.push {cls:=.type "list_iterator",data:=.fields #[.ref l,.int 0 0]}).objs.size)))
    {s with heap:=(s.heap.push {cls:=.type "list_iterator",data:=.fields #[.ref l,.int 0 0]}).push {cls:=.type "enumerate",data:=.fields #[.none,.bool false,.ref s.heap.objs.size,rawInt 1,.none,.none]}}):=
 .of_wp fun prog w A R s h=>by
  obtain⟨hp,g,d,tk,os⟩:=s;obtain⟨hl,h⟩:=h;have hsub:=sub_enumerate;have hL:Heap.IsList (Shared.heap ⟨hp,g,d,tk,os⟩) l items:=⟨_,hl,rfl,n,rfl⟩
  wp_walk using AutoSeq1.wpAny_loadPart' hl
  refine wpAny_stack_any fun st=>wpAny_pure ?_
  split
  ·rename_i c _ _ _ _ _;cases(c==Value.type "enumerate")
   ·wp_walk using AutoSeq1.wpAny_loadPart' hl,wpAny_pyIter_list hL
    exact⟨_,rfl,h⟩
   ·wp_walk using AutoSeq1.wpAny_loadPart' hl,wpAny_pyIter_list hL
    exact⟨_,rfl,h⟩
  ·wp_walk using AutoSeq1.wpAny_loadPart' hl,wpAny_pyIter_list hL
   exact⟨_,rfl,h⟩
theorem WX{T newId:String}{self a v:Value}(hl:typeLookup (.type T) "__init__"= pure (some (.builtin "object.__init__")))(hm:Bind.madeBy (.type T)=pure (some newId))(hne:(some newId != some "object.__new__")=true) :
  Meets (Builtin.«object.__init__» ⟨[self,a],[(Str.ofString "start",v)]⟩) (fun _ R s=>s.TypeIs self T/\R (.ok (.ret .none)) s):=by
 refine Meets.of_wp fun prog w A R s hs=>?_
 obtain⟨hT,hq⟩:=hs
 repeat (any_goals (first | assumption | wp_step))
 exact⟨_,rfl,hq⟩
set_option maxRecDepth 100000 in
set_option maxHeartbeats 3200000 in
theorem xG{l:Addr}{items:Array Value}{t:Tok}{Q:Value->Shared->Prop}(hL:s.heap.IsList l items)
  (h:∀h',IsEnum h' (s.heap.objs.size+1) s.heap.objs.size 1 .none->h'.IsListIter s.heap.objs.size l 0->(∀b o,s.heap.get? b=some o->h'.get? b=some o)->Q (.ref (s.heap.objs.size+1)) {s with heap:=h'}) :
  wpAny (model prog w) A (call (.type "enumerate") [.ref l] [(Str.ofString "start",.int 1 t)]) Q E s:=by
 obtain⟨⟨c,dct,dt,sl⟩,hl,hc,n,hd⟩:=hL
 replace hc:c = .type "list":=hc
 replace hd:dt = .seq items n:=hd
 subst hc hd;have ft:=F.called_enumerate;obtain⟨c,tl,mr⟩:=ft.mro;have k1:=ft.made;have k2:=ft.sub;refine wpAny_call (codeAny_of_tree ?_);show wpAny _ _ (callAny (.type "enumerate") _) _ _ _;refine wpAny_pure ⟨Code.quiet_builtin _ (by decide +kernel),codeAny_builtin F.entry_type_call ?_⟩;rw[Around.under_plain (weight_type_call_type "enumerate" [.ref l] [(Str.ofString "start",.int 1 t)]) (units_type_call_type "enumerate" [.ref l] [(Str.ofString "start",.int 1 t)])];have k3:=ft.notType;have k4:=ft.canCreate;have k5:=j3c (.ref l) (.int 1 t)
 repeat (any_goals (first | assumption | wp_step))
 refine codeAny_mono (codeAny_call_builtin ft.plain F.entry_enumerate_new (wpAny_of_eq (j4s (.ref l) (.int 1 t)) (WW l items n dct sl t prog w A.in1 (wants (fun obj s₁=>obj = .ref (s.heap.objs.size+1)/\∃h',s₁={s with heap:=h'}/\IsEnum h' (s.heap.objs.size+1) s.heap.objs.size 1 .none/\h'.IsListIter s.heap.objs.size l 0/\∀b o,s.heap.get? b=some o->h'.get? b=some o) E) s ⟨hl,?_⟩))) fun r s1 hr=>?_
 ·have hz:(s.heap.push {cls:=.type "list_iterator",data:=.fields #[.ref l,.int 0 0]}).objs.size=s.heap.objs.size+1:=Heap.size_push ..;have he:=Heap.get?_push_size (s.heap.push {cls:=.type "list_iterator",data:=.fields #[.ref l,.int 0 0]}) (o:={cls:=.type "enumerate",data:=.fields #[.none,.bool false,.ref s.heap.objs.size,rawInt 1,.none,.none]}) rfl;rw[hz]at he;exact⟨by rw[hz],_,rfl,he,⟨_,Heap.get?_push_of_some _ (Heap.get?_push_size _ rfl),rfl,rfl⟩,fun b o x=>Heap.get?_push_of_some _ (Heap.get?_push_of_some _ x)⟩
 cases r with
 | error e=>exact hr
 | ok fl=>
  cases fl with
  | ret obj=>
   obtain⟨rfl,h',rfl,he,hi,hk⟩:=hr;have hT:Shared.TypeIs {s with heap:=h'} (.ref (s.heap.objs.size+1)) "enumerate":=⟨_,he,rfl⟩
   have k6:=ft.init.lookup;have k7:=ft.init.bind (.ref (s.heap.objs.size+1))
   repeat (any_goals (first | assumption | wp_step))
   refine codeAny_mono (codeAny_call_builtin ft.init.plain F.entry_object_init (ft.init.check _ _ _ _ _ _ _ _ hT (j3b _ _ _) (WX ft.init.lookup ft.made (by decide) prog w A.in1 (wants (fun r s₂=>r = .none/\s₂={s with heap:=h'}) E) _ ⟨hT,rfl,rfl⟩))) fun r2 s2 hr2=>?_
   cases r2 with
   | error e=>exact hr2
   | ok fl2=>
    cases fl2 with
    | ret r=>
     obtain⟨rfl,rfl⟩:=hr2
     repeat (any_goals (first | assumption | wp_step))
     exact h h' he hi hk
    | _=>exact hr2.elim
  | _=>exact hr.elim
theorem xM{e it:Addr}{fp:List Addr}{P P':Heap->Prop}{n:Int}{x old:Value}{Q:Value->Shared->Prop}(N:Nxt prog w it fp P P' x)(ne:e≠it)(nf:e∉fp)(he:IsEnum s.heap e it n old)(h1:P s.heap)
  (hQ:∀h',IsEnumOut h' e it (n+1) x s.heap.objs.size->P' h'->h'.get? s.heap.objs.size=some {cls:=.type "tuple",data:=.seq #[.int n s.toks,x]}->(∀b o,b≠e->b≠it->s.heap.get? b=some o->h'.get? b=some o)->Q (.ref s.heap.objs.size) {s with heap:=h',toks:=s.toks+1}) :
  wpAny (model prog w) A (Builtin.«enumerate.__next__» ⟨[.ref e],[]⟩) (fun fin s'=>∃v,fin = .done (.ret v)/\Q v s') E s:=by
 obtain⟨hp,g,d,tk,os⟩:=s;show wpAny _ _ (field (.ref e) 2 >>= _) _ _ _;refine wpAny_bind (wpAny_field he rfl (x:=.ref it) rfl ?_);refine wpAny_bind (N.run _ _ _ _ h1 fun a1 p1 s1=>?_)
 replace s1:Heap.SameBut it hp a1:=s1
 have e1:IsEnum a1 e it n old:=(s1.2 e ne).trans he;show wpAny _ _ (field (.ref e) 3 >>= _) _ _ ⟨a1,g,d,tk,os⟩;refine wpAny_bind (wpAny_field e1 rfl (x:=rawInt n) rfl ?_);show wpAny _ _ (field (.ref e) 4 >>= _) _ _ ⟨a1,g,d,tk,os⟩;refine wpAny_bind (wpAny_field e1 rfl (x:=.none) rfl ?_);show wpAny _ _ (mkInt n >>= _) _ _ ⟨a1,g,d,tk,os⟩;refine wpAny_bind (wpAny_mkInt ?_);show wpAny _ _ (setField (.ref e) 3 (rawInt (n+1)) >>= _) _ _ ⟨a1,g,d,tk+1,os⟩;refine wpAny_bind (wpAny_setField_rec e1 (by simp) fun a2 e2 s2=>?_)
 replace s2:Heap.SameBut e a1 a2:=s2
 replace e2:IsEnum a2 e it (n+1) old:=e2
 show wpAny _ _ (setField (.ref e) 4 .none >>= _) _ _ ⟨a2,g,d,tk+1,os⟩;refine wpAny_bind (wpAny_setField_rec e2 (by simp) fun a3 e3 s3=>?_)
 replace s3:Heap.SameBut e a2 a3:=s3
 replace e3:IsEnum a3 e it (n+1) old:=e3
 show wpAny _ _ (newTuple [.int n tk,x] >>= _) _ _ ⟨a3,g,d,tk+1,os⟩;refine wpAny_bind (wpAny_newTuple (hsz:=by show 2<=sizeLine;decide) ?_);have e4:IsEnum (a3.push {cls:=.type "tuple",data:=.seq #[.int n tk,x]}) e it (n+1) old:=Heap.get?_push_of_some _ e3;have sz:a3.objs.size=hp.objs.size:=by rw[s3.1,s2.1,s1.1]
 have lt:e<hp.objs.size:=Heap.lt_size he;have t4:(a3.push {cls:=.type "tuple",data:=.seq #[.int n tk,x]}).get? hp.objs.size=some {cls:=.type "tuple",data:=.seq #[.int n tk,x]}:=by rw[<-sz];exact Heap.get?_push_size _ rfl
 have k4:∀b o,b≠e->a1.get? b=some o->(a3.push {cls:=.type "tuple",data:=.seq #[.int n tk,x]}).get? b=some o:=fun b o hb q=>Heap.get?_push_of_some _ (s3.extBut b o hb (s2.extBut b o hb q))
 generalize a3.push {cls:=.type "tuple",data:=.seq #[.int n tk,x]}=a4 at e4 t4 k4;show wpAny _ _ (Builtin.SmallTypes.ownedTupleIsFree (.ref e) >>= _) _ _ ⟨a4,g,d,tk+1,os⟩;rw[sz];refine wpAny_bind ?_;unfold Builtin.SmallTypes.ownedTupleIsFree;refine wpAny_bind (wpAny_field e4 rfl (x:=.none) rfl (wpAny_pure ?_));simp only[if_true];refine wpAny_bind (wpAny_rule ?_);refine wpAny_bind (wpAny_field e4 rfl (x:=old) rfl ?_);refine wpAny_bind (wpAny_setField_rec e4 (by simp) fun a5 e5 s5=>?_)
 replace s5:Heap.SameBut e a4 a5:=s5
 replace e5:IsEnum a5 e it (n+1) x:=e5
 show wpAny _ _ (Builtin.SmallTypes.ownedTupleHandOut (.ref e) (.ref hp.objs.size) >>= _) _ _ ⟨a5,g,d,tk+1,os⟩;refine wpAny_bind ?_;unfold Builtin.SmallTypes.ownedTupleHandOut;refine wpAny_bind (wpAny_setField_rec e5 (by simp) fun a6 e6 s6=>?_)
 replace s6:Heap.SameBut e a5 a6:=s6
 replace e6:IsEnumOut a6 e it (n+1) x hp.objs.size:=e6
 refine wpAny_setField_rec e6 (by simp) fun a7 e7 s7=>?_
 replace s7:Heap.SameBut e a6 a7:=s7
 replace e7:IsEnumOut a7 e it (n+1) x hp.objs.size:=e7
 have up:∀b o,b≠e->a4.get? b=some o->a7.get? b=some o:=fun b o hb q=>s7.extBut b o hb (s6.extBut b o hb (s5.extBut b o hb q))
 refine wpAny_bind (wpAny_letGo (wpAny_pure ⟨_,rfl,hQ a7 e7 ?_ (up _ _ (Nat.ne_of_gt lt) t4) fun b o n1 n2 q=>up b o n1 (k4 b o n1 (s1.extBut b o n2 q))⟩));exact N.kp' _ _ p1 fun b hb o q=>up b o (fun z=>nf (z▸hb)) (k4 b o (fun z=>nf (z▸hb)) q)
end
def Ite1(K:Frg)(a:Addr):It:=
 ⟨fun i H=>∃xs x,SqL K H a xs/\xs[i]?=some x,fun i H x H'=>∃T v,x = .ref T/\H T=none/\H'=upd H T (.tup [.int (i+1),v])/\∀xs,SqL K H a xs->xs[i]?=some v,fun i H=>∃xs,SqL K H a xs/\xs.length<=i⟩
theorem Xx{P:Program}{w:World}{K:Frg}{elts:List Expr}{k:Nat}{pos:Pos}(a e it:Addr)(hne:e≠it)(na:a≠e)(ni:a≠it) :
  Turn P w K (.Tuple elts k pos) (Ite1 K a) [e,it] e (fun i h=>(∃old,IsEnum h e it ((i:Nat)+1) old)/\h.IsListIter it a i) where
 mem:=by simp
 obj:=fun i h st b hb=>by
  obtain⟨⟨old,he⟩,o,eo,_,d⟩:=st;rcases(by simpa using hb:b=e\/b=it)with rfl | rfl
  ·exact⟨_,he,fun v z=>by cases z⟩
  ·exact⟨o,eo,fun v z=>by rw[d]at z;cases z⟩
 keep:=fun i h h' ⟨⟨old,he⟩,hi⟩ k=>⟨⟨old,k e (by simp) _ he⟩,hi.at fun o q=>k it (by simp) o q⟩
 item:=by
  intro X hP hw hK hc i pins s σ H E I hf st hg;subst hP hw hK;obtain⟨xs,x,hq,hx⟩:=hg;obtain⟨its,rv,p,hz⟩:=I.list hq;obtain⟨u,hu,ru⟩:=rv.get hx;obtain⟨⟨old,he⟩,hit⟩:=st;have le:e<s.heap.objs.size:=Heap.lt_size he;have li:it<s.heap.objs.size:=by obtain⟨o,q,_⟩:=id hit;exact Heap.lt_size q
  have hTy:s.TypeIs (.ref e) "enumerate":=⟨_,he,rfl⟩
  unfold pyNext;refine wpAny_bind (wpAny_attempt (wpAny_callSpecial?_slot (name:=Str.ofString "__next__") hTy F.slot_enumerate_next (wpAny_call_entry F.slot_enumerate_next hTy F.entry_enumerate_next ?_ (F.args_enumerate_next_1 _))));refine xM (j0b ni (x:=u) (xs:=its.toArray) (by simpa using hu)) hne (by simp[hne,na.symm]) he ⟨hit,p.isList⟩ fun h' ho p' hT hk=>wpAny_pure ?_
  obtain⟨I1,f1⟩:=I.pair (t':=s.toks+1) (ch:=[e,it]) (x:=.int (i+1)) (y:=x) hf (fun b hb=>by rcases(by simpa using hb:b=e\/b=it)with rfl | rfl<;>assumption) ⟨s.toks,rfl⟩ ru hT
   (fun b o hb q=>hk b o (fun z=>hb (by simp[z])) (fun z=>hb (by simp[z])) q)
  refine⟨_,rfl,wpAny_letOwnedTupleGo_enum ho fun h2 he2 sb=>?_⟩;have I2:=I1.turnedL (h':=h2) (t':=s.toks+1) (ch:=[e,it]) f1 fun b o hb q=>(sb.2 b fun z=>hb (by simp[z])).trans q
  exact⟨.ref s.heap.objs.size,_,I2,rfl,⟨_,x,rfl,I.hok.fresh (Nat.le_refl _),rfl,fun ys hy=>by rw[I.list_inj hy hq];exact hx⟩,
   ⟨⟨u,by simpa using he2⟩,p'.1.at fun o q=>(sb.2 it hne.symm).trans q⟩,fun b hb=>(f1 b hb).1⟩
 done:=by
  intro X hP hw hK hc i pins s σ H E I hf st hg;subst hP hw hK;obtain⟨xs,hq,hx⟩:=hg;obtain⟨its,rv,p,hz⟩:=I.list hq;obtain⟨⟨old,he⟩,hit⟩:=st;have hl:=rv.length;have hTy:s.TypeIs (.ref e) "enumerate":=⟨_,he,rfl⟩
  unfold pyNext;refine wpAny_bind (wpAny_attempt (wpAny_callSpecial?_slot (name:=Str.ofString "__next__") hTy F.slot_enumerate_next (wpAny_call_entry F.slot_enumerate_next hTy F.entry_enumerate_next ?_ (F.args_enumerate_next_1 _))));show wpAny _ _ (field (.ref e) 2 >>= _) _ _ _;refine wpAny_bind (wpAny_field he rfl (x:=.ref it) rfl ?_);refine wpAny_bind (wpAny_nextOf_list_end (I.ok.hd hc) hit p.isList (by simp;omega) fun h' x eb hx'=>?_);obtain⟨o,ho,hc⟩:=hx';refine wpAny_bind (wpAny_isInstance (T:="StopIteration") (b:=true) ⟨o,ho,hc⟩ isSubtype_stop ?_);exact wpAny_pure ⟨rfl,I.turnedL (t':=s.toks) (ch:=[e,it]) hf fun b o hb q=>eb b o (fun z=>hb (by simp[z])) q⟩
 self:=fun _ _ _ _ _ st h=>let ⟨_,he⟩:=st.1;wpAny_pyIter_enum he h
def iEnum1(K:Frg)(ta:TA)(tk:TE):TI:=fun σ H R=>ta σ H fun vs H1=>tk σ H1 fun y H2=>y = .int 1/\∃a xs,vs=[.ref a]/\SqL K H2 a xs/\R (Ite1 K a) H2
theorem rd_iEnum1{K:Frg}{ta:TA}{tk:TE}{σ:St}{H:Hp}{R:It->Hp->Prop}(h:ta σ H fun vs H1=>tk σ H1 fun y H2=>y = .int 1/\∃a xs,vs=[.ref a]/\SqL K H2 a xs/\R (Ite1 K a) H2):iEnum1 K ta tk σ H R:=h
theorem Y8{M:Model}{A:Around}{E:Value->Shared->Prop}{s:Shared}{env:Env}{pos:Pos}{T:String}{e:Expr}{kws:List Keyword}{Q:Value->Shared->Prop}
  (h:wpAny M A (spliced (backTo pos (starEach [e] env))) (fun vs s₁=>wpAny M A (evalAll ((backToKw pos (keywordEach kws env)).map (·.2))) (fun kvs s₂=>wpAny M A (call (.type T) vs (((backToKw pos (keywordEach kws env)).filterMap (·.1)).zip kvs)) Q E s₂) E s₁) E s)
  (he:backTo pos (starEach [e] env)=[(false,eval e env)]) (hall:(backToKw pos (keywordEach kws env)).all (·.1.isSome)=true) (hkw:(backToKw pos (keywordEach kws env)).any (·.1.isNone)=false) :
  wpAny M A (callWith pos (.type T) [] (backTo pos (starEach [e] env)) (backToKw pos (keywordEach kws env))) Q E s:=by
 unfold callWith;have q:wpAny M A (evalArgs (.type T) true (backTo pos (starEach [e] env)) (backToKw pos (keywordEach kws env))) (fun a s₁=>wpAny M A (call (.type T) a.pos a.kw) Q E s₁) E s:=by
  rw[he]at h|-;exact evalArgs_kwB hall h
 refine wpAny_bind (wpAny_holding (wpAny_mono q (fun a s1 h1=>wpAny_bind (wpAny_standAt ?_)) fun _ _ x=>x));simp only[hkw,he,any_cons,List.any_nil,Bool.or_false];refine wpAny_bind (wpAny_pure ?_);exact wpAny_bind (wpAny_mono h1 (fun r s2 hr=>wpAny_bind (wpAny_holding (wpAny_point (wpAny_pure hr)))) fun _ _ x=>x)
theorem j2u{X:Cx}{a v:Expr}{ta:TA}{tk:TE}{elts:List Expr}{k:Nat}{p pos pos' kp:Pos}(hg:Gl X "enumerate")(hm:X.mg "enumerate"= none)(ha:PA X [a] ta)(hv:PE X v tk)(hs:starEach [a] X.env=[(false,eval a X.env)]:=by rfl)
  (hk:(backToKw pos (keywordEach [⟨some "start",v,kp⟩] X.env)).filterMap (·.1)=[Str.ofString "start"]:=by rfl) (hall:(backToKw pos (keywordEach [⟨some "start",v,kp⟩] X.env)).all (·.1.isSome)=true:=by rfl) (hkw:(backToKw pos (keywordEach [⟨some "start",v,kp⟩] X.env)).any (·.1.isNone)=false:=by rfl) :
  PI X (.Tuple elts k pos') (.Call (.Name "enumerate" p) [a] [⟨some "start",v,kp⟩] pos) (iEnum1 X.K ta tk):=by
 intro pins s σ H R I h;refine wpAny_Call_Name_kw (qp I hg hm yw (Y8 (thn (ha pos pins s σ H _ I h) fun us s1 ⟨vs,H1,I1,r1,q1⟩=>?_) (by rw[hs];rfl) hall hkw));refine kws_cons (thn (hv pins s1 σ H1 _ I1 q1) fun y s2 ⟨y',H2,I2,r2,ey,b,xs,ev,hq,q⟩=>kws_nil ?_);subst ey;subst ev;obtain⟨t,rfl⟩:=r2;rw[hk];obtain⟨u,rfl,ru⟩:=vals1 r1;cases ru;obtain⟨its,rv,pl,hz⟩:=I2.list hq;have lb:b<s2.heap.objs.size:=by obtain⟨o,e,_⟩:=id pl.isList;exact Heap.lt_size e
 refine xG pl.isList fun h' he hit hk=>?_
 refine wpAny_pyIter_enum he ?_;refine⟨s2.heap.objs.size+1,[s2.heap.objs.size+1,s2.heap.objs.size],_,_,H2,rfl,I2.kept (t':=s2.toks) hk,Xx b _ _ (Nat.succ_ne_self _) (Nat.ne_of_lt (Nat.lt_succ_of_lt lb)) (Nat.ne_of_lt lb),⟨⟨_,by simpa using he⟩,hit⟩,fun c hc=>?_,q⟩;rcases(by simpa using hc:c=s2.heap.objs.size+1\/c=s2.heap.objs.size)with rfl | rfl
 ·exact I2.fpOk (Nat.le_succ _) (I2.hok.fresh (Nat.le_succ _))
 ·exact I2.fpOk (Nat.le_refl _) (I2.hok.fresh (Nat.le_refl _))
theorem j0P{K:Frg}{a:Addr}{xs:List V}{g:TG}{tb:TS}{D:Ends}{σ:St}{H:Hp}(Pv:Nat->St->Hp->Prop)(h0:Pv 0 σ H)(hl:∀i σ H,i<=xs.length->Pv i σ H->SqL K H a xs)
  (hs:∀i v σ H T H',xs[i]?=some v->Pv i σ H->Same H H'->H' T=some (.tup [.int (i+1),v])->g (.ref T) σ H' fun σ2 H2=>tb {D with nx:=Pv (i+1),ct:=Pv (i+1),bk:=D.nx} σ2 H2) (hd:∀σ H,Pv xs.length σ H->D.nx σ H) :
  ∃W:Nat->Nat->St->Hp->Prop,(∃m,W 0 m σ H)/\∀i m σ H,W i m σ H->
   ((Ite1 K a).stop i H/\D.nx σ H)\/((Ite1 K a).go i H/\∃N:St->Hp->Prop,(∀σ' H',N σ' H'->∃m',m'<m/\W (i+1) m' σ' H')/\∀x H',(Ite1 K a).yld i H x H'->g x σ H' fun σ2 H2=>tb {D with nx:=N,ct:=N,bk:=D.nx} σ2 H2):=by
 refine⟨fun i m σ H=>m=xs.length-i/\i<=xs.length/\Pv i σ H,⟨xs.length,by simp,Nat.zero_le _,h0⟩,?_⟩;rintro i m σ H ⟨rfl,hi,p⟩;have q:=hl i σ H hi p;by_cases hlt:i<xs.length
 ·refine .inr ⟨⟨xs,xs[i],q,by simp[hlt]⟩,Pv (i+1),fun σ' H' p'=>⟨xs.length-(i+1),by omega,rfl,hlt,p'⟩,fun x H' y=>?_⟩;obtain⟨T,v,rfl,hT,e,y⟩:=y;exact hs i v σ H T H' (y xs q) p (fun b o h=>by rw[e,jo (jg h hT)];exact h) (by rw[e];exact jh)
 ·have e:i=xs.length:=by omega
  subst e;exact .inl ⟨⟨xs,q,Nat.le_refl _⟩,hd σ H p⟩
section
variable{σ:St}{H:Hp}{D:Ends}{Q:VK}{ta tb te:TE}
theorem rd_seq{t u:TS}(h:t {D with nx:=u D} σ H):tSeq t u D σ H:=h
theorem rd_asg{g:TG}(h:te σ H fun x H1=>g x σ H1 D.nx):tAsg te g D σ H:=h
theorem rd_v0{v:V}{r:St}(h:Q v H):tVar 0 (some v::r) H Q:=⟨v,rfl,h⟩
theorem rd_n0{a0:Option V}{v:V}{r:St}{R:St->Hp->Prop}(h:R (some v::r) H):gName 0 v (a0::r) H R:=h
theorem rd_v1{a0:Option V}{v:V}{r:St}(h:Q v H):tVar 1 (a0::some v::r) H Q:=⟨v,rfl,h⟩
theorem rd_n1{a0 a1:Option V}{v:V}{r:St}{R:St->Hp->Prop}(h:R (a0::some v::r) H):gName 1 v (a0::a1::r) H R:=h
theorem rd_v2{a0 a1:Option V}{v:V}{r:St}(h:Q v H):tVar 2 (a0::a1::some v::r) H Q:=⟨v,rfl,h⟩
theorem rd_n2{a0 a1 a2:Option V}{v:V}{r:St}{R:St->Hp->Prop}(h:R (a0::a1::some v::r) H):gName 2 v (a0::a1::a2::r) H R:=h
theorem rd_v3{a0 a1 a2:Option V}{v:V}{r:St}(h:Q v H):tVar 3 (a0::a1::a2::some v::r) H Q:=⟨v,rfl,h⟩
theorem rd_n3{a0 a1 a2 a3:Option V}{v:V}{r:St}{R:St->Hp->Prop}(h:R (a0::a1::a2::some v::r) H):gName 3 v (a0::a1::a2::a3::r) H R:=h
theorem rd_v4{a0 a1 a2 a3:Option V}{v:V}{r:St}(h:Q v H):tVar 4 (a0::a1::a2::a3::some v::r) H Q:=⟨v,rfl,h⟩
theorem rd_n4{a0 a1 a2 a3 a4:Option V}{v:V}{r:St}{R:St->Hp->Prop}(h:R (a0::a1::a2::a3::some v::r) H):gName 4 v (a0::a1::a2::a3::a4::r) H R:=h
theorem rd_v5{a0 a1 a2 a3 a4:Option V}{v:V}{r:St}(h:Q v H):tVar 5 (a0::a1::a2::a3::a4::some v::r) H Q:=⟨v,rfl,h⟩
theorem rd_n5{a0 a1 a2 a3 a4 a5:Option V}{v:V}{r:St}{R:St->Hp->Prop}(h:R (a0::a1::a2::a3::a4::some v::r) H):gName 5 v (a0::a1::a2::a3::a4::a5::r) H R:=h
theorem rd_v6{a0 a1 a2 a3 a4 a5:Option V}{v:V}{r:St}(h:Q v H):tVar 6 (a0::a1::a2::a3::a4::a5::some v::r) H Q:=⟨v,rfl,h⟩
theorem rd_n6{a0 a1 a2 a3 a4 a5 a6:Option V}{v:V}{r:St}{R:St->Hp->Prop}(h:R (a0::a1::a2::a3::a4::a5::some v::r) H):gName 6 v (a0::a1::a2::a3::a4::a5::a6::r) H R:=h
theorem rd_v7{a0 a1 a2 a3 a4 a5 a6:Option V}{v:V}{r:St}(h:Q v H):tVar 7 (a0::a1::a2::a3::a4::a5::a6::some v::r) H Q:=⟨v,rfl,h⟩
theorem rd_n7{a0 a1 a2 a3 a4 a5 a6 a7:Option V}{v:V}{r:St}{R:St->Hp->Prop}(h:R (a0::a1::a2::a3::a4::a5::a6::some v::r) H):gName 7 v (a0::a1::a2::a3::a4::a5::a6::a7::r) H R:=h
theorem rd_v8{a0 a1 a2 a3 a4 a5 a6 a7:Option V}{v:V}{r:St}(h:Q v H):tVar 8 (a0::a1::a2::a3::a4::a5::a6::a7::some v::r) H Q:=⟨v,rfl,h⟩
theorem rd_n8{a0 a1 a2 a3 a4 a5 a6 a7 a8:Option V}{v:V}{r:St}{R:St->Hp->Prop}(h:R (a0::a1::a2::a3::a4::a5::a6::a7::some v::r) H):gName 8 v (a0::a1::a2::a3::a4::a5::a6::a7::a8::r) H R:=h
theorem rd_v9{a0 a1 a2 a3 a4 a5 a6 a7 a8:Option V}{v:V}{r:St}(h:Q v H):tVar 9 (a0::a1::a2::a3::a4::a5::a6::a7::a8::some v::r) H Q:=⟨v,rfl,h⟩
theorem rd_n9{a0 a1 a2 a3 a4 a5 a6 a7 a8 a9:Option V}{v:V}{r:St}{R:St->Hp->Prop}(h:R (a0::a1::a2::a3::a4::a5::a6::a7::a8::some v::r) H):gName 9 v (a0::a1::a2::a3::a4::a5::a6::a7::a8::a9::r) H R:=h
theorem rd_const{v:V}(h:Q v H):tC v σ H Q:=h
theorem rd_op{r:R2}(h:ta σ H fun x H1=>tb σ H1 fun y H2=>r x y H2 Q):tOp r ta tb σ H Q:=h
theorem rd_un{r:V->Hp->VK->Prop}(h:ta σ H fun x H1=>r x H1 Q):tUn r ta σ H Q:=h
theorem rd_i0{g:Int->Int->V}{i j:Int}(h:Q (g i j) H):rI0 g (.int i) (.int j) H Q:=⟨i,j,rfl,rfl,h⟩
theorem j5l{C:Int->Int->Prop}{g:Int->Int->V}{i j:Int}(c:C i j)(h:Q (g i j) H):rI C g (.int i) (.int j) H Q:=⟨i,j,rfl,rfl,c,h⟩
theorem rd_u{g:Int->V}{i:Int}(h:Q (g i) H):rU g (.int i) H Q:=⟨i,rfl,h⟩
theorem rd_eqI{i j:Int}(h:Q (.bl (decide (i=j))) H):rEq (.int i) (.int j) H Q:=by
 refine⟨rfl,?_⟩;rw[show decide (V.int i=V.int j)=decide (i=j) by simp];exact h
theorem rd_neI{i j:Int}(h:Q (.bl (!decide (i=j))) H):rNe (.int i) (.int j) H Q:=by
 refine⟨rfl,?_⟩;rw[show decide (V.int i=V.int j)=decide (i=j) by simp];exact h
theorem rd_eqS{i j:Str}(h:Q (.bl (decide (i=j))) H):rEq (.str i) (.str j) H Q:=by
 refine⟨rfl,?_⟩;rw[show decide (V.str i=V.str j)=decide (i=j) by simp];exact h
theorem rd_neS{i j:Str}(h:Q (.bl (!decide (i=j))) H):rNe (.str i) (.str j) H Q:=by
 refine⟨rfl,?_⟩;rw[show decide (V.str i=V.str j)=decide (i=j) by simp];exact h
theorem rd_if{c:TT}{t u:TS}(h:c σ H fun b H1=>if b=true then t D σ H1 else u D σ H1):tIfS c t u D σ H:=h
theorem rd_test{R:Bool->Hp->Prop}(h:te σ H fun x H'=>∃k,x = .bl k/\R k H'):tTest te σ H R:=h
theorem rd_tB{R:Bool->Hp->Prop}(h:te σ H fun x H'=>∃k,x = .bl k/\R k H'):tB te σ H R:=h
theorem rd_blP{k:Bool}{R:Bool->Prop}(h:R k):∃k',V.bl k = .bl k'/\R k':=⟨k,rfl,h⟩
theorem rd_not{t:TT}{R:Bool->Hp->Prop}(h:t σ H fun c H1=>R (!c) H1):tNot t σ H R:=h
theorem rd_and{t u:TT}{R:Bool->Hp->Prop}(h:t σ H fun c H1=>if c=true then u σ H1 R else R false H1):tAnd t u σ H R:=h
theorem rd_or{t u:TT}{R:Bool->Hp->Prop}(h:t σ H fun c H1=>if c=true then R true H1 else u σ H1 R):tOr t u σ H R:=h
theorem rd_andV(h:ta σ H fun x H1=>∃c,x = .bl c/\if c=true then tb σ H1 Q else Q (.bl false) H1):tAndV ta tb σ H Q:=h
theorem rd_ifE{t:TT}(h:t σ H fun c H1=>if c=true then ta σ H1 Q else tb σ H1 Q):tIf t ta tb σ H Q:=h
theorem rd_ret(h:te σ H D.rt):tRet te D σ H:=h
theorem rd_retN(h:D.rt .non H):tRetN D σ H:=h
theorem rd_next(h:D.nx σ H):tNext D σ H:=h
theorem rd_drop(h:te σ H fun _ H1=>D.nx σ H1):tDrop te D σ H:=h
theorem rd_cb{r:List V->Hp->VK->Prop}{t:TA}(h:t σ H fun vs H1=>r vs H1 Q):tCB r t σ H Q:=h
theorem rd_call{sp:Sp}{dvs:List V}{E:XK}{t:TA}(h:t σ H fun vs H1=>sp (vs++dvs) H1 Q E):tCall sp dvs E t σ H Q:=h
theorem rd_dIn(h:ta σ H fun y H1=>tb σ H1 fun x H2=>∃a o,x = .ref a/\DGet H2 a y o/\Q (.bl o.isSome) H2):tDIn ta tb σ H Q:=h
theorem rd_nil{R:List V->Hp->Prop}(h:R [] H):tNil σ H R:=h
theorem rd_cons{tr:TA}{R:List V->Hp->Prop}(h:ta σ H fun x H1=>tr σ H1 fun xs H2=>R (x::xs) H2):tCons ta tr σ H R:=h
theorem rd_lst{t:TA}(h:t σ H fun xs H1=>xs.length<=sizeLine/\∀p,H1 p=none->Q (.ref p) (upd H1 p (.lst xs))):tLst t σ H Q:=h
theorem rd_tup{t:TA}(h:t σ H fun xs H1=>xs.length<=sizeLine/\∀p,H1 p=none->Q (.ref p) (upd H1 p (.tup xs))):tTup t σ H Q:=h
theorem rd_chain{r r':R2}{tc:TE}(h:ta σ H fun x H1=>tb σ H1 fun y H2=>r x y H2 fun z H3=>∃k,z = .bl k/\(if k=true then tc σ H3 fun w' H4=>r' y w' H4 Q else Q (.bl false) H3)):tChain r r' ta tb tc σ H Q:=h
theorem rd_bm{K:Frg}{T:String}{r:V->List V->Hp->VK->Prop}{t:TA}(h:te σ H fun x H1=>tyV K T x H1/\t σ H1 fun xs H2=>r x xs H2 Q):tBM K T r te t σ H Q:=h
theorem rd_sl{r:V->Option Int->Option Int->Hp->VK->Prop}{tl th:TO}(h:te σ H fun x H1=>tl σ H1 fun l H2=>th σ H2 fun u H3=>r x l u H3 Q):tSl r te tl th σ H Q:=h
theorem rd_nopart{R:Option Int->Hp->Prop}(h:R none H):tNoPart σ H R:=h
theorem rd_part{R:Option Int->Hp->Prop}(h:te σ H fun x H1=>∃i,x = .int i/\R (some i) H1):tPart te σ H R:=h
theorem rd_int{i:Int}{R:Int->Prop}(h:R i):∃i',V.int i = .int i'/\R i':=⟨i,rfl,h⟩
theorem iteD{p A B:Prop}[Decidable p](h1:p->A)(h2:¬p->B):if decide p=true then A else B:=by
 by_cases h:p
 ·rw[if_pos (decide_eq_true h)];exact h1 h
 ·rw[if_neg (by simpa using h)];exact h2 h
theorem iteN{p A B:Prop}[Decidable p](h1:¬p->A)(h2:p->B):if(!decide p)=true then A else B:=by
 by_cases h:p
 ·rw[if_neg (by simpa using h)];exact h2 h
 ·rw[if_pos (by simpa using h)];exact h1 h
theorem rd_rng1{ta:TA}{R:It->Hp->Prop}(h:ta σ H fun vs H1=>∃j:Int,vs=[.int j]/\-(2^62)<=j/\j<2^62/\R (Itr 0 j.toNat) H1):iRng1 ta σ H R:=h
theorem rd_iList{K:Frg}{R:It->Hp->Prop}(h:te σ H fun x H1=>∃a,x = .ref a/\(∃xs,SqL K H1 a xs)/\R (Itl K a) H1):iList K te σ H R:=h
theorem rd_p18(h:Q (.int (10^18)) H):rI CPow (fun i j=>.int (i^j.toNat)) (.int 10) (.int 18) H Q:=⟨10,18,rfl,rfl,⟨by decide,by decide,by decide⟩,h⟩
theorem rd_p20(h:Q (.int (10^20)) H):rI CPow (fun i j=>.int (i^j.toNat)) (.int 10) (.int 20) H Q:=⟨10,20,rfl,rfl,⟨by decide,by decide,by decide⟩,h⟩
theorem rd_p60(h:Q (.int (10^60)) H):rI CPow (fun i j=>.int (i^j.toNat)) (.int 10) (.int 60) H Q:=⟨10,60,rfl,rfl,⟨by decide,by decide,by decide⟩,h⟩
theorem rd_p64(h:Q (.int (10^64)) H):rI CPow (fun i j=>.int (i^j.toNat)) (.int 10) (.int 64) H Q:=⟨10,64,rfl,rfl,⟨by decide,by decide,by decide⟩,h⟩
theorem rd_for{wi:TI}{g:TG}{tb:TS} (h:wi σ H fun J H1=>∃W:Nat->Nat->St->Hp->Prop,(∃m,W 0 m σ H1)/\∀i m σ H,W i m σ H->
 (J.stop i H/\D.nx σ H)\/(J.go i H/\∃N:St->Hp->Prop,(∀σ' H',N σ' H'->∃m',m'<m/\W (i+1) m' σ' H')/\∀x H',J.yld i H x H'->g x σ H' fun σ2 H2=>tb {D with nx:=N,ct:=N,bk:=D.nx} σ2 H2)):tFor wi g tb D σ H:=h
theorem rd_comp{wi:TI}{n:Nat}{ci:List Nat}{g:TG}{tf:TT} (h:wi σ H fun J H1=>∃W:Nat->Nat->List V->Hp->Prop,(∃m,W 0 m [] H1)/\∀i m ys H,W i m ys H->
 (J.stop i H/\ys.length<=sizeLine/\∀p,H p=none->Q (.ref p) (upd H p (.lst ys)))\/
 (J.go i H/\∃N:List V->Hp->Prop,(∀ys' H',N ys' H'->∃m',m'<m/\W (i+1) m' ys' H')/\∀x H',J.yld i H x H'->g x (capS n ci σ) H' fun σ2 H2=>tf σ2 H2 fun b H3=>
  if b=true then te σ2 H3 fun v H4=>ys.length<sizeLine/\N (ys++[v]) H4 else N ys H3)):tComp wi n ci g tf te σ H Q:=h
theorem rd_yes{R:Bool->Hp->Prop}(h:R true H):tYes σ H R:=h
theorem j8{n:Nat}{ci:List Nat}{g:TG}{x:V}{σ':St}{R:St->Hp->Prop}(e:capS n ci σ=σ')(h:g x σ' H R):g x (capS n ci σ) H R:=by rw[e];exact h
theorem jy{t:TS}{σ':St}(e:σ=σ')(h:t D σ' H):t D σ H:=by subst e;exact h
theorem j4M{x y A B:Int}(h1 : -A<=x)(h2:x<=A)(h3 : -B<=y)(h4:y<=B) : -(A*B)<=x*y/\x*y<=A*B:=by
 have hx:x.natAbs<=A.toNat:=by omega
 have hy:y.natAbs<=B.toNat:=by omega
 have h:=Nat.mul_le_mul hx hy;rw[<-Int.natAbs_mul]at h;have e:((A.toNat*B.toNat:Nat):Int)=A*B:=by
  rw[Int.natCast_mul,Int.toNat_of_nonneg (by omega),Int.toNat_of_nonneg (by omega)]
 have h':((x*y).natAbs:Int)<=A*B:=by rw[<-e];exact Int.ofNat_le.mpr h
 omega
theorem Wi{H H':Hp}{p:Addr}{o:HO}(h:H p=none)(e:upd H p o=H'):Same H H':=fun b u q=>by rw[<-e,jo (jg q h)];exact q
theorem j1z{H H':Hp}{p:Addr}{o:HO}(e:upd H p o=H'):H' p=some o:=by rw[<-e];exact jh
end
theorem ixLm{K:Frg}{p:Addr}{xs:List V}{i:Int}{v:V}{H:Hp}{Q:VK}(h:SqL K H p xs)(e:atI xs i=some v)(q:Q v H):rIxL K (.ref p) (.int i) H Q:=⟨p,xs,i,v,rfl,rfl,h,e,q⟩
theorem ixTm{K:Frg}{p:Addr}{xs:List V}{i:Int}{v:V}{H:Hp}{Q:VK}(h:SqT K H p xs)(e:atI xs i=some v)(q:Q v H):rIxT K (.ref p) (.int i) H Q:=⟨p,xs,i,v,rfl,rfl,h,e,q⟩
end L2
local macro_rules | `(tactic| walk_at "side") => `(tactic| first | with_reducible assumption | exact L2.cdivB (by omega) (by omega) | exact L2.mulOk (by omega) (by omega) (by omega) (by omega) | exact L2.mulOkC (by first | assumption | exact L2.bits_ediv (by assumption) _) (by omega) (by omega) | omega)
local macro_rules | `(tactic| walk_at $s:str) => do
 let ws:=s.getString.splitOn " "
 if ws.head?==some "f" then
  let vs:=if ws.length==3 then["p"++ws.getD 1 "","hp"++ws.getD 1 "","H"++ws.getD 1 "","s"++ws.getD 1 "",ws.getD 2 ""++ws.getD 1 ""]else ws.drop 1
  let i:=fun(k:Nat)=>Lean.mkIdent (Lean.Name.mkSimple (vs.getD k ""))
  return <-`(tactic| (intro $(i 0):ident $(i 1):ident;generalize eH:L2.upd _ $(i 0) _ = $(i 2):ident;have $(i 3):ident:=L2.Wi $(i 1) eH;have $(i 4):ident:=L2.j1z eH;clear eH))
 let ns:=match s.getString with | "goA"=>"rd_seq rd_asg rd_op rd_const rd_i0 rd_cons rd_nil rd_call rd_ret rd_if rd_test rd_tB rd_blP rd_not rd_next" | "goB"=>"rd_un rd_u rd_and rd_or rd_andV rd_ifE rd_retN rd_drop rd_cb rd_lst rd_tup rd_chain rd_bm rd_sl rd_nopart rd_part rd_eqI rd_neI rd_eqS rd_neS rd_iStr rd_str rd_int rd_rng1 rd_iList rd_for rd_comp rd_yes rd_dget rd_prC rd_prN rd_iTup rd_iEnum rd_iZip rd_dnew rd_dput rd_bm0 rd_lz rd_rngD rd_step rd_dIn rd_iZipT rd_iEnum1 rd_ls" | "goP"=>"rd_p18 rd_p20 rd_p60 rd_p64" | "goV"=>"rd_v0 rd_v1 rd_v2 rd_v3 rd_v4 rd_v5 rd_v6 rd_v7 rd_v8 rd_v9" | "goN"=>"rd_n0 rd_n1 rd_n2 rd_n3 rd_n4 rd_n5 rd_n6 rd_n7 rd_n8 rd_n9" | _=>""
 if ns == "" then Lean.Macro.throwUnsupported
 let as <-(ns.splitOn " ").toArray.mapM fun n=>`(Lean.Parser.Tactic.tacticSeq| refine $(Lean.mkIdent (Lean.Name.mkStr2 "L2" n)) ?_)
 `(tactic| with_reducible (first $[| $as]*))
local macro_rules | `(tactic| walk_at "go1") => `(tactic| first | walk_at "goA" | walk_at "goV" | walk_at "goB" | walk_at "goN" | walk_at "goP" | (with_reducible refine L2.j5l ?c ?_; (case c => ((try dsimp only); walk_at "side"))))
local macro_rules | `(tactic| walk_at "g") => `(tactic| repeat walk_at "go1")
local macro_rules | `(tactic| exists $e) => `(tactic| (walk_at "g"; refine $e))
namespace Pr
open PySem L2
noncomputable def cell(ns:List Int)(k:Int):Int:=ns.getD k.toNat 0
inductive sp_cell_at(K:Frg)(vs:List V)(H:Hp)(Q:VK)(xk:XK):Prop
 | mk (a:Addr) (ns:List Int) (k:Int) (_:vs=[.ref a,.int k]) (_:SqL K H a (ns.map V.int)) (_:ns.length<=63) (_:0<=k) (_:Q (.int (cell ns k)) H):sp_cell_at K vs H Q xk
theorem jQ{ns:List Int}{k:Int}(h0:0<=k)(h:k<(ns.length:Int)):atI (ns.map V.int) k=some (.int (cell ns k)):=by
 have ek:k=((k.toNat:Nat):Int):=by omega
 have hk:k.toNat<ns.length:=by omega
 have q:atI (ns.map V.int) ((k.toNat:Nat):Int)=some (.int ns[k.toNat]):=Jn (by rw[List.getElem?_map,List.getElem?_eq_getElem hk]<;>rfl);rw[<-ek]at q;rw[q];unfold cell;rw[getD_eq_getElem?_getD,List.getElem?_eq_getElem hk];rfl
end Pr
namespace Pr
open PySem L2
inductive sp_law(K:Frg)(vs:List V)(H:Hp)(Q:VK)(xk:XK):Prop
 | mk (a:Addr) (ns:List Int) (_:vs=[.ref a]) (_:SqL K H a (ns.map V.int)) (_:ns.length<=63) (_:(∀x∈ns,Builtin.Int.intBits x<=1048576)) (_:∀H',Q (.bl true) H'):sp_law K vs H Q xk
end Pr
namespace Pr
open PySem L2
theorem j3r{ns:List Int}{lo hi:Option Int}{x:V}(h:x∈cutV (ns.map V.int) lo hi):∃c∈ns,x = .int c:=by
 have h1:x∈ns.map V.int:=mem_of_mem_drop (mem_of_mem_take h);obtain⟨c,hc,e⟩:=mem_map.mp h1;exact⟨c,hc,e.symm⟩
end Pr
namespace Pr
open PySem L2
theorem jw{H:Hp}{p:Addr}(h:H p=none)(o:HO):Same H (upd H p o):=fun b u q=>by rw[jo (jg q h)];exact q
end Pr
namespace Pr
open PySem L2
theorem WL{ns:List Int}{k:Int}(_h0:0<=k)(h:k<(ns.length:Int)):ns[k.toNat]?=some (cell ns k):=by
 have hk:k.toNat<ns.length:=by omega
 unfold cell;rw[getD_eq_getElem?_getD,List.getElem?_eq_getElem hk];rfl
theorem j1M{ns:List Int}{m:Int}(h0:0<=m)(h:m<=(ns.length:Int)):cutV (ns.map V.int) none (some m)=(ns.take m.toNat).map V.int:=by
 unfold cutV;rw[map_take];have e1:HT.sIx (ns.map V.int).length 0 none=0:=rfl;have e2:HT.sIx (ns.map V.int).length (ns.map V.int).length (some m)=m.toNat:=by
  show(if m<0 then _ else min m.toNat _)=_;rw[if_neg (by omega),length_map];omega
 rw[e1,e2];simp
end Pr
namespace Ws
open PySem PySem.NumText L2
noncomputable def digs:List Nat:=[48,49,50,51,52,53,54,55,56,57]
noncomputable def figs:Str:="0123456789"
noncomputable def lets:Str:="abcdefghijklmnopqrstuvwxyz"
theorem j3e:figs.cps.toList=digs:=by decide +kernel
theorem j26{c:Nat}:c∈digs↔48<=c/\c<=57:=by
 unfold digs;simp only[mem_cons,not_mem_nil,or_false];omega
noncomputable def among(x z:Str):Bool:=decide (∀c∈x.cps.toList,c∈z.cps.toList)
noncomputable def isW(x:Str):Bool:=decide (1<=x.length/\x.length<=8)&&among x lets
noncomputable def numV(x:Str)(m:Int):V:=if(1<=x.length/\(x.length:Int)<=m)/\among x figs=true/\¬(x.cps.toList.head?=some 48/\x.length≠1)then .int (digitsVal x.cps.toList:Nat)else .non
theorem zO(x:Str):x.cps.toList.length=x.length:=Array.length_toList
theorem wq{x:Str}(h:among x figs=true):AllDigits x.cps.toList:=fun c hc=>by
 have h':=of_decide_eq_true h c hc;rw[j3e]at h';exact j26.mp h'
theorem intText{x:Str}(h:among x figs=true)(h1:1<=x.length)(h2:x.length<=200):intText? x=some ((digitsVal x.cps.toList:Nat):Int):=
 intText_digits (wq h) (fun e=>by have:=zO x;rw[e]at this;simp at this;omega) (by omega)
def zW:Sp:=fun vs H Q _=>∃x z:Str,vs=[.str x,.str z]/\x.length<=200/\∀H',Same H H'->Q (.bl (among x z)) H'
def zX:Sp:=fun vs H Q _=>∃x:Str,vs=[.str x]/\x.length<=200/\∀H',Same H H'->Q (.bl (isW x)) H'
inductive sp_number_of(vs:List V)(H:Hp)(Q:VK)(xk:XK):Prop
 | mk (x:Str) (m:Int) (_:vs=[.str x,.int m]) (_:x.length<=200) (_:∀H',Same H H'->Q (numV x m) H'):sp_number_of vs H Q xk
def ZW:Sp:=fun vs H Q _=>∃c m:Int,vs=[.int c,.int m]/\0<=m/\m<=100/\
 ∀(p:Addr) (ns:List Int) (H':Hp),Same H H'->H p=none->H' p=some (.lst (ns.map V.int))->(ns.length:Int)=m->(∀n∈ns,0<=n/\n<33554432)->Q (.ref p) H'
theorem yM{H H':Hp}{p:Addr}{o:HO}(h:Same H H')(hp:H p=none):Same H (upd H' p o):=fun b u q=>by
 rw[jo (jg q hp)];exact h b u q
end Ws
namespace Ws
open PySem PySem.NumText L2
theorem j3z{x:Str}{m:Int}(h:¬((1<=x.length/\(x.length:Int)<=m)/\among x figs=true/\¬(x.cps.toList.head?=some 48/\x.length≠1))):numV x m = .non:=by unfold numV;rw[if_neg h]
theorem j2l{x:Str}{m:Int}(h:(1<=x.length/\(x.length:Int)<=m)/\among x figs=true/\¬(x.cps.toList.head?=some 48/\x.length≠1)):numV x m = .int (digitsVal x.cps.toList:Nat):=by unfold numV;rw[if_pos h]
theorem j3k{x:Str}(h:1<=x.length):∃c r,x.cps.toList=c::r/\atI x.cps.toList 0=some c:=by
 have hl:=zO x;cases e:x.cps.toList with
 | nil=>rw[e]at hl;simp at hl;omega
 | cons c r=>exact⟨c,r,rfl,by unfold atI ixN;simp⟩
theorem j0n{c:Nat}:(⟨#[c]⟩:Str) = "0"↔c=48:=by
 constructor
 ·intro h;have e:(⟨#[c]⟩:Str)=⟨#[48]⟩:=h.trans (by decide +kernel);injection e with e;simpa using e
 ·intro h;subst h;decide +kernel
theorem j0w{x:Str}(h:x.cps.toList.head?=some 48):x = "0"↔x.length=1:=by
 have hl:=zO x;constructor
 ·intro e;subst e;decide +kernel
 ·intro e;have e1:x.cps.toList=[48]:=by
   cases q:x.cps.toList with
   | nil=>rw[q]at h;cases h
   | cons c r=>
    rw[q]at h hl;have:r.length=0:=by simp at hl;omega
    rw[List.length_eq_zero_iff.mp this];have hc:c=48:=Option.some.inj h;rw[hc]
  have e2:x=⟨#[48]⟩:=by
   cases x with
   | mk a=>
    congr 1;exact Array.toList_inj.mp e1
  rw[e2];decide +kernel
end Ws
namespace Ws
open PySem L2
theorem xl:∀(l:List Str),(∀z∈l,z.length=1)->(l.map (·.length)).sum=l.length
 | [],_=>rfl
 | a::r,h=>by
  rw[map_cons,sum_cons,xl r fun z hz=>h z (mem_cons_of_mem _ hz),h a mem_cons_self,length_cons];omega
end Ws
namespace Rm
open PySem PySem.NumText PyProof.Rows L2
def zE:Sp:=fun vs H Q _=>∃c m:Int,vs=[.int c,.int m]/\0<=m/\m<=100/\∀r:Int,Q (.int r) H
def ZV:Sp:=fun vs H Q _=>∃c m l:Int,vs=[.int c,.int m,.int l]/\0<=m/\m<33554432/\0<=l/\l<=1/\∀r:Int,l<=r->r<=10^18->Q (.int r) H
theorem to19{P:Int->Prop}(h:∀k:Nat,k<19->P k){n:Int}(h0:0<=n)(h1:n<19):P n:=by
 have e:=h n.toNat (by omega);rw[Int.toNat_of_nonneg h0]at e;exact e
theorem mulOk0{n:Int}(h0:0<=n)(h1:n<19):MulOk "0" n:=mulOk_of 16 1048576 (by decide +kernel) (by omega) (by omega) (by decide) (by decide)
theorem j2U{n:Int}(h0:0<=n)(h1:n<19):(Str.ofString "1").length+(Txt.mul "0" n).length<=sizeLine:=by
 refine to19 (P:=fun n=>(Str.ofString "1").length+(Txt.mul "0" n).length<=sizeLine) ?_ h0 h1;decide +kernel
theorem j1p{n:Int}(h0:0<=n)(h1:n<19):(Str.ofString "1"++Txt.mul "0" n).length<=640:=by
 refine to19 (P:=fun n=>(Str.ofString "1"++Txt.mul "0" n).length<=640) ?_ h0 h1;decide +kernel
theorem tens{n:Int}(h0:0<=n)(h1:n<19):intText? (Str.ofString "1"++Txt.mul "0" n)=some ((10:Int)^n.toNat):=by
 refine to19 (P:=fun n=>intText? (Str.ofString "1"++Txt.mul "0" n)=some ((10:Int)^n.toNat)) ?_ h0 h1;decide +kernel
def xi:Sp:=fun vs H Q _=>∃c:Int,vs=[.int c,.int 68]/\∀(p:Addr) (ws:List Str) (H':Hp),Same H H'->H p=none->H' p=some (.lst (ws.map V.str))->ws.length=68->ws.Nodup->(∀x∈ws,Ws.isW x=true)->Q (.ref p) H'
theorem cutTo{x:Str}{j:Int}(h0:0<=j)(h:j<=(x.length:Int)):(Txt.slice x none (some j)).cps.toList=x.cps.toList.take j.toNat:=by
 have e:Txt.slice x none (some j)=⟨((x.cps.toList.drop 0).take (j-0).toNat).toArray⟩:=StrLaws.sliceText_to ⟨h0,by rw[Ws.zO];exact h⟩;rw[e];simp
theorem cutFrom{x:Str}{i:Int}(h0:0<=i)(h:i<=(x.length:Int)):(Txt.slice x (some i) none).cps.toList=x.cps.toList.drop i.toNat:=by
 have e:Txt.slice x (some i) none=⟨((x.cps.toList.drop i.toNat).take ((x.cps.toList.length:Int)-i).toNat).toArray⟩:=StrLaws.sliceText_from ⟨h0,by rw[Ws.zO];exact h⟩;rw[e];show List.take _ _=_;rw[take_of_length_le];rw[length_drop];omega
theorem app_list(a y:Str):(a++y).cps.toList=a.cps.toList++y.cps.toList:=by rw[Str.cps_append,Array.toList_append]
theorem kC{c:Nat}:c∈Ws.lets.cps.toList↔97<=c/\c<=122:=by
 rw[show Ws.lets.cps.toList=List.range' 97 26 by decide +kernel,List.mem_range'_1];omega
theorem kA{i:Int}(h0:0<=i)(h1:i<26):atI (Str.ofString "abcdefghijklmnopqrstuvwxyz").cps.toList i=some (97+i.toNat):=by
 have h:∀k:Nat,k<26->atI (Str.ofString "abcdefghijklmnopqrstuvwxyz").cps.toList (k:Int)=some (97+(k:Int).toNat):=by decide +kernel
 have e:=h i.toNat (by omega);rw[Int.toNat_of_nonneg h0]at e;exact e
noncomputable def nmL(way:Int)(b:List Nat)(a k:Nat):List Nat:=
 if way=0 then b.take a++[97+k/26,97+k%26]++b.drop a else if way=1 then[97+k/26,97+k%26]++b.take (k%(b.length+1))else if k<26 then[97+k%26]else[97+k/26,97+k%26]
theorem j3u{way:Int}{b:List Nat}{a j k:Nat}(hj:j<68)(hk:k<68)(h:nmL way b a j=nmL way b a k):j=k:=by
 unfold nmL at h;split at h
 ·rw[List.append_assoc,List.append_assoc]at h;have h':=List.append_cancel_left h;simp only[cons_append,List.cons.injEq]at h';omega
 ·split at h
  ·simp only[cons_append,List.cons.injEq]at h;omega
  ·split at h<;>split at h<;>simp only[List.cons.injEq,reduceCtorEq,and_true,and_false,false_and]at h<;>omega
theorem j3v{way:Int}{b:List Nat}{a k:Nat}(hb:∀c∈b,97<=c/\c<=122)(hk:k<68){c:Nat}(h:c∈nmL way b a k):97<=c/\c<=122:=by
 unfold nmL at h;have t1:∀c∈[97+k/26,97+k%26],97<=c/\c<=122:=fun c hc=>by
  simp only[mem_cons,not_mem_nil,or_false]at hc;omega
 split at h
 ·rcases mem_append.mp h with h | h
  ·rcases mem_append.mp h with h | h
   ·exact hb c (mem_of_mem_take h)
   ·exact t1 c h
  ·exact hb c (mem_of_mem_drop h)
 ·split at h
  ·rcases mem_append.mp h with h | h
   ·exact t1 c h
   ·exact hb c (mem_of_mem_take h)
  ·split at h
   ·exact t1 c (mem_cons_of_mem _ h)
   ·exact t1 c h
theorem j09{way:Int}{b:List Nat}{a k:Nat}(hb:b.length<=6):1<=(nmL way b a k).length/\(nmL way b a k).length<=8:=by
 unfold nmL;split
 ·simp only[List.length_append,length_take,length_drop,length_cons,length_nil];omega
 ·split
  ·simp only[List.length_append,length_take,length_cons,length_nil];omega
  ·split<;>simp
theorem j1Z{x:Str}(h1:1<=x.cps.toList.length)(h2:x.cps.toList.length<=8)(h:∀c∈x.cps.toList,97<=c/\c<=122):Ws.isW x=true:=by
 rw[Ws.zO]at h1 h2;unfold Ws.isW Ws.among;rw[decide_eq_true ⟨h1,h2⟩,Bool.true_and];exact decide_eq_true fun c hc=>kC.mpr (h c hc)
theorem x9{way:Int}{b:List Nat}{a:Nat}{ws:List Str}(hb:∀c∈b,97<=c/\c<=122)(hl:b.length<=6)(hw:ws.length=68)(h:∀j,j<68->(ws[j]?).map (·.cps.toList)=some (nmL way b a j)) :
  ws.Nodup/\∀x∈ws,Ws.isW x=true:=by
 have h':∀j (hj:j<ws.length),ws[j].cps.toList=nmL way b a j:=fun j hj=>by
  have e:=h j (by omega);rw[List.getElem?_eq_getElem hj]at e;exact Option.some.inj e
 constructor
 ·refine pairwise_iff_getElem.mpr fun i j hi hj hij e=>?_
  have e1:=h' i hi;rw[e,h' j hj]at e1;have:=j3u (by omega) (by omega) e1;omega
 ·intro x hx;obtain⟨j,hj,rfl⟩:=mem_iff_getElem.mp hx;have e:=h' j hj;refine j1Z ?_ ?_ ?_<;>rw[e]
  ·exact(j09 hl).1
  ·exact(j09 hl).2
  ·exact fun c hc=>j3v hb (by omega) hc
theorem join_list:∀(zs:List Str),(Txt.join (Str.ofString "") zs).cps.toList=(zs.map (·.cps.toList)).flatten:=by
 intro zs;show(Builtin.Str.glued (Str.ofString "") zs).cps.toList=_;rw[StrLaws.glued_eq_join]
 induction zs with
 | nil=>rfl
 | cons a r ih=>
  cases r with
  | nil=>show a.cps.toList=a.cps.toList++[];rw[append_nil]
  | cons b r=>
   show(a++Str.ofString ""++Str.join (Str.ofString "") (b::r)).cps.toList=_;rw[app_list,app_list,ih,show(Str.ofString "").cps.toList=[] by decide +kernel,append_nil];rfl
theorem j0E{zs:List Str}(h:∀z∈zs,∃c,z=⟨#[c]⟩/\97<=c/\c<=122):(Txt.join (Str.ofString "") zs).length=zs.length/\∀c∈(Txt.join (Str.ofString "") zs).cps.toList,97<=c/\c<=122:=by
 refine⟨PySem.W.KT.join_ones zs fun z hz=>by obtain⟨c,rfl,_⟩:=h z hz;rfl,fun c hc=>?_⟩;rw[join_list]at hc;obtain⟨l,hl,hc⟩:=List.mem_flatten.mp hc;obtain⟨z,hz,rfl⟩:=mem_map.mp hl;obtain⟨d,rfl,h1,h2⟩:=h z hz;have e:c=d:=by simpa using hc
 omega
theorem j3x{way:Int}{b:List Nat}{a i:Nat}{ws:List Str}{x:Str}(hw:ws.length=i)(h:∀j,j<i->(ws[j]?).map (·.cps.toList)=some (nmL way b a j))(hx:x.cps.toList=nmL way b a i) :
  ∀j,j<i+1->((ws++[x])[j]?).map (·.cps.toList)=some (nmL way b a j):=fun j hj=>by
 by_cases e:j<i
 ·rw[List.getElem?_append_left (by omega)];exact h j e
 ·have e2:j=i:=by omega
  subst e2;rw[List.getElem?_append_right (by omega),hw,Nat.sub_self];exact congrArg some hx
open PySem L2
theorem none_of{H H':Hp}{p:Addr}(s:Same H H')(h:H' p=none):H p=none:=by
 cases e:H p with
 | none=>rfl
 | some u=>rw[s _ _ e]at h;cases h
inductive Fm where
 | hold (n:Int) | ring (x:Str) (n:Int) | rise (x:Str) (h n:Int) | row (ps:List Str) | side (ps:List Str) | again (k:Int) (x:Str)
structure Rr where
 names:List Str
 limbs:List (Str×Int)
 parts:List (Str×Fm)
 hands:List (List Int)
 longs:List Int
noncomputable def Rr.add(m:Rr)(f:Fm)(ks:List Int)(g:Int):Rr:={m with parts:=m.parts++[(m.names.getD m.parts.length ⟨#[]⟩,f)],hands:=m.hands++[ks],longs:=m.longs++[g]}
noncomputable def FormAt(H:Hp)(a:Addr):Fm->Prop
 | .hold n=>H a=some (.tup [.str "hold",.int n])
 | .ring x n=>H a=some (.tup [.str "ring",.str x,.int n])
 | .rise x h n=>H a=some (.tup [.str "raise",.str x,.int h,.int n])
 | .row ps=>∃b,H a=some (.tup [.str "row",.ref b])/\H b=some (.tup (ps.map V.str))
 | .side ps=>∃b,H a=some (.tup [.str "side",.ref b])/\H b=some (.tup (ps.map V.str))
 | .again k x=>H a=some (.tup [.str "again",.int k,.str x])
def PartAt(H:Hp)(a:Addr)(p:Str×Fm):Prop:=∃b,H a=some (.tup [.str p.1,.ref b])/\FormAt H b p.2
def LimbAt(H:Hp)(a:Addr)(p:Str×Int):Prop:=H a=some (.tup [.str p.1,.int p.2])
def All2{α:Type}(R:Addr->α->Prop)(as:List Addr)(xs:List α):Prop:=as.length=xs.length/\∀(i:Nat) (a:Addr) (x:α),as[i]?=some a->xs[i]?=some x->R a x
theorem All2.nil{α:Type}{R:Addr->α->Prop}:All2 R [] []:=⟨rfl,fun i a x h=>by simp at h⟩
theorem All2.mono{α:Type}{R S:Addr->α->Prop}{as:List Addr}{xs:List α}(h:All2 R as xs)(k:∀a x,R a x->S a x):All2 S as xs:=⟨h.1,fun i a x h1 h2=>k a x (h.2 i a x h1 h2)⟩
theorem All2.snoc{α:Type}{R:Addr->α->Prop}{as:List Addr}{xs:List α}{a:Addr}{x:α}(h:All2 R as xs)(hx:R a x):All2 R (as++[a]) (xs++[x]):=by
 have hl:=h.1;refine⟨by simp[hl],fun i b y h1 h2=>?_⟩;by_cases hi:i<as.length
 ·rw[List.getElem?_append_left hi]at h1;rw[List.getElem?_append_left (by omega)]at h2;exact h.2 i b y h1 h2
 ·rw[List.getElem?_append_right (by omega)]at h1;rw[List.getElem?_append_right (by omega)]at h2;have e:i-as.length=0:=by
   have:=(List.getElem?_eq_some_iff.mp h1).1;simp at this;omega
  rw[e]at h1;rw[show i-xs.length=0 by omega]at h2;simp at h1 h2;subst h1 h2;exact hx
theorem All2.get{α:Type}{R:Addr->α->Prop}{as:List Addr}{xs:List α}{i:Nat}{x:α}(h:All2 R as xs)(hx:xs[i]?=some x):∃a,as[i]?=some a/\R a x:=by
 have hi:=(List.getElem?_eq_some_iff.mp hx).1;have hl:=h.1;have ha:as[i]?=some as[i]:=List.getElem?_eq_getElem (by omega);exact⟨_,ha,h.2 i _ _ ha hx⟩
structure Ra where
 r:Addr
 pn:Addr
 pl:Addr
 pp:Addr
 ph:Addr
 pg:Addr
def Ra.off(z:Ra)(a:Addr):Prop:=a≠z.pp/\a≠z.ph/\a≠z.pg
def HandAt(z:Ra)(H:Hp)(a:Addr)(ks:List Int):Prop:=H a=some (.lst (ks.map V.int))/\z.off a
structure RoomAt(H:Hp)(z:Ra)(m:Rr):Prop where
 d:H z.r=some (.dK [(Sum.inr "names",.ref z.pn),(Sum.inr "limbs",.ref z.pl),(Sum.inr "parts",.ref z.pp),(Sum.inr "hands",.ref z.ph),(Sum.inr "long",.ref z.pg)])
 n:H z.pn=some (.lst (m.names.map V.str))
 l:∃ls,H z.pl=some (.lst (ls.map V.ref))/\All2 (LimbAt H) ls m.limbs
 p:∃qs,H z.pp=some (.lst (qs.map V.ref))/\All2 (PartAt H) qs m.parts
 h:∃hs,H z.ph=some (.lst (hs.map V.ref))/\All2 (HandAt z H) hs m.hands
 g:H z.pg=some (.lst (m.longs.map V.int))
 on:z.off z.pn
 ol:z.off z.pl
 ph:z.pp≠z.ph
 pg:z.pp≠z.pg
 hg:z.ph≠z.pg
def Kp(z:Ra)(H H':Hp):Prop:=∀b u,z.off b->H b=some u->H' b=some u
theorem Kp.refl(z:Ra)(H:Hp):Kp z H H:=fun _ _ _ h=>h
theorem Kp.trans{z:Ra}{H H1 H2:Hp}(a:Kp z H H1)(b:Kp z H1 H2):Kp z H H2:=fun c u o h=>b c u o (a c u o h)
theorem Kp.of{z:Ra}{H H':Hp}(s:Same H H'):Kp z H H':=fun b u _ h=>s b u h
section
variable{H H':Hp}{z:Ra}{m:Rr}
theorem Qh(R:RoomAt H z m){a:Addr}{xs:List V}(h:H a=some (.tup xs)):z.off a:=by
 obtain⟨qs,e1,_⟩:=R.p;obtain⟨hs,e2,_⟩:=R.h;exact⟨qw h e1 (fun z=>by cases z),qw h e2 (fun z=>by cases z),qw h R.g (fun z=>by cases z)⟩
theorem W2(R:RoomAt H z m):z.off z.r:=by
 obtain⟨qs,e1,_⟩:=R.p;obtain⟨hs,e2,_⟩:=R.h;exact⟨qw R.d e1 (fun z=>by cases z),qw R.d e2 (fun z=>by cases z),qw R.d R.g (fun z=>by cases z)⟩
theorem qM(R:RoomAt H z m){a:Addr}(h:H a=none):z.off a:=by
 obtain⟨qs,e1,_⟩:=R.p;obtain⟨hs,e2,_⟩:=R.h;refine⟨fun e=>?_,fun e=>?_,fun e=>?_⟩
 ·rw[e,e1]at h;cases h
 ·rw[e,e2]at h;cases h
 ·rw[e,R.g]at h;cases h
theorem FormAt.kp{a:Addr}{f:Fm}(R:RoomAt H z m)(k:Kp z H H')(h:FormAt H a f):FormAt H' a f:=by
 cases f with
 | row ps=>obtain⟨b,h1,h2⟩:=h;exact⟨b,k _ _ (Qh R h1) h1,k _ _ (Qh R h2) h2⟩
 | side ps=>obtain⟨b,h1,h2⟩:=h;exact⟨b,k _ _ (Qh R h1) h1,k _ _ (Qh R h2) h2⟩
 | hold n=>exact k _ _ (Qh R h) h
 | ring x n=>exact k _ _ (Qh R h) h
 | rise x g n=>exact k _ _ (Qh R h) h
 | again x n=>exact k _ _ (Qh R h) h
theorem PartAt.kp{a:Addr}{p:Str×Fm}(R:RoomAt H z m)(k:Kp z H H')(h:PartAt H a p):PartAt H' a p:=by
 obtain⟨b,h1,h2⟩:=h;exact⟨b,k _ _ (Qh R h1) h1,FormAt.kp R k h2⟩
theorem RoomAt.keeps(R:RoomAt H z m)(s:Same H H'):RoomAt H' z m:=by
 have k:Kp z H H':=Kp.of s;obtain⟨ls,e1,a1⟩:=R.l;obtain⟨qs,e2,a2⟩:=R.p;obtain⟨hs,e3,a3⟩:=R.h;exact⟨s _ _ R.d,s _ _ R.n,⟨ls,s _ _ e1,a1.mono fun a x h=>s _ _ h⟩,⟨qs,s _ _ e2,a2.mono fun a x h=>PartAt.kp R k h⟩,⟨hs,s _ _ e3,a3.mono fun a x h=>⟨s _ _ h.1,h.2⟩⟩,s _ _ R.g,R.on,R.ol,R.ph,R.pg,R.hg⟩
theorem KR(R:RoomAt H z m):DGet H z.r (.str "names") (some (.ref z.pn)):=DGet.k (k:=Sum.inr "names") R.d
theorem ZO(R:RoomAt H z m):DGet H z.r (.str "limbs") (some (.ref z.pl)):=DGet.k (k:=Sum.inr "limbs") R.d
theorem Jl(R:RoomAt H z m):DGet H z.r (.str "parts") (some (.ref z.pp)):=DGet.k (k:=Sum.inr "parts") R.d
theorem ZN(R:RoomAt H z m):DGet H z.r (.str "hands") (some (.ref z.ph)):=DGet.k (k:=Sum.inr "hands") R.d
theorem ko(R:RoomAt H z m):DGet H z.r (.str "long") (some (.ref z.pg)):=DGet.k (k:=Sum.inr "long") R.d
end
inductive sp_add(vs:List V)(H:Hp)(Q:VK)(xk:XK):Prop
 | mk (z:Ra) (m:Rr) (fa ha:Addr) (f:Fm) (ks:List Int) (g:Int) (_:vs=[.ref z.r,.ref fa,.ref ha,.int g]) (_:RoomAt H z m) (_:FormAt H fa f) (_:HandAt z H ha ks) (_:m.parts.length<68) (_:m.hands.length<68) (_:m.longs.length<68) (_:m.names.length=68) (_:∀H',Kp z H H'->RoomAt H' z (m.add f ks g)->(∀hs:List Addr,H z.ph=some (.lst (hs.map V.ref))->H' z.ph=some (.lst ((hs++[ha]).map V.ref)))->Q .non H'):sp_add vs H Q xk
theorem XJ{ws:List Str}{n:Nat}(h:n<ws.length):atI (ws.map V.str) (n:Int)=some (.str (ws.getD n ⟨#[]⟩)):=by
 refine Jn ?_;rw[List.getElem?_map,getD_eq_getElem?_getD,List.getElem?_eq_getElem h];rfl
theorem j1x{H H':Hp}{z:Ra}{m:Rr}{f:Fm}{ks:List Int}{g:Int}{p ha:Addr}{qs hs:List Addr}(R:RoomAt H z m)(k:Kp z H H')
  (eq:H z.pp=some (.lst (qs.map V.ref))) (aq:All2 (PartAt H) qs m.parts) (eh:H z.ph=some (.lst (hs.map V.ref))) (ah:All2 (HandAt z H) hs m.hands)
  (hp:PartAt H p (m.names.getD m.parts.length ⟨#[]⟩,f)) (hh:HandAt z H ha ks)
  (e1:H' z.pp=some (.lst (qs.map V.ref++[.ref p]))) (e2:H' z.ph=some (.lst (hs.map V.ref++[.ref ha]))) (e3:H' z.pg=some (.lst (m.longs.map V.int++[.int g]))):RoomAt H' z (m.add f ks g):=by
 obtain⟨ls,e0,a0⟩:=R.l;refine⟨k _ _ (W2 R) R.d,k _ _ R.on R.n,⟨ls,k _ _ R.ol e0,a0.mono fun a x h=>k _ _ (Qh R h) h⟩,⟨qs++[p],?_,?_⟩,⟨hs++[ha],?_,?_⟩,?_,R.on,R.ol,R.ph,R.pg,R.hg⟩
 ·rw[e1,map_append];rfl
 ·exact(aq.mono fun a x h=>PartAt.kp R k h).snoc (PartAt.kp R k hp)
 ·rw[e2,map_append];rfl
 ·exact(ah.mono fun a x h=>⟨k _ _ h.2 h.1,h.2⟩).snoc ⟨k _ _ hh.2 hh.1,hh.2⟩
 ·rw[e3];show _=some (HO.lst ((m.longs++[g]).map V.int));rw[map_append];rfl
noncomputable def Rr.nm(m:Rr)(j:Nat):Str:=m.names.getD j ⟨#[]⟩
noncomputable def Rr.hd(m:Rr)(j:Nat):List Int:=m.hands.getD j []
noncomputable def Rr.lg(m:Rr)(j:Nat):Int:=m.longs.getD j 0
def Idx(m:Rr)(i:Nat)(is:List Nat)(ps:List Str):Prop:=ps=is.map m.nm/\∀j∈is,j<i
def KsOf(m:Rr)(is:List Nat)(ks:List Int):Prop:=∀k,k∈ks↔∃j∈is,k∈m.hd j
def Apart(m:Rr)(is:List Nat):Prop:=(∀j∈is,m.hd j≠[])/\is.Pairwise fun a b=>∀k∈m.hd a,¬k∈m.hd b
noncomputable def FmOk(m:Rr)(i:Nat):Fm->List Int->Int->Prop
 | .hold n,ks,g=>1<=n/\n<=10^18/\ks=[]/\g=n
 | .ring x n,ks,g=>x∈m.names/\1<=n/\n<=10^18/\ks=[]/\g=n
 | .rise x h n,ks,g=>(∃(j:Nat) (v:Int),m.limbs[j]?=some (x,v)/\ks=[(j:Int)])/\0<=h/\h<=10^18/\1<=n/\n<=10^18/\g=n
 | .row ps,ks,g=>∃is,Idx m i is ps/\1<=is.length/\is.length<=8/\KsOf m is ks/\g=(is.map m.lg).sum
 | .side ps,ks,g=>∃is,Idx m i is ps/\2<=is.length/\is.length<=4/\Apart m is/\KsOf m is ks/\(∃j∈is,g=m.lg j)/\∀j∈is,m.lg j<=g
 | .again k x,ks,g=>1<=k/\k<=10^18/\∃j,j<i/\x=m.nm j/\ks=m.hd j/\g=k*m.lg j
structure PartOk(m:Rr)(i:Nat)(f:Fm)(ks:List Int)(g:Int):Prop where
 f:FmOk m i f ks g
 k:∀k∈ks,0<=k/\k<(m.limbs.length:Int)
 o:ks.Pairwise (· < ·)
 g1:1<=g
 g2:g<=10^60
structure Good(m:Rr):Prop where
 nl:m.names.length=68
 nd:m.names.Nodup
 nw:∀x∈m.names,Ws.isW x=true
 l1:1<=m.limbs.length
 l8:m.limbs.length<=8
 ln:(m.limbs.map (·.1)).Nodup
 lm:∀p∈m.limbs,p.1∈m.names/\0<=p.2/\p.2<=10^18
 hl:m.hands.length=m.parts.length
 gl:m.longs.length=m.parts.length
 ps:∀i p,m.parts[i]?=some p->p.1=m.nm i/\PartOk m i p.2 (m.hd i) (m.lg i)
section
variable{m:Rr}{f:Fm}{ks:List Int}{g:Int}
theorem getD_snoc{α:Type}{l:List α}{x d:α}{j:Nat}(h:j<l.length):(l++[x]).getD j d=l.getD j d:=by
 rw[getD_eq_getElem?_getD,getD_eq_getElem?_getD,List.getElem?_append_left h]
theorem getD_last{α:Type}{l:List α}{x d:α}:(l++[x]).getD l.length d=x:=by
 rw[getD_eq_getElem?_getD,List.getElem?_append_right (Nat.le_refl _),Nat.sub_self];rfl
theorem ya{j:Nat}(h:j<m.hands.length):(m.add f ks g).hd j=m.hd j:=getD_snoc h
theorem yZ{j:Nat}(h:j<m.longs.length):(m.add f ks g).lg j=m.lg j:=getD_snoc h
theorem FmOk.add{f':Fm}{ks':List Int}{g':Int}{i:Nat}(h1:i<=m.hands.length)(h2:i<=m.longs.length)(h:FmOk m i f' ks' g'):FmOk (m.add f ks g) i f' ks' g':=by
 have eh:∀is:List Nat,(∀j∈is,j<i)->KsOf m is ks'->KsOf (m.add f ks g) is ks':=fun is hi h k=>by
  rw[h k];constructor
  ·rintro⟨j,hj,hk⟩;exact⟨j,hj,by rw[ya (by have:=hi j hj;omega)];exact hk⟩
  ·rintro⟨j,hj,hk⟩;exact⟨j,hj,by rw[ya (by have:=hi j hj;omega)]at hk;exact hk⟩
 cases f' with
 | hold n=>exact h
 | ring x n=>exact h
 | rise x v n=>exact h
 | row ps=>
  obtain⟨is,a,b,c,d,e⟩:=h;refine⟨is,a,b,c,eh is a.2 d,e.trans ?_⟩;congr 1;exact map_congr_left fun j hj=>(yZ (by have:=a.2 j hj;omega)).symm
 | side ps=>
  obtain⟨is,a,b,c,p,d,e1,e2⟩:=h;refine⟨is,a,b,c,⟨fun j hj=>?_,?_⟩,eh is a.2 d,?_,fun j hj=>?_⟩
  ·rw[ya (by have:=a.2 j hj;omega)];exact p.1 j hj
  ·refine List.Pairwise.imp_of_mem (fun {x y} hx hy hxy=>?_) p.2;rw[ya (by have:=a.2 x hx;omega),ya (by have:=a.2 y hy;omega)];exact hxy
  ·obtain⟨j,hj,e⟩:=e1;exact⟨j,hj,by rw[yZ (by have:=a.2 j hj;omega)];exact e⟩
  ·rw[yZ (by have:=a.2 j hj;omega)];exact e2 j hj
 | again k x=>
  obtain⟨a,b,j,hj,c,d,e⟩:=h;exact⟨a,b,j,hj,c,by rw[ya (by omega)];exact d,by rw[yZ (by omega)];exact e⟩
theorem Good.add(G:Good m)(h:PartOk m m.parts.length f ks g):Good (m.add f ks g):=by
 refine⟨G.nl,G.nd,G.nw,G.l1,G.l8,G.ln,G.lm,?_,?_,fun i p hp=>?_⟩
 ·show(m.hands++[ks]).length=(m.parts++_).length;rw[List.length_append,List.length_append,G.hl];rfl
 ·show(m.longs++[g]).length=(m.parts++_).length;rw[List.length_append,List.length_append,G.gl];rfl
 ·have e1:=G.hl;have e2:=G.gl;by_cases hi:i<m.parts.length
  ·have hp':m.parts[i]?=some p:=by rw[<-hp];exact(List.getElem?_append_left hi).symm
   obtain⟨n,o⟩:=G.ps i p hp';rw[ya (by omega),yZ (by omega)];exact⟨n,FmOk.add (by omega) (by omega) o.f,o.k,o.o,o.g1,o.g2⟩
  ·have hl:i=m.parts.length:=by
    have:=(List.getElem?_eq_some_iff.mp hp).1;have e:(m.add f ks g).parts.length=m.parts.length+1:=by show(m.parts++_).length=_;rw[List.length_append];rfl
    omega
   subst hl;have ep:p=(m.nm m.parts.length,f):=by
    have e:(m.add f ks g).parts[m.parts.length]?=some (m.nm m.parts.length,f):=by
     show(m.parts++[_])[m.parts.length]?=_;rw[List.getElem?_append_right (Nat.le_refl _),Nat.sub_self];rfl
    rw[hp]at e;exact Option.some.inj e
   have e3:(m.add f ks g).hd m.parts.length=ks:=by rw[<-G.hl];exact getD_last
   have e4:(m.add f ks g).lg m.parts.length=g:=by rw[<-G.gl];exact getD_last
   rw[ep,e3,e4];exact⟨rfl,FmOk.add (by omega) (by omega) h.f,h.k,h.o,h.g1,h.g2⟩
theorem Qw:(m.add f ks g).parts.length=m.parts.length+1:=by show(m.parts++_).length=_;rw[List.length_append];rfl
end
def Big(ns:List Int):Prop:=∀n∈ns,0<=n/\n<33554432
theorem Big.cell{ns:List Int}(h:Big ns){k:Int}(h0:0<=k)(h1:k<(ns.length:Int)):0<=Pr.cell ns k/\Pr.cell ns k<33554432:=h _ (List.mem_of_getElem? (Pr.WL h0 h1))
def More(z:Ra)(m:Rr)(H:Hp)(Q:VK):Prop:=∀m' H',Kp z H H'->RoomAt H' z m'->Good m'->m'.parts.length=m.parts.length+1->Q .non H'
inductive sp_simple(vs:List V)(H:Hp)(Q:VK)(xk:XK):Prop
 | mk (z:Ra) (m:Rr) (c:Int) (p:Addr) (ns:List Int) (_:vs=[.ref z.r,.int c,.ref p]) (_:RoomAt H z m) (_:Good m) (_:m.parts.length<65) (_:H p=some (.lst (ns.map V.int))) (_:z.off p) (_:4<=ns.length) (_:Big ns) (_:More z m H Q):sp_simple vs H Q xk
theorem WA{ws:List Str}{i:Int}(h0:0<=i)(h:i<(ws.length:Int)):atI (ws.map V.str) i=some (.str (ws.getD i.toNat ⟨#[]⟩)):=by
 have e:=XJ (ws:=ws) (n:=i.toNat) (by omega);rw[Int.toNat_of_nonneg h0]at e;exact e
theorem getD_in{ws:List Str}{n:Nat}(h:n<ws.length):ws.getD n ⟨#[]⟩∈ws:=by
 rw[getD_eq_getElem?_getD,List.getElem?_eq_getElem h];exact getElem_mem h
theorem Qd{as:List Addr}{i:Int}{a:Addr}(h0:0<=i)(h:as[i.toNat]?=some a):atI (as.map V.ref) i=some (.ref a):=by
 have e:atI (as.map V.ref) ((i.toNat:Nat):Int)=some (.ref a):=Jn (by rw[List.getElem?_map,h];rfl);rw[Int.toNat_of_nonneg h0]at e;exact e
open PySem PySem.Spec PyProof.Rows L2
inductive sp_there(vs:List V)(H:Hp)(Q:VK)(xk:XK):Prop
 | mk (z:Ra) (m:Rr) (n:Int) (_:vs=[.ref z.r,.int n]) (_:RoomAt H z m) (_:0<m.parts.length) (_:0<=n) (_:∀i:Nat,i<m.parts.length->Q (.int i) H):sp_there vs H Q xk
theorem X4{k:Nat}{H:Hp}{Q:VK}(q:∀i:Nat,i<k->Q (.int i) H){x:Int}(h0:0<=x)(h1:x<k):Q (.int x) H:=by
 have e:=q x.toNat (by omega);rw[Int.toNat_of_nonneg h0]at e;exact e
noncomputable def vN(j:Nat):V:=.int j
inductive sp_apart(vs:List V)(H:Hp)(Q:VK)(xk:XK):Prop
 | mk (z:Ra) (m:Rr) (p:Addr) (ns:List Int) (_:vs=[.ref z.r,.ref p]) (_:RoomAt H z m) (_:Good m) (_:0<m.parts.length) (_:m.parts.length<65) (_:H p=some (.lst (ns.map V.int))) (_:6<=ns.length) (_:Big ns) (_:∀(l:Addr) (is:List Nat) (H':Hp),Same H H'->H l=none->H' l=some (.lst (is.map vN))->is.length<=4->(∀j∈is,j<m.parts.length)->Apart m is->Q (.ref l) H'):sp_apart vs H Q xk
theorem Ye:∀{ks:List Int} {lo hi:Int},ks.Pairwise (· < ·)->(∀k∈ks,lo<=k/\k<hi)->ks.length<=(hi-lo).toNat
 | [],_,_,_,_=>Nat.zero_le _
 | k::r,lo,hi,h,b=>by
  have h1:=Ye (ks:=r) (lo:=k+1) (hi:=hi) (pairwise_cons.mp h).2 fun x hx=>⟨(pairwise_cons.mp h).1 x hx,(b x (mem_cons_of_mem _ hx)).2⟩
  have h2:=b k mem_cons_self;rw[length_cons];omega
theorem xO{m:Rr}(G:Good m){j:Nat}(h:j<m.parts.length):(m.hd j).length<=8:=by
 obtain⟨_,o⟩:=G.ps j _ (List.getElem?_eq_getElem h);have e:=Ye o.o o.k;have:=G.l8;omega
theorem XY{H:Hp}:∀(ks:List Int),DVs H (ks.map V.int) (ks.map PyData.int)
 | []=>.nil
 | k::r=>.cons (.int k) (XY r)
theorem j43{H:Hp}{a:Addr}{ks:List Int}(h:H a=some (.lst (ks.map V.int))):DV H (.ref a) (.list (ks.map PyData.int)):=.lst h (XY ks)
theorem j4r{H:Hp}{a:Addr}(h:H a=some (.lst [])):DV H (.ref a) (.list []):=.lst h .nil
theorem j44(ks:List Int):PyData.eqv (.list (ks.map PyData.int)) (.list [])=decide (ks=[]):=by
 cases ks<;>simp[PyData.eqv,PyData.eqvAll]
theorem shp(ks:List Int):SeqAt.shaped (.list (ks.map PyData.int))=true:=PySem.W.ke_shaped_ints ks
theorem shp0:SeqAt.shaped (.list [])=true:=PySem.W.ke_shaped_ints []
theorem YS{H:Hp}{z:Ra}{m:Rr}(R:RoomAt H z m)(G:Good m){j:Nat}(hj:j<m.parts.length){hs:List Addr}(eh:H z.ph=some (.lst (hs.map V.ref))):∃a,hs[j]?=some a/\H a=some (.lst ((m.hd j).map V.int))/\z.off a:=by
 obtain⟨hs',eh',ah⟩:=R.h;have e:hs'=hs:=by
  rw[eh]at eh';injection eh' with e;injection e with e;exact(List.map_inj_right (fun x y h=>by injection h)).mp e.symm
 subst e;have hl:=G.hl;obtain⟨a,ha,h1,h2⟩:=ah.get (i:=j) (x:=m.hd j) (by unfold Rr.hd;rw[getD_eq_getElem?_getD,List.getElem?_eq_getElem (by omega)];rfl);exact⟨a,ha,h1,h2⟩
theorem Apart.snoc{m:Rr}{is:List Nat}{j:Nat}{hs:List Int}(h:Apart m is)(hh:∀i∈is,∀k∈m.hd i,k∈hs)(h1:m.hd j≠[])(h2:∀k∈m.hd j,¬k∈hs):Apart m (is++[j]):=by
 refine⟨fun i hi=>?_,List.pairwise_append.mpr ⟨h.2,pairwise_singleton _ _,fun a ha b hb k hk hk'=>?_⟩⟩
 ·rcases mem_append.mp hi with e | e
  ·exact h.1 i e
  ·have e':i=j:=by simpa using e
   rw[e'];exact h1
 ·have e:b=j:=by simpa using hb
  subst e;exact h2 k hk' (hh a ha k hk)
theorem wG(n:Int):∀hs:List Int,inV (.int n) (hs.map V.int)=decide (n∈hs)
 | []=>rfl
 | h::r=>by
  have ih:=wG n r;unfold inV at ih|-;rw[map_cons,any_cons,ih];have e:eqV (.int h) (.int n)=decide (h=n):=by
   show decide _=_;simp
  rw[e,Bool.eq_iff_iff];simp only[Bool.or_eq_true,decide_eq_true_eq,mem_cons];constructor
  ·rintro(x | x)
   ·exact .inl x.symm
   ·exact .inr x
  ·rintro(x | x)
   ·exact .inl x.symm
   ·exact .inr x
theorem inI(n:Int)(hs:List Int):(if false=true then !inV (.int n) (hs.map V.int)else inV (.int n) (hs.map V.int))=decide (n∈hs):=by rw[if_neg (by decide),wG]
theorem notInI(n:Int)(hs:List Int):(if true=true then !inV (.int n) (hs.map V.int)else inV (.int n) (hs.map V.int)) = !decide (n∈hs):=by rw[if_pos rfl,wG]
theorem flats:∀hs:List Int,(hs.map V.int).all flatV=true
 | []=>rfl
 | h::r=>by rw[map_cons,all_cons,flats r];rfl
theorem take_snoc{α:Type}{l:List α}{i:Nat}{x:α}(h:l[i]?=some x):l.take (i+1)=l.take i++[x]:=by
 rw[List.take_add_one,h];rfl
inductive sp_naming(vs:List V)(H:Hp)(Q:VK)(xk:XK):Prop
 | mk (z:Ra) (m:Rr) (c:Int) (p:Addr) (ns:List Int) (_:vs=[.ref z.r,.int c,.ref p]) (_:RoomAt H z m) (_:Good m) (_:0<m.parts.length) (_:m.parts.length<65) (_:H p=some (.lst (ns.map V.int))) (_:z.off p) (_:ns.length=12) (_:Big ns) (_:More z m H Q):sp_naming vs H Q xk
theorem j38{ns:List Int}{h:Int}(h0:2<=h)(h1:h<=(ns.length:Int)):cutV (ns.map V.int) (some 2) (some h)=((ns.drop 2).take (h-2).toNat).map V.int:=by
 unfold cutV;rw[map_take,List.map_drop];have e1:HT.sIx (ns.map V.int).length 0 (some 2)=2:=(HT.QA (ns.map V.int).length 0 2).trans (by rw[length_map];omega);have e2:HT.sIx (ns.map V.int).length (ns.map V.int).length (some h)=h.toNat:=by
  show(if h<0 then _ else min h.toNat _)=_;rw[if_neg (by omega),length_map];omega
 rw[e1,e2];congr 1;omega
theorem Zz{is:List Nat}{i:Nat}{x:V}(h:(is.map vN)[i]?=some x):∃j,is[i]?=some j/\x = .int j/\j∈is:=by
 rw[List.getElem?_map]at h;obtain⟨j,hj,rfl⟩:=Option.map_eq_some_iff.mp h;exact⟨j,hj,rfl,List.mem_of_getElem? hj⟩
theorem wL{m:Rr}(G:Good m){j:Nat}(h:j<m.parts.length):atI (m.longs.map V.int) (j:Int)=some (.int (m.lg j)):=by
 have e:=G.gl;refine Jn ?_;rw[List.getElem?_map];unfold Rr.lg;rw[getD_eq_getElem?_getD,List.getElem?_eq_getElem (by omega)];rfl
theorem WS{m:Rr}(G:Good m){j:Nat}(h:j<m.parts.length):1<=m.lg j/\m.lg j<=10^60:=by
 obtain⟨_,o⟩:=G.ps j _ (List.getElem?_eq_getElem h);exact⟨o.g1,o.g2⟩
theorem Wr{m:Rr}(G:Good m):∀{is:List Nat},(∀j∈is,j<m.parts.length)->(is.length:Int)<=(is.map m.lg).sum/\(is.map m.lg).sum<=is.length*10^60
 | [],_=>⟨Int.le_refl _,by simp⟩
 | j::r,h=>by
  have a:=Wr G (is:=r) fun x hx=>h x (mem_cons_of_mem _ hx)
  have b:=WS G (h j mem_cons_self);rw[map_cons,sum_cons,length_cons];omega
theorem cut1{xs:List V}:cutV xs none (some 1)=xs.take 1:=by
 unfold cutV;rw[show HT.sIx xs.length 0 none=0 from rfl,show HT.sIx xs.length xs.length (some 1)=min 1 xs.length from HT.QA xs.length xs.length 1,List.drop_zero,Nat.sub_zero];cases xs with
 | nil=>rfl
 | cons x r=>rw[length_cons,show min 1 (r.length+1)=1 by omega]
theorem j46{m:Rr}(G:Good m){j:Nat}(h:j<m.parts.length):(m.hd j).Nodup:=by
 obtain⟨_,o⟩:=G.ps j _ (List.getElem?_eq_getElem h);exact o.o.imp fun h=>Int.ne_of_lt h
theorem kq{m:Rr}{is:List Nat}{hs:List Int}{i j:Nat}(hj:is[i]?=some j)(h:∀k,k∈hs↔∃x∈is.take i,k∈m.hd x)(nd:hs.Nodup)(nj:(m.hd j).Nodup) :
  (hs++(m.hd j).filter fun k=>!decide (k∈hs)).Nodup/\∀k,k∈hs++(m.hd j).filter (fun k=>!decide (k∈hs))↔∃x∈is.take (i+1),k∈m.hd x:=by
 constructor
 ·refine nodup_append.mpr ⟨nd,nj.filter _,fun a ha b hb e=>?_⟩;subst e;have:=(mem_filter.mp hb).2;simp[ha]at this
 ·intro k;rw[take_snoc hj,mem_append,h k,mem_filter];constructor
  ·rintro(⟨x,hx,hk⟩ | ⟨hk,_⟩)
   ·exact⟨x,mem_append_left _ hx,hk⟩
   ·exact⟨j,mem_append_right _ (mem_singleton.mpr rfl),hk⟩
  ·rintro⟨x,hx,hk⟩;rcases mem_append.mp hx with e | e
   ·exact .inl ⟨x,e,hk⟩
   ·have e':x=j:=mem_singleton.mp e;subst e';by_cases hin:k∈hs
    ·exact .inl ((h k).mp hin)
    ·exact .inr ⟨hk,by simp[hin]⟩
theorem ZU{ms hs:List Int}(hp:ms.Perm hs)(nd:hs.Nodup)(ho:ms.Pairwise (·<=·)):ms.Pairwise (· < ·):=
 (List.Pairwise.and ho (hp.nodup_iff.mpr nd)).imp fun {a b} h=>by have h1:=h.1;have h2:a≠b:=h.2;omega
theorem WO{m:Rr}(G:Good m){is:List Nat}(hj:∀j∈is,j<m.parts.length){hs:List Int}(hmem:∀k,k∈hs↔∃j∈is,k∈m.hd j):∀k∈hs,0<=k/\k<(m.limbs.length:Int):=fun k hk=>by
 obtain⟨j,h1,h2⟩:=(hmem k).mp hk;exact(G.ps j _ (List.getElem?_eq_getElem (hj j h1))).2.k k h2
def Shp(n:Nat)(d:PyData):Prop:=d.canLay0=true/\d.depth<=n
theorem Shp.int{i:Int}:Shp 0 (.int i):=⟨rfl,Nat.le_refl _⟩
theorem Shp.str{x:Str}(h:PyData.strOk x=true):Shp 0 (.str x):=⟨h,Nat.le_refl _⟩
theorem Shp.mono{n k:Nat}{d:PyData}(h:Shp n d)(hk:n<=k):Shp k d:=⟨h.1,Nat.le_trans h.2 hk⟩
theorem yN{n:Nat}:∀{ds:List PyData},(∀d∈ds,Shp n d)->PyData.canLayAll0 ds=true/\PyData.depthAll ds<=n
 | [],_=>⟨rfl,Nat.zero_le _⟩
 | d::r,h=>by
  have h1:=h d mem_cons_self;have h2:=yN (ds:=r) fun x hx=>h x (mem_cons_of_mem _ hx)
  constructor
  ·show(d.canLay0&&PyData.canLayAll0 r)=true;rw[h1.1,h2.1];rfl
  ·show max d.depth (PyData.depthAll r)<=n;exact Nat.max_le.mpr ⟨h1.2,h2.2⟩
theorem Shp.lst{n:Nat}{ds:List PyData}(h:∀d∈ds,Shp n d):Shp (n+1) (.list ds):=⟨(yN h).1,Nat.succ_le_succ (yN h).2⟩
theorem Shp.tup{n:Nat}{ds:List PyData}(h:∀d∈ds,Shp n d):Shp (n+1) (.tuple ds):=⟨(yN h).1,Nat.succ_le_succ (yN h).2⟩
theorem Shp.ok{n:Nat}{d:PyData}(h:Shp n d)(hn:n<=64):SeqAt.shaped d=true:=by
 unfold SeqAt.shaped;rw[h.1,Bool.true_and];exact decide_eq_true (Nat.le_trans h.2 hn)
theorem ZX{x:Str}(h:Ws.isW x=true):PyData.strOk x=true:=by
 unfold Ws.isW Ws.among at h;rw[Bool.and_eq_true]at h;have h2:=of_decide_eq_true h.2;unfold PyData.strOk;rw[Array.all_eq_true_iff_forall_mem];intro c hc;have:=kC.mp (h2 c (by simpa using hc));exact decide_eq_true (by omega)
theorem KY{x:Str}(h:Ws.isW x=true):x.length<=8:=by
 unfold Ws.isW at h;rw[Bool.and_eq_true]at h;exact(of_decide_eq_true h.1).2
noncomputable def fmD:Fm->PyData
 | .hold n=>.tuple [.str "hold",.int n]
 | .ring x n=>.tuple [.str "ring",.str x,.int n]
 | .rise x h n=>.tuple [.str "raise",.str x,.int h,.int n]
 | .row ps=>.tuple [.str "row",.tuple (ps.map PyData.str)]
 | .side ps=>.tuple [.str "side",.tuple (ps.map PyData.str)]
 | .again k x=>.tuple [.str "again",.int k,.str x]
noncomputable def partD(p:Str×Fm):PyData:=.tuple [.str p.1,fmD p.2]
noncomputable def limbD(p:Str×Int):PyData:=.tuple [.str p.1,.int p.2]
theorem wD{H:Hp}:∀(xs:List Str),DVs H (xs.map V.str) (xs.map PyData.str)
 | []=>.nil
 | x::r=>.cons (.str x) (wD r)
theorem j3a{H:Hp}{a:Addr}{f:Fm}(h:FormAt H a f):DV H (.ref a) (fmD f):=by
 cases f with
 | hold n=>exact .tup h (.cons (.str _) (.cons (.int _) .nil))
 | ring x n=>exact .tup h (.cons (.str _) (.cons (.str _) (.cons (.int _) .nil)))
 | rise x v n=>exact .tup h (.cons (.str _) (.cons (.str _) (.cons (.int _) (.cons (.int _) .nil))))
 | row ps=>obtain⟨b,h1,h2⟩:=h;exact .tup h1 (.cons (.str _) (.cons (.tup h2 (wD ps)) .nil))
 | side ps=>obtain⟨b,h1,h2⟩:=h;exact .tup h1 (.cons (.str _) (.cons (.tup h2 (wD ps)) .nil))
 | again k x=>exact .tup h (.cons (.str _) (.cons (.int _) (.cons (.str _) .nil)))
theorem XZ{H:Hp}{a:Addr}{p:Str×Fm}(h:PartAt H a p):DV H (.ref a) (partD p):=by
 obtain⟨b,h1,h2⟩:=h;exact .tup h1 (.cons (.str _) (.cons (j3a h2) .nil))
theorem YQ{H:Hp}{a:Addr}{p:Str×Int}(h:LimbAt H a p):DV H (.ref a) (limbD p):=.tup h (.cons (.str _) (.cons (.int _) .nil))
theorem All2.tail{α:Type}{R:Addr->α->Prop}{a:Addr}{x:α}{as:List Addr}{xs:List α}(h:All2 R (a::as) (x::xs)):R a x/\All2 R as xs:=
 ⟨h.2 0 a x rfl rfl,Nat.succ.inj h.1,fun i b y h1 h2=>h.2 (i+1) b y (by simpa using h1) (by simpa using h2)⟩
theorem qI{α:Type}{H:Hp}{R:Addr->α->Prop}{D:α->PyData}(k:∀a x,R a x->DV H (.ref a) (D x)):∀{as:List Addr} {xs:List α},All2 R as xs->DVs H (as.map V.ref) (xs.map D)
 | [],[],_=>.nil
 | [],_::_,h=>by have:=h.1;simp at this
 | _::_,[],h=>by have:=h.1;simp at this
 | _::_,_::_,h=>.cons (k _ _ h.tail.1) (qI k h.tail.2)
noncomputable def FmWs:Fm->Prop
 | .hold n=>0<=n/\n<=10^18
 | .ring x n=>Ws.isW x=true/\0<=n/\n<=10^18
 | .rise x h n=>Ws.isW x=true/\0<=h/\h<=10^18/\0<=n/\n<=10^18
 | .row ps=>ps.length<=8/\∀x∈ps,Ws.isW x=true
 | .side ps=>ps.length<=8/\∀x∈ps,Ws.isW x=true
 | .again k x=>0<=k/\k<=10^18/\Ws.isW x=true
structure BkOk(ls:List (Str×Int))(ps:List (Str×Fm)):Prop where
 l8:ls.length<=8
 ln:∀p∈ls,Ws.isW p.1=true/\0<=p.2/\p.2<=10^18
 p61:ps.length<=61
 pn:∀p∈ps,Ws.isW p.1=true/\FmWs p.2
theorem j3w{m:Rr}(G:Good m){j:Nat}(h:j<68):Ws.isW (m.nm j)=true:=G.nw _ (getD_in (by rw[G.nl];exact h))
theorem Good.bk{m:Rr}(G:Good m)(h61:m.parts.length<=61):BkOk m.limbs m.parts:=by
 refine⟨G.l8,fun p hp=>⟨G.nw _ (G.lm p hp).1,(G.lm p hp).2⟩,h61,fun p hp=>?_⟩;obtain⟨i,hi,rfl⟩:=mem_iff_getElem.mp hp;obtain⟨e,o⟩:=G.ps i _ (List.getElem?_eq_getElem hi);refine⟨by rw[e];exact j3w G (by omega),?_⟩;have f:=o.f;generalize(m.parts[i]).2=fm at f;cases fm with
 | hold n=>exact⟨by have:=f.1;omega,f.2.1⟩
 | ring x n=>exact⟨G.nw _ f.1,by have:=f.2.1;omega,f.2.2.1⟩
 | rise x v n=>
  obtain⟨⟨j,v',hj,_⟩,h1,h2,h3,h4,_⟩:=f;exact⟨G.nw _ (G.lm _ (List.mem_of_getElem? hj)).1,h1,h2,by omega,h4⟩
 | row ps=>
  obtain⟨is,⟨rfl,hlt⟩,h1,h2,_⟩:=f;refine⟨by rw[length_map];exact h2,fun x hx=>?_⟩;obtain⟨j,hj,rfl⟩:=mem_map.mp hx;exact j3w G (by have:=hlt j hj;omega)
 | side ps=>
  obtain⟨is,⟨rfl,hlt⟩,h1,h2,_⟩:=f;refine⟨by rw[length_map];omega,fun x hx=>?_⟩;obtain⟨j,hj,rfl⟩:=mem_map.mp hx;exact j3w G (by have:=hlt j hj;omega)
 | again k x=>
  obtain⟨h1,h2,j,hj,rfl,_⟩:=f;exact⟨by omega,h2,j3w G (by omega)⟩
theorem Kc{n:Nat}{xs:List Str}(h:∀x∈xs,Ws.isW x=true):∀d∈xs.map PyData.str,Shp n d:=fun d hd=>by
 obtain⟨x,hx,rfl⟩:=mem_map.mp hd;exact(Shp.str (ZX (h x hx))).mono (Nat.zero_le _)
theorem j2L{f:Fm}(h:FmWs f):Shp 2 (fmD f):=by
 cases f with
 | hold n=>exact(Shp.tup (n:=0) (by rintro d hd;simp only[mem_cons,not_mem_nil,or_false]at hd;rcases hd with rfl | rfl;exact Shp.str (by decide +kernel);exact Shp.int)).mono (by decide)
 | ring x n=>exact(Shp.tup (n:=0) (by rintro d hd;simp only[mem_cons,not_mem_nil,or_false]at hd;rcases hd with rfl | rfl | rfl;exact Shp.str (by decide +kernel);exact Shp.str (ZX h.1);exact Shp.int)).mono (by decide)
 | rise x v n=>exact(Shp.tup (n:=0) (by rintro d hd;simp only[mem_cons,not_mem_nil,or_false]at hd;rcases hd with rfl | rfl | rfl | rfl;exact Shp.str (by decide +kernel);exact Shp.str (ZX h.1);exact Shp.int;exact Shp.int)).mono (by decide)
 | row ps=>exact Shp.tup (n:=1) (by rintro d hd;simp only[mem_cons,not_mem_nil,or_false]at hd;rcases hd with rfl | rfl;exact(Shp.str (by decide +kernel)).mono (by decide);exact Shp.tup (Kc h.2))
 | side ps=>exact Shp.tup (n:=1) (by rintro d hd;simp only[mem_cons,not_mem_nil,or_false]at hd;rcases hd with rfl | rfl;exact(Shp.str (by decide +kernel)).mono (by decide);exact Shp.tup (Kc h.2))
 | again k x=>exact(Shp.tup (n:=0) (by rintro d hd;simp only[mem_cons,not_mem_nil,or_false]at hd;rcases hd with rfl | rfl | rfl;exact Shp.str (by decide +kernel);exact Shp.int;exact Shp.str (ZX h.2.2))).mono (by decide)
theorem K6{ls:List (Str×Int)}{ps:List (Str×Fm)}(B:BkOk ls ps):Shp 4 (.list (ps.map partD)):=by
 refine Shp.lst fun d hd=>?_
 obtain⟨p,hp,rfl⟩:=mem_map.mp hd;refine Shp.tup fun d hd=>?_
 simp only[mem_cons,not_mem_nil,or_false]at hd;rcases hd with rfl | rfl
 ·exact(Shp.str (ZX (B.pn p hp).1)).mono (by decide)
 ·exact j2L (B.pn p hp).2
theorem zD{ls:List (Str×Int)}{ps:List (Str×Fm)}(B:BkOk ls ps):Shp 4 (.list (ls.map limbD)):=by
 refine Shp.mono (n:=2) (Shp.lst fun d hd=>?_) (by decide);obtain⟨p,hp,rfl⟩:=mem_map.mp hd;refine Shp.tup fun d hd=>?_
 simp only[mem_cons,not_mem_nil,or_false]at hd;rcases hd with rfl | rfl
 ·exact Shp.str (ZX (B.ln p hp).1)
 ·exact Shp.int
noncomputable def bookD(ls:List (Str×Int))(ps:List (Str×Fm)):PyData:=.tuple [.list (ls.map limbD),.list (ps.map partD)]
theorem j2K{ls:List (Str×Int)}{ps:List (Str×Fm)}(B:BkOk ls ps):Shp 5 (bookD ls ps):=by
 refine Shp.tup fun d hd=>?_
 simp only[mem_cons,not_mem_nil,or_false]at hd;rcases hd with rfl | rfl
 ·exact zD B
 ·exact K6 B
structure BookAt(H:Hp)(b pl pp:Addr)(las pas:List Addr)(ls:List (Str×Int))(ps:List (Str×Fm)):Prop where
 t:H b=some (.tup [.ref pl,.ref pp])
 l:H pl=some (.lst (las.map V.ref))
 la:All2 (LimbAt H) las ls
 p:H pp=some (.lst (pas.map V.ref))
 pa:All2 (PartAt H) pas ps
theorem FormAt.same{H H':Hp}{a:Addr}{f:Fm}(s:Same H H')(h:FormAt H a f):FormAt H' a f:=by
 cases f with
 | row ps=>obtain⟨b,h1,h2⟩:=h;exact⟨b,s _ _ h1,s _ _ h2⟩
 | side ps=>obtain⟨b,h1,h2⟩:=h;exact⟨b,s _ _ h1,s _ _ h2⟩
 | hold n=>exact s _ _ h
 | ring x n=>exact s _ _ h
 | rise x g n=>exact s _ _ h
 | again x n=>exact s _ _ h
theorem PartAt.same{H H':Hp}{a:Addr}{p:Str×Fm}(s:Same H H')(h:PartAt H a p):PartAt H' a p:=by
 obtain⟨b,h1,h2⟩:=h;exact⟨b,s _ _ h1,FormAt.same s h2⟩
theorem BookAt.same{H H':Hp}{b pl pp:Addr}{las pas:List Addr}{ls:List (Str×Int)}{ps:List (Str×Fm)}(B:BookAt H b pl pp las pas ls ps)(s:Same H H'):BookAt H' b pl pp las pas ls ps:=
 ⟨s _ _ B.t,s _ _ B.l,B.la.mono fun a x h=>s _ _ h,s _ _ B.p,B.pa.mono fun a x h=>PartAt.same s h⟩
theorem BookAt.dv{H:Hp}{b pl pp:Addr}{las pas:List Addr}{ls:List (Str×Int)}{ps:List (Str×Fm)}(B:BookAt H b pl pp las pas ls ps):DV H (.ref b) (bookD ls ps):=
 .tup B.t (.cons (.lst B.l (qI (fun _ _ h=>YQ h) B.la)) (.cons (.lst B.p (qI (fun _ _ h=>XZ h) B.pa)) .nil))
theorem j0O(ps:List (Str×Fm)):PyData.eqv (.list (ps.map partD)) (.list [])=decide (ps=[]):=by
 cases ps<;>simp[PyData.eqv,PyData.eqvAll]
noncomputable def tI(n:Int):Str:=Str.ofString (toString n)
noncomputable def bl:Str:=" "
noncomputable def limbW(p:Str×Int):List Str:=[p.1,tI p.2]
noncomputable def fmW:Fm->List Str
 | .hold n=>["hold",tI n]
 | .ring x n=>["ring",x,tI n]
 | .rise x h n=>["raise",x,tI h,tI n]
 | .row ps=>"row"::ps
 | .side ps=>"side"::ps
 | .again k x=>["again",tI k,x]
noncomputable def rowL(ls:List (Str×Int)):Str:=Txt.join bl (("limbs" : Str)::ls.flatMap limbW)
noncomputable def rowP(p:Str×Fm):Str:=Txt.join bl (("part" : Str)::p.1::fmW p.2)
noncomputable def rowsOf(ls:List (Str×Int))(ps:List (Str×Fm)):List Str:=rowL ls::ps.map rowP
inductive sp_words_of(vs:List V)(H:Hp)(Q:VK)(xk:XK):Prop
 | mk (a:Addr) (f:Fm) (_:vs=[.ref a]) (_:FormAt H a f) (_:FmWs f) (_:∀(l:Addr) (H':Hp),Same H H'->H l=none->H' l=some (.lst ((fmW f).map V.str))->Q (.ref l) H'):sp_words_of vs H Q xk
inductive sp_shown(vs:List V)(H:Hp)(Q:VK)(xk:XK):Prop
 | mk (b pl pp:Addr) (las pas:List Addr) (ls:List (Str×Int)) (ps:List (Str×Fm)) (_:vs=[.ref b]) (_:BookAt H b pl pp las pas ls ps) (_:BkOk ls ps) (_:∀H':Hp,Same H H'->Q (.str (Txt.join "\n" (rowsOf ls ps))) H'):sp_shown vs H Q xk
theorem j23{n:Int}(h0:0<=n)(h1:n<=10^18):n.natAbs.log2<1920:=by
 by_cases e:n.natAbs=0
 ·rw[e];decide
 ·exact(Nat.log2_lt e).mpr (Nat.lt_of_lt_of_le (show n.natAbs<2^60 by omega) (Nat.pow_le_pow_right (by decide) (by decide)))
theorem Zy{n:Int}(h0:0<=n)(h1:n<=10^18):(tI n).length<=19:=toString_length_le h0 (by decide) (by omega)
theorem ZP(z:Str)(ys:List Str):Txt.join z ys=Str.join z ys:=by
 show Builtin.Str.glued z ys=_;rw[StrLaws.glued_eq_join]
theorem Zm(z:Str):∀ys:List Str,(Str.join z ys).length<=(ys.map (·.length)).sum+ys.length*z.length
 | []=>Nat.zero_le _
 | [a]=>by
  show a.length<=a.length+0+1*z.length;omega
 | a::b::r=>by
  have ih:=Zm z (b::r);show(a++z++Str.join z (b::r)).length<=_;rw[Str.length_append,Str.length_append,map_cons,sum_cons,length_cons,Nat.add_mul];omega
theorem j0r{ys:List Str}{B:Nat}(h:∀y∈ys,y.length<=B):(ys.map (·.length)).sum<=ys.length*B:=by
 induction ys with
 | nil=>exact Nat.zero_le _
 | cons y r ih=>
  have h1:=h y mem_cons_self;have h2:=ih fun x hx=>h x (mem_cons_of_mem _ hx)
  rw[map_cons,sum_cons,length_cons,Nat.add_mul];omega
theorem wE{f:Fm}(h:FmWs f):(fmW f).length<=9/\∀y∈fmW f,y.length<=19:=by
 have k:∀{a:Str},a∈(["hold","ring","raise","row","side","again"]:List Str)->a.length<=19:=by decide +kernel
 have w:∀{x:Str},Ws.isW x=true->x.length<=19:=fun h=>Nat.le_trans (KY h) (by decide)
 cases f with
 | hold n=>
  refine⟨(by show 2<=9;decide),fun y hy=>?_⟩;simp only[fmW,mem_cons,not_mem_nil,or_false]at hy;rcases hy with rfl | rfl
  ·exact k (by decide +kernel)
  ·exact Zy h.1 h.2
 | ring x n=>
  refine⟨(by show 3<=9;decide),fun y hy=>?_⟩;simp only[fmW,mem_cons,not_mem_nil,or_false]at hy;rcases hy with rfl | rfl | rfl
  ·exact k (by decide +kernel)
  ·exact w h.1
  ·exact Zy h.2.1 h.2.2
 | rise x v n=>
  refine⟨(by show 4<=9;decide),fun y hy=>?_⟩;simp only[fmW,mem_cons,not_mem_nil,or_false]at hy;rcases hy with rfl | rfl | rfl | rfl
  ·exact k (by decide +kernel)
  ·exact w h.1
  ·exact Zy h.2.1 h.2.2.1
  ·exact Zy h.2.2.2.1 h.2.2.2.2
 | row ps=>
  refine⟨Nat.succ_le_succ h.1,fun y hy=>?_⟩;rcases mem_cons.mp hy with rfl | hy
  ·exact k (by decide +kernel)
  ·exact w (h.2 y hy)
 | side ps=>
  refine⟨Nat.succ_le_succ h.1,fun y hy=>?_⟩;rcases mem_cons.mp hy with rfl | hy
  ·exact k (by decide +kernel)
  ·exact w (h.2 y hy)
 | again n x=>
  refine⟨(by show 3<=9;decide),fun y hy=>?_⟩;simp only[fmW,mem_cons,not_mem_nil,or_false]at hy;rcases hy with rfl | rfl | rfl
  ·exact k (by decide +kernel)
  ·exact Zy h.1 h.2.1
  ·exact w h.2.2
theorem yF{ls:List (Str×Int)}(h:∀p∈ls,Ws.isW p.1=true/\0<=p.2/\p.2<=10^18):(ls.flatMap limbW).length=2*ls.length/\∀y∈ls.flatMap limbW,y.length<=19:=by
 induction ls with
 | nil=>exact⟨rfl,fun y hy=>nomatch hy⟩
 | cons p r ih=>
  have h1:=h p mem_cons_self;obtain⟨i1,i2⟩:=ih fun x hx=>h x (mem_cons_of_mem _ hx)
  rw[List.flatMap_cons];refine⟨by rw[List.length_append,i1,length_cons];show 2+_=_;omega,fun y hy=>?_⟩;rcases mem_append.mp hy with e | e
  ·simp only[limbW,mem_cons,not_mem_nil,or_false]at e;rcases e with rfl | rfl
   ·exact Nat.le_trans (KY h1.1) (by decide)
   ·exact Zy h1.2.1 h1.2.2
  ·exact i2 y e
noncomputable def lix(c:Int)(k:Nat):Nat:=if c%3<2 then 60+k else((c/3+5*(k:Int))%8).toNat
noncomputable def lnm(ws:List Str)(c:Int)(k:Nat):Str:=ws.getD (lix c k) ⟨#[]⟩
theorem j1A{x y:Int}{i:Int}(h0:0<=i)(h1:i<3):atI [V.int x,V.int x,V.int y] i=some (.int (if i<2 then x else y)):=by
 rcases(by omega:i=0\/i=1\/i=2)with e | e | e<;>subst e<;>rfl
theorem j4G{ws:List Str}{c:Int}{i:Nat}(hl:ws.length=68)(hc:0<=c)(hi:i<8) :
  0<=(if c%3<2 then 60+(0+(i:Int))else(c/3+5*(0+(i:Int)))%8)/\(if c%3<2 then 60+(0+(i:Int))else(c/3+5*(0+(i:Int)))%8)<(ws.length:Int)/\
   ws.getD (if c%3<2 then 60+(0+(i:Int))else(c/3+5*(0+(i:Int)))%8).toNat ⟨#[]⟩=lnm ws c i:=by
 unfold lnm lix;rw[hl,Int.zero_add];split
 ·exact⟨by omega,by omega,by rw[show(60+(i:Int)).toNat=60+i by omega]⟩
 ·exact⟨by omega,by omega,rfl⟩
theorem xV{c:Int}{k:Nat}(h:k<8):lix c k<68:=by
 unfold lix;split<;>omega
theorem j3p{c:Int}{j k:Nat}(hj:j<8)(hk:k<8)(h:lix c j=lix c k):j=k:=by
 unfold lix at h;split at h<;>omega
theorem getD_inj{ws:List Str}(nd:ws.Nodup){i j:Nat}(hi:i<ws.length)(hj:j<ws.length)(h:ws.getD i ⟨#[]⟩=ws.getD j ⟨#[]⟩):i=j:=by
 rw[getD_eq_getElem?_getD,getD_eq_getElem?_getD,List.getElem?_eq_getElem hi,List.getElem?_eq_getElem hj]at h;have h':ws[i]=ws[j]:=h;rcases Nat.lt_trichotomy i j with q | q | q
 ·exact absurd h' (pairwise_iff_getElem.mp nd i j hi hj q)
 ·exact q
 ·exact absurd h'.symm (pairwise_iff_getElem.mp nd j i hj hi q)
theorem j4I{ws:List Str}{c:Int}{n:Nat}(hl:ws.length=68)(nd:ws.Nodup)(hn:n<=8):((List.range n).map (lnm ws c)).Nodup:=by
 refine pairwise_map.mpr (List.Pairwise.imp_of_mem (fun {a b} ha hb hab e=>?_) List.nodup_range);have h1:=mem_range.mp ha;have h2:=mem_range.mp hb;exact hab (j3p (by omega) (by omega) (getD_inj nd (by rw[hl];exact xV (by omega)) (by rw[hl];exact xV (by omega)) e))
theorem j4H{ws:List Str}{c:Int}{n:Nat}(hl:ws.length=68)(hn:n<=8){x:Str}(h:x∈(List.range n).map (lnm ws c)):x∈ws:=by
 obtain⟨k,hk,rfl⟩:=mem_map.mp h;have:=mem_range.mp hk;exact getD_in (by rw[hl];exact xV (by omega))
theorem j4n{xs:List V}:(cutV xs (some 2) (some 62)).length<=60:=by
 unfold cutV;rw[length_take,show HT.sIx xs.length 0 (some 2)=min 2 xs.length from HT.QA xs.length 0 2,show HT.sIx xs.length xs.length (some 62)=min 62 xs.length from HT.QA xs.length xs.length 62];omega
open PyProof.Rows.KTD (inKeys Dat)
noncomputable def MN:List (Str×Dat):=[("row",.flat (.int 8)),("side",.flat (.int 4))]
def TxV(v:V)(w:Str):Prop:=v = .str w\/∃n:Int,v = .int n/\0<=n/\n<=10^18/\w=tI n
inductive Tx:List V->List Str->Prop
 | nil:Tx [] []
 | cons {v:V} {w:Str} {vs:List V} {ws:List Str}:TxV v w->Tx vs ws->Tx (v::vs) (w::ws)
theorem Tx.len{vs:List V}{ws:List Str}(h:Tx vs ws):vs.length=ws.length:=by
 induction h with
 | nil=>rfl
 | cons _ _ ih=>rw[length_cons,length_cons,ih]
theorem Tx.get{vs:List V}{ws:List Str}(h:Tx vs ws):∀{i:Nat} {v:V},vs[i]?=some v->∃w,ws[i]?=some w/\TxV v w:=by
 induction h with
 | nil=>intro i v e;simp at e
 | cons hv _ ih=>
  intro i v e;cases i with
  | zero=>simp at e;subst e;exact⟨_,rfl,hv⟩
  | succ i=>simp at e;obtain⟨w,h1,h2⟩:=ih e;exact⟨w,by simpa using h1,h2⟩
theorem j1T{H:Hp}{a:Addr}{f:Fm}(h:FormAt H a f)(w:FmWs f) :
  (∃k b ps,H a=some (.tup [.str k,.ref b])/\H b=some (.tup (ps.map V.str))/\fmW f=k::ps/\ps.length<=8/\inKeys k MN=true)\/(∃k vs,H a=some (.tup (.str k::vs))/\inKeys k MN=false/\Tx (.str k::vs) (fmW f)):=by
 cases f with
 | hold n=>exact .inr ⟨_,_,h,by decide +kernel,.cons (.inl rfl) (.cons (.inr ⟨n,rfl,w.1,w.2,rfl⟩) .nil)⟩
 | ring x n=>exact .inr ⟨_,_,h,by decide +kernel,.cons (.inl rfl) (.cons (.inl rfl) (.cons (.inr ⟨n,rfl,w.2.1,w.2.2,rfl⟩) .nil))⟩
 | rise x v n=>exact .inr ⟨_,_,h,by decide +kernel,.cons (.inl rfl) (.cons (.inl rfl) (.cons (.inr ⟨v,rfl,w.2.1,w.2.2.1,rfl⟩) (.cons (.inr ⟨n,rfl,w.2.2.2.1,w.2.2.2.2,rfl⟩) .nil)))⟩
 | row ps=>obtain⟨b,h1,h2⟩:=h;exact .inl ⟨_,b,ps,h1,h2,rfl,w.1,by decide +kernel⟩
 | side ps=>obtain⟨b,h1,h2⟩:=h;exact .inl ⟨_,b,ps,h1,h2,rfl,w.1,by decide +kernel⟩
 | again k x=>exact .inr ⟨_,_,h,by decide +kernel,.cons (.inl rfl) (.cons (.inr ⟨k,rfl,w.1,w.2.1,rfl⟩) (.cons (.inl rfl) .nil))⟩
theorem at0{x:V}{xs:List V}:atI (x::xs) 0=some x:=Jn (j:=0) rfl
theorem iteB0{b:Bool}{A B:Prop}(e:b=false)(h:B):if b=true then A else B:=by rw[e];exact h
theorem iteB1{b:Bool}{A B:Prop}(e:b=true)(h:A):if b=true then A else B:=by rw[e];exact h
theorem j4i:bl.length=1:=by decide +kernel
theorem jb{ys:List Str}{n:Nat}(hl:ys.length<=n)(h:∀y∈ys,y.length<=19):(ys.map (·.length)).sum+ys.length*bl.length<=n*20:=by
 have h1:=j0r h;have h2:=Nat.mul_le_mul_right 20 hl;rw[j4i];omega
theorem Wg{ls:List (Str×Int)}{ps:List (Str×Fm)}(B:BkOk ls ps){p:Str×Fm}(hp:p∈ps):(((("part" : Str)::p.1::fmW p.2)).map (·.length)).sum+(("part" : Str)::p.1::fmW p.2).length*bl.length<=220:=by
 obtain⟨h1,h2⟩:=B.pn p hp;obtain⟨f1,f2⟩:=wE h2;refine jb (n:=11) (by rw[length_cons,length_cons];omega) fun y hy=>?_
 rcases mem_cons.mp hy with rfl | hy
 ·decide +kernel
 rcases mem_cons.mp hy with rfl | hy
 ·exact Nat.le_trans (KY h1) (by decide)
 ·exact f2 y hy
theorem j0l{ls:List (Str×Int)}(h8:ls.length<=8)(h:∀p∈ls,Ws.isW p.1=true/\0<=p.2/\p.2<=10^18):(((("limbs" : Str)::ls.flatMap limbW)).map (·.length)).sum+(("limbs" : Str)::ls.flatMap limbW).length*bl.length<=340:=by
 obtain⟨f1,f2⟩:=yF h;refine jb (n:=17) (by rw[length_cons,f1];omega) fun y hy=>?_
 rcases mem_cons.mp hy with rfl | hy
 ·decide +kernel
 ·exact f2 y hy
theorem xa{ls:List (Str×Int)}(h8:ls.length<=8)(h:∀p∈ls,Ws.isW p.1=true/\0<=p.2/\p.2<=10^18):(rowL ls).length<=340:=by
 unfold rowL;rw[ZP];exact Nat.le_trans (Zm _ _) (j0l h8 h)
theorem j0m{ls:List (Str×Int)}{ps:List (Str×Fm)}(B:BkOk ls ps):((rowsOf ls ps).map (·.length)).sum+(rowsOf ls ps).length*(Str.ofString "\n").length<=30000:=by
 have h:=j0r (ys:=rowsOf ls ps) (B:=340) fun y hy=>by
  rcases mem_cons.mp hy with rfl | hy
  ·exact xa B.l8 B.ln
  ·obtain⟨p,hp,rfl⟩:=mem_map.mp hy;unfold rowP;rw[ZP];exact Nat.le_trans (Zm _ _) (Nat.le_trans (Wg B hp) (show 220<=340 by decide))
 have h2:(rowsOf ls ps).length<=62:=by
  unfold rowsOf;rw[length_cons,length_map];have:=B.p61;omega
 rw[show(Str.ofString "\n").length=1 by decide +kernel];omega
theorem j3O{ls:List (Str×Int)}{ps:List (Str×Fm)}(B:BkOk ls ps):((rowsOf ls ps).map (·.length)).sum+(rowsOf ls ps).length*(Str.ofString "\n").length<=16777216:=Nat.le_trans (j0m B) (by decide)
theorem j1L{x:V}{xs:List V}:cutV (x::xs) (some 1) none=xs:=by
 unfold cutV;rw[show HT.sIx (x::xs).length 0 (some 1)=min 1 (x::xs).length from HT.QA _ 0 1,show HT.sIx (x::xs).length (x::xs).length none=(x::xs).length from rfl,length_cons,show min 1 (xs.length+1)=1 by omega];show List.take (xs.length+1-1) xs=xs;rw[Nat.add_sub_cancel,take_length]
theorem All2.at_ref{α:Type}{R:Addr->α->Prop}{as:List Addr}{xs:List α}{i:Nat}{v:V}(h:All2 R as xs)(hv:(as.map V.ref)[i]?=some v):∃a x,v = .ref a/\xs[i]?=some x/\R a x:=by
 rw[List.getElem?_map]at hv;obtain⟨a,ha,rfl⟩:=Option.map_eq_some_iff.mp hv;have hi:=(List.getElem?_eq_some_iff.mp ha).1;have hl:=h.1;have hx:xs[i]?=some xs[i]:=List.getElem?_eq_getElem (by omega);exact⟨a,_,rfl,hx,h.2 i a _ ha hx⟩
theorem QJ:∀{n:Nat} {hs:List Int},hs.Nodup->(∀k∈hs,0<=k/\k<(n:Int))->hs.length<=n
 | 0,hs,_,h=>by
  cases hs with
  | nil=>exact Nat.le_refl _
  | cons k r=>have:=h k mem_cons_self;omega
 | n+1,hs,nd,h=>by
  by_cases e:(n:Int)∈hs
  ·have i:=QJ (n:=n) (nd.erase (n:Int)) fun k hk=>by
    have h1:=h k (List.mem_of_mem_erase hk);have h2:k≠(n:Int):=fun z=>nd.not_mem_erase (z▸hk)
    omega
   have l:=List.length_erase_of_mem e;omega
  ·have i:=QJ (n:=n) nd fun k hk=>by
    have h1:=h k hk;have h2:k≠(n:Int):=fun z=>e (z▸hk)
    omega
   omega
noncomputable def Fm.ns:Fm->List Str
 | .row ps=>ps
 | .side ps=>ps
 | .again _ x=>[x]
 | _=>[]
noncomputable def numK(xs:List Str):List (Key×V):=xs.zipIdx.map fun p=>(Sum.inr p.1,.int (p.2:Nat))
theorem j14(xs:List Str)(x:Str):numK (xs++[x])=numK xs++[(Sum.inr x,.int (xs.length:Nat))]:=by
 unfold numK;rw[List.zipIdx_append,map_append];simp
theorem j2j(xs:List Str):(numK xs).length=xs.length:=by simp[numK]
theorem K2(xs:List Str):(numK xs).map (·.1)=xs.map Sum.inr:=by
 unfold numK;rw[map_map];have e:∀(k:Nat) (xs:List Str),(xs.zipIdx k).map ((fun x=>x.1)∘fun p:Str×Nat=>((Sum.inr p.1:Key),V.int (p.2:Nat)))=xs.map Sum.inr:=fun k xs=>by
  induction xs generalizing k with
  | nil=>rfl
  | cons x r ih=>rw[zipIdx_cons,map_cons,map_cons,ih];rfl
 exact e 0 xs
theorem j3y{xs:List Str}{j:Nat}{x:Str}(h:xs[j]?=some x):(numK xs)[j]?=some (Sum.inr x,.int (j:Nat)):=by
 unfold numK;rw[List.getElem?_map,List.getElem?_zipIdx,h];simp
theorem Ww:∀{kvs:List (Key×V)} {j:Nat} {k:Key} {v:V},(kvs.map (·.1)).Nodup->kvs[j]?=some (k,v)->valV kvs k=some v
 | [],j,k,v,_,h=>by simp at h
 | p::r,0,k,v,_,h=>by
  simp at h;subst h;unfold valV;simp
 | p::r,j+1,k,v,nd,h=>by
  rw[map_cons,nodup_cons]at nd;have h':r[j]?=some (k,v):=by simpa using h
  have ne:p.1≠k:=fun e=>nd.1 (e▸mem_map.mpr ⟨(k,v),List.mem_of_getElem? h',rfl⟩)
  have ih:=Ww nd.2 h';unfold valV at ih|-;rw[List.find?_cons,decide_eq_false ne];exact ih
theorem yI{xs:List Str}(nd:xs.Nodup){j:Nat}{x:Str}(h:xs[j]?=some x):valV (numK xs) (Sum.inr x)=some (.int (j:Nat)):=
 Ww (by rw[K2];exact pairwise_map.mpr (nd.imp fun h e=>h (Sum.inr.inj e))) (j3y h)
theorem Zt{kvs:List (Key×V)}{k:Key}{v:V}(h:k∉kvs.map (·.1)):putK kvs k v=kvs++[(k,v)]:=by
 unfold putK;rw[if_neg];intro e;obtain⟨p,hp,hk⟩:=any_eq_true.mp e;exact h (mem_map.mpr ⟨p,hp,of_decide_eq_true hk⟩)
noncomputable def ixOf:List Str->Str->Nat
 | [],_=>0
 | y::r,x=>if y=x then 0 else ixOf r x+1
theorem JO:∀{xs:List Str} {j:Nat} {x:Str},xs.Nodup->xs[j]?=some x->ixOf xs x=j
 | [],j,x,_,h=>by simp at h
 | y::r,0,x,_,h=>by
  simp at h;subst h;exact if_pos rfl
 | y::r,j+1,x,nd,h=>by
  rw[nodup_cons]at nd;have h':r[j]?=some x:=by simpa using h
  have ne:y≠x:=fun e=>nd.1 (e▸List.mem_of_getElem? h')
  show(if y=x then 0 else ixOf r x+1)=j+1;rw[if_neg ne,JO nd.2 h']
noncomputable def nmsOf{α:Type}(ps:List (Str×α)):List Str:=ps.map (·.1)
noncomputable def inP(ps:List (Str×Fm))(f:Fm):List Nat:=f.ns.map (ixOf (nmsOf ps))
structure WfB(ls:List (Str×Int))(ps:List (Str×Fm)):Prop where
 ln:(nmsOf ls).Nodup
 l8:ls.length<=8
 pn:(nmsOf ps).Nodup
 p61:ps.length<=61
 f:∀(i:Nat) (p:Str×Fm),ps[i]?=some p->(∀x∈p.2.ns,∃j,j<i/\(nmsOf ps)[j]?=some x)/\p.2.ns.length<=8
 r:∀(i:Nat) (y x:Str) (h n:Int),ps[i]?=some (y,.rise x h n)->∃j:Nat,(nmsOf ls)[j]?=some x
theorem WfB.inP_lt{ls:List (Str×Int)}{ps:List (Str×Fm)}(W:WfB ls ps){i:Nat}{p:Str×Fm}(h:ps[i]?=some p){j:Nat}(hj:j∈inP ps p.2):j<i:=by
 obtain⟨x,hx,rfl⟩:=mem_map.mp hj;obtain⟨k,hk,e⟩:=(W.f i p h).1 x hx;rw[JO W.pn e];exact hk
theorem kF{m:Rr}(G:Good m){j:Nat}(h:j<m.parts.length):(nmsOf m.parts)[j]?=some (m.nm j):=by
 unfold nmsOf;rw[List.getElem?_map,List.getElem?_eq_getElem h];exact congrArg some (G.ps j _ (List.getElem?_eq_getElem h)).1
theorem Good.wf{m:Rr}(G:Good m)(h61:m.parts.length<=61):WfB m.limbs m.parts:=by
 have nmd:∀i j,i<m.parts.length->j<m.parts.length->m.nm i=m.nm j->i=j:=fun i j hi hj e=>getD_inj G.nd (by rw[G.nl];omega) (by rw[G.nl];omega) e
 refine⟨G.ln,G.l8,?_,h61,fun i p hp=>?_,fun i y x h n hp=>?_⟩
 ·refine pairwise_iff_getElem.mpr fun i j hi hj hij e=>?_
  have li:i<m.parts.length:=by simpa [nmsOf]using hi
  have lj:j<m.parts.length:=by simpa [nmsOf]using hj
  have ei:=kF G li;have ej:=kF G lj;rw[List.getElem?_eq_getElem hi]at ei;rw[List.getElem?_eq_getElem hj]at ej;have:=nmd i j li lj ((Option.some.inj ei).symm.trans (e.trans (Option.some.inj ej)));omega
 ·obtain⟨_,o⟩:=G.ps i p hp;have hi:=(List.getElem?_eq_some_iff.mp hp).1;have f:=o.f;generalize p.2=fm at f;cases fm with
  | hold n=>exact⟨(fun x h=>nomatch h),Nat.zero_le _⟩
  | ring x n=>exact⟨(fun x h=>nomatch h),Nat.zero_le _⟩
  | rise x v n=>exact⟨(fun x h=>nomatch h),Nat.zero_le _⟩
  | row ps=>
   obtain⟨is,⟨rfl,hlt⟩,h1,h2,_⟩:=f;refine⟨fun x hx=>?_,by show(is.map m.nm).length<=8;rw[length_map];exact h2⟩;obtain⟨j,hj,rfl⟩:=mem_map.mp (show x∈is.map m.nm from hx);exact⟨j,hlt j hj,kF G (by have:=hlt j hj;omega)⟩
  | side ps=>
   obtain⟨is,⟨rfl,hlt⟩,h1,h2,_⟩:=f;refine⟨fun x hx=>?_,by show(is.map m.nm).length<=8;rw[length_map];omega⟩;obtain⟨j,hj,rfl⟩:=mem_map.mp (show x∈is.map m.nm from hx);exact⟨j,hlt j hj,kF G (by have:=hlt j hj;omega)⟩
  | again k x=>
   obtain⟨h1,h2,j,hj,rfl,_⟩:=f;refine⟨fun y hy=>?_,by show 1<=8;decide⟩;have e:y=m.nm j:=mem_singleton.mp (show y∈[m.nm j]from hy);rw[e];exact⟨j,hj,kF G (by omega)⟩
 ·obtain⟨_,o⟩:=G.ps i _ hp;obtain⟨⟨j,v',hj,_⟩,_⟩:=o.f;exact⟨j,by unfold nmsOf;rw[List.getElem?_map,hj];rfl⟩
theorem qK{m:Rr}(G:Good m)(W:WfB m.limbs m.parts){is:List Nat}(h:∀j∈is,j<m.parts.length):(is.map m.nm).map (ixOf (nmsOf m.parts))=is:=by
 rw[map_map]
 conv=>rhs;rw[<-map_id is]
 exact map_congr_left fun j hj=>JO W.pn (kF G (h j hj))
inductive sp_numbers_of(vs:List V)(H:Hp)(Q:VK)(xk:XK):Prop
 | mk (l:Addr) (as:List Addr) (xs:List Str) (_:vs=[.ref l]) (_:H l=some (.lst (as.map V.ref))) (_:as.length=xs.length) (_:(∀(i:Nat) (a:Addr) (x:Str),as[i]?=some a->xs[i]?=some x->∃r,H a=some (.tup [.str x,r]))) (_:xs.Nodup) (_:xs.length<=100) (_:∀(d:Addr) (H':Hp),Same H H'->H d=none->H' d=some (.dK (numK xs))->Q (.ref d) H'):sp_numbers_of vs H Q xk
def ListsAt(H:Hp)(as:List Addr)(M:List (List Int)):Prop:=All2 (fun a ks=>H a=some (.lst (ks.map V.int))) as M
theorem All2.monoM{α:Type}{R S:Addr->α->Prop}{as:List Addr}{xs:List α}(h:All2 R as xs)(k:∀a∈as,∀x,R a x->S a x):All2 S as xs:=⟨h.1,fun i a x h1 h2=>k a (List.mem_of_getElem? h1) x (h.2 i a x h1 h2)⟩
inductive sp_inner(vs:List V)(H:Hp)(Q:VK)(xk:XK):Prop
 | mk (b pl pp:Addr) (las pas:List Addr) (ls:List (Str×Int)) (ps:List (Str×Fm)) (_:vs=[.ref b]) (_:BookAt H b pl pp las pas ls ps) (_:WfB ls ps) (_:∀(l:Addr) (as:List Addr) (H':Hp),Same H H'->H l=none->H' l=some (.lst (as.map V.ref))->(∀a∈as,H a=none)->ListsAt H' as (ps.map fun p=>(inP ps p.2).map fun j:Nat=>(j:Int))->Q (.ref l) H'):sp_inner vs H Q xk
def PrsAt(H:Hp)(bs:List Addr)(e:List (Int×Int)):Prop:=All2 (fun b q=>H b=some (.tup [.int q.1,.int q.2])) bs e
def EndsAt(H:Hp)(as:List Addr)(E:List (List (Int×Int))):Prop:=All2 (fun a e=>∃bs,H a=some (.lst (bs.map V.ref))/\PrsAt H bs e) as E
def LastIn(E:List (List (Int×Int)))(is:List Nat)(k v:Int):Prop:=∃pre j post,is=pre++j::post/\(k,v)∈E.getD j []/\∀j'∈post,∀v',(k,v')∉E.getD j' []
def EndIs(ls:List (Str×Int))(ps:List (Str×Fm))(E:List (List (Int×Int)))(f:Fm)(k v:Int):Prop:=LastIn E (inP ps f) k v\/∃x n,f = .rise x v n/\k=(ixOf (nmsOf ls) x:Nat)
def EndOk(ls:List (Str×Int))(ps:List (Str×Fm))(E:List (List (Int×Int))):Prop:=∀(i:Nat) (p:Str×Fm) (e:List (Int×Int)),ps[i]?=some p->E[i]?=some e->(e.map (·.1)).Pairwise (· < ·)/\∀k v,(k,v)∈e↔EndIs ls ps E p.2 k v
inductive sp_ends(vs:List V)(H:Hp)(Q:VK)(xk:XK):Prop
 | mk (b pl pp:Addr) (las pas:List Addr) (ls:List (Str×Int)) (ps:List (Str×Fm)) (_:vs=[.ref b]) (_:BookAt H b pl pp las pas ls ps) (_:WfB ls ps) (_:∀(l:Addr) (as:List Addr) (E:List (List (Int×Int))) (H':Hp),Same H H'->H l=none->H' l=some (.lst (as.map V.ref))->(∀a∈as,H a=none)->E.length=ps.length->EndsAt H' as E->EndOk ls ps E->Q (.ref l) H'):sp_ends vs H Q xk
def MovOk(ls:List (Str×Int))(ps:List (Str×Fm))(M:List (List Int)):Prop:=∀(i:Nat) (p:Str×Fm) (ks:List Int),ps[i]?=some p->M[i]?=some ks->ks.Pairwise (· < ·)/\∀k,k∈ks↔(∃j∈inP ps p.2,k∈M.getD j [])\/∃x h n,p.2 = .rise x h n/\k=(ixOf (nmsOf ls) x:Nat)
inductive sp_moved(vs:List V)(H:Hp)(Q:VK)(xk:XK):Prop
 | mk (b pl pp:Addr) (las pas:List Addr) (ls:List (Str×Int)) (ps:List (Str×Fm)) (_:vs=[.ref b]) (_:BookAt H b pl pp las pas ls ps) (_:WfB ls ps) (_:∀(l:Addr) (as:List Addr) (M:List (List Int)) (H':Hp),Same H H'->H l=none->H' l=some (.lst (as.map V.ref))->(∀a∈as,H a=none)->M.length=ps.length->ListsAt H' as M->MovOk ls ps M->Q (.ref l) H'):sp_moved vs H Q xk
theorem Wv:∀{a b:List Int},a.Pairwise (· < ·)->b.Pairwise (· < ·)->(∀k,k∈a↔k∈b)->a=b
 | [],[],_,_,_=>rfl
 | [],y::s,_,_,h=>absurd ((h y).mpr mem_cons_self) (by simp)
 | x::r,[],_,_,h=>absurd ((h x).mp mem_cons_self) (by simp)
 | x::r,y::s,ha,hb,h=>by
  rw[pairwise_cons]at ha hb;have e:x=y:=by
   rcases mem_cons.mp ((h x).mp mem_cons_self)with q | q
   ·exact q
   ·rcases mem_cons.mp ((h y).mpr mem_cons_self)with q' | q'
    ·exact q'.symm
    ·have h1:=hb.1 x q;have h2:=ha.1 y q';omega
  subst e;congr 1;refine Wv ha.2 hb.2 fun k=>⟨fun hk=>?_,fun hk=>?_⟩
  ·rcases mem_cons.mp ((h k).mp (mem_cons_of_mem _ hk))with q | q
   ·have:=ha.1 k hk;omega
   ·exact q
  ·rcases mem_cons.mp ((h k).mpr (mem_cons_of_mem _ hk))with q | q
   ·have:=hb.1 k hk;omega
   ·exact q
theorem j2b{m:Rr}(G:Good m)(W:WfB m.limbs m.parts){M:List (List Int)}(hl:M.length=m.parts.length)(h:MovOk m.limbs m.parts M):∀i,i<m.parts.length->M.getD i []=m.hd i:=by
 intro i
 induction i using Nat.strongRecOn with
 | ind i ih=>
  intro hi;have ep:m.parts[i]?=some m.parts[i]:=List.getElem?_eq_getElem hi;have eM:M[i]?=some (M.getD i []):=by rw[getD_eq_getElem?_getD,List.getElem?_eq_getElem (by omega)];rfl
  obtain⟨a,b⟩:=h i _ _ ep eM;obtain⟨_,o⟩:=G.ps i _ ep;have hlt:=fun j=>W.inP_lt (j:=j) ep
  refine Wv a o.o fun k=>(b k).trans ?_
  have f:=o.f;have key:(∃j∈inP m.parts (m.parts[i]).2,k∈M.getD j [])↔∃j∈inP m.parts (m.parts[i]).2,k∈m.hd j:=by
   constructor
   ·rintro⟨j,hj,hk⟩;exact⟨j,hj,by rw[<-ih j (hlt j hj) (by have:=hlt j hj;omega)];exact hk⟩
   ·rintro⟨j,hj,hk⟩;exact⟨j,hj,by rw[ih j (hlt j hj) (by have:=hlt j hj;omega)];exact hk⟩
  rw[key];generalize(m.parts[i]).2=fm at f|-;cases fm with
  | hold n=>
   have e:m.hd i=[]:=f.2.2.1;rw[e];simp[inP,Fm.ns]
  | ring x n=>
   have e:m.hd i=[]:=f.2.2.2.1;rw[e];simp[inP,Fm.ns]
  | rise x v n=>
   obtain⟨⟨j,v',hj,e⟩,_⟩:=f;rw[e];have ex:ixOf (nmsOf m.limbs) x=j:=JO W.ln (by unfold nmsOf;rw[List.getElem?_map,hj];rfl);constructor
   ·rintro(⟨j',hj',_⟩ | ⟨x',h',n',e1,e2⟩)
    ·exact nomatch hj'
    ·injection e1 with e1 _ _;subst e1;rw[e2,ex];exact mem_singleton.mpr rfl
   ·intro hk;exact .inr ⟨x,v,n,rfl,by rw[ex];exact mem_singleton.mp hk⟩
  | row ps=>
   obtain⟨is,⟨rfl,hlt'⟩,_,_,ks,_⟩:=f;rw[show inP m.parts (.row (is.map m.nm))=is from qK G W fun j hj=>by have:=hlt' j hj;omega];rw[ks k];exact⟨(fun q=>q.elim id (fun⟨_,_,_,e,_⟩=>(nomatch e))),Or.inl⟩
  | side ps=>
   obtain⟨is,⟨rfl,hlt'⟩,_,_,_,ks,_⟩:=f;rw[show inP m.parts (.side (is.map m.nm))=is from qK G W fun j hj=>by have:=hlt' j hj;omega];rw[ks k];exact⟨(fun q=>q.elim id (fun⟨_,_,_,e,_⟩=>(nomatch e))),Or.inl⟩
  | again n x=>
   obtain⟨_,_,j,hj,rfl,e,_⟩:=f;rw[show inP m.parts (.again n (m.nm j))=[j]from qK G W (is:=[j]) fun j' hj'=>by have:=mem_singleton.mp hj';omega];rw[e];constructor
   ·rintro(⟨j',hj',hk⟩ | ⟨_,_,_,e,_⟩)
    ·rw[mem_singleton.mp hj']at hk;exact hk
    ·exact nomatch e
   ·exact fun hk=>.inl ⟨j,mem_singleton.mpr rfl,hk⟩
theorem getD_map{E:List (List (Int×Int))}(j:Nat):(E.map fun e=>e.map (·.1)).getD j []=(E.getD j []).map (·.1):=by
 rw[getD_eq_getElem?_getD,getD_eq_getElem?_getD,List.getElem?_map];cases E[j]?<;>rfl
theorem wS{k:Int}{e:List (Int×Int)}:k∈e.map (·.1)↔∃v,(k,v)∈e:=by
 constructor
 ·intro h;obtain⟨p,hp,rfl⟩:=mem_map.mp h;exact⟨p.2,hp⟩
 ·rintro⟨v,h⟩;exact mem_map.mpr ⟨_,h,rfl⟩
theorem wK{E:List (List (Int×Int))}{k:Int}:∀{is:List Nat},(∃v,LastIn E is k v)↔∃j∈is,∃v,(k,v)∈E.getD j []
 | []=>⟨fun⟨v,pre,j,post,e,_⟩=>by cases pre<;>simp at e,fun⟨j,h,_⟩=>by simp at h⟩
 | i::r=>by
  have ih:=wK (E:=E) (k:=k) (is:=r);constructor
  ·rintro⟨v,pre,j,post,e,h1,h2⟩;exact⟨j,by rw[e];simp,v,h1⟩
  ·rintro⟨j,hj,v,hv⟩;by_cases q:∃j∈r,∃v,(k,v)∈E.getD j []
   ·obtain⟨v',pre,j',post,e,h1,h2⟩:=ih.mpr q;exact⟨v',i::pre,j',post,by rw[e];rfl,h1,h2⟩
   ·rcases mem_cons.mp hj with rfl | hj
    ·exact⟨v,[],j,r,rfl,hv,fun j' h' v' hv'=>q ⟨j',h',v',hv'⟩⟩
    ·exact absurd ⟨j,hj,v,hv⟩ q
theorem j4L{ls:List (Str×Int)}{ps:List (Str×Fm)}{E:List (List (Int×Int))}(hl:E.length=ps.length)(h:EndOk ls ps E):MovOk ls ps (E.map fun e=>e.map (·.1)):=fun i p ks hp hk=>by
 rw[List.getElem?_map]at hk;obtain⟨e,he,rfl⟩:=Option.map_eq_some_iff.mp hk;obtain⟨a,b⟩:=h i p e hp he;refine⟨a,fun k=>?_⟩;rw[wS];constructor
 ·rintro⟨v,hv⟩;rcases(b k v).mp hv with z | ⟨x,n,e1,e2⟩
  ·obtain⟨j,hj,v',hv'⟩:=wK.mp ⟨v,z⟩;exact .inl ⟨j,hj,by rw[getD_map];exact wS.mpr ⟨v',hv'⟩⟩
  ·exact .inr ⟨x,v,n,e1,e2⟩
 ·rintro(⟨j,hj,hk⟩ | ⟨x,h,n,e1,e2⟩)
  ·rw[getD_map]at hk;obtain⟨v',hv'⟩:=wS.mp hk;obtain⟨v,z⟩:=wK.mpr ⟨j,hj,v',hv'⟩;exact⟨v,(b k v).mpr (.inl z)⟩
  ·exact⟨h,(b k h).mpr (.inr ⟨x,n,e1,e2⟩)⟩
theorem X5{xs:List Str}{x:Str}(h:x∈xs):ixOf xs x<xs.length:=by
 induction xs with
 | nil=>exact nomatch h
 | cons y r ih=>
  show(if y=x then 0 else ixOf r x+1)<r.length+1;split
  ·omega
  ·rename_i hne;rcases mem_cons.mp h with e | e
   ·exact absurd e.symm hne
   ·have:=ih e;omega
theorem WH{ls:List (Str×Int)}{ps:List (Str×Fm)}(W:WfB ls ps){E:List (List (Int×Int))}(hl:E.length<=ps.length)(h:EndOk ls ps E):∀(i:Nat),∀q∈E.getD i [],0<=q.1/\q.1<(ls.length:Int):=by
 intro i
 induction i using Nat.strongRecOn with
 | ind i ih=>
  intro q hq;rw[getD_eq_getElem?_getD]at hq;cases e:E[i]? with
  | none=>rw[e]at hq;exact nomatch hq
  | some ev=>
   rw[e]at hq;have hi:=(List.getElem?_eq_some_iff.mp e).1;have ep:ps[i]?=some ps[i]:=List.getElem?_eq_getElem (by omega);obtain⟨_,b⟩:=h i _ ev ep e;rcases(b q.1 q.2).mp hq with⟨pre,j,post,e1,e2,_⟩ | ⟨x,n,e1,e2⟩
   ·exact ih j (W.inP_lt ep (by rw[e1];simp)) _ e2
   ·have ep':ps[i]?=some (ps[i].1,.rise x q.2 n):=by rw[ep,<-e1]
    obtain⟨j,hj⟩:=W.r i _ _ _ _ ep';have h3:=X5 (List.mem_of_getElem? hj);have h4:(nmsOf ls).length=ls.length:=length_map _;rw[e2];omega
theorem WI{ls:List (Str×Int)}{ps:List (Str×Fm)}(W:WfB ls ps){E:List (List (Int×Int))}(hl:E.length<=ps.length)(h:EndOk ls ps E){i:Nat}{e:List (Int×Int)}(he:E[i]?=some e):e.length<=8:=by
 have hi:=(List.getElem?_eq_some_iff.mp he).1;have a:=(h i _ e (List.getElem?_eq_getElem (by omega)) he).1;have b:=WH W hl h i;rw[getD_eq_getElem?_getD,he]at b;have z:=Ye (ks:=e.map (·.1)) (lo:=0) (hi:=ls.length) a fun k hk=>by
  obtain⟨q,hq,rfl⟩:=mem_map.mp hk;exact b q hq
 rw[length_map]at z;have:=W.l8;omega
noncomputable def putI(kvs:List (Int×Int))(k v:Int):List (Int×Int):=if k∈kvs.map (·.1)then kvs.map (fun q=>if q.1=k then(q.1,v)else q)else kvs++[(k,v)]
noncomputable def mergeI(kvs more:List (Int×Int)):List (Int×Int):=more.foldl (fun acc q=>putI acc q.1 q.2) kvs
theorem j2A(kvs:List (Int×Int))(k v:Int):putK (kvs.map iiK) (Sum.inl k) (.int v)=(putI kvs k v).map iiK:=by
 have e:(((kvs.map iiK).any fun kv=>decide (kv.1=(Sum.inl k:Key)))=true)↔k∈kvs.map (·.1):=by
  rw[List.any_map,any_eq_true];constructor
  ·rintro⟨q,hq,h⟩;have h':(Sum.inl q.1:Key)=Sum.inl k:=of_decide_eq_true h;exact mem_map.mpr ⟨q,hq,Sum.inl.inj h'⟩
  ·intro h;obtain⟨q,hq,rfl⟩:=mem_map.mp h;exact⟨q,hq,decide_eq_true rfl⟩
 unfold putK putI;by_cases c:k∈kvs.map (·.1)
 ·rw[if_pos (e.mpr c),if_pos c,map_map,map_map];refine map_congr_left fun q _=>?_
  show(if(Sum.inl q.1:Key)=Sum.inl k then _ else _)=iiK (if q.1=k then(q.1,v)else q);by_cases z:q.1=k
  ·rw[if_pos z,if_pos (by rw[z])];rfl
  ·rw[if_neg z,if_neg (fun w=>z (Sum.inl.inj w))]
 ·rw[if_neg (fun w=>c (e.mp w)),if_neg c,map_append];rfl
theorem yc:∀(more kvs:List (Int×Int)),mergeK (kvs.map iiK) (more.map iiK)=(mergeI kvs more).map iiK
 | [],kvs=>rfl
 | q::r,kvs=>by
  show mergeK (putK (kvs.map iiK) (Sum.inl q.1) (.int q.2)) (r.map iiK)=(mergeI (putI kvs q.1 q.2) r).map iiK;rw[j2A,yc r]
theorem j1d(kvs:List (Int×Int))(k v:Int)(nd:(kvs.map (·.1)).Nodup):((putI kvs k v).map (·.1)).Nodup:=by
 unfold putI;split
 ·rw[map_map];have e:kvs.map ((fun x=>x.1)∘fun q=>if q.1=k then(q.1,v)else q)=kvs.map (·.1):=map_congr_left fun q _=>by
   show(if q.1=k then(q.1,v)else q).1=q.1;split<;>rfl
  rw[e];exact nd
 ·rename_i c;rw[map_append,nodup_append];exact⟨nd,pairwise_singleton _ _,fun a ha b hb e=>c (by rw[show k=b from(mem_singleton.mp hb).symm,<-e];exact ha)⟩
theorem j27{kvs:List (Int×Int)}{k v a b:Int}:(a,b)∈putI kvs k v↔(a=k/\b=v)\/(a≠k/\(a,b)∈kvs):=by
 unfold putI;split
 ·rename_i c;rw[mem_map];constructor
  ·rintro⟨q,hq,e⟩;by_cases z:q.1=k
   ·rw[if_pos z]at e;cases e;exact .inl ⟨z,rfl⟩
   ·rw[if_neg z]at e;subst e;exact .inr ⟨z,hq⟩
  ·rintro(⟨rfl,rfl⟩ | ⟨h1,h2⟩)
   ·obtain⟨q,hq,e⟩:=mem_map.mp c;exact⟨q,hq,by rw[if_pos e,e]⟩
   ·exact⟨(a,b),h2,by rw[if_neg h1]⟩
 ·rename_i c;rw[mem_append];constructor
  ·rintro(h | h)
   ·exact .inr ⟨fun e=>c (e▸mem_map.mpr ⟨(a,b),h,rfl⟩),h⟩
   ·cases mem_singleton.mp h;exact .inl ⟨rfl,rfl⟩
  ·rintro(⟨rfl,rfl⟩ | ⟨_,h⟩)
   ·exact .inr (mem_singleton.mpr rfl)
   ·exact .inl h
theorem K0:∀{more kvs:List (Int×Int)},(kvs.map (·.1)).Nodup->(more.map (·.1)).Nodup->((mergeI kvs more).map (·.1)).Nodup/\∀k v,(k,v)∈mergeI kvs more↔(k,v)∈more\/((∀v',(k,v')∉more)/\(k,v)∈kvs)
 | [],kvs,nd,_=>⟨nd,fun k v=>⟨fun h=>.inr ⟨(fun _ h=>nomatch h),h⟩,fun h=>h.elim (fun h=>nomatch h) (·.2)⟩⟩
 | q::r,kvs,nd,nm=>by
  rw[map_cons,nodup_cons]at nm;obtain⟨a,b⟩:=K0 (more:=r) (kvs:=putI kvs q.1 q.2) (j1d _ _ _ nd) nm.2;refine⟨a,fun k v=>(b k v).trans ?_⟩;rw[j27];have nq:∀v',(q.1,v')∉r:=fun v' h=>nm.1 (mem_map.mpr ⟨_,h,rfl⟩)
  constructor
  ·rintro(h | ⟨h1,⟨rfl,rfl⟩ | ⟨h2,h3⟩⟩)
   ·exact .inl (mem_cons_of_mem _ h)
   ·exact .inl mem_cons_self
   ·refine .inr ⟨fun v' hv=>?_,h3⟩;rcases mem_cons.mp hv with e | e
    ·exact h2 (by rw[<-e])
    ·exact h1 v' e
  ·rintro(h | ⟨h1,h2⟩)
   ·rcases mem_cons.mp h with e | e
    ·refine .inr ⟨fun v' hv=>?_,.inl ⟨by rw[<-e],by rw[<-e]⟩⟩;rw[<-e]at nq;exact nq v' hv
    ·exact .inl e
   ·refine .inr ⟨fun v' hv=>h1 v' (mem_cons_of_mem _ hv),.inr ⟨fun e=>?_,h2⟩⟩;exact h1 q.2 (by rw[e];exact mem_cons_self)
theorem x6{ms:List (Int×Int)}(nd:(ms.map (·.1)).Nodup):mergeI [] ms=ms:=by
 have e:∀(r acc:List (Int×Int)),((acc++r).map (·.1)).Nodup->mergeI acc r=acc++r:=by
  intro r
  induction r with
  | nil=>intro acc _;exact(append_nil _).symm
  | cons q r ih=>
   intro acc nd;have c:q.1∉acc.map (·.1):=fun h=>by
    rw[map_append,nodup_append]at nd;exact nd.2.2 q.1 h q.1 (by simp) rfl
   show mergeI (putI acc q.1 q.2) r=_;unfold putI;rw[if_neg c,ih (acc++[(q.1,q.2)]) (by rw[List.append_assoc];exact nd),List.append_assoc];rfl
 exact e ms [] nd
theorem j0T{E:List (List (Int×Int))}{is:List Nat}{j:Nat}{k v:Int}:LastIn E (is++[j]) k v↔(k,v)∈E.getD j []\/((∀v',(k,v')∉E.getD j [])/\LastIn E is k v):=by
 constructor
 ·rintro⟨pre,i,post,e,h1,h2⟩;rcases List.eq_nil_or_concat post with rfl | ⟨post',x,rfl⟩
  ·have e':=List.append_inj' (show is++[j]=pre++[i]from e) rfl;have ej:j=i:=by simpa using e'.2
   rw[ej];exact .inl h1
  ·have e2:is++[j]=(pre++i::post')++[x]:=by rw[e];simp
   have e':=List.append_inj' e2 rfl;have ej:j=x:=by simpa using e'.2
   subst ej;exact .inr ⟨h2 j (by simp),pre,i,post',e'.1,h1,fun j' hj'=>h2 j' (by simp[hj'])⟩
 ·rintro(h | ⟨h1,pre,i,post,e,h2,h3⟩)
  ·exact⟨is,j,[],rfl,h,(fun _ h=>nomatch h)⟩
  ·refine⟨pre,i,post++[j],by rw[e];simp,h2,fun j' hj' v'=>?_⟩;rcases mem_append.mp hj' with z | z
   ·exact h3 j' z v'
   ·rw[mem_singleton.mp z];exact h1 v'
theorem WQ{E E':List (List (Int×Int))}{is:List Nat}(h:∀j∈is,E.getD j []=E'.getD j []){k v:Int}:LastIn E is k v->LastIn E' is k v:=by
 rintro⟨pre,j,post,e,h1,h2⟩;refine⟨pre,j,post,e,by rw[<-h j (by rw[e];simp)];exact h1,fun j' hj'=>?_⟩;rw[<-h j' (by rw[e];simp[hj'])];exact h2 j' hj'
theorem EndOk.snoc{ls:List (Str×Int)}{ps:List (Str×Fm)}(W:WfB ls ps){E:List (List (Int×Int))}{p:Str×Fm}{e:List (Int×Int)}(h:EndOk ls ps E)(hp:ps[E.length]?=some p)(h1:(e.map (·.1)).Pairwise (· < ·))
  (h2:∀k v,(k,v)∈e↔EndIs ls ps E p.2 k v):EndOk ls ps (E++[e]):=fun i q f hq hf=>by
 have hle:i<=E.length:=by
  have:=(List.getElem?_eq_some_iff.mp hf).1;rw[List.length_append]at this;exact Nat.le_of_lt_succ this
 have ext:∀j∈inP ps q.2,E.getD j []=(E++[e]).getD j []:=fun j hj=>(getD_snoc (by have:=W.inP_lt hq hj;omega)).symm
 have iff:∀k v,EndIs ls ps E q.2 k v↔EndIs ls ps (E++[e]) q.2 k v:=fun k v=>by
  unfold EndIs;exact⟨fun h=>h.imp (WQ ext) id,fun h=>h.imp (WQ fun j hj=>(ext j hj).symm) id⟩
 by_cases hi:i<E.length
 ·rw[List.getElem?_append_left hi]at hf;obtain⟨a,b⟩:=h i q f hq hf;exact⟨a,fun k v=>(b k v).trans (iff k v)⟩
 ·have ei:i=E.length:=by omega
  subst ei;rw[List.getElem?_append_right (Nat.le_refl _),Nat.sub_self]at hf;have ef:e=f:=by simpa using hf
  subst ef;rw[hp]at hq;cases hq;exact⟨h1,fun k v=>(h2 k v).trans (iff k v)⟩
theorem j20{H:Hp}{a:Addr}{f:Fm}(h:FormAt H a f)(hn:∀x v n,f≠.rise x v n):∃k xs,H a=some (.tup (.str k::xs))/\decide (k=("raise" : Str))=false:=by
 cases f with
 | hold n=>exact⟨_,_,h,by decide +kernel⟩
 | ring x n=>exact⟨_,_,h,by decide +kernel⟩
 | rise x v n=>exact absurd rfl (hn x v n)
 | row ps=>obtain⟨b,h1,_⟩:=h;exact⟨_,_,h1,by decide +kernel⟩
 | side ps=>obtain⟨b,h1,_⟩:=h;exact⟨_,_,h1,by decide +kernel⟩
 | again k x=>exact⟨_,_,h,by decide +kernel⟩
noncomputable def kv0(ls:List (Str×Int)):Fm->List (Int×Int)
 | .rise x h _=>[((ixOf (nmsOf ls) x:Nat),h)]
 | _=>[]
theorem j3o{ls:List (Str×Int)}{f:Fm}(hn:∀x v n,f≠.rise x v n):kv0 ls f=[]:=by
 cases f with
 | rise x v n=>exact absurd rfl (hn x v n)
 | _=>rfl
theorem wT{ls:List (Str×Int)}{f:Fm}{k v:Int}:(k,v)∈kv0 ls f↔∃x n,f = .rise x v n/\k=(ixOf (nmsOf ls) x:Nat):=by
 cases f with
 | rise x h n=>
  constructor
  ·intro hk;cases mem_singleton.mp hk;exact⟨x,n,rfl,rfl⟩
  ·rintro⟨x',n',e,rfl⟩;injection e with e1 e2 e3;subst e1 e2;exact mem_singleton.mpr rfl
 | _=>exact⟨(fun h=>nomatch h),fun⟨_,_,e,_⟩=>nomatch e⟩
theorem j4C{ps:List (Str×Fm)}{ls:List (Str×Int)}(f:Fm):inP ps f=[]\/kv0 ls f=[]:=by
 cases f with
 | rise x h n=>exact .inl rfl
 | _=>exact .inr rfl
theorem j4D{ls:List (Str×Int)}(f:Fm):((kv0 ls f).map (·.1)).Nodup:=by
 cases f with
 | rise x h n=>exact pairwise_singleton _ _
 | _=>exact .nil
inductive sp_check_side(vs:List V)(H:Hp)(Q:VK)(xk:XK):Prop
 | mk (r:Int) (l ll:Addr) (as las:List Addr) (M:List (List Int)) (_:vs=[.int r,.ref l,.ref ll]) (_:H l=some (.lst (as.map V.ref))) (_:ListsAt H as M) (_:(∀ks∈M,ks≠[])) (_:M.length<=8) (_:H ll=some (.lst (las.map V.ref))) (_:(∀k:Int,(M.filter fun ks=>decide (k∈ks)).length<=1)) (_:∀H',Same H H'->Q .non H'):sp_check_side vs H Q xk
noncomputable def LenIs:Fm->List Int->Int->Prop
 | .hold n,_,g=>g=n
 | .ring _ n,_,g=>g=n
 | .rise _ _ n,_,g=>g=n
 | .row _,gs,g=>g=gs.sum
 | .side _,gs,g=>g∈gs/\∀x∈gs,x<=g
 | .again k _,gs,g=>∃y,gs.head?=some y/\g=k*y
noncomputable def LenPre:Fm->List Int->Prop
 | .side _,gs=>gs≠[]
 | .again k _,gs=>∃y r,gs=y::r/\0<=k/\k<=10^18/\0<=y/\y<=10^60
 | _,_=>True
inductive sp_length_of(vs:List V)(H:Hp)(Q:VK)(xk:XK):Prop
 | mk (a l:Addr) (f:Fm) (gs:List Int) (_:vs=[.ref a,.ref l]) (_:FormAt H a f) (_:H l=some (.lst (gs.map V.int))) (_:LenPre f gs) (_:∀g,LenIs f gs g->Q (.int g) H):sp_length_of vs H Q xk
structure Snd(ls:List (Str×Int))(ps:List (Str×Fm))(gs:List Int)(hs:List (List Int)):Prop where
 w:WfB ls ps
 gl:gs.length=ps.length
 gb:∀i,i<ps.length->0<=gs.getD i 0/\gs.getD i 0<=10^60
 mv:∀M:List (List Int),M.length=ps.length->MovOk ls ps M->∀i,i<ps.length->M.getD i []=hs.getD i []
 ln:∀(i:Nat) (p:Str×Fm),ps[i]?=some p->LenPre p.2 ((inP ps p.2).map fun j=>gs.getD j 0)/\∀g,LenIs p.2 ((inP ps p.2).map fun j=>gs.getD j 0) g->g=gs.getD i 0
 sd:∀(i:Nat) (p:Str×Fm) (qs:List Str),ps[i]?=some p->p.2 = .side qs->(∀j∈inP ps p.2,hs.getD j []≠[])/\∀k:Int,(((inP ps p.2).map fun j=>hs.getD j []).filter fun ks=>decide (k∈ks)).length<=1
inductive sp_lengths(vs:List V)(H:Hp)(Q:VK)(xk:XK):Prop
 | mk (b pl pp:Addr) (las pas:List Addr) (ls:List (Str×Int)) (ps:List (Str×Fm)) (gs:List Int) (hs:List (List Int)) (_:vs=[.ref b]) (_:BookAt H b pl pp las pas ls ps) (_:Snd ls ps gs hs) (_:∀(l:Addr) (H':Hp),Same H H'->H l=none->H' l=some (.lst (gs.map V.int))->Q (.ref l) H'):sp_lengths vs H Q xk
theorem j1X{m:Rr}(G:Good m)(W:WfB m.limbs m.parts){i:Nat}{p:Str×Fm}(hp:m.parts[i]?=some p):(∀ps,p.2 = .row ps->∃is,Idx m i is ps/\inP m.parts p.2=is)/\(∀ps,p.2 = .side ps->∃is,Idx m i is ps/\inP m.parts p.2=is/\2<=is.length/\is.length<=4/\Apart m is):=by
 have hi:=(List.getElem?_eq_some_iff.mp hp).1;obtain⟨_,o⟩:=G.ps i p hp;have f:=o.f;generalize p.2=fm at f|-;refine⟨fun ps e=>?_,fun ps e=>?_⟩
 ·subst e;obtain⟨is,hx,_⟩:=f;refine⟨is,hx,?_⟩;obtain⟨rfl,hlt⟩:=hx;exact qK G W fun j hj=>by have:=hlt j hj;omega
 ·subst e;obtain⟨is,hx,h1,h2,h3,_⟩:=f;refine⟨is,hx,?_,h1,h2,h3⟩;obtain⟨rfl,hlt⟩:=hx;exact qK G W fun j hj=>by have:=hlt j hj;omega
theorem j22{m:Rr}(G:Good m)(W:WfB m.limbs m.parts){i:Nat}{p:Str×Fm}(hp:m.parts[i]?=some p):LenPre p.2 ((inP m.parts p.2).map m.lg)/\∀g,LenIs p.2 ((inP m.parts p.2).map m.lg) g->g=m.lg i:=by
 have hi:=(List.getElem?_eq_some_iff.mp hp).1;obtain⟨_,o⟩:=G.ps i p hp;have f:=o.f;generalize p.2=fm at f|-;cases fm with
 | hold n=>exact⟨trivial,fun g h=>h.trans f.2.2.2.symm⟩
 | ring x n=>exact⟨trivial,fun g h=>h.trans f.2.2.2.2.symm⟩
 | rise x v n=>exact⟨trivial,fun g h=>h.trans f.2.2.2.2.2.symm⟩
 | row ps=>
  obtain⟨is,⟨rfl,hlt⟩,_,_,_,e⟩:=f;rw[show inP m.parts (.row (is.map m.nm))=is from qK G W fun j hj=>by have:=hlt j hj;omega];exact⟨trivial,fun g h=>h.trans e.symm⟩
 | side ps=>
  obtain⟨is,⟨rfl,hlt⟩,h1,_,_,_,⟨j,hj,ej⟩,hmax⟩:=f;rw[show inP m.parts (.side (is.map m.nm))=is from qK G W fun j hj=>by have:=hlt j hj;omega];refine⟨fun e=>?_,fun g h=>?_⟩
  ·have z:is.length=0:=by rw[<-length_map (f:=m.lg),e];rfl
   omega
  ·obtain⟨a,b⟩:=h;obtain⟨j',hj',rfl⟩:=mem_map.mp a;have q1:=hmax j' hj';have q2:=b (m.lg j) (mem_map.mpr ⟨j,hj,rfl⟩);omega
 | again k x=>
  obtain⟨k1,k2,j,hj,rfl,_,e⟩:=f;rw[show inP m.parts (.again k (m.nm j))=[j]from qK G W (is:=[j]) fun j' hj'=>by have:=mem_singleton.mp hj';omega];have lj:=WS G (show j<m.parts.length by omega);refine⟨⟨m.lg j,[],rfl,by omega,k2,by omega,lj.2⟩,fun g h=>?_⟩;obtain⟨y,hy,rfl⟩:=h;cases hy;exact e.symm
theorem KD{m:Rr}{k:Int}:∀{is:List Nat},is.Pairwise (fun a b=>∀k∈m.hd a,¬k∈m.hd b)->((is.map m.hd).filter fun ks=>decide (k∈ks)).length<=1
 | [],_=>Nat.zero_le _
 | i::r,h=>by
  rw[pairwise_cons]at h;have ih:=KD (k:=k) h.2;rw[map_cons,filter_cons];split
  ·rename_i c;have e:(r.map m.hd).filter (fun ks=>decide (k∈ks))=[]:=by
    rw[List.filter_eq_nil_iff];intro ks hks;obtain⟨j,hj,rfl⟩:=mem_map.mp hks;have:=h.1 j hj k (of_decide_eq_true c);simpa using this
   rw[e];exact Nat.le_refl _
  ·exact ih
theorem any_empty{M:List (List Int)}(h:∀ks∈M,ks≠[]):(M.any fun ks=>decide (ks=[]))=false:=by
 rw[List.any_eq_false];intro ks hks;simpa using h ks hks
theorem j3i{gs:List Int}{i:Nat}(h:i<gs.length):gs.take (i+1)=gs.take i++[gs.getD i 0]:=by
 refine take_snoc ?_;rw[getD_eq_getElem?_getD,List.getElem?_eq_getElem h];rfl
theorem j5c{gs:List Int}{i j:Nat}(hi:i<=gs.length)(hj:j<i):atI ((gs.take i).map V.int) (j:Int)=some (.int (gs.getD j 0)):=by
 refine Jn ?_;rw[List.getElem?_map,List.getElem?_take,if_pos hj,getD_eq_getElem?_getD,List.getElem?_eq_getElem (by omega)];rfl
theorem Good.snd{m:Rr}(G:Good m)(h61:m.parts.length<=61):Snd m.limbs m.parts m.longs m.hands:=by
 have W:=G.wf h61;refine⟨W,G.gl,fun i hi=>?_,fun M hl h=>j2b G W hl h,fun i p hp=>j22 G W hp,fun i p qs hp e=>?_⟩
 ·have:=WS G hi;unfold Rr.lg at this;omega
 ·obtain⟨is,_,ein,_,_,ap⟩:=(j1X G W hp).2 qs e;rw[ein];exact⟨ap.1,fun k=>KD ap.2⟩
theorem j0s:∀{a b:List (Int×Int)},(a.map (·.1)).Pairwise (· < ·)->(b.map (·.1)).Pairwise (· < ·)->(∀k v,(k,v)∈a↔(k,v)∈b)->a=b
 | [],[],_,_,_=>rfl
 | [],y::s,_,_,h=>absurd ((h y.1 y.2).mpr mem_cons_self) (by simp)
 | x::r,[],_,_,h=>absurd ((h x.1 x.2).mp mem_cons_self) (by simp)
 | x::r,y::s,ha,hb,h=>by
  rw[map_cons,pairwise_cons]at ha hb;have hx:∀q∈r,x.1<q.1:=fun q hq=>ha.1 _ (mem_map.mpr ⟨q,hq,rfl⟩)
  have hy:∀q∈s,y.1<q.1:=fun q hq=>hb.1 _ (mem_map.mpr ⟨q,hq,rfl⟩)
  have e:x=y:=by
   rcases mem_cons.mp ((h x.1 x.2).mp mem_cons_self)with q | q
   ·exact q
   ·rcases mem_cons.mp ((h y.1 y.2).mpr mem_cons_self)with q' | q'
    ·exact q'.symm
    ·have h1:=hy _ q;have h2:=hx _ q';simp only at h1 h2;omega
  subst e;rw[j0s ha.2 hb.2 fun k v=>?_];constructor
  ·intro hk;rcases mem_cons.mp ((h k v).mp (mem_cons_of_mem _ hk))with q | q
   ·have:=hx _ hk;rw[<-q]at this;simp only at this;omega
   ·exact q
  ·intro hk;rcases mem_cons.mp ((h k v).mpr (mem_cons_of_mem _ hk))with q | q
   ·have:=hy _ hk;rw[<-q]at this;simp only at this;omega
   ·exact q
end Rm
namespace Nm
open PySem PySem.Spec PyProof.Rows L2
theorem j1V:∀m:Nat,1<=m->∃c r,Nat.toDigits 10 m=c::r/\c≠'0':=by
 intro m
 induction m using Nat.strongRecOn with
 | ind m ih=>
  intro h;rw[Nat.toDigits_eq_if (by decide)];split
  ·rename_i lt;refine⟨_,[],rfl,?_⟩;have:∀k:Nat,k<10->1<=k->Nat.digitChar k≠'0':=by decide
   exact this m lt h
  ·rename_i ge;obtain⟨c,r,e,nz⟩:=ih (m/10) (by omega) (by omega);exact⟨c,r++[Nat.digitChar (m%10)],by rw[e];rfl,nz⟩
theorem XI:∀m:Nat,∀c∈Nat.toDigits 10 m,48<=c.toNat/\c.toNat<=57:=by
 intro m
 induction m using Nat.strongRecOn with
 | ind m ih=>
  intro c hc;have dc:∀k:Nat,k<10->48<=(Nat.digitChar k).toNat/\(Nat.digitChar k).toNat<=57:=by decide
  rw[Nat.toDigits_eq_if (by decide)]at hc;split at hc
  ·rename_i lt;rw[mem_singleton.mp hc];exact dc m lt
  ·rename_i ge;rcases mem_append.mp hc with z | z
   ·exact ih (m/10) (by omega) c z
   ·rw[mem_singleton.mp z];exact dc _ (by omega)
theorem j2m{n:Int}(h0:0<=n)(h1:n<=10^18):Ws.numV (Rm.tI n) 19 = .int n:=by
 obtain⟨m,rfl⟩:=Int.eq_ofNat_of_zero_le h0;have sg:(Rm.tI (m:Int)).cps.toList=(Nat.toDigits 10 m).map Char.toNat:=PySem.W.KIN.signs_num m;have ln:=Rm.Zy h0 h1;have le:(Rm.tI (m:Int)).length=(Nat.toDigits 10 m).length:=by
  have:=congrArg List.length sg;rw[length_map]at this;exact this
 have ne:1<=(Nat.toDigits 10 m).length:=by
  rw[Nat.toDigits_eq_if (by decide)];split
  ·exact Nat.le_refl _
  ·rw[List.length_append];show 1<=_+1;omega
 unfold Ws.numV;rw[if_pos,sg,PySem.W.KIN.val_back];refine⟨⟨by omega,by omega⟩,?_,?_⟩
 ·unfold Ws.among;refine decide_eq_true fun c hc=>?_
  rw[sg]at hc;obtain⟨d,hd,rfl⟩:=mem_map.mp hc;have:=XI m d hd;have f:Ws.figs.cps.toList=List.range' 48 10:=by decide +kernel
  rw[f,List.mem_range'_1];omega
 ·rintro⟨hh,hl⟩;by_cases z:m=0
  ·subst z;exact hl (by rw[le];rfl)
  ·obtain⟨c,r,e,nz⟩:=j1V m (by omega);rw[sg,e]at hh;have:c.toNat=48:=Option.some.inj hh;exact nz (Char.ext (UInt32.toNat_inj.mp this))
end Nm
namespace Rm
open PySem PySem.Spec PyProof.Rows L2
inductive sp_bounded(vs:List V)(H:Hp)(Q:VK)(xk:XK):Prop
 | mk (n least:Int) (_:vs=[.str (tI n),.int least]) (_:0<=n) (_:n<=10^18) (_:least<=n) (_:∀H',Same H H'->Q (.int n) H'):sp_bounded vs H Q xk
def ValOk(wanted text:Str)(k1 k2:List (Key×V))(r:V):Prop:=
 (wanted = "height"/\∃n:Int,text=tI n/\0<=n/\n<=10^18/\r = .int n)\/((wanted = "beats"\/wanted = "times")/\∃n:Int,text=tI n/\1<=n/\n<=10^18/\r = .int n)\/
 (wanted = "word"/\Ws.isW text=true/\text.length<=200/\r = .str text)\/(wanted = "limb"/\(valV k1 (Sum.inr text)).isSome=true/\r = .str text)\/(wanted = "part"/\(valV k2 (Sum.inr text)).isSome=true/\r = .str text)
inductive sp_value_of(vs:List V)(H:Hp)(Q:VK)(xk:XK):Prop
 | mk (wanted text:Str) (d1 d2:Addr) (k1 k2:List (Key×V)) (r:V) (_:vs=[.str wanted,.str text,.ref d1,.ref d2]) (_:H d1=some (.dK k1)) (_:H d2=some (.dK k2)) (_:ValOk wanted text k1 k2 r) (_:∀H',Same H H'->Q r H'):sp_value_of vs H Q xk
def ManyOk(kind:Str)(n:Nat):Prop:=(kind = "row"/\1<=n/\n<=8)\/(kind = "side"/\2<=n/\n<=4)
inductive sp_names_form(vs:List V)(H:Hp)(Q:VK)(xk:XK):Prop
 | mk (kind:Str) (l d:Addr) (ws:List Str) (kvs:List (Key×V)) (_:vs=[.str kind,.ref l,.ref d]) (_:ManyOk kind ws.length) (_:H l=some (.lst (ws.map V.str))) (_:H d=some (.dK kvs)) (_:(∀w∈ws,(valV kvs (Sum.inr w)).isSome=true)) (_:∀(p b:Addr) (H':Hp),Same H H'->H' p=some (.tup [.str kind,.ref b])->H' b=some (.tup (ws.map V.str))->Q (.ref p) H'):sp_names_form vs H Q xk
theorem ManyOk.tabs{kind:Str}{n:Nat}(h:ManyOk kind n):∃lo hi:Int,KTD.datumAt kind [(("row" : Str),KTD.Dat.flat (.int 1)),("side",.flat (.int 2))]=some (.flat (.int lo))/\KTD.datumAt kind [(("row" : Str),KTD.Dat.flat (.int 8)),("side",.flat (.int 4))]=some (.flat (.int hi))/\lo<=n/\(n:Int)<=hi/\n<=8:=by
 have r:decide (("row" : Str) = "row")=true:=by decide +kernel
 have s1:decide (("side" : Str) = "row")=false:=by decide +kernel
 have s2:decide (("side" : Str) = "side")=true:=by decide +kernel
 rcases h with⟨rfl,a,b⟩ | ⟨rfl,a,b⟩
 ·refine⟨1,8,?_,?_,by omega,by omega,by omega⟩<;>rw[KTD.datumAt,if_pos r]
 ·refine⟨2,4,?_,?_,by omega,by omega,by omega⟩<;>rw[KTD.datumAt,if_neg (by rw[s1];decide),KTD.datumAt,if_pos s2]
noncomputable def FmRd(k1 k2:List (Key×V)):Fm->Prop
 | .rise x h n=>(valV k1 (Sum.inr x)).isSome=true/\0<=h/\h<=10^18/\1<=n/\n<=10^18
 | .hold n=>1<=n/\n<=10^18
 | .ring x n=>Ws.isW x=true/\1<=n/\n<=10^18
 | .row ps=>ManyOk "row" ps.length/\∀x∈ps,(valV k2 (Sum.inr x)).isSome=true
 | .side ps=>ManyOk "side" ps.length/\∀x∈ps,(valV k2 (Sum.inr x)).isSome=true
 | .again k x=>1<=k/\k<=10^18/\(valV k2 (Sum.inr x)).isSome=true
inductive sp_form_of(vs:List V)(H:Hp)(Q:VK)(xk:XK):Prop
 | mk (f:Fm) (kind:Str) (ws:List Str) (l d1 d2:Addr) (k1 k2:List (Key×V)) (_:vs=[.str kind,.ref l,.ref d1,.ref d2]) (_:fmW f=kind::ws) (_:H l=some (.lst (ws.map V.str))) (_:H d1=some (.dK k1)) (_:H d2=some (.dK k2)) (_:FmRd k1 k2 f) (_:∀(p:Addr) (H':Hp),Same H H'->FormAt H' p f->Q (.ref p) H'):sp_form_of vs H Q xk
inductive sp_part_of(vs:List V)(H:Hp)(Q:VK)(xk:XK):Prop
 | mk (f:Fm) (x:Str) (l d1 d2:Addr) (k1 k2:List (Key×V)) (_:vs=[.ref l,.ref d1,.ref d2]) (_:H l=some (.lst ((("part" : Str)::x::fmW f).map V.str))) (_:H d1=some (.dK k1)) (_:H d2=some (.dK k2)) (_:FmRd k1 k2 f) (_:Ws.isW x=true) (_:x.length<=200) (_:valV k2 (Sum.inr x)=none) (_:∀(a:Addr) (H':Hp),Same H H'->PartAt H' a (x,f)->Q (.ref a) H'):sp_part_of vs H Q xk
theorem WJ{k1 k2:List (Key×V)}{f:Fm}(h:FmRd k1 k2 f):∃kind ws,fmW f=kind::ws/\1<=ws.length:=by
 cases f with
 | row ps=>exact⟨_,_,rfl,by rcases h.1 with⟨_,a,_⟩ | ⟨_,a,_⟩<;>omega⟩
 | side ps=>exact⟨_,_,rfl,by rcases h.1 with⟨_,a,_⟩ | ⟨_,a,_⟩<;>omega⟩
 | hold n=>exact⟨_,_,rfl,by simp⟩
 | ring x n=>exact⟨_,_,rfl,by simp⟩
 | rise x v n=>exact⟨_,_,rfl,by simp⟩
 | again k x=>exact⟨_,_,rfl,by simp⟩
open PyProof.Rows.KTD (inKeys Dat datumAt)
noncomputable def FT:List (Str×Dat):=[("raise",.tup [.str "limb",.str "height",.str "beats"]),("hold",.tup [.str "beats"]),("ring",.tup [.str "word",.str "beats"]),("again",.tup [.str "times",.str "part"])]
theorem wB{k x:Str}{d:Dat}{r:List (Str×Dat)}(h:decide (k=x)=true):datumAt k ((x,d)::r)=some d:=by rw[datumAt,if_pos h]
theorem y9{k x:Str}{d:Dat}{r:List (Str×Dat)}(h:decide (k=x)=false):datumAt k ((x,d)::r)=datumAt k r:=by rw[datumAt,if_neg (by rw[h];decide)]
inductive Vs3(k1 k2:List (Key×V)):List Str->List Str->List V->Prop
 | nil:Vs3 k1 k2 [] [] []
 | cons {a w:Str} {r:V} {as ws:List Str} {rs:List V}:ValOk a w k1 k2 r->Vs3 k1 k2 as ws rs->Vs3 k1 k2 (a::as) (w::ws) (r::rs)
theorem Vs3.len{k1 k2:List (Key×V)}{as ws:List Str}{rs:List V}(h:Vs3 k1 k2 as ws rs):as.length=ws.length/\rs.length=ws.length:=by
 induction h with
 | nil=>exact⟨rfl,rfl⟩
 | cons _ _ ih=>exact⟨congrArg (· + 1) ih.1,congrArg (· + 1) ih.2⟩
theorem Vs3.get{k1 k2:List (Key×V)}{as ws:List Str}{rs:List V}(h:Vs3 k1 k2 as ws rs):∀{i:Nat} {a w:Str},as[i]?=some a->ws[i]?=some w->∃r,rs[i]?=some r/\ValOk a w k1 k2 r:=by
 induction h with
 | nil=>intro i a w e;simp at e
 | cons hv _ ih=>
  intro i a w e1 e2;cases i with
  | zero=>simp at e1 e2;subst e1 e2;exact⟨_,rfl,hv⟩
  | succ i=>simp at e1 e2;obtain⟨r,h1,h2⟩:=ih e1 e2;exact⟨r,by simpa using h1,h2⟩
structure OneOk(k1 k2:List (Key×V))(f:Fm)(kind:Str)(ws wants:List Str)(rs:List V):Prop where
 d:datumAt kind FT=some (.tup (wants.map PyData.str))
 v:Vs3 k1 k2 wants ws rs
 l:ws.length<=3
 n:rs≠[]
 fl:rs.all flatV=true
 nn:inV .non rs=false
 f:∀(H:Hp) (p:Addr),H p=some (.tup (.str kind::rs))->FormAt H p f
theorem xN{k1 k2:List (Key×V)}{f:Fm}{kind:Str}{ws:List Str}(h:FmRd k1 k2 f)(e:fmW f=kind::ws) :
  (inKeys kind MN=true/\ManyOk kind ws.length/\(∀x∈ws,(valV k2 (Sum.inr x)).isSome=true)/\∀(H:Hp) (p b:Addr),H p=some (.tup [.str kind,.ref b])->H b=some (.tup (ws.map V.str))->FormAt H p f)\/
  (inKeys kind MN=false/\inKeys kind FT=true/\∃wants rs,OneOk k1 k2 f kind ws wants rs):=by
 cases f with
 | row ps=>obtain⟨rfl,rfl⟩:=List.cons.inj e;exact .inl ⟨by decide +kernel,h.1,h.2,fun H p b h1 h2=>⟨b,h1,h2⟩⟩
 | side ps=>obtain⟨rfl,rfl⟩:=List.cons.inj e;exact .inl ⟨by decide +kernel,h.1,h.2,fun H p b h1 h2=>⟨b,h1,h2⟩⟩
 | hold n=>
  obtain⟨rfl,rfl⟩:=List.cons.inj e;refine .inr ⟨by decide +kernel,by decide +kernel,[("beats" : Str)],[.int n],?_,.cons (.inr (.inl ⟨.inl rfl,n,rfl,h.1,h.2,rfl⟩)) .nil,by show 1<=3;decide,by simp,rfl,rfl,fun H p q=>q⟩;exact(y9 (by decide +kernel)).trans (wB (by decide +kernel))
 | ring x n=>
  obtain⟨rfl,rfl⟩:=List.cons.inj e;refine .inr ⟨by decide +kernel,by decide +kernel,[("word" : Str),"beats"],[.str x,.int n],?_,.cons (.inr (.inr (.inl ⟨rfl,h.1,Nat.le_trans (KY h.1) (by decide),rfl⟩))) (.cons (.inr (.inl ⟨.inl rfl,n,rfl,h.2.1,h.2.2,rfl⟩)) .nil),by show 2<=3;decide,by simp,rfl,rfl,fun H p q=>q⟩;exact(y9 (by decide +kernel)).trans ((y9 (by decide +kernel)).trans (wB (by decide +kernel)))
 | rise x v n=>
  obtain⟨rfl,rfl⟩:=List.cons.inj e;obtain⟨h1,h2,h3,h4,h5⟩:=h;refine .inr ⟨by decide +kernel,by decide +kernel,[("limb" : Str),"height","beats"],[.str x,.int v,.int n],?_,.cons (.inr (.inr (.inr (.inl ⟨rfl,h1,rfl⟩)))) (.cons (.inl ⟨rfl,v,rfl,h2,h3,rfl⟩) (.cons (.inr (.inl ⟨.inl rfl,n,rfl,h4,h5,rfl⟩)) .nil)),by show 3<=3;decide,by simp,rfl,rfl,fun H p q=>q⟩;exact wB (by decide +kernel)
 | again k x=>
  obtain⟨rfl,rfl⟩:=List.cons.inj e;obtain⟨h1,h2,h3⟩:=h;refine .inr ⟨by decide +kernel,by decide +kernel,[("times" : Str),"part"],[.int k,.str x],?_,.cons (.inr (.inl ⟨.inr rfl,k,rfl,h1,h2,rfl⟩)) (.cons (.inr (.inr (.inr (.inr ⟨rfl,h3,rfl⟩)))) .nil),by show 2<=3;decide,by simp,rfl,rfl,fun H p q=>q⟩;exact(y9 (by decide +kernel)).trans ((y9 (by decide +kernel)).trans ((y9 (by decide +kernel)).trans (wB (by decide +kernel))))
theorem j3d{α:Type}(a:α)(l:List α):ev (a::l)=a::ev (l.drop 1):=by
 cases l with
 | nil=>rfl
 | cons b r=>rfl
theorem X2:∀ls:List (Str×Int),ev ((ls.flatMap limbW).map V.str)=(ls.map (·.1)).map V.str
 | []=>rfl
 | p::r=>by
  show V.str p.1::ev ((r.flatMap limbW).map V.str)=_;rw[X2 r];rfl
theorem X1:∀ls:List (Str×Int),ev (((ls.flatMap limbW).map V.str).drop 1)=(ls.map fun p=>tI p.2).map V.str
 | []=>rfl
 | p::r=>by
  show ev (V.str (tI p.2)::(r.flatMap limbW).map V.str)=_;rw[j3d,X1 r];rfl
def LmRd(ls:List (Str×Int)):Prop:=1<=ls.length/\ls.length<=8/\(ls.map (·.1)).Nodup/\∀p∈ls,Ws.isW p.1=true/\0<=p.2/\p.2<=10^18
inductive sp_limbs_of(vs:List V)(H:Hp)(Q:VK)(xk:XK):Prop
 | mk (l:Addr) (ls:List (Str×Int)) (_:vs=[.ref l]) (_:H l=some (.lst ((("limbs" : Str)::ls.flatMap limbW).map V.str))) (_:LmRd ls) (_:∀(c:Addr) (as:List Addr) (H':Hp),Same H H'->H c=none->H' c=some (.lst (as.map V.ref))->All2 (LimbAt H') as ls->Q (.ref c) H'):sp_limbs_of vs H Q xk
noncomputable def tabB(xs:List Str):List (Key×V):=xs.map fun x=>(Sum.inr x,V.bl true)
theorem j1o(xs:List Str):(tabB xs).map (·.1)=xs.map Sum.inr:=by simp[tabB]
theorem zF:∀{xs:List Str} {x:Str},x∈xs->(valV (tabB xs) (Sum.inr x)).isSome=true
 | [],_,h=>nomatch h
 | y::r,x,h=>by
  by_cases e:y=x
  ·subst e;rw[show tabB (y::r)=(Sum.inr y,V.bl true)::tabB r from rfl,yO rfl];rfl
  ·rw[show tabB (y::r)=(Sum.inr y,V.bl true)::tabB r from rfl,ZC (fun z=>e (Sum.inr.inj z))];rcases mem_cons.mp h with z | z
   ·exact absurd z.symm e
   ·exact zF z
theorem K8:∀{xs:List Str} {x:Str},x∉xs->valV (tabB xs) (Sum.inr x)=none
 | [],_,_=>rfl
 | y::r,x,h=>by
  rw[show tabB (y::r)=(Sum.inr y,V.bl true)::tabB r from rfl,ZC (fun z=>h (by rw[Sum.inr.inj z];exact mem_cons_self))];exact K8 fun z=>h (mem_cons_of_mem _ z)
theorem j2T{xs:List Str}{x:Str}(h:x∉xs):putK (tabB xs) (Sum.inr x) (.bl true)=tabB (xs++[x]):=by
 rw[Zt,show tabB (xs++[x])=tabB xs++[(Sum.inr x,V.bl true)] by simp[tabB]];rw[j1o];intro z;obtain⟨y,hy,e⟩:=mem_map.mp z;exact h (Sum.inr.inj e▸hy)
structure RdOk(ls:List (Str×Int))(ps:List (Str×Fm)):Prop where
 l:LmRd ls
 b:BkOk ls ps
 p1:1<=ps.length
 p60:ps.length<=60
 pn:(ps.map (·.1)).Nodup
 f:∀i p,ps[i]?=some p->FmRd (numK (ls.map (·.1))) (tabB ((ps.take i).map (·.1))) p.2
inductive sp_read(vs:List V)(H:Hp)(Q:VK)(xk:XK):Prop
 | mk (ls:List (Str×Int)) (ps:List (Str×Fm)) (_:vs=[.str (Txt.join "\n" (rowsOf ls ps))]) (_:RdOk ls ps) (_:∀(b pl pp:Addr) (las pas:List Addr) (H':Hp),Same H H'->H pl=none->H pp=none->pl≠pp->BookAt H' b pl pp las pas ls ps->Q (.ref b) H'):sp_read vs H Q xk
theorem j2e{m:Rr}(G:Good m){i j:Nat}(h:j<i)(hi:i<m.parts.length):m.nm j∈(m.parts.take i).map (·.1):=by
 have e:=kF G (j:=j) (by omega);unfold nmsOf at e;rw[List.getElem?_map]at e;obtain⟨p,hp,e⟩:=Option.map_eq_some_iff.mp e;exact mem_map.mpr ⟨p,List.mem_of_getElem? (i:=j) (by rw[List.getElem?_take,if_pos h];exact hp),e⟩
theorem Good.rd{m:Rr}(G:Good m)(h1:1<=m.parts.length)(h60:m.parts.length<=60):RdOk m.limbs m.parts:=by
 have W:=G.wf (by omega);have B:=G.bk (by omega);refine⟨⟨G.l1,G.l8,G.ln,B.ln⟩,B,h1,h60,W.pn,fun i p hp=>?_⟩;have hi:=(List.getElem?_eq_some_iff.mp hp).1;obtain⟨_,o⟩:=G.ps i p hp;have f:=o.f;generalize p.2=fm at f|-;cases fm with
 | hold n=>exact⟨f.1,f.2.1⟩
 | ring x n=>exact⟨G.nw _ f.1,f.2.1,f.2.2.1⟩
 | rise x v n=>
  obtain⟨⟨j,v',hj,_⟩,f1,f2,f3,f4,_⟩:=f;refine⟨?_,f1,f2,f3,f4⟩;rw[yI G.ln (j:=j) (x:=x) (by rw[List.getElem?_map,hj];rfl)];rfl
 | row ps=>
  obtain⟨is,⟨rfl,hlt⟩,f1,f2,_⟩:=f;refine⟨.inl ⟨rfl,by rw[length_map];exact f1,by rw[length_map];exact f2⟩,fun x hx=>?_⟩;obtain⟨j,hj,rfl⟩:=mem_map.mp hx;exact zF (j2e G (hlt j hj) hi)
 | side ps=>
  obtain⟨is,⟨rfl,hlt⟩,f1,f2,_⟩:=f;refine⟨.inr ⟨rfl,by rw[length_map];exact f1,by rw[length_map];exact f2⟩,fun x hx=>?_⟩;obtain⟨j,hj,rfl⟩:=mem_map.mp hx;exact zF (j2e G (hlt j hj) hi)
 | again k x=>
  obtain⟨f1,f2,j,hj,rfl,_⟩:=f;exact⟨f1,f2,zF (j2e G hj hi)⟩
def Cln(y:Str):Prop:=∀c∈y.cps.toList,48<=c
theorem kb{x:Str}(h:Ws.isW x=true):Cln x:=by
 unfold Ws.isW Ws.among at h;rw[Bool.and_eq_true]at h;have h2:=of_decide_eq_true h.2;intro c hc;have:=kC.mp (h2 c (by simpa using hc));omega
theorem KM{n:Int}(h0:0<=n):Cln (tI n):=by
 obtain⟨m,rfl⟩:=Int.eq_ofNat_of_zero_le h0;have sg:(tI (m:Int)).cps.toList=(Nat.toDigits 10 m).map Char.toNat:=PySem.W.KIN.signs_num m;intro c hc;rw[sg]at hc;obtain⟨d,hd,rfl⟩:=mem_map.mp hc;exact(Nm.XI m d hd).1
theorem j4l{f:Fm}(h:FmWs f):∀y∈fmW f,Cln y:=by
 have two:∀{a b:Str},Cln a->Cln b->∀y∈[a,b],Cln y:=fun p q y hy=>by
  rcases mem_cons.mp hy with rfl | hy
  ·exact p
  ·rw[mem_singleton.mp hy];exact q
 have onto:∀{a:Str} {r:List Str},Cln a->(∀y∈r,Cln y)->∀y∈a::r,Cln y:=fun p q y hy=>by
  rcases mem_cons.mp hy with rfl | hy
  ·exact p
  ·exact q y hy
 cases f with
 | hold n=>exact two (by unfold Cln;decide +kernel) (KM h.1)
 | ring x n=>exact onto (by unfold Cln;decide +kernel) (two (kb h.1) (KM h.2.1))
 | rise x v n=>exact onto (by unfold Cln;decide +kernel) (onto (kb h.1) (two (KM h.2.1) (KM h.2.2.2.1)))
 | row ps=>exact onto (by unfold Cln;decide +kernel) fun y hy=>kb (h.2 y hy)
 | side ps=>exact onto (by unfold Cln;decide +kernel) fun y hy=>kb (h.2 y hy)
 | again k x=>exact onto (by unfold Cln;decide +kernel) (two (KM h.1) (kb h.2.2))
theorem WM{c d:Nat}:∀{ws:List (List Nat)},c∈Sp.glue d ws->c=d\/∃w∈ws,c∈w
 | [],h=>nomatch h
 | [w],h=>.inr ⟨w,mem_cons_self,h⟩
 | w::v::r,h=>by
  have h:c∈w++d::Sp.glue d (v::r):=h;rcases mem_append.mp h with z | z
  ·exact .inr ⟨w,mem_cons_self,z⟩
  rcases mem_cons.mp z with z | z
  ·exact .inl z
  rcases WM z with z | ⟨u,hu,z⟩
  ·exact .inl z
  ·exact .inr ⟨u,mem_cons_of_mem _ hu,z⟩
theorem Yd{c:Nat}:∀ys:List Str,(Str.join ⟨#[c]⟩ ys).cps.toList=Sp.glue c (ys.map fun y=>y.cps.toList)
 | []=>rfl
 | [a]=>rfl
 | a::b::r=>by
  show(a++⟨#[c]⟩++Str.join ⟨#[c]⟩ (b::r)).cps.toList=a.cps.toList++c::Sp.glue c ((b::r).map fun y=>y.cps.toList);rw[<-Yd (b::r)];show((a.cps++#[c])++(Str.join ⟨#[c]⟩ (b::r)).cps).toList=_;simp
theorem j0D(ys:List Str):(ys.map fun y=>y.cps.toList).map (fun u=>(⟨u.toArray⟩:Str))=ys:=by
 rw[map_map]
 conv=>rhs;rw[<-map_id ys]
 exact map_congr_left fun y _=>by simp
theorem Ke{z sep:Str}{c:Nat}{ys:List Str}(hs:sep=⟨#[c]⟩)(hz:z=Txt.join sep ys)(h2:2<=ys.length)(hy:∀y∈ys,c∉y.cps.toList)(hl:ys.length<=sizeLine) :
  ∃(v w:List Nat) (ws:List (List Nat)),(∀u∈v::w::ws,c∉u)/\z.cps.toList=Sp.glue c (v::w::ws)/\ws.length+2<=sizeLine/\((v::w::ws).map fun u=>(⟨u.toArray⟩:Str))=ys:=by
 subst hs
 match ys,h2,hy,hl,hz with
 | a::b::r,_,hy,hl,hz=>
  refine⟨a.cps.toList,b.cps.toList,r.map fun(y:Str)=>y.cps.toList,fun u hu=>?_,?_,by rw[length_map];exact hl,j0D (a::b::r)⟩
  ·have hu:u∈(a::b::r).map fun y=>y.cps.toList:=hu
   obtain⟨y,hy',rfl⟩:=mem_map.mp hu;exact hy y hy'
  ·rw[hz,ZP,Yd];rfl
theorem no10{ys:List Str}(h:∀y∈ys,Cln y):10∉(Txt.join bl ys).cps.toList:=fun z=>by
 rw[ZP,show bl=⟨#[32]⟩ by decide +kernel,Yd]at z;rcases WM z with e | ⟨w,hw,hc⟩
 ·exact absurd e (by decide)
 ·obtain⟨y,hy,rfl⟩:=mem_map.mp hw;have:=h y hy 10 hc;omega
theorem no32{y:Str}(h:Cln y):32∉y.cps.toList:=fun z=>by
 have:=h 32 z;omega
theorem WD{ls:List (Str×Int)}(h:∀p∈ls,Ws.isW p.1=true/\0<=p.2/\p.2<=10^18):∀y∈("limbs" : Str)::ls.flatMap limbW,Cln y:=fun y hy=>by
 rcases mem_cons.mp hy with rfl | hy
 ·unfold Cln;decide +kernel
 ·obtain⟨p,hp,hy⟩:=List.mem_flatMap.mp hy;rcases mem_cons.mp hy with rfl | hy
  ·exact kb (h p hp).1
  ·rw[mem_singleton.mp hy];exact KM (h p hp).2.1
theorem WE{x:Str}{f:Fm}(hx:Ws.isW x=true)(h:FmWs f):∀y∈("part" : Str)::x::fmW f,Cln y:=fun y hy=>by
 rcases mem_cons.mp hy with rfl | hy
 ·unfold Cln;decide +kernel
 rcases mem_cons.mp hy with rfl | hy
 ·exact kb hx
 ·exact j4l h y hy
theorem j1H{ls:List (Str×Int)}{ps:List (Str×Fm)}(B:BkOk ls ps):∀y∈rowsOf ls ps,10∉y.cps.toList:=fun y hy=>by
 rcases mem_cons.mp hy with rfl | hy
 ·exact no10 (WD B.ln)
 ·obtain⟨p,hp,rfl⟩:=mem_map.mp hy;exact no10 (WE (B.pn p hp).1 (B.pn p hp).2)
theorem j2I{ls:List (Str×Int)}{ps:List (Str×Fm)}(B:BkOk ls ps):(Txt.join "\n" (rowsOf ls ps)).length<=30000:=by
 rw[ZP];exact Nat.le_trans (Zm _ _) (j0m B)
theorem j2H{ls:List (Str×Int)}{ps:List (Str×Fm)}(B:BkOk ls ps){p:Str×Fm}(hp:p∈ps):(rowP p).length<=220:=by
 unfold rowP;rw[ZP];exact Nat.le_trans (Zm _ _) (Wg B hp)
theorem PartAt.put{H H':Hp}{a:Addr}{p:Str×Fm}(k:∀b xs,H b=some (.tup xs)->H' b=some (.tup xs))(h:PartAt H a p):PartAt H' a p:=by
 obtain⟨b,h1,h2⟩:=h;refine⟨b,k _ _ h1,?_⟩;generalize p.2=f at h2|-;cases f with
 | row ps=>obtain⟨c,q1,q2⟩:=h2;exact⟨c,k _ _ q1,k _ _ q2⟩
 | side ps=>obtain⟨c,q1,q2⟩:=h2;exact⟨c,k _ _ q1,k _ _ q2⟩
 | hold n=>exact k _ _ h2
 | ring x n=>exact k _ _ h2
 | rise x v n=>exact k _ _ h2
 | again k' x=>exact k _ _ h2
end Rm
namespace L2
open PySem PySem.Spec PySem.W PyProof.Rows
theorem j0u:∀{ys:List V} {us:List Value},us.length=ys.length->(∀(j:Nat) (u:Value),us[j]?=some u->∃y,ys[j]?=some y/\RelV y u)->Vals ys us
 | [],[],_,_=>.nil
 | [],_::_,h,_=>by simp at h
 | _::_,[],h,_=>by simp at h
 | y::ys,u::us,h,q=>by
  obtain⟨y',e,r⟩:=q 0 u rfl;simp only[List.getElem?_cons_zero,Option.some.injEq]at e;subst e;exact .cons r (j0u (by simpa using h) fun j u hu=>by simpa using q (j+1) u (by simpa using hu))
section
variable{X:Cx}
end
open PySem PySem.Spec PyProof.Rows
section
variable{prog:Program}{w:World}{A:Around}{E:Value->Shared->Prop}{s:Shared}
end
theorem XA{P:Nat->Value->Prop}:∀{xs:List V} {us:List Value},us.length=xs.length->(∀(i:Nat) v,us[i]?=some v->P i v)->(∀(i:Nat) (v:Value) (x:V),P i v->xs[i]?=some x->RelV x v)->Vals xs us:=by
 intro xs
 induction xs generalizing P with
 | nil=>
  intro us h _ _;rw[List.length_eq_zero_iff.mp h];exact .nil
 | cons x r ih=>
  intro us h h1 h2;cases us with
  | nil=>exact absurd h (by simp)
  | cons u us=>
   refine .cons (h2 0 u x (h1 0 u rfl) rfl) (ih (P:=fun i v=>P (i+1) v) (by simpa using h) (fun i v e=>h1 (i+1) v (by simpa using e)) fun i v y p e=>h2 (i+1) v y p (by simpa using e))
def tLR(ta:TA):TE:=fun σ H Q=>ta σ H fun vs H1=>∃n:Nat,vs=[.int (n:Nat)]/\n<=10^6/\∀p,H1 p=none->Q (.ref p) (upd H1 p (.lst ((List.range n).map fun u:Nat=>V.int (u:Nat))))
theorem j5g{ta:TA}{σ:St}{H:Hp}{Q:VK}(h:ta σ H fun vs H1=>∃n:Nat,vs=[.int (n:Nat)]/\n<=10^6/\∀p,H1 p=none->Q (.ref p) (upd H1 p (.lst ((List.range n).map fun u:Nat=>V.int (u:Nat))))):tLR ta σ H Q:=h
theorem Xm{X:Cx}{a:Expr}{ta:TA}{p p' pos pos':Pos}(hc:X.calm=true)(hgl:Gl X "list")(hml:X.mg "list"= none)(hgz:Gl X "range")(hmz:X.mg "range"= none)(ha:PA X [a] ta)
  (hs0:starEach [.Call (.Name "range" p') [a] [] pos'] X.env=[(false,eval (.Call (.Name "range" p') [a] [] pos') X.env)]:=by rfl)
  (hs:starEach [a] X.env=[(false,eval a X.env)]:=by rfl) :
  PE X (.Call (.Name "list" p) [.Call (.Name "range" p') [a] [] pos'] [] pos) (tLR ta):=by
 intro pins s σ H Q I h;refine wpAny_Call_Name_kw (qp I hgl hml ZJ ?_);refine PyProof.Rows.callWith_type1 ?_ hs0 rfl;rw[hs0];refine Calls.spliced_cons ?_;refine Call_ (qp I hgz hmz boot_range (PyProof.Rows.callWith_type1 (thn (ha pos' pins s σ H _ I h) fun us s1 ⟨vs,H1,I1,r1,q1⟩=>?_) hs rfl));obtain⟨n,rfl,hn,q⟩:=q1;obtain⟨u,rfl,t,rfl⟩:=vals1 r1;refine call_range_1 ?_;refine Calls.spliced_nil ?_;have ne:Builtin.Range.rangeSize 0 (n:Int) 1=((n:Nat):Int):=by rw[rangeSize_one];split<;>omega
 have sl:(10^6:Nat)<=2^24:=by decide
 refine call_list_range (n:=n) (I1.ok.hd hc) (IsRange.new ..) (small_one (by omega) (by omega) (by omega) (by omega)) ne (by omega) fun h' tk acc' c' kp e items=>?_
 have kp2:∀b o,s1.heap.get? b=some o->h'.get? b=some o:=fun b o e=>kp b o (Heap.get?_push_of_some _ e)
 have le:s1.heap.objs.size<=(s1.heap.push {cls:=.type "range",data:=.fields #[.int 0 s1.toks,.int n t,.int 1 (s1.toks+1)]}).objs.size:=by rw[Heap.size_push];exact Nat.le_succ _
 have vl:Vals ((List.range n).map fun u:Nat=>V.int (u:Nat)) acc'.toList:=by
  refine XA (P:=fun i v=>∃t,v=Value.int (0+(i:Int)*1) t) (by rw[Array.length_toList,items.1,length_map,length_range]) (fun i v e=>items.2 i v (by simpa using e)) fun i v x hp hx=>?_
  rw[List.getElem?_map]at hx;obtain⟨k,hk,rfl⟩:=Option.map_eq_some_iff.mp hx;obtain⟨t,rfl⟩:=hp;have kl:=(List.getElem?_eq_some_iff.mp hk).1;rw[length_range]at kl;rw[List.getElem?_range kl]at hk;cases hk;exact⟨t,by simp⟩
 have sz:(10^6:Nat)<=sizeLine:=by decide
 refine⟨.ref _,_,I1.laid (t':=tk) kp2 le (show ObjOk X.prog X.w _ h' _ (.lst ((List.range n).map fun u:Nat=>V.int (u:Nat)))from⟨by rw[length_map,length_range];omega,acc'.toList,c',vl,by simpa using e⟩),rfl,q _ (I1.hok.fresh le)⟩
noncomputable abbrev NI:=Sum Key (List Key)
noncomputable abbrev NK:=List NI
section
variable(P:Program)(w:World)
inductive ItN(h:Heap):NK->List Value->Prop
 | nil:ItN h [] []
 | key {k:Key} {v:Value} {ks:NK} {vs:List Value}:keyIs k v=true->ItN h ks vs->ItN h (Sum.inl k::ks) (v::vs)
 | tup {kk:List Key} {b:Addr} {ks:NK} {vs:List Value}:IsTupleKey (mixKind P w) h kk b->ItN h ks vs->ItN h (Sum.inr kk::ks) (.ref b::vs)
def IsN(h:Heap)(ks:NK)(a:Addr):Prop:=∃o items n,h.get? a=some o/\o.cls = .type "tuple"/\o.data = .seq items n/\ItN P w h ks items.toList
end
section
variable{P:Program}{w:World}{h h':Heap}
theorem ItN.inj:∀{x y:NK} {vs:List Value},ItN P w h x vs->ItN P w h y vs->x=y
 | _,_,_,.nil,q=>by cases q;rfl
 | _,_,_,.key a r,q=>by
  cases q with
  | key b t=>rw[(mixKind P w).inj _ _ _ a b,r.inj t]
  | tup b t=>exact absurd ((mixKind P w).byValue _ _ a) (by simp[carriedByValue])
 | _,_,_,.tup a r,q=>by
  cases q with
  | key b t=>exact absurd ((mixKind P w).byValue _ _ b) (by simp[carriedByValue])
  | tup b t=>rw[a.inj b,r.inj t]
theorem ItN.keeps{d:Addr}{o:Obj}{es ep}(ho:h.get? d=some o)(hd:o.data = .dict es ep)(hs:Heap.SameBut d h h'):∀{x:NK} {vs:List Value},ItN P w h x vs->ItN P w h' x vs
 | _,_,.nil=>.nil
 | _,_,.key a r=>.key a (r.keeps ho hd hs)
 | _,_,.tup a r=>.tup (a.keeps ho hd hs) (r.keeps ho hd hs)
noncomputable def itH(w:World)(P:Program):NI->Int
 | .inl k=>keyH w k
 | .inr kk=>tupleKeyHash (mixKind P w) kk
noncomputable def itD:NI->Nat
 | .inl _=>1
 | .inr kk=>kk.length+1
noncomputable def dsN:NK->Nat
 | []=>1
 | x::r=>itD x+dsN r
noncomputable def hashN(w:World)(P:Program)(ks:NK):Int:=reduceHash (Builtin.Tuple.tupleHashOf (ks.map (itH w P)))
theorem IsN.typeIs{s:Shared}{ks:NK}{a:Addr}(x:IsN P w s.heap ks a):s.TypeIs (.ref a) "tuple":=let ⟨o,_,_,ho,hc,_⟩:=x;⟨o,ho,hc⟩
section
variable{A:Around}{E:Value->Shared->Prop}{s:Shared}
theorem j3j{x:NI}{ks:NK}{v:Value}{vs:List Value}{Q:Int->Shared->Prop}(hu:A.units<cLine)(i:ItN P w s.heap (x::ks) (v::vs))(h:Q (itH w P x) {s with toks:=s.toks+itD x}):wpAny (model P w) A (pyHash v) Q E s:=by
 cases i with
 | key a r=>exact(mixKind P w).pyHash a h
 | tup a r=>exact wpAny_pyHash_tuple hu a h
theorem XW(x:NI):∀ks:NK,dsN (ks++[x])=dsN ks+itD x
 | []=>by show itD x+1=1+itD x;omega
 | y::r=>by show itD y+dsN (r++[x])=itD y+dsN r+itD x;rw[XW x r];omega
theorem j4v{ks:NK}{a:Addr}{Q:Int->Shared->Prop}(hu:A.units+60<cLine)(hk:IsN P w s.heap ks a)(h:Q (hashN w P ks) {s with toks:=s.toks+dsN ks}):wpAny (model P w) A (pyHash (.ref a)) Q E s:=by
 have T:=hk.typeIs;obtain⟨o,items,n,ho,_,hd,hi⟩:=hk;have hu0:A.units<cLine:=by omega
 unfold pyHash
 first | unfold pyHashByItsType | skip
 first | refine wpAny_bind (wpAny_cRoomFor_or (.inr hu0) ?_) | skip
 refine wpAny_bind (wpAny_specialOf T F.slot_tuple_hash.lookup ?_);show wpAny _ _ (if(some (Value.builtin "tuple.__hash__")==some Value.none)=true then _ else _) Q E s;rw[if_neg (by rw[beq_builtin_none];exact Bool.false_ne_true)];refine wpAny_bind (wpAny_specialOf T F.slot_tuple_hash.lookup ?_);show wpAny _ _ (callSpecialIfBoundUnlessNone? (.ref a) "__hash__" _ >>= _) Q E s;refine wpAny_bind (wpAny_callSpecialIfBoundUnlessNone?_slot T F.slot_tuple_hash (wpAny_call_entry F.slot_tuple_hash T F.entry_tuple_hash ?_ (F.args_tuple_hash_1 _)));show wpAny _ _ (Builtin.Tuple.tupleItemsOf (.ref a) >>= _) _ _ s;refine wpAny_bind (wpAny_tupleItemsOf ho hd ?_);refine wpAny_bind ?_;rw[<-Array.forIn_toList];refine wpAny_forIn_list _ (fun rest (b:Array Int) s'=>∃done left:NK,ks=done++left/\ItN P w s.heap left rest/\b.toList=done.map (itH w P)/\s'={s with toks:=s.toks+(dsN done-1)}) _ ?_ ?_ _ _ ⟨[],ks,rfl,hi,rfl,rfl⟩
 ·rintro x rest b s' ⟨done,left,rfl,hl,hb,rfl⟩;have one:∀y:NI,1<=itD y:=fun y=>by cases y<;>simp[itD]
  have pos:∀l:NK,1<=dsN l:=fun l=>by
   cases l with
   | nil=>exact Nat.le_refl _
   | cons y r=>exact Nat.le_trans (one y) (Nat.le_add_right _ _)
  cases left with
  | nil=>cases hl
  | cons y ks'=>
   have hr:ItN P w s.heap ks' rest:=by cases hl with
    | key a r=>exact r
    | tup a r=>exact r
   have fin:s.toks+(dsN done-1)+itD y=s.toks+(dsN (done++[y])-1):=by rw[XW];have:=pos done;omega
   refine wpAny_bind (j3j (s:={s with toks:=s.toks+(dsN done-1)}) (by show A.units+1<cLine;omega) hl ?_)
   first
    | exact wpAny_pure ⟨done++[y],ks',by simp,hr,by simp[hb],by rw[<-fin]⟩
    | exact wpAny_bind (wpAny_pure (wpAny_pure ⟨done++[y],ks',by simp,hr,by simp[hb],by rw[<-fin]⟩))
 ·rintro b s' ⟨done,left,rfl,hl,hb,rfl⟩;cases hl;rw[append_nil]at h;have pos:1<=dsN done:=by
   cases done with
   | nil=>exact Nat.le_refl _
   | cons y r=>cases y<;>simp only[dsN,itD]<;>omega
  have e1:s.toks+(dsN done-1)+1=s.toks+dsN done:=by omega
  show wpAny _ _ (retInt (Builtin.Tuple.tupleHashOf b.toList)) _ _ _;rw[hb];refine wpAny_ret_mkInt ?_;show wpAny _ _ (if(decide (-(2:Int)^63<=Builtin.Tuple.tupleHashOf (done.map (itH w P)))&&decide (Builtin.Tuple.tupleHashOf (done.map (itH w P))<2^63))=true then _ else _) Q E _;unfold hashN reduceHash at h;by_cases hr:(decide (-(2:Int)^63<=Builtin.Tuple.tupleHashOf (done.map (itH w P)))&&decide (Builtin.Tuple.tupleHashOf (done.map (itH w P))<2^63))=true
  ·rw[if_pos hr];rw[if_pos hr]at h;exact wpAny_pure (by simpa [e1]using h)
  ·rw[if_neg hr];rw[if_neg hr]at h;exact wpAny_bind (wpAny_rule (wpAny_pure (by simpa [e1]using h)))
theorem j5a{x y:NI}{ks ls:NK}{u v:Value}{us vs:List Value}(hu:A.units+1<cLine)(i:ItN P w s.heap (x::ks) (u::us))(j:ItN P w s.heap (y::ls) (v::vs)){Q:Bool->Shared->Prop}(h:Q (decide (x=y)) s):wpAny (model P w) A (eqBool u v) Q E s:=by
 have tt:∀{kk:List Key} {b:Addr},IsTupleKey (mixKind P w) s.heap kk b->∃its,s.heap.IsTuple b its:=fun⟨o,its,n,h1,h2,h3,_⟩=>⟨its,o,h1,h2,n,h3⟩
 cases i with
 | key a r=>
  cases j with
  | key b t=>
   refine(mixKind P w).eqBool a b ?_;rw[show decide (Sum.inl _=(Sum.inl _:NI))=decide _ from decide_eq_decide.mpr ⟨Sum.inl.inj,congrArg _⟩]at h;exact h
  | tup b t=>
   obtain⟨its,hb⟩:=tt b;rw[decide_eq_false (fun z=>nomatch z)]at h;rcases jZ a with⟨i,t,rfl,rfl⟩ | ⟨x,t,rfl,rfl⟩
   ·exact SeqAt.EqAt.int_tuple i t hb (by omega) _ _ _ _ h
   ·exact SeqAt.EqAt.str_tuple x t hb (by omega) _ _ _ _ h
 | tup a r=>
  obtain⟨its,ha⟩:=tt a;cases j with
  | key b t=>
   rw[decide_eq_false (fun z=>nomatch z)]at h;rcases jZ b with⟨i,t,rfl,rfl⟩ | ⟨x,t,rfl,rfl⟩
   ·exact SeqAt.EqAt.tuple_int i t ha (by omega) _ _ _ _ h
   ·exact SeqAt.EqAt.tuple_str x t ha (by omega) _ _ _ _ h
  | tup b t=>
   refine wpAny_eqBool_tuple (by omega) a b ?_;rw[show decide (Sum.inr _=(Sum.inr _:NI))=decide _ from decide_eq_decide.mpr ⟨Sum.inr.inj,congrArg _⟩]at h;exact h
theorem j1R(hu:A.units+1<cLine):∀{x y:NK} {us vs:List Value},ItN P w s.heap x us->ItN P w s.heap y vs->∀(j:Nat) (h1:j<us.length) (h2:j<vs.length),∃(g1:j<x.length) (g2:j<y.length),∀(E:Value->Shared->Prop) (Q:Bool->Shared->Prop),Q (decide (x[j]=y[j])) s->wpAny (model P w) A (eqBool us[j] vs[j]) Q E s
 | [],_,_,_,i,_,j,h1,_=>by cases i;exact absurd h1 (Nat.not_lt_zero _)
 | _::_,[],_,_,_,i,j,_,h2=>by cases i;exact absurd h2 (Nat.not_lt_zero _)
 | x::xs,y::ys,[],_,i,_,_,_,_=>nomatch i
 | x::xs,y::ys,_::_,[],_,i,_,_,_=>nomatch i
 | x::xs,y::ys,u::us,v::vs,i,k,0,_,_=>⟨Nat.succ_pos _,Nat.succ_pos _,fun E Q h=>j5a hu i k h⟩
 | x::xs,y::ys,u::us,v::vs,i,k,j+1,h1,h2=>by
  have i':ItN P w s.heap xs us:=by cases i with
   | key _ r=>exact r
   | tup _ r=>exact r
  have k':ItN P w s.heap ys vs:=by cases k with
   | key _ r=>exact r
   | tup _ r=>exact r
  obtain⟨g1,g2,q⟩:=j1R hu i' k' j (Nat.lt_of_succ_lt_succ h1) (Nat.lt_of_succ_lt_succ h2);exact⟨Nat.succ_lt_succ g1,Nat.succ_lt_succ g2,fun E Q h=>q E Q h⟩
theorem ItN.length:∀{x:NK} {vs:List Value},ItN P w h x vs->x.length=vs.length
 | _,_,.nil=>rfl
 | _,_,.key _ r=>by rw[length_cons,length_cons,r.length]
 | _,_,.tup _ r=>by rw[length_cons,length_cons,r.length]
theorem j4f{α:Type}[DecidableEq α]{x y:List α}{e:Nat->Bool}(he:∀j (h1:j<x.length) (h2:j<y.length),e j=decide (x[j]=y[j])):((List.range (min x.length y.length)).all e&&x.length==y.length)=decide (x=y):=by
 by_cases z:x=y
 ·subst z;rw[decide_eq_true rfl,Bool.and_eq_true];refine⟨all_eq_true.mpr fun j hj=>?_,by simp⟩;have hj:=mem_range.mp hj;rw[he j (by omega) (by omega)];simp
 ·rw[decide_eq_false z];cases e':((List.range (min x.length y.length)).all e&&x.length==y.length)with
  | false=>rfl
  | true=>
   rw[Bool.and_eq_true]at e';obtain⟨h1,h2⟩:=e';have h2:x.length=y.length:=by simpa using h2
   refine absurd (ext_getElem h2 fun j g1 g2=>?_) z;have:=all_eq_true.mp h1 j (mem_range.mpr (by omega));rw[he j g1 g2]at this;exact of_decide_eq_true this
theorem j5k{x y:NK}{a b:Addr}{Q:Bool->Shared->Prop}(hu:A.units+60<cLine)(hx:IsN P w s.heap x a)(hy:IsN P w s.heap y b)(h:Q (decide (x=y)) s):wpAny (model P w) A (eqBool (.ref a) (.ref b)) Q E s:=by
 by_cases hab:a=b
 ·subst hab;obtain⟨o,its,n,ho,_,hd,hi⟩:=hx;obtain⟨o',its',n',ho',_,hd',hi'⟩:=hy;rw[ho]at ho';cases ho';rw[hd]at hd';cases hd';rw[hi.inj hi',decide_eq_true rfl]at h;exact SeqAt.EqAt.same _ P w E Q h
 ·have Ta:=hx.typeIs;have Tb:=hy.typeIs;obtain⟨⟨_,oa,_,sa⟩,its,n,ho,hc,hd,hi⟩:=id hx;obtain⟨⟨_,ob,_,sb⟩,jts,m,ho',hc',hd',hj⟩:=id hy;simp only at hc hd hc' hd';subst hc hd hc' hd';unfold eqBool;refine wpAny_holding ?_;refine wpAny_ite_split (fun z=>absurd (by have:=eq_of_beq z;injection this) hab) fun _=>?_
  have lx:x.length=its.size:=hi.length.trans Array.length_toList;have ly:y.length=jts.size:=hj.length.trans Array.length_toList
  let e:Nat->Bool:=fun j=>decide (x[j]?=y[j]?)
  have fin:((List.range (min its.size jts.size)).all e&&its.size==jts.size)=decide (x=y):=by
   rw[<-lx,<-ly];refine j4f fun j g1 g2=>?_
   show decide (x[j]?=y[j]?)=_;rw[List.getElem?_eq_getElem g1,List.getElem?_eq_getElem g2];exact decide_eq_decide.mpr ⟨Option.some.inj,congrArg _⟩
  refine wpAny_bind (wpAny_richCompare_same_room (op:=.Eq) Ta Tb F.slot_tuple_eq (wpAny_call_entry F.slot_tuple_eq Ta F.entry_tuple_eq ?_ (F.args_tuple_eq_2 _ _)) (by omega));show wpAny _ _ (isInstance (.ref b) (.type "tuple") >>= _) _ _ s;refine wpAny_bind (wpAny_isInstance Tb isSubtype_tuple_tuple ?_);simp only[Bool.not_true,Bool.false_eq_true,if_false];refine wpAny_bind (wpAny_tupleItemsOf ho rfl ?_);refine wpAny_bind (wpAny_tupleItemsOf ho' rfl ?_);refine wpAny_bind ?_;refine wpAny_forIn_list _ (fun rest r s'=>r.1=none/\s'=s/\∃k,rest=(List.zip its.toList jts.toList).drop k/\∀j,j<k->e j=true) _ ?_ ?_ _ _ ⟨rfl,rfl,0,rfl,fun j hj=>absurd hj (Nat.not_lt_zero _)⟩
  ·rintro⟨u,v⟩ rest r s' ⟨hr,rfl,k,hz,hk⟩;have hlt:k<(List.zip its.toList jts.toList).length:=by
    rcases Nat.lt_or_ge k (List.zip its.toList jts.toList).length with g | g
    ·exact g
    ·rw[List.drop_eq_nil_of_le g]at hz;cases hz
   rw[List.drop_eq_getElem_cons hlt]at hz;injection hz with hz1 hz2;rw[length_zip]at hlt;have l1:k<its.toList.length:=by omega
   have l2:k<jts.toList.length:=by omega
   rw[List.getElem_zip]at hz1;injection hz1 with eu ev;obtain⟨g1,g2,q⟩:=j1R (A:=A.in1) (by show A.units+1+1<cLine;omega) hi hj k l1 l2;have ek:e k=decide (x[k]=y[k]):=by
    show decide (x[k]?=y[k]?)=_;rw[List.getElem?_eq_getElem g1,List.getElem?_eq_getElem g2];exact decide_eq_decide.mpr ⟨Option.some.inj,congrArg _⟩
   rw[eu,ev];refine wpAny_bind (q _ _ ?_);by_cases z:x[k]=y[k]
   ·rw[decide_eq_true z];simp only[Bool.not_true,Bool.false_eq_true,if_false];refine wpAny_pure ⟨rfl,rfl,k+1,hz2,fun j hj=>?_⟩;rcases Nat.lt_or_ge j k with g | g
    ·exact hk j g
    ·have:j=k:=by omega
     subst this;rw[ek,decide_eq_true z]
   ·rw[decide_eq_false z];simp only[Bool.not_false,if_true];have hf:decide (x=y)=false:=decide_eq_false fun g=>z (by subst g;rfl)
    rw[hf]at h;exact wpAny_bind (wpAny_pure (wpAny_pure (wpAny_pure ⟨_,rfl,(fun e=>nomatch e),wpAny_truthy_bool h⟩)))
  ·rintro⟨r1,r2⟩ s' ⟨hr,rfl,k,hz,hk⟩;simp only at hr;subst hr;have hge:(List.zip its.toList jts.toList).length<=k:=by
    rcases Nat.lt_or_ge k (List.zip its.toList jts.toList).length with g | g
    ·rw[List.drop_eq_getElem_cons g]at hz;cases hz
    ·exact g
   rw[length_zip,Array.length_toList,Array.length_toList]at hge;have fin2:(its.size==jts.size)=decide (x=y):=by
    rw[<-fin,all_eq_true.mpr fun j hj=>hk j (by have:=mem_range.mp hj;omega),Bool.true_and]
   refine wpAny_pure ⟨_,rfl,(fun e=>nomatch e),wpAny_truthy_bool ?_⟩;rw[fin2];exact h
theorem j1e{kk:List Key}{b:Addr}{n:Nat}{Q:Bool->Shared->Prop}(hk:IsTupleKey (mixKind P w) s.heap kk b)(h:Q true s):wpAny (model P w) A (eqIsQuiet (n+1) (.ref b)) Q E s:=by
 have T:=hk.typeIs;obtain⟨o,items,m,ho,_,hd,hi⟩:=hk;unfold eqIsQuiet;refine wpAny_bind (wpAny_specialOf T F.slot_tuple_eq.lookup ?_);show wpAny _ _ (isInstance (.ref b) (.type "tuple") >>= _) _ _ s;refine wpAny_bind (wpAny_isInstance T isSubtype_tuple_tuple ?_);simp only[Bool.not_true,Bool.false_eq_true,if_false];refine wpAny_bind (wpAny_seqItems ho hd ?_);refine wpAny_bind ?_;show wpAny _ _ (forIn items _ _) _ _ s;rw[<-Array.forIn_toList];refine wpAny_forIn_list _ (fun rest r s'=>r.1=none/\s'=s/\∀v∈rest,carriedByValue v=true) _ ?_ ?_ _ _ ⟨rfl,rfl,hi.byValue⟩
 ·rintro v rest r s' ⟨hr,rfl,hall⟩;rw[eqIsQuiet_byValue _ (hall v mem_cons_self)];refine wpAny_bind (wpAny_pure ?_);simp only[Bool.not_true,Bool.false_eq_true,if_false];exact wpAny_pure ⟨rfl,rfl,fun u hu'=>hall u (mem_cons_of_mem _ hu')⟩
 ·rintro⟨r1,r2⟩ s' ⟨hr,rfl,_⟩;simp only at hr;subst hr;exact wpAny_pure h
theorem j3J{ks:NK}{a:Addr}{Q:Bool->Shared->Prop}(hk:IsN P w s.heap ks a)(h:Q true s):wpAny (model P w) A (eqIsQuiet 8 (.ref a)) Q E s:=by
 have T:=hk.typeIs;obtain⟨o,items,m,ho,_,hd,hi⟩:=hk;unfold eqIsQuiet;refine wpAny_bind (wpAny_specialOf T F.slot_tuple_eq.lookup ?_);show wpAny _ _ (isInstance (.ref a) (.type "tuple") >>= _) _ _ s;refine wpAny_bind (wpAny_isInstance T isSubtype_tuple_tuple ?_);simp only[Bool.not_true,Bool.false_eq_true,if_false];refine wpAny_bind (wpAny_seqItems ho hd ?_);refine wpAny_bind ?_;show wpAny _ _ (forIn items _ _) _ _ s;rw[<-Array.forIn_toList];refine wpAny_forIn_list _ (fun rest r s'=>r.1=none/\s'=s/\∃ls:NK,ItN P w s.heap ls rest) _ ?_ ?_ _ _ ⟨rfl,rfl,ks,hi⟩
 ·rintro v rest r s' ⟨hr,rfl,ls,hl⟩;cases hl with
  | key z t=>
   rw[eqIsQuiet_byValue _ ((mixKind P w).byValue _ _ z)];refine wpAny_bind (wpAny_pure ?_);simp only[Bool.not_true,Bool.false_eq_true,if_false];exact wpAny_pure ⟨rfl,rfl,_,t⟩
  | tup z t=>
   refine wpAny_bind (j1e z ?_);simp only[Bool.not_true,Bool.false_eq_true,if_false];exact wpAny_pure ⟨rfl,rfl,_,t⟩
 ·rintro⟨r1,r2⟩ s' ⟨hr,rfl,_⟩;simp only at hr;subst hr;exact wpAny_pure h
end
noncomputable def nestKind(P:Program)(w:World):HeapKind P w NK where
 is:=IsN P w
 hash:=hashN w P
 draws:=dsN
 room:=fun A=>A.units+60<cLine
 inj:=fun hx hy=>by
  obtain⟨o,its,n,ho,_,hd,hi⟩:=hx;obtain⟨o',its',n',ho',_,hd',hi'⟩:=hy;rw[ho]at ho';cases ho';rw[hd]at hd';cases hd';exact hi.inj hi'
 keeps:=fun {h h' k a d o es ep} x ho hd hs=>by
  obtain⟨o',its,n,ho',hc,hd',hi⟩:=x;have ne:a≠d:=fun z=>by
   rw[z,ho]at ho';cases ho';rw[hd]at hd';cases hd'
  exact⟨o',its,n,(hs.2 a ne).trans ho',hc,hd',hi.keeps ho hd hs⟩
 pyHash:=fun hu hk h=>j4v hu hk h
 eqBool:=fun hu hx hy h=>j5k hu hx hy h
 quiet:=fun hk h=>j3J hk h
end
section
variable{prog:Program}{w:World}{K:Type}[DecidableEq K]{knd:HeapKind prog w K}{A:Around}{E:Value->Shared->Prop}{s:Shared}
theorem j1l{d a:Addr}{xs:List (K×Addr×Value)}{k:K}{v:Value}{Q:Value->Shared->Prop}(hu:knd.room A)(hkey:knd.is s.heap k a)(hm:s.heap.DictOfH knd d xs)(hz:xs.length<=sizeLine)
  (h1:∀p,atKey xs k=some p->Q p.2 {s with toks:=s.toks+knd.draws k})
  (h2:atKey xs k=none->∀h',h'.DictOfH knd d (xs++[(k,a,v)])->Heap.SameBut d s.heap h'->Q v {s with heap:=h',toks:=s.toks+knd.draws k}) :
  wpAny (model prog w) A (dictSetDefault d (.ref a) v) Q E s:=by
 obtain⟨o,es,ep,ho,hc,hd,he,his,hn⟩:=hm;have hs:=size_of_entries he;unfold dictSetDefault
 try with_reducible refine wpAny_holding ?_
 refine wpAny_bind (knd.pyHash hu hkey ?_);refine wpAny_bind (wpAny_dictFind_heap (s:={s with toks:=s.toks+knd.draws k}) hu hkey ho hd he his hn (fun no=>?_) fun j p hj=>?_)
 ·have hnot:k∉xs.map (·.1):=not_mem_keys_of_get no;refine wpAny_bind (wpAny_rule (wpAny_bind (wpAny_updateDictKeys (hz:=by omega) (s:={s with toks:=s.toks+knd.draws k}) ho hd (wpAny_pure (h2 (atKey_none_of_get no) _ ⟨_,_,ep+1,Heap.get?_update_self _ ho (Obj.isFreed_of_dict (Obj.data_mapDictKeys hd _)),hc.mapDictKeys _,Obj.data_mapDictKeys hd _,?_,fun x hx=>?_,?_⟩ (Heap.SameBut.update ..))))))
  ·simp[he,entryOfKey]
  ·rcases mem_append.mp hx with hx | hx
   ·exact knd.keeps (his x hx) ho hd (Heap.SameBut.update ..)
   ·rw[mem_singleton.mp hx];exact knd.keeps hkey ho hd (Heap.SameBut.update ..)
  ·rw[map_append,nodup_append];refine⟨hn,by simp,fun x hx y hy z=>?_⟩;simp only[map_cons,map_nil,mem_singleton]at hy;exact hnot (hy▸z▸hx)
 ·refine wpAny_bind (wpAny_dictEntries (s:={s with toks:=s.toks+knd.draws k}) ho hd ?_);have e:es[j]?=some (entryOfKey knd (k,p)):=by rw[entry_at he j,hj];rfl
  rw[e];exact wpAny_bind (wpAny_rule (wpAny_pure (h1 p (atKey_of_get hn hj))))
theorem Xu(d a:Addr)(hd:(d==sysModules)=false)(v:Value) :
  MeetsIn prog w (Builtin.«dict.setdefault» ⟨[.ref d,.ref a,v],[]⟩) (fun A R s=>knd.room A.in1/\∃k xs,knd.is s.heap k a/\s.heap.DictOfH knd d xs/\xs.length<=sizeLine/\
   (∀p,atKey xs k=some p->R (.ok (.ret p.2)) {s with toks:=s.toks+knd.draws k})/\
   (atKey xs k=none->∀h',h'.DictOfH knd d (xs++[(k,a,v)])->Heap.SameBut d s.heap h'->R (.ok (.ret v)) {s with heap:=h',toks:=s.toks+knd.draws k})):=
 .of_wp fun A R s ⟨hu,k,xs,hkey,hm,hz,h1,h2⟩=>by
  unfold Builtin.«dict.setdefault»;refine wpAny_bind ?_;unfold Builtin.Dict.keyAndDefault;refine wpAny_bind (wpAny_notOrdered_dict hm.typeIs ?_);show wpAny _ _ (pure (d,Value.ref a,some v)) _ _ s;refine wpAny_pure ?_;show wpAny _ _ (if(d==sysModules)=true then _ else(dictSetDefault d (.ref a) v >>= _)) _ _ s;rw[if_neg (by rw[hd];exact Bool.false_ne_true)];exact wpAny_bind (j1l hu hkey hm hz (fun p hp=>wpAny_pure ⟨p.2,rfl,h1 p hp⟩) fun hn h' hm' hs'=>wpAny_pure ⟨v,rfl,h2 hn h' hm' hs'⟩)
def RawD(h:Heap)(d:Addr)(es:Array DictEntry)(ep:Nat):Prop:=∃o,h.get? d=some o/\o.ExactDict/\o.data = .dict es ep
theorem RawD.typeIs{d:Addr}{es:Array DictEntry}{ep:Nat}(x:RawD s.heap d es ep):s.TypeIs (.ref d) "dict":=let ⟨o,ho,hc,_⟩:=x;⟨o,ho,hc.1⟩
theorem j2E{d:Addr}{es:Array DictEntry}{ep:Nat}{Q:Value->Shared->Prop}(hd:(d==sysModules)=false)(hm:RawD s.heap d es ep)
  (hQ:Q (.ref s.heap.objs.size) {s with heap:=s.heap.push {cls:=.type "dict_keyiterator",data:=.fields #[.ref d,.int 0 0,.int es.size 0,.int ep 0]}}) :
  wpAny (model prog w) A (pyIter (.ref d)) Q E s:=by
 have T:=hm.typeIs;obtain⟨o,ho,hc,hdat⟩:=hm;refine wpAny_pyIter_slot T F.slot_dict_iter (wpAny_call_entry F.slot_dict_iter T F.entry_dict_iter ?_ (F.args_dict_iter_1 _));unfold Builtin.«dict.__iter__»;refine wpAny_bind ?_;unfold Builtin.Dict.dictSlotNone;refine wpAny_bind (wpAny_notOrdered_dict T ?_);show wpAny _ _ (pure (Value.ref d)) _ _ s;refine wpAny_pure ?_;show wpAny _ _ (Builtin.Dict.showsAll d >>= _) _ _ s;unfold Builtin.Dict.showsAll;rw[if_neg (by rw[hd];exact Bool.false_ne_true)];refine wpAny_bind (wpAny_pure ?_);refine wpAny_bind (wpAny_dictEntries ho hdat ?_);refine wpAny_bind (wpAny_dictEpoch ho hdat ?_);refine wpAny_bind (wpAny_newObj_type (wpAny_pure ⟨_,rfl,"dict_keyiterator",_,⟨_,Heap.get?_push_size _ rfl,rfl⟩,F.slot_dict_keyiterator_next.lookup,?_⟩));simpa [rawInt]using hQ
theorem j2D{it d:Addr}{i ep:Nat}{es:Array DictEntry}{e:DictEntry}{Q:Option Value->Shared->Prop}(hit:s.heap.IsKeyIter it d i es.size ep)(hm:RawD s.heap d es ep)(hx:es[i]?=some e)
  (hQ:∀h',h'.IsKeyIter it d (i+1) es.size ep->Heap.SameBut it s.heap h'->Q (some e.key) {s with heap:=h'}):wpAny (model prog w) A (pyNext (.ref it)) Q E s:=by
 obtain⟨o,ho,hc,hd⟩:=id hit;obtain⟨od,hod,hcd,hdd⟩:=hm;unfold pyNext;refine wpAny_bind (wpAny_attempt (wpAny_callSpecial?_slot (name:=Str.ofString "__next__") hit.typeIs F.slot_dict_keyiterator_next (wpAny_call_entry F.slot_dict_keyiterator_next hit.typeIs F.entry_dict_keyiterator_next ?_ (F.args_dict_keyiterator_next_1 _))));refine wpAny_bind (wpAny_pure ?_);refine wpAny_bind ?_;refine wpAny_bind ?_
 first | refine wpAny_bind (wpAny_typeNameOfWhole_keyiter hit.typeIs (wpAny_pure ?_)) | refine wpAny_bind (wpAny_typeNameOf_keyiter hit.typeIs (wpAny_pure ?_))
 refine wpAny_bind (wpAny_fieldsOf ho hd ?_);have hown:Builtin.Dict_items.ownsTuple "dict_keyiterator"= false:=by decide
 simp only[hown,Bool.false_eq_true,if_false];show wpAny _ _ (if(Value.ref d==Value.none)=true then _ else _) _ _ s;rw[if_neg (show¬((Value.ref d==Value.none)=true)from Bool.false_ne_true)];refine wpAny_bind (wpAny_pure (wpAny_bind (wpAny_dictEntries hod hdd ?_)));rw[if_neg (by simp)];refine wpAny_bind (wpAny_pure (wpAny_bind (wpAny_dictEpoch hod hdd ?_)));rw[if_neg (by simp)];refine wpAny_pure ?_;simp only[show¬((i:Int)<0)from by omega,if_false,Int.toNat_natCast,hx];refine wpAny_bind ?_
 first | refine wpAny_bind (wpAny_typeNameOfWhole_keyiter hit.typeIs (wpAny_pure ?_)) | refine wpAny_bind (wpAny_typeNameOf_keyiter hit.typeIs (wpAny_pure ?_))
 refine wpAny_bind (wpAny_isOneOf_keyiter hit.typeIs ?_);show wpAny _ _ (setField (.ref it) 1 (rawInt ((i:Int)+1)) >>= _) _ _ s;refine wpAny_bind (wpAny_setField ho hd (by simp) ?_);have hit':(s.heap.update it (Obj.mapFields (·.setIfInBounds 1 (rawInt ((i:Int)+1))))).IsKeyIter it d (i+1) es.size ep:=
  ⟨_,Heap.get?_update_self _ ho (Obj.isFreed_of_fields (Obj.data_mapFields hd _)),(Obj.cls_mapFields ..).trans hc,by rw[Obj.data_mapFields hd];simp[rawInt]⟩
 refine wpAny_bind (wpAny_holding ?_);refine wpAny_bind (wpAny_isOneOf_keyiter (s:={s with heap:=s.heap.update it (Obj.mapFields (·.setIfInBounds 1 (rawInt ((i:Int)+1))))}) hit'.typeIs ?_);show wpAny _ _ (pure e.key) _ _ _;exact wpAny_pure (wpAny_pure ⟨_,rfl,wpAny_pure (hQ _ hit' (Heap.SameBut.update ..))⟩)
theorem j3K{it d:Addr}{ep:Nat}{es:Array DictEntry}{Q:Option Value->Shared->Prop}(hh:A.handled=none)(hit:s.heap.IsKeyIter it d es.size es.size ep)(hm:RawD s.heap d es ep)
  (hQ:∀h',Heap.ExtBut it s.heap h'->Q none {s with heap:=h'}):wpAny (model prog w) A (pyNext (.ref it)) Q E s:=by
 obtain⟨o,ho,hc,hd⟩:=id hit;obtain⟨od,hod,hcd,hdd⟩:=hm;unfold pyNext;refine wpAny_bind (wpAny_attempt (wpAny_callSpecial?_slot (name:=Str.ofString "__next__") hit.typeIs F.slot_dict_keyiterator_next (wpAny_call_entry F.slot_dict_keyiterator_next hit.typeIs F.entry_dict_keyiterator_next ?_ (F.args_dict_keyiterator_next_1 _))));refine wpAny_bind (wpAny_pure ?_);refine wpAny_bind ?_;refine wpAny_bind ?_
 first | refine wpAny_bind (wpAny_typeNameOfWhole_keyiter hit.typeIs (wpAny_pure ?_)) | refine wpAny_bind (wpAny_typeNameOf_keyiter hit.typeIs (wpAny_pure ?_))
 refine wpAny_bind (wpAny_fieldsOf ho hd ?_);have hown:Builtin.Dict_items.ownsTuple "dict_keyiterator"= false:=by decide
 simp only[hown,Bool.false_eq_true,if_false];show wpAny _ _ (if(Value.ref d==Value.none)=true then _ else _) _ _ s;rw[if_neg (show¬((Value.ref d==Value.none)=true)from Bool.false_ne_true)];refine wpAny_bind (wpAny_pure (wpAny_bind (wpAny_dictEntries hod hdd ?_)));rw[if_neg (by simp)];refine wpAny_bind (wpAny_pure (wpAny_bind (wpAny_dictEpoch hod hdd ?_)));rw[if_neg (by simp)];refine wpAny_pure ?_;simp only[show¬((es.size:Int)<0)from by omega,if_false,Int.toNat_natCast,Array.getElem?_eq_none (Nat.le_refl es.size)];refine wpAny_bind ?_
 first | refine wpAny_bind (wpAny_typeNameOfWhole_keyiter hit.typeIs (wpAny_pure ?_)) | refine wpAny_bind (wpAny_typeNameOf_keyiter hit.typeIs (wpAny_pure ?_))
 show wpAny _ _ (setField (.ref it) 0 .none >>= _) _ _ s;refine wpAny_bind (wpAny_setField ho hd (by simp) ?_);show wpAny _ _ (newExc (.type "StopIteration") [] >>= _) _ _ _;refine wpAny_bind ?_;simp only[newExc,newTuple];refine wpAny_bind (wpAny_newObj_type ?_ (by size_fits));refine wpAny_bind (m:=firstArgMember _ _) (wpAny_of_eq (a:=Value.none) (by first | rfl | (simp only[firstArgMember];rfl)) ?_);refine wpAny_newObj_type ?_ (by size_fits);simp only[raiseNew];refine wpAny_bind (wpAny_handled ?_);rw[show A.in1.handled=none from hh];refine wpAny_bind (wpAny_pure (wpAny_throw ?_));refine wpAny_bind (wpAny_isInstance (T:="StopIteration") (b:=true) ⟨_,Heap.get?_push_size _ rfl,rfl⟩ isSubtype_stop ?_);exact wpAny_pure (hQ _ (((Heap.SameBut.update ..).extBut.push _).push _))
theorem RawD.at'{h h':Heap}{d:Addr}{es:Array DictEntry}{ep:Nat}(x:RawD h d es ep)(e:∀o,h.get? d=some o->h'.get? d=some o):RawD h' d es ep:=let ⟨o,ho,r⟩:=x;⟨o,e _ ho,r⟩
theorem RawD.lt{h:Heap}{d:Addr}{es:Array DictEntry}{ep:Nat}(x:RawD h d es ep):d<h.objs.size:=let ⟨_,ho,_⟩:=x;Heap.lt_size ho
theorem j1i(hh:A.handled=none)(I d:Addr)(hne:d≠I)(es:Array DictEntry)(ep:Nat) :
  Walks prog w A I [I,d] [I] es.size (fun i v=>∃e,es[i]?=some e/\v=e.key) (fun i h=>h.IsKeyIter I d i es.size ep/\RawD h d es ep) where
 sub:=fun b hb=>by simp at hb;simp[hb]
 frame:=fun _ _ _ st hk=>⟨st.1.at fun o e=>hk I (by simp) o e,st.2.at' fun o e=>hk d (by simp) o e⟩
 item:=fun i s Q E hi st hQ=>j2D st.1 st.2 (Array.getElem?_eq_getElem hi) fun h' hit' hs'=>
  hQ _ h' s.toks ⟨_,Array.getElem?_eq_getElem hi,rfl⟩ ⟨hit',st.2.at' fun o e=>hs'.extBut d o hne e⟩ fun b o hb e=>hs'.extBut b o (fun h=>hb (by simp[h])) e
 done:=fun s Q E st hQ=>j3K hh st.1 st.2 fun h' he'=>hQ h' s.toks fun b o hb e=>he' b o (fun h=>hb (by simp[h])) e
 self:=fun _ _ _ _ st hQ=>wpAny_pyIter_keyiter st.1 hQ
theorem j3L{d:Addr}{es:Array DictEntry}{ep:Nat}(lo:(d==sysModules)=false):KdlSrc prog w "dict" d d es.size (fun i v=>∃e,es[i]?=some e/\v=e.key) (fun h=>RawD h d es ep) where
 type:=fun _ hm=>hm.typeIs
 there:=fun _ hm=>⟨hm.lt,hm.lt⟩
 keep:=fun _ _ hm hk=>hm.at' fun o e=>hk d (.inl rfl) o e
 notList:=by decide
 notTuple:=by decide
 hint:=fun _ _ _ _ hm hq=>kdl_hint_dict hm.typeIs hq
 iter:=fun _ _ hh hm=>⟨_,_,(fun _ _ hq=>j2E lo hm hq),j1i hh _ d (Nat.ne_of_lt hm.lt) es ep,⟨⟨_,Heap.get?_push_size _ rfl,rfl,rfl⟩,hm.at' fun o e=>Heap.get?_push_of_some _ e⟩⟩
end
inductive NVs(H:Hp):List V->NK->Prop
 | nil:NVs H [] []
 | key {k:Key} {vs:List V} {ks:NK}:NVs H vs ks->NVs H (kV k::vs) (Sum.inl k::ks)
 | tup {b:Addr} {kk:List Key} {vs:List V} {ks:NK}:H b=some (.tup (kk.map kV))->NVs H vs ks->NVs H (.ref b::vs) (Sum.inr kk::ks)
def NAt(H:Hp)(b:Addr)(ks:NK):Prop:=∃vs,H b=some (.tup vs)/\NVs H vs ks
section
variable{P:Program}{w:World}{H:Hp}{h:Heap}
theorem xS(ok:HOk P w H h):∀{vs:List V} {ks:NK} {us:List Value},NVs H vs ks->Vals vs us->ItN P w h ks us
 | _,_,_,.nil,r=>by cases r;exact .nil
 | _,_,_,.key t,r=>by
  cases r with
  | cons r1 r2=>exact .key (KU (P:=P) (w:=w) r1) (xS ok t r2)
 | _,_,_,.tup e t,r=>by
  cases r with
  | cons r1 r2=>
   cases r1;exact .tup (kz ok e) (xS ok t r2)
theorem j1Y{b:Addr}{ks:NK}(ok:HOk P w H h)(x:NAt H b ks):IsN P w h ks b:=by
 obtain⟨vs,e,n⟩:=x;obtain⟨_,its,r,o,h1,h2,m,h3⟩:=(show ObjOk P w H h b (.tup vs)from ok b _ e)
 exact⟨o,its.toArray,m,h1,h2,h3,by simpa using xS ok n r⟩
end
noncomputable abbrev NE:=NK×Addr×V
noncomputable def DNx(P:Program)(w:World)(a:Addr)(xs:List NE):HO:=.ext fun h=>xs.length<=sizeLine/\(a==sysModules)=false/\(xs.map (·.1)).Nodup/\∃ys:List (NK×Addr×Value),
 Paired (fun(p:NE) (q:NK×Addr×Value)=>p.1=q.1/\p.2.1=q.2.1/\RelV p.2.2 q.2.2) xs ys/\∃es ep,RawD h a es ep/\es.toList=ys.map (entryOfKey (nestKind P w))
section
variable{P:Program}{w:World}{H:Hp}{h:Heap}{a:Addr}{xs:List NE}
theorem j1O(z:xs.length<=sizeLine)(hd:(a==sysModules)=false)(hn:(xs.map (·.1)).Nodup){ys:List (NK×Addr×Value)}(r:Paired (fun(p:NE) (q:NK×Addr×Value)=>p.1=q.1/\p.2.1=q.2.1/\RelV p.2.2 q.2.2) xs ys)
  {es:Array DictEntry} {ep:Nat} (rw':RawD h a es ep) (e:es.toList=ys.map (entryOfKey (nestKind P w))):ObjOk P w H h a (DNx P w a xs):=by
 refine⟨⟨z,hd,hn,ys,r,es,ep,rw',e⟩,let ⟨o,ho,_⟩:=rw';⟨o,ho⟩,?_⟩;rintro h1 h2 ⟨z,hd,hn,ys,r,es,ep,rw',e⟩ k;exact⟨z,hd,hn,ys,r,es,ep,rw'.at' k,e⟩
def PNE(xs:List NE)(ys:List (NK×Addr×Value)):Prop:=Paired (fun(p:NE) (q:NK×Addr×Value)=>p.1=q.1/\p.2.1=q.2.1/\RelV p.2.2 q.2.2) xs ys
theorem PNE.keys:∀{xs:List NE} {ys:List (NK×Addr×Value)},PNE xs ys->ys.map (·.1)=xs.map (·.1)
 | _,_,.nil=>rfl
 | _,_,.cons r t=>by rw[map_cons,map_cons,r.1,PNE.keys t]
theorem PNE.length{xs:List NE}{ys:List (NK×Addr×Value)}(r:PNE xs ys):xs.length=ys.length:=by
 have:=congrArg List.length r.keys;rw[length_map,length_map]at this;exact this.symm
theorem PNE.snoc{k:NK}{b:Addr}{v:V}{u:Value}(r':RelV v u):∀{xs:List NE} {ys:List (NK×Addr×Value)},PNE xs ys->PNE (xs++[(k,b,v)]) (ys++[(k,b,u)])
 | _,_,.nil=>.cons ⟨rfl,rfl,r'⟩ .nil
 | _,_,.cons r t=>.cons r (PNE.snoc r' t)
theorem PNE.all{F:NK->Addr->Prop}:∀{xs:List NE} {ys:List (NK×Addr×Value)},PNE xs ys->(∀p∈xs,F p.1 p.2.1)->∀q∈ys,F q.1 q.2.1
 | _,_,.nil,_=>fun q hq=>nomatch hq
 | _,_,.cons (a:=x) r t,h=>fun q hq=>by
  rcases mem_cons.mp hq with rfl | hq
  ·have:=h _ mem_cons_self;rw[r.1,r.2.1]at this;exact this
  ·exact PNE.all t (fun p hp=>h p (mem_cons_of_mem _ hp)) q hq
theorem PNE.fnd{k:NK}:∀{xs:List NE} {ys:List (NK×Addr×Value)},PNE xs ys->(∀p,xs.find? (fun p=>decide (p.1=k))=some p->∃u,atKey ys k=some (p.2.1,u)/\RelV p.2.2 u)/\(xs.find? (fun p=>decide (p.1=k))=none->atKey ys k=none)
 | _,_,.nil=>⟨fun p e=>by simp at e,fun _=>rfl⟩
 | _,_,.cons (a:=x) (b:=y) (l₂:=m) r t=>by
  obtain⟨h1,h2⟩:=PNE.fnd (k:=k) t;by_cases e:x.1=k
  ·have e':y.1=k:=r.1▸e;refine⟨fun p q=>?_,fun q=>?_⟩
   ·rw[List.find?_cons,decide_eq_true e]at q;cases q;refine⟨y.2.2,?_,r.2.2⟩;unfold atKey;rw[List.find?_cons,decide_eq_true e',r.2.1];rfl
   ·rw[List.find?_cons,decide_eq_true e]at q;cases q
  ·have e':¬y.1=k:=r.1▸e;have z:atKey (y::m) k=atKey m k:=by
    unfold atKey;rw[List.find?_cons,decide_eq_false e']
   refine⟨fun p q=>?_,fun q=>?_⟩
   ·rw[List.find?_cons,decide_eq_false e]at q;rw[z];exact h1 p q
   ·rw[List.find?_cons,decide_eq_false e]at q;rw[z];exact h2 q
end
section
variable{X:Cx}
def tDNewN(P:Program)(w:World):TE:=fun _ H Q=>∀p,H p=none->Q (.ref p) (upd H p (DNx P w p []))
theorem j2t{pos:Pos}:PE X (.Dict [] [] pos) (tDNewN X.prog X.w):=fun pins s σ H Q I h=>
 wpAny_Dict_empty ⟨.ref s.heap.objs.size,_,I.laid (a:=s.heap.objs.size) (o:=DNx X.prog X.w s.heap.objs.size []) (t':=s.toks) (fun _ _ q=>Heap.get?_push_of_some _ q) (Nat.le_refl _)
  (j1O (Nat.zero_le _) (beq_eq_false_iff_ne.mpr (Ne.symm (Nat.ne_of_lt I.big))) List.nodup_nil .nil (es:=#[]) (ep:=0) ⟨_,Heap.get?_push_size _ rfl,⟨rfl,rfl,rfl⟩,rfl⟩ rfl),rfl,h _ (I.hok.fresh (Nat.le_refl _))⟩
theorem j2F{P:Program}{w:World}{σ:St}{H:Hp}{Q:VK}(h:∀p,H p=none->Q (.ref p) (upd H p (DNx P w p []))):tDNewN P w σ H Q:=h
theorem XV{pins:List (Addr×Obj)}{σ:St}{H:Hp}{s:Shared}{a:Addr}{xs:List NE}(I:Inv X pins σ H s)(e:H a=some (DNx X.prog X.w a xs)):xs.length<=sizeLine/\(a==sysModules)=false/\(xs.map (·.1)).Nodup/\∃ys,PNE xs ys/\∃es ep,RawD s.heap a es ep/\es.toList=ys.map (entryOfKey (nestKind X.prog X.w)):=
 (show ObjOk X.prog X.w H s.heap a (DNx X.prog X.w a xs)from I.hok a _ e).1
def tSetN(P:Program)(w:World)(to:TE)(t:TA):TE:=fun σ H Q=>to σ H fun x H1=>∃a xs1,x = .ref a/\H1 a=some (DNx P w a xs1)/\t σ H1 fun vs H2=>∃(xs:List NE) (b:Addr) (k:NK) (v:V),vs=[.ref b,v]/\H2 a=some (DNx P w a xs)/\(∀p∈xs,NAt H2 p.2.1 p.1)/\NAt H2 b k/\xs.length<sizeLine/\
 (∀p,xs.find? (fun p=>decide (p.1=k))=some p->Q p.2.2 H2)/\(xs.find? (fun p=>decide (p.1=k))=none->Q v (upd H2 a (DNx P w a (xs++[(k,b,v)]))))
theorem j3G{o e:Expr}{es:List Expr}{to:TE}{t:TA}{apos cpos:Pos}(hu:X.A.units+64<cLine)(ho:PE X o to)(ha:PA X (e::es) t)
  (hbase:attributeBase o "setdefault" X.env (eval o X.env)=eval o X.env:=by rfl)
  (hfew:((backTo cpos (starEach (e::es) X.env)).all (fun x=>!x.1)&&(backToKw cpos (keywordEach [] X.env)).all (fun x=>x.1.isSome)
   && decide ((e::es).length+([]:List Keyword).length+(if([]:List Keyword).isEmpty then 0 else 1)<30))=true:=by rfl)
  (hline:(apos.endLine==cpos.line)=true:=by rfl) (hs:starEach (e::es) X.env=(false,eval e X.env)::starEach es X.env:=by rfl) (hplain:(backTo cpos (starEach es X.env)).any (·.1)=false:=by rfl) :
  PE X (.Call (.Attribute o "setdefault" apos) (e::es) [] cpos) (tSetN X.prog X.w to t):=by
 intro pins s σ H Q I h;refine wpAny_Call_method_late hbase hfew hline rfl (thn (ho pins s σ H _ I h) fun v s1 ⟨x,H1,I1,r1,a,xs1,ex,e1,q1⟩=>?_);subst ex;cases r1;obtain⟨_,_,_,_,_,_,_,rw1,_⟩:=XV I1 e1;refine⟨"dict","dict.setdefault",PySem.F.plainAttrs_dict,PySem.F.slot_dict_setdefault,PySem.F.type_dict_setdefault,rw1.typeIs,fun b eb=>?_,?_⟩
 ·cases eb;obtain⟨ob,h1,h2,_⟩:=rw1;exact⟨ob,h1,h2.2.1⟩
 have hA:=ha cpos pins s1 σ H1 _ I1 q1;rw[hs]at hA|-;refine Calls.callWith_builtin (by show(false||(backTo cpos (starEach es X.env)).any (·.1))=false;rw[hplain]<;>rfl) (Calls.evalArgs_plain ?_);refine thn hA fun us s2 ⟨vs,H2,I2,r2,xs,b,k,v,ev,e2,all,nb,z,f1,f2⟩=>?_
 subst ev;cases r2 with
 | cons rb rr=>
  cases rb;obtain⟨u,rfl,ru⟩:=vals1 rr;obtain⟨z2,hd,hn,ys,pr,es',ep,rw2,he⟩:=XV I2 e2;have T2:=rw2.typeIs;obtain⟨o2,ho2,hc2,hd2⟩:=rw2;have dd:s2.heap.DictOfH (nestKind X.prog X.w) a ys:=⟨o2,es',ep,ho2,hc2,hd2,he,fun q hq=>pr.all (F:=fun k b=>IsN X.prog X.w s2.heap k b) (fun p hp=>j1Y I2.hok (all p hp)) q hq,by rw[pr.keys];exact hn⟩
  have ln:=pr.length;obtain⟨g1,g2⟩:=pr.fnd (k:=k);refine call_meetsIn PySem.F.slot_dict_setdefault T2 PySem.F.entry_dict_setdefault (PySem.F.args_dict_setdefault_3 _ _ _) (Xu (knd:=nestKind X.prog X.w) a b hd u) ⟨by show X.A.units+1+60<cLine;omega,k,ys,j1Y I2.hok nb,dd,by omega,fun p hp=>?_,fun no h' dd' hs'=>?_⟩
  ·cases hf:xs.find? (fun p=>decide (p.1=k))with
   | none=>rw[g2 hf]at hp;cases hp
   | some p'=>
    obtain⟨u',hu',ru'⟩:=g1 p' hf;rw[hu']at hp;cases hp;exact⟨p'.2.2,H2,I2.tok _,ru',f1 p' hf⟩
  ·have hf:xs.find? (fun p=>decide (p.1=k))=none:=by
    cases hf:xs.find? (fun p=>decide (p.1=k))with
    | none=>rfl
    | some p'=>
     obtain⟨u',hu',_⟩:=g1 p' hf;rw[hu']at no;cases no
   obtain⟨o3,es3,ep3,ho3,hc3,hd3,he3,_,hn3⟩:=dd';rw[map_append,pr.keys]at hn3;refine⟨v,_,yB (t':=s2.toks+_) I2 (by rw[e2];exact True.intro) hs' ⟨_,ho3⟩ (j1O (by rw[List.length_append,length_singleton];omega) hd (by rw[map_append];exact hn3) (pr.snoc ru) ⟨o3,ho3,hc3,hd3⟩ he3),ru,f2 hf⟩
theorem j3N{P:Program}{w:World}{to:TE}{t:TA}{σ:St}{H:Hp}{Q:VK} (h:to σ H fun x H1=>∃a xs1,x = .ref a/\H1 a=some (DNx P w a xs1)/\t σ H1 fun vs H2=>∃(xs:List NE) (b:Addr) (k:NK) (v:V),vs=[.ref b,v]/\H2 a=some (DNx P w a xs)/\(∀p∈xs,NAt H2 p.2.1 p.1)/\NAt H2 b k/\xs.length<sizeLine/\
 (∀p,xs.find? (fun p=>decide (p.1=k))=some p->Q p.2.2 H2)/\(xs.find? (fun p=>decide (p.1=k))=none->Q v (upd H2 a (DNx P w a (xs++[(k,b,v)]))))):tSetN P w to t σ H Q:=h
theorem j0I:CallR X (.builtin "len") (fun xs H Q=>∃a ys,xs=[V.ref a]/\H a=some (DNx X.prog X.w a ys)/\Q (.int ys.length) H):=by
 intro pins s σ H xs us Q I r h;obtain⟨a,ys,rfl,ea,q⟩:=h;obtain⟨u,rfl,ru⟩:=vals1 r;cases ru;obtain⟨z,hd,hn,zs,pr,es,ep,rw',he⟩:=XV I ea;have T:=rw'.typeIs;obtain⟨o,ho,hc,hdat⟩:=rw';have ln:es.size=ys.length:=by rw[<-Array.length_toList,he,length_map,pr.length]
 have zz:=sizeLine_eq;refine Calls.call_function_entry kind_len plain_len entry_len (args_len1 _) ?_;unfold Builtin.«len»;refine wpAny_bind (m:=oneArg "len" _) (wpAny_pure ?_);have key:wpAny (model X.prog X.w) X.A.in1 (callSpecial? (.ref a) (Str.ofString "__len__")) (fun r s'=>r=some (.int ys.length s.toks)/\s'={s with toks:=s.toks+1}) X.xe s:=by
  refine wpAny_callSpecial?_slot (name:=Str.ofString "__len__") T F.slot_dict_len (wpAny_call_entry F.slot_dict_len T F.entry_dict_len ?_ (F.args_dict_len_1 _));show wpAny _ _ (dictSize a >>= _) _ _ s;unfold dictSize;refine wpAny_bind (wpAny_bind (wpAny_dictEntries ho hdat (wpAny_pure ?_)));show wpAny _ _ (Builtin.Dict.pendingCount a >>= _) _ _ s;refine wpAny_bind (wpAny_pendingCount_other hd ?_);refine wpAny_ret_mkInt ?_;rw[Nat.add_zero,ln];exact⟨rfl,rfl⟩
 refine wpAny_bind (wpAny_mono key (fun r s' h'=>?_) fun _ _ e=>e);obtain⟨rfl,rfl⟩:=h';show wpAny _ _ _ _ _ {s with toks:=s.toks+1};refine wpAny_bind (wpAny_holding (wpAny_pure ?_));refine wpAny_bind (wpAny_letGo ?_);show wpAny _ _ (if((ys.length:Nat):Int)<0 then _ else _) _ _ _;rw[if_neg (by omega)];show wpAny _ _ (if((ys.length:Nat):Int)>=2^63 then _ else _) _ _ _;rw[if_neg (by omega)];exact wpAny_bind (wpAny_mkInt (wpAny_pure ⟨_,rfl,.int ys.length,H,I.tok _,⟨_,rfl⟩,q⟩))
theorem xH(hc:X.calm=true):CallR X (.type "list") (fun xs H Q=>∃(a:Addr) (ys:List NE),xs=[.ref a]/\H a=some (DNx X.prog X.w a ys)/\∀l,H l=none->Q (.ref l) (upd H l (.lst (ys.map fun q=>.ref q.2.1)))):=by
 intro pins s σ H xs us Q I r h;obtain⟨a,ys,rfl,ea,q⟩:=h;obtain⟨u,rfl,ru⟩:=vals1 r;cases ru;obtain⟨z,hd,hn,zs,pr,es,ep,rw',he⟩:=XV I ea;have ln:es.size=ys.length:=by rw[<-Array.length_toList,he,length_map,pr.length]
 refine kdl_call (j3L (es:=es) (ep:=ep) hd) (I.ok.hd hc) rw' (by omega) fun h' tk acc' c' hk hS hacc=>?_
 have rv:Vals (ys.map fun q=>.ref q.2.1) acc'.toList:=j0u (by rw[Array.length_toList,length_map,<-ln];exact hacc.1) fun j u hu=>by
  obtain⟨e,e1,rfl⟩:=hacc.2 j u (by rw[<-Array.getElem?_toList];exact hu);rw[<-Array.getElem?_toList,he,List.getElem?_map]at e1;obtain⟨y,ey,rfl⟩:=Option.map_eq_some_iff.mp e1;have hj:j<ys.length:=by rw[pr.length];exact(List.getElem?_eq_some_iff.mp ey).1
  have all:∀{xs:List NE} {zs:List (NK×Addr×Value)} {j:Nat} {y:NK×Addr×Value} {x:NE},PNE xs zs->zs[j]?=some y->xs[j]?=some x->x.2.1=y.2.1:=by
   intro xs zs j y x p
   induction p generalizing j with
   | nil=>intro e;simp at e
   | cons r t ih=>
    cases j with
    | zero=>intro e1 e2;simp at e1 e2;subst e1 e2;exact r.2.1
    | succ j=>intro e1 e2;exact ih (by simpa using e1) (by simpa using e2)
  refine⟨.ref ys[j].2.1,by rw[List.getElem?_map,List.getElem?_eq_getElem hj];rfl,?_⟩;rw[all pr ey (List.getElem?_eq_getElem hj)];rfl
 refine⟨.ref s.heap.objs.size,_,I.laid (t':=tk) hk (Nat.le_refl _) (show ObjOk X.prog X.w _ h' _ (.lst (ys.map fun q=>.ref q.2.1))from⟨by rw[length_map];exact z,acc'.toList,c',rv,by rw[Array.toArray_toList];exact hS⟩),rfl,q _ (I.hok.fresh (Nat.le_refl _))⟩
theorem xT{K:Frg}(e:X.K=K)(hu:X.A.units+1<cLine):IxR X (fun x y H Q=>rIxL K x y H Q\/∃a v,x = .ref a/\DGet H a y (some v)/\Q v H):=by
 subst e;intro value slice pins s σ H x y v u Q I rx ry h hs;rcases h with h | ⟨a,v',rfl,g,q⟩
 ·exact ju value slice pins s σ H x y v u Q I rx ry h hs
 ·cases rx;have T:=Yy I g;unfold subscriptTail;refine wpAny_bind ?_;rw[getitemInPython_of_ne T.not_modules];refine wpAny_bind (wpAny_specialOf T PySem.F.slot_dict_getitem.lookup ?_);have fin:wpAny (model X.prog X.w) X.A (subscripted slice false (.ref a) u) (fun r s₃=>wpAny (model X.prog X.w) X.A (letTemporaryGo value (.ref a) r >>= fun _=>pure r) (EP X pins σ Q) X.xe s₃) X.xe s:=by
   rw[hs];exact wpAny_operating (KP hu I g ry fun w' s3 I3 rw'=>wpAny_bind (wpAny_letTemporaryGo (wpAny_pure ⟨v',H,I3,rw',q⟩)))
  first
   | exact wpAny_pure (wpAny_bind fin)
   | exact wpAny_bind (wpAny_pure (wpAny_bind fin))
   | exact wpAny_bind fin
end
theorem intsK{P:Program}{w:World}:∀{ks:List Int} {us:List Value},us.length=ks.length->(∀(j:Nat) (u:Value) (k:Int),us[j]?=some u->ks[j]?=some k->(mixKind P w).is (Sum.inl k) u=true)->IntsAre us ks
 | [],[],_,_=>.nil
 | [],_::_,h,_=>by simp at h
 | _::_,[],h,_=>by simp at h
 | k::ks,u::us,h,q=>by
  obtain⟨t,rfl⟩:=Value.isInt_shape (k:=k) (q 0 u k rfl rfl);exact .cons k t (intsK (P:=P) (w:=w) (by simpa using h) fun j u k hu hk=>q (j+1) u k (by simpa using hu) (by simpa using hk))
theorem Kk{X:Cx}(hc:X.calm=true):CallR X (.builtin "sorted") (fun xs H Q=>∃(d:Addr) (kvs:List (Key×V)) (ks:List Int),xs=[.ref d]/\H d=some (.dK kvs)/\kvs.map (·.1)=ks.map Sum.inl/\ks.length<64/\∀(l:Addr) (ms:List Int),H l=none->ms.Perm ks->ms.Pairwise (·<=·)->Q (.ref l) (upd H l (.lst (ms.map V.int)))):=by
 intro pins s σ H xs us Q I r h;obtain⟨d,kvs,ks,rfl,ed,hk,h64,q⟩:=h;obtain⟨u,rfl,ru⟩:=vals1 r;cases ru;obtain⟨z1,hd1,vs1,r1,dd1⟩:=kh I.hok ed;obtain⟨ep,hat⟩:=dd1.dictAt;have kl:kvs.length=ks.length:=by have:=congrArg List.length hk;rw[length_map,length_map]at this;exact this
 have vl:=r1.length;refine Calls.call_function_entry kind_sorted plain_sorted entry_sorted (args_sorted1 _) ?_;unfold Builtin.«sorted»;refine wpAny_bind (m:=checkCount "sorted" 1 1 _) (wpAny_pure ?_);refine wpAny_bind (kdu_collect (A:=X.A.in1) (kdl_dict (knd:=mixKind X.prog X.w) (kvs:=vs1) (ep:=ep) hd1) (I.ok.hd hc) hat (by omega) fun h1 tk acc hk1 hacc=>?_);have al:acc.toList.length=ks.length:=by rw[Array.length_toList,hacc.1,<-vl,kl]
 have hI:IntsAre acc.toList ks:=intsK (P:=X.prog) (w:=X.w) al fun j u k hu hj=>by
  obtain⟨k',x,e,hk'⟩:=hacc.2 j u (by rw[<-Array.getElem?_toList];exact hu);have jl:j<kvs.length:=by rw[kl];exact(List.getElem?_eq_some_iff.mp hj).1
  obtain⟨y,e2,e3,_⟩:=r1.get (List.getElem?_eq_getElem jl);rw[e]at e2;cases e2;have e4:(kvs.map (·.1))[j]?=some k':=by rw[List.getElem?_map,List.getElem?_eq_getElem jl];exact congrArg some e3
  rw[hk,List.getElem?_map,hj]at e4;cases e4;exact hk'
 refine wpAny_bind (wpAny_newList ?_ (by rw[al,sizeLine_eq];omega));have hoL:(h1.push (seqObj "list" acc.toList.toArray 0)).get? h1.objs.size=some (seqObj "list" acc.toList.toArray 0):=Heap.get?_push_size _ rfl;refine wpAny_bind (wpAny_holding (wpAny_call_entry slot_list_sort ⟨_,hoL,rfl⟩ entry_list_sort (list_sort_tree hoL hI (by omega) fun out ms a1 a2 a3=>⟨_,rfl,?_⟩) (args_list_sort _)));refine wpAny_pure ⟨_,rfl,?_⟩;have ml:ms.length=ks.length:=a2.length_eq;have hn:=I.none_at hk1;have hb:=I.newB hk1;have k2:∀b o,s.heap.get? b=some o->(sortedHeap (h1.push (seqObj "list" acc.toList.toArray 0)) h1.objs.size acc.toList out).get? b=some o:=fun b o e=>by
  have lt:=Heap.lt_size (hk1 b o e);rw[sortedHeap_old (Nat.ne_of_lt lt) (by rw[size_push'];exact Nat.lt_succ_of_lt lt)];exact Heap.get?_push_of_some _ (hk1 b o e)
 obtain⟨e',he⟩:=sortedHeap_at (out:=out) hoL;refine⟨.ref h1.objs.size,_,(I.kept (t':=tk) k2).track hn hb (show ObjOk X.prog X.w _ _ _ (.lst (ms.map V.int))from⟨by rw[length_map];exact Nat.le_trans (Nat.le_of_lt (ml▸h64)) (by decide),out.toList,_,xq a1,by rw[Array.toArray_toList];exact he⟩),rfl,q _ ms hn a2 a3⟩
section
variable{H:Hp}
end
section
variable{X:Cx}
end
def It8(n:Nat):It:=⟨fun i _=>i<n,fun i H x H'=>H'=H/\x = .int ((8*i:Nat):Int),fun i _=>n<=i⟩
theorem xn{P:Program}{w:World}{K:Frg}{tg:Expr}(it:Addr)(n:Nat):Turn P w K tg (It8 n) [it] it (fun i h=>IsRangeIter h it (0+(i:Nat)*8) ((n:Int)-(i:Nat)) 8) where
 mem:=by simp
 obj:=fun i h st b hb=>by
  have e:b=it:=by simpa using hb
  subst e;exact⟨_,st,fun v z=>by
   have z':Data.fields _=Data.cell v:=z;cases z'⟩
 keep:=fun i h h' st k=>k it (by simp) _ st
 item:=by
  intro X hP hw hK hc i pins s σ H E I hf st hg;subst hP hw hK;obtain⟨f0,f1,f2,f3,f4,f5⟩:=hf it (by simp);have W:=Walks.range (prog:=X.prog) (w:=X.w) (I.ok.hd hc) it 0 8 n;refine W.item i s _ _ hg st fun v h' tk hv st' kk=>?_
  obtain⟨t,rfl⟩:=hv;have I1:Inv X pins σ H {s with heap:=h',toks:=tk}:=I.turned (fun b o hb e=>kk b o (by simpa using hb) e) f0 f1 f3 f4 f5;refine⟨_,rfl,WN (s:={s with heap:=h',toks:=tk}) (n:="range_iterator") st' rfl rfl (by decide) ⟨.int ((8*i:Nat):Int),H,I1,⟨t,?_⟩,⟨rfl,rfl⟩,st',fun b hb=>(hf b hb).1⟩⟩;rw[show 0+(i:Int)*8=((8*i:Nat):Int) by omega]
 done:=by
  intro X hP hw hK hc i pins s σ H E I hf st hg;subst hP hw hK;obtain⟨f0,f1,f2,f3,f4,f5⟩:=hf it (by simp);exact wpAny_pyNext_range_end (I.ok.hd hc) st (by have:n<=i:=hg;omega) fun h' eb=>⟨rfl,I.turned (t':=s.toks) (fun b o hb e=>eb b o hb e) f0 f1 f3 f4 f5⟩
 self:=fun _ _ _ _ _ st h=>wpAny_pyIter_rangeiter st h
section
variable{X:Cx}{tg:Expr}
theorem size8(n:Nat):Builtin.Range.rangeSize 0 (n:Int) 8=((n+7)/8:Nat):=by
 unfold Builtin.Range.rangeSize;simp only[show((8:Int)>0) by decide,if_true];split<;>omega
theorem small8{n:Nat}(h:n<2^60):Builtin.Range.small 0 (n:Int) 8=true:=by
 have f:∀x:Int,-(2^62)<=x->x<2^62->Builtin.Range.rangeFitsLong x=true:=fun x h1 h2=>by
  unfold Builtin.Range.rangeFitsLong;simp;omega
 unfold Builtin.Range.small;rw[size8,f 0 (by decide) (by decide),f n (by omega) (by omega),f 8 (by decide) (by decide),f _ (by omega) (by omega),if_pos (show((8:Int)>0) by decide),f _ (by omega) (by omega)];simp
def iRng8(ta:TA):TI:=fun σ H R=>ta σ H fun vs H1=>∃n:Nat,vs=[.int 0,.int (n:Nat),.int 8]/\n<2^60/\R (It8 ((n+7)/8)) H1
theorem j1b{a b c:Expr}{ta:TA}{p pos:Pos}(hg:Gl X "range")(hm:X.mg "range"= none)(ha:PA X [a,b,c] ta)(hs:starEach [a,b,c] X.env=(false,eval a X.env)::starEach [b,c] X.env:=by rfl)(hs2:(backTo pos (starEach [b,c] X.env)).any (·.1)=false:=by rfl) :
  PI X tg (.Call (.Name "range" p) [a,b,c] [] pos) (iRng8 ta):=by
 intro pins s σ H R I h;refine Call_ (qp I hg hm boot_range (PyProof.Rows.callWith_type1 (thn (ha pos pins s σ H _ I h) fun us s1 ⟨vs,H1,I1,r1,q1⟩=>?_) hs hs2));obtain⟨n,e,hn,q⟩:=q1;subst e;cases r1 with
 | cons r rr=>
  cases rr with
  | cons r' rr=>
   cases rr with
   | cons r'' rr=>
    cases rr;obtain⟨t,rfl⟩:=r;obtain⟨t',rfl⟩:=r';obtain⟨t'',rfl⟩:=r'';refine call_range_3 (by decide) ?_ (.inl (PyProof.noPylong_small (by omega)));refine wpAny_pyIter_range (IsRange.new ..) (small8 hn) ?_;generalize hp:s1.heap.push _=h2;have k2:∀b o,s1.heap.get? b=some o->h2.get? b=some o:=fun b o e=>hp▸Heap.get?_push_of_some _ e
    clear hp;have I2:=I1.kept (t':=s1.toks) k2;refine⟨h2.objs.size,[h2.objs.size],_,_,H1,rfl,I2.kept (t':=s1.toks) fun b o e=>Heap.get?_push_of_some _ e,xn _ ((n+7)/8),?_,fun b hb=>?_,q⟩
    ·show IsRangeIter _ _ (0+((0:Nat):Int)*8) ((((n+7)/8:Nat):Int)-((0:Nat):Int)) 8;rw[<-size8,show(0:Int)+((0:Nat):Int)*8=0 by simp,Int.natCast_zero,Int.sub_zero];exact Heap.get?_push_size _ rfl
    ·have e:b=h2.objs.size:=by simpa using hb
     subst e;exact I2.fpOk (Nat.le_refl _) (I2.hok.fresh (Nat.le_refl _))
end
theorem j3M{ta:TA}{σ:St}{H:Hp}{R:It->Hp->Prop}(h:ta σ H fun vs H1=>∃n:Nat,vs=[.int 0,.int (n:Nat),.int 8]/\n<2^60/\R (It8 ((n+7)/8)) H1):iRng8 ta σ H R:=h
theorem j4u{n:Nat}{g:TG}{tb:TS}{D:Ends}{σ:St}{H:Hp}(Pv:Nat->St->Hp->Prop)(h0:Pv 0 σ H)(hs:∀i σ H,i<n->Pv i σ H->g (.int ((8*i:Nat):Int)) σ H fun σ2 H2=>tb {D with nx:=Pv (i+1),ct:=Pv (i+1),bk:=D.nx} σ2 H2)(hd:∀σ H,Pv n σ H->D.nx σ H) :
  ∃W:Nat->Nat->St->Hp->Prop,(∃m,W 0 m σ H)/\∀i m σ H,W i m σ H->
   ((It8 n).stop i H/\D.nx σ H)\/((It8 n).go i H/\∃N:St->Hp->Prop,(∀σ' H',N σ' H'->∃m',m'<m/\W (i+1) m' σ' H')/\∀x H',(It8 n).yld i H x H'->g x σ H' fun σ2 H2=>tb {D with nx:=N,ct:=N,bk:=D.nx} σ2 H2):=by
 refine⟨fun i m σ H=>m=n-i/\i<=n/\Pv i σ H,⟨n,by simp,Nat.zero_le _,h0⟩,?_⟩;rintro i m σ H ⟨rfl,hi,p⟩;by_cases hlt:i<n
 ·refine .inr ⟨hlt,Pv (i+1),fun σ' H' p'=>⟨n-(i+1),by omega,rfl,hlt,p'⟩,fun x H' y=>?_⟩;obtain⟨rfl,rfl⟩:=y;exact hs i σ _ hlt p
 ·have e:i=n:=by omega
  subst e;exact .inl ⟨Nat.le_refl _,hd σ H p⟩
end L2
namespace Rm
open PySem PySem.Spec PyProof.Rows L2
inductive Gv where
 | smp (r:Bool) (vs:List V) | rise (x h n:V) | again (k x:V) | many (s:Bool) (xs:List V)
noncomputable def GAt(H:Hp)(a:Addr):Gv->Prop
 | .smp r vs=>H a=some (.tup (.str (if r then "ring" else "hold")::vs))
 | .rise x h n=>H a=some (.tup [.str "raise",x,h,n])
 | .again k x=>H a=some (.tup [.str "again",k,x])
 | .many s xs=>∃b,H a=some (.tup [.str (if s then "side" else "row"),.ref b])/\H b=some (.tup xs)
theorem GAt.same{H H':Hp}{a:Addr}{g:Gv}(s:Same H H')(h:GAt H a g):GAt H' a g:=by
 cases g with
 | smp r vs=>exact s _ _ h
 | rise x g n=>exact s _ _ h
 | again k x=>exact s _ _ h
 | many t xs=>obtain⟨b,h1,h2⟩:=h;exact⟨b,s _ _ h1,s _ _ h2⟩
theorem GAt.tups{H H':Hp}{a:Addr}{g:Gv}(s:∀b xs,H b=some (.tup xs)->H' b=some (.tup xs))(h:GAt H a g):GAt H' a g:=by
 cases g with
 | smp r vs=>exact s _ _ h
 | rise x g n=>exact s _ _ h
 | again k x=>exact s _ _ h
 | many t xs=>obtain⟨b,h1,h2⟩:=h;exact⟨b,s _ _ h1,s _ _ h2⟩
def Itm(H:Hp)(l:Addr)(x y:V):Prop:=(∃xs i,H l=some (.lst xs)/\x = .int i/\atI xs i=some y)\/DGet H l x (some y)
theorem wH{K:Frg}{H:Hp}{l:Addr}{x y:V}{Q:VK}(h:Itm H l x y)(q:Q y H):rIxL K (.ref l) x H Q\/∃a v,V.ref l = .ref a/\DGet H a x (some v)/\Q v H:=by
 rcases h with⟨xs,i,e,rfl,h⟩ | h
 ·exact .inl ⟨l,xs,i,y,rfl,rfl,SqL.of e,h,q⟩
 ·exact .inr ⟨l,y,rfl,h,q⟩
theorem Itm.same{H H':Hp}{l:Addr}{x y:V}(s:Same H H')(h:Itm H l x y):Itm H' l x y:=by
 rcases h with⟨xs,i,e,rfl,h⟩ | h
 ·exact .inl ⟨xs,i,s _ _ e,rfl,h⟩
 ·refine .inr ?_;rcases h with⟨kvs,k,e,r1,r2⟩ | ⟨kvs,k,b,e,r1,r2,r3⟩
  ·exact .inl ⟨kvs,k,e.imp (fun e=>s _ _ e) fun⟨o,e⟩=>⟨o,s _ _ e⟩,r1,r2⟩
  ·exact .inr ⟨kvs,k,b,e.imp (fun e=>s _ _ e) fun⟨o,e⟩=>⟨o,s _ _ e⟩,r1,s _ _ r2,r3⟩
noncomputable def GMap(H:Hp)(l p:Addr):Gv->Gv->Prop
 | .smp r vs,g=>g = .smp r vs
 | .rise x h n,g=>∃y,Itm H l x y/\g = .rise y h n
 | .again k x,g=>∃y,Itm H p x y/\g = .again k y
 | .many s xs,g=>∃ys,ys.length=xs.length/\(∀(i:Nat) (x y:V),xs[i]?=some x->ys[i]?=some y->Itm H p x y)/\xs.length<=8/\g = .many s ys
inductive sp_formW(vs:List V)(H:Hp)(Q:VK)(xk:XK):Prop
 | mk (a l p:Addr) (g g':Gv) (_:vs=[.ref a,.ref l,.ref p]) (_:GAt H a g) (_:GMap H l p g g') (_:∀(b:Addr) (H':Hp),Same H H'->GAt H' b g'->Q (.ref b) H'):sp_formW vs H Q xk
noncomputable def Gv.ns:Gv->List V
 | .again _ x=>[x]
 | .many _ xs=>xs
 | _=>[]
inductive sp_namesG(vs:List V)(H:Hp)(Q:VK)(xk:XK):Prop
 | mk (a:Addr) (g:Gv) (_:vs=[.ref a]) (_:GAt H a g) (_:∀(b:Addr) (H':Hp),Same H H'->H' b=some (.tup g.ns)->Q (.ref b) H'):sp_namesG vs H Q xk
noncomputable def gF:Fm->Gv
 | .hold n=>.smp false [.int n]
 | .ring x n=>.smp true [.str x,.int n]
 | .rise x h n=>.rise (.str x) (.int h) (.int n)
 | .row ps=>.many false (ps.map V.str)
 | .side ps=>.many true (ps.map V.str)
 | .again k x=>.again (.int k) (.str x)
theorem WK{H:Hp}{a:Addr}{f:Fm}:FormAt H a f↔GAt H a (gF f):=by
 cases f<;>exact Iff.rfl
inductive Dm where
 | hold (n:Int) | ring (x:Str) (n:Int) | rise (l:Nat) (h n:Int) | row (ps:List Nat) | side (ps:List Nat) | again (k:Int) (p:Nat)
 deriving DecidableEq
noncomputable def gD:Dm->Gv
 | .hold n=>.smp false [.int n]
 | .ring x n=>.smp true [.str x,.int n]
 | .rise l h n=>.rise (.int l) (.int h) (.int n)
 | .row ps=>.many false (ps.map vN)
 | .side ps=>.many true (ps.map vN)
 | .again k p=>.again (.int k) (.int p)
noncomputable def Dm.ns:Dm->List Nat
 | .row ps=>ps
 | .side ps=>ps
 | .again _ p=>[p]
 | _=>[]
theorem j5b(d:Dm):(gD d).ns=d.ns.map vN:=by cases d<;>rfl
noncomputable def iK(n:Nat):Key:=Sum.inl (n:Int)
noncomputable def kD:Dm->NK
 | .hold n=>[Sum.inl (Sum.inr "hold"),Sum.inl (Sum.inl n)]
 | .ring x n=>[Sum.inl (Sum.inr "ring"),Sum.inl (Sum.inr x),Sum.inl (Sum.inl n)]
 | .rise l h n=>[Sum.inl (Sum.inr "raise"),Sum.inl (iK l),Sum.inl (Sum.inl h),Sum.inl (Sum.inl n)]
 | .row ps=>[Sum.inl (Sum.inr "row"),Sum.inr (ps.map iK)]
 | .side ps=>[Sum.inl (Sum.inr "side"),Sum.inr (ps.map iK)]
 | .again k p=>[Sum.inl (Sum.inr "again"),Sum.inl (Sum.inl k),Sum.inl (iK p)]
theorem wF:∀{a b:List Nat},a.map iK=b.map iK->a=b
 | [],[],_=>rfl
 | [],_::_,h=>by simp at h
 | _::_,[],h=>by simp at h
 | x::a,y::b,h=>by
  rw[map_cons,map_cons]at h;injection h with h1 h2;have:(x:Int)=y:=Sum.inl.inj h1;rw[wF h2,show x=y by omega]
theorem Qt{x y:Str}{r s:NK}(h:(Sum.inl (Sum.inr x):NI)::r=Sum.inl (Sum.inr y)::s):x=y/\r=s:=by
 injection h with h1 h2;exact⟨Sum.inr.inj (Sum.inl.inj h1),h2⟩
theorem j4x{d e:Dm}(h:kD d=kD e):d=e:=by
 cases d with
 | hold n=>
  cases e with
  | hold m=>
   have:=(Qt h).2;injection this with h1;rw[Sum.inl.inj (Sum.inl.inj h1)]
  | _=>exact absurd (Qt h).1 (by decide +kernel)
 | ring x n=>
  cases e with
  | ring y m=>
   have:=(Qt h).2;injection this with h1 h2;injection h2 with h2;rw[Sum.inl.inj (Sum.inl.inj h2),Sum.inr.inj (Sum.inl.inj h1)]
  | _=>exact absurd (Qt h).1 (by decide +kernel)
 | rise l v n=>
  cases e with
  | rise l' v' m=>
   have:=(Qt h).2;injection this with h1 h2;injection h2 with h2 h3;injection h3 with h3;have e:(l:Int)=l':=Sum.inl.inj (Sum.inl.inj h1);rw[Sum.inl.inj (Sum.inl.inj h2),Sum.inl.inj (Sum.inl.inj h3),show l=l' by omega]
  | _=>exact absurd (Qt h).1 (by decide +kernel)
 | row ps=>
  cases e with
  | row qs=>
   have:=(Qt h).2;injection this with h1;rw[wF (Sum.inr.inj h1)]
  | _=>exact absurd (Qt h).1 (by decide +kernel)
 | side ps=>
  cases e with
  | side qs=>
   have:=(Qt h).2;injection this with h1;rw[wF (Sum.inr.inj h1)]
  | _=>exact absurd (Qt h).1 (by decide +kernel)
 | again k p=>
  cases e with
  | again k' p'=>
   have:=(Qt h).2;injection this with h1 h2;injection h2 with h2;have e:(p:Int)=p':=Sum.inl.inj (Sum.inl.inj h2);rw[Sum.inl.inj (Sum.inl.inj h1),show p=p' by omega]
  | _=>exact absurd (Qt h).1 (by decide +kernel)
theorem j0t(ps:List Nat):(ps.map iK).map kV=ps.map vN:=by rw[map_map];rfl
theorem j2d{H:Hp}{a:Addr}{d:Dm}(h:GAt H a (gD d)):NAt H a (kD d):=by
 cases d with
 | hold n=>exact⟨_,h,.key (k:=Sum.inr "hold") (.key (k:=Sum.inl n) .nil)⟩
 | ring x n=>exact⟨_,h,.key (k:=Sum.inr "ring") (.key (k:=Sum.inr x) (.key (k:=Sum.inl n) .nil))⟩
 | rise l v n=>exact⟨_,h,.key (k:=Sum.inr "raise") (.key (k:=Sum.inl (l:Int)) (.key (k:=Sum.inl v) (.key (k:=Sum.inl n) .nil)))⟩
 | row ps=>obtain⟨b,h1,h2⟩:=h;exact⟨_,h1,.key (k:=Sum.inr "row") (.tup (by rw[j0t];exact h2) .nil)⟩
 | side ps=>obtain⟨b,h1,h2⟩:=h;exact⟨_,h1,.key (k:=Sum.inr "side") (.tup (by rw[j0t];exact h2) .nil)⟩
 | again k p=>exact⟨_,h,.key (k:=Sum.inr "again") (.key (k:=Sum.inl k) (.key (k:=Sum.inl (p:Int)) .nil))⟩
noncomputable def wiF(lx px:List Str)(ns:List Nat):Fm->Dm
 | .hold n=>.hold n
 | .ring x n=>.ring x n
 | .rise x h n=>.rise (ixOf lx x) h n
 | .row qs=>.row (qs.map fun x=>ns.getD (ixOf px x) 0)
 | .side qs=>.side (qs.map fun x=>ns.getD (ixOf px x) 0)
 | .again k x=>.again k (ns.getD (ixOf px x) 0)
noncomputable def stepM(lx px:List Str)(st:List Dm×List Nat)(p:Str×Fm):List Dm×List Nat:=
 let d:=wiF lx px st.2 p.2
 if d∈st.1 then(st.1,st.2++[st.1.idxOf d])else(st.1++[d],st.2++[st.1.length])
noncomputable def madeM(lx px:List Str)(ps:List (Str×Fm)):List Dm×List Nat:=ps.foldl (stepM lx px) ([],[])
theorem Jx(lx px:List Str)(ps:List (Str×Fm))(p:Str×Fm):madeM lx px (ps++[p])=stepM lx px (madeM lx px ps) p:=by
 unfold madeM;rw[List.foldl_append];rfl
structure MkOk(ks:List Dm)(ns:List Nat)(n:Nat):Prop where
 nd:ks.Nodup
 ln:ns.length=n
 lk:ks.length<=n
 lt:∀k∈ns,k<ks.length
theorem yH(lx px:List Str):∀(n:Nat) (ps:List (Str×Fm)),ps.length=n->MkOk (madeM lx px ps).1 (madeM lx px ps).2 n
 | 0,ps,h=>by
  rw[List.length_eq_zero_iff.mp h];exact⟨List.nodup_nil,rfl,Nat.le_refl _,fun k h=>nomatch h⟩
 | n+1,ps,h=>by
  obtain⟨qs,p,rfl⟩:∃qs p,ps=qs++[p]:=⟨ps.dropLast,ps.getLast (fun z=>by rw[z]at h;cases h),(List.dropLast_concat_getLast _).symm⟩
  rw[List.length_append,length_singleton]at h;obtain⟨nd,ln,lk,lt⟩:=yH lx px n qs (by omega);rw[Jx];generalize madeM lx px qs=st at nd ln lk lt;unfold stepM;dsimp only;split
  ·rename_i hd;refine⟨nd,by rw[List.length_append,ln];rfl,by show st.1.length<=n+1;omega,fun k hk=>?_⟩;rcases mem_append.mp hk with hk | hk
   ·exact lt k hk
   ·rw[mem_singleton.mp hk];exact idxOf_lt_length_of_mem hd
  ·rename_i hd;refine⟨nodup_append.mpr ⟨nd,by simp,fun x hx y hy z=>hd (by rw[<-mem_singleton.mp hy,<-z];exact hx)⟩,by rw[List.length_append,ln];rfl,by show(st.1++[_]).length<=n+1;rw[List.length_append,length_singleton];omega,fun k hk=>?_⟩;show k<(st.1++[_]).length;rw[List.length_append,length_singleton];rcases mem_append.mp hk with hk | hk
   ·have:=lt k hk;omega
   ·rw[mem_singleton.mp hk];omega
def EnAt(H:Hp)(xs:List NE)(ks:List Dm):Prop:=xs.length=ks.length/\∀(i:Nat) (d:Dm),ks[i]?=some d->∃a,xs[i]?=some (kD d,a,.int i)/\GAt H a (gD d)
theorem EnAt.tups{H H':Hp}{xs:List NE}{ks:List Dm}(e:EnAt H xs ks)(s:∀b xs,H b=some (.tup xs)->H' b=some (.tup xs)):EnAt H' xs ks:=⟨e.1,fun i d h=>let ⟨a,h1,h2⟩:=e.2 i d h;⟨a,h1,h2.tups s⟩⟩
theorem EnAt.nat{H:Hp}{xs:List NE}{ks:List Dm}(e:EnAt H xs ks):∀p∈xs,NAt H p.2.1 p.1:=fun p hp=>by
 obtain⟨i,hi,ei⟩:=mem_iff_getElem.mp hp;have l:=e.1;obtain⟨a,h1,h2⟩:=e.2 i _ (List.getElem?_eq_getElem (by omega));rw[List.getElem?_eq_getElem hi,ei]at h1;cases h1;exact j2d h2
theorem EnAt.snoc{H:Hp}{xs:List NE}{ks:List Dm}(e:EnAt H xs ks){a:Addr}{d:Dm}(h:GAt H a (gD d)):EnAt H (xs++[(kD d,a,.int (ks.length:Nat))]) (ks++[d]):=by
 have l:=e.1;refine⟨by rw[List.length_append,List.length_append,l];rfl,fun i d' h'=>?_⟩;rcases Nat.lt_or_ge i ks.length with z | z
 ·rw[List.getElem?_append_left z]at h';obtain⟨a',h1,h2⟩:=e.2 i d' h';exact⟨a',by rw[List.getElem?_append_left (by omega)];exact h1,h2⟩
 ·rw[List.getElem?_append_right z]at h';have ei:i=ks.length:=by
   have:=(List.getElem?_eq_some_iff.mp h').1;rw[length_singleton]at this;omega
  subst ei;rw[Nat.sub_self]at h';cases h';exact⟨a,by rw[<-l,List.getElem?_append_right (Nat.le_refl _),Nat.sub_self];rfl,h⟩
theorem EnAt.found{H:Hp}{xs:List NE}{ks:List Dm}{d:Dm}(e:EnAt H xs ks)(nd:ks.Nodup) :
  (∀p,xs.find? (fun p=>decide (p.1=kD d))=some p->d∈ks/\p.2.2 = .int (ks.idxOf d:Nat))/\(xs.find? (fun p=>decide (p.1=kD d))=none->d∉ks):=by
 have l:=e.1;refine⟨fun p hp=>?_,fun hn hd=>?_⟩
 ·have h1:=List.find?_some hp;have h2:=List.mem_of_find?_eq_some hp;obtain⟨i,hi,ei⟩:=mem_iff_getElem.mp h2;have ik:i<ks.length:=by omega
  obtain⟨a,h3,h4⟩:=e.2 i _ (List.getElem?_eq_getElem ik);rw[List.getElem?_eq_getElem hi,ei]at h3;cases h3;have ed:ks[i]=d:=j4x (of_decide_eq_true h1);refine⟨ed▸getElem_mem ik,?_⟩;show V.int _=V.int _;rw[<-ed,nd.idxOf_getElem i ik]
 ·obtain⟨i,hi,ei⟩:=mem_iff_getElem.mp hd;obtain⟨a,h3,h4⟩:=e.2 i _ (List.getElem?_eq_getElem hi);have:=List.find?_eq_none.mp hn _ (List.mem_of_getElem? h3);rw[ei]at this;exact this (decide_eq_true rfl)
noncomputable def numV(xs:List Str)(ns:List Nat):List (Key×V):=(xs.zip ns).map fun q=>(Sum.inr q.1,vN q.2)
theorem K5{xs:List Str}{ns:List Nat}{x:Str}{n:Nat}(h:xs.length=ns.length):numV (xs++[x]) (ns++[n])=numV xs ns++[(Sum.inr x,vN n)]:=by
 unfold numV;rw[List.zip_append h,map_append];rfl
theorem j2k{xs:List Str}{ns:List Nat}(h:xs.length=ns.length):(numV xs ns).length=xs.length:=by
 unfold numV;rw[length_map,length_zip];omega
theorem K4{xs:List Str}{ns:List Nat}(h:xs.length=ns.length):(numV xs ns).map (·.1)=xs.map Sum.inr:=by
 unfold numV;rw[map_map];show(xs.zip ns).map (fun q=>Sum.inr q.1)=_;rw[show(fun q:Str×Nat=>(Sum.inr q.1:Key))=Sum.inr∘Prod.fst from rfl,<-map_map,List.map_fst_zip (by omega)]
def DrAt(H:Hp)(as:List Addr)(ks:List Dm):Prop:=All2 (fun a d=>GAt H a (gD d)) as ks
inductive sp_made(vs:List V)(H:Hp)(Q:VK)(xk:XK):Prop
 | mk (b pl pp:Addr) (las pas:List Addr) (ls:List (Str×Int)) (ps:List (Str×Fm)) (_:vs=[.ref b]) (_:BookAt H b pl pp las pas ls ps) (_:WfB ls ps) (_:1<=ps.length) (_:∀(t f:Addr) (fas:List Addr) (H':Hp),Same H H'->H' t=some (.tup [.ref f,vN ((madeM (nmsOf ls) (nmsOf ps) ps).2.getD (ps.length-1) 0)])->H' f=some (.lst (fas.map V.ref))->DrAt H' fas (madeM (nmsOf ls) (nmsOf ps) ps).1->Q (.ref t) H'):sp_made vs H Q xk
theorem W1{xs:List Str}{ns:List Nat}(h:xs.length=ns.length)(nd:xs.Nodup){j:Nat}{x:Str}(e:xs[j]?=some x):valV (numV xs ns) (Sum.inr x)=some (vN (ns.getD j 0)):=by
 have hj:=(List.getElem?_eq_some_iff.mp e).1;refine Ww (j:=j) (by rw[K4 h];exact pairwise_map.mpr (nd.imp fun h e=>h (Sum.inr.inj e))) ?_;unfold numV;rw[List.getElem?_map,List.getElem?_zip_eq_some.mpr (show xs[j]?=some (x,ns[j]).1/\ns[j]?=some (x,ns[j]).2 from⟨e,List.getElem?_eq_getElem (by omega)⟩),getD_eq_getElem?_getD,List.getElem?_eq_getElem (by omega)];rfl
theorem j2g{H:Hp}{d:Addr}{px:List Str}{ns:List Nat}{i:Nat}(hi:i<=px.length)(hl:ns.length=i)(nd:px.Nodup)(ed:H d=some (.dK (numV (px.take i) ns))){x:Str}{j:Nat}(hj:j<i)(ex:px[j]?=some x):Itm H d (.str x) (vN (ns.getD (ixOf px x) 0)):=by
 rw[JO nd ex];refine .inr ?_;have g:=DGet.k (k:=Sum.inr x) ed;rw[W1 (j:=j) (by rw[length_take];omega) (List.Nodup.sublist (List.take_sublist _ _) nd) (by rw[List.getElem?_take,if_pos hj];exact ex)]at g;exact g
theorem j24{H:Hp}{d d2:Addr}{ls:List (Str×Int)}{ps:List (Str×Fm)}{ns:List Nat}{i:Nat}{p:Str×Fm}(W:WfB ls ps)(hp:ps[i]?=some p)(hl:ns.length=i)(e1:H d=some (.dK (numK (nmsOf ls))))(e2:H d2=some (.dK (numV ((nmsOf ps).take i) ns))) :
  GMap H d d2 (gF p.2) (gD (wiF (nmsOf ls) (nmsOf ps) ns p.2)):=by
 have hi:=(List.getElem?_eq_some_iff.mp hp).1;have li:i<=(nmsOf ps).length:=by rw[nmsOf,length_map];omega
 obtain⟨wf,w8⟩:=W.f i p hp;have many:∀(s:Bool) (qs:List Str),(∀x∈qs,∃j,j<i/\(nmsOf ps)[j]?=some x)->qs.length<=8->GMap H d d2 (.many s (qs.map V.str)) (.many s ((qs.map fun x=>ns.getD (ixOf (nmsOf ps) x) 0).map vN)):=fun s qs hq h8=>by
  refine⟨_,by rw[length_map,length_map,length_map],fun k x y hx hy=>?_,by rw[length_map];exact h8,rfl⟩;rw[List.getElem?_map]at hx;obtain⟨z,hz,rfl⟩:=Option.map_eq_some_iff.mp hx;rw[List.getElem?_map,List.getElem?_map,hz]at hy;cases hy;obtain⟨j,hj,ej⟩:=hq z (List.mem_of_getElem? hz);exact j2g li hl W.pn e2 hj ej
 obtain⟨nm,f⟩:=p;cases f with
 | hold n=>rfl
 | ring x n=>rfl
 | rise x h n=>
  obtain⟨j,hj⟩:=W.r i nm x h n hp;refine⟨vN j,.inr ?_,?_⟩
  ·have g:=DGet.k (k:=Sum.inr x) e1;rw[yI W.ln hj]at g;exact g
  ·show Gv.rise (.int (ixOf (nmsOf ls) x:Nat)) _ _=_;rw[JO W.ln hj];rfl
 | row qs=>exact many false qs wf w8
 | side qs=>exact many true qs wf w8
 | again k x=>
  obtain⟨j,hj,ej⟩:=wf x mem_cons_self;exact⟨_,j2g li hl W.pn e2 hj ej,rfl⟩
theorem yb{xs:List V}{n:Nat}{v:V}(h:1<=n)(e:xs.length=n)(hx:xs[n-1]?=some v):atI xs (-1)=some v:=by
 have:xs=xs.take (n-1)++[v]:=by
  rw[<-take_snoc hx,show n-1+1=xs.length by omega,take_length]
 rw[this];exact j1y _ _
theorem DrAt.of{H:Hp}{xs:List NE}{ks:List Dm}(e:EnAt H xs ks):DrAt H (xs.map fun q=>q.2.1) ks:=by
 refine⟨by rw[length_map];exact e.1,fun i a d ha hd=>?_⟩;obtain⟨a',h1,h2⟩:=e.2 i d hd;rw[List.getElem?_map,h1]at ha;cases ha;exact h2
inductive Rc(ks:List Dm)(t:Nat):Nat->Prop
 | top:Rc ks t t
 | sub {y x:Nat}:Rc ks t y->x∈(ks.getD y (.hold 0)).ns->Rc ks t x
structure Dwn(ks:List Dm):Prop where
 lt:∀(i:Nat) (d:Dm),ks[i]?=some d->∀j∈d.ns,j<i
 l8:∀d∈ks,d.ns.length<=8
theorem Dwn.get{ks:List Dm}(D:Dwn ks){i j:Nat}(h:j∈(ks.getD i (.hold 0)).ns):j<i/\i<ks.length:=by
 rw[getD_eq_getElem?_getD]at h;cases e:ks[i]? with
 | none=>rw[e]at h;exact nomatch h
 | some d=>rw[e]at h;exact⟨D.lt i d e j h,(List.getElem?_eq_some_iff.mp e).1⟩
theorem Rc.le{ks:List Dm}{t x:Nat}(D:Dwn ks)(h:Rc ks t x):x<=t:=by
 induction h with
 | top=>exact Nat.le_refl _
 | sub _ hm ih=>have:=(D.get hm).1;omega
theorem j4c(lx px:List Str)(ns:List Nat)(f:Fm):(wiF lx px ns f).ns=f.ns.map fun x=>ns.getD (ixOf px x) 0:=by cases f<;>rfl
theorem j29{ls:List (Str×Int)}{ps:List (Str×Fm)}(W:WfB ls ps):∀n,n<=ps.length->Dwn (madeM (nmsOf ls) (nmsOf ps) (ps.take n)).1
 | 0,_=>⟨fun i d h=>by simp[madeM]at h,fun d h=>by simp[madeM]at h⟩
 | n+1,hn=>by
  have hp:ps[n]?=some ps[n]:=List.getElem?_eq_getElem hn;obtain⟨lt,l8⟩:=j29 W n (by omega);have M:=yH (nmsOf ls) (nmsOf ps) n (ps.take n) (by rw[length_take];omega);rw[take_snoc hp,Jx];generalize madeM (nmsOf ls) (nmsOf ps) (ps.take n)=st at lt l8 M;obtain⟨wf,w8⟩:=W.f n _ hp;unfold stepM;dsimp only;split
  ·exact⟨lt,l8⟩
  ·refine⟨fun i d h j hj=>?_,fun d hd=>?_⟩
   ·rcases Nat.lt_or_ge i st.1.length with z | z
    ·rw[List.getElem?_append_left z]at h;exact lt i d h j hj
    ·rw[List.getElem?_append_right z]at h;have ei:i-st.1.length=0:=by
      have:=(List.getElem?_eq_some_iff.mp h).1;rw[length_singleton]at this;omega
     rw[ei]at h;cases h;rw[j4c]at hj;obtain⟨x,hx,rfl⟩:=mem_map.mp hj;obtain⟨k,hk,ek⟩:=wf x hx;rw[JO W.pn ek,getD_eq_getElem?_getD,List.getElem?_eq_getElem (by rw[M.ln];exact hk)];have:=M.lt _ (getElem_mem (by rw[M.ln];exact hk):st.2[k]'(by rw[M.ln];exact hk)∈st.2);show st.2[k]'_<i;omega
   ·rcases mem_append.mp hd with hd | hd
    ·exact l8 d hd
    ·rw[mem_singleton.mp hd,j4c,length_map];exact w8
noncomputable def putS(S:List Nat)(x:Nat):List Nat:=if x∈S then S else S++[x]
noncomputable def addS(S xs:List Nat):List Nat:=xs.foldl putS S
theorem j28{S:List Nat}{x y:Nat}:y∈putS S x↔y∈S\/y=x:=by
 unfold putS;split
 ·rename_i h;exact⟨.inl,fun z=>z.elim id fun e=>e▸h⟩
 ·simp
theorem QT:∀{xs S:List Nat} {y:Nat},y∈addS S xs↔y∈S\/y∈xs
 | [],S,y=>by simp[addS]
 | x::xs,S,y=>by
  show y∈addS (putS S x) xs↔_;rw[QT,j28,mem_cons,or_assoc]
theorem j3s{S:List Nat}(nd:S.Nodup)(x:Nat):(putS S x).Nodup:=by
 unfold putS;split
 ·exact nd
 ·rename_i h;exact nodup_append.mpr ⟨nd,by simp,fun a ha b hb z=>h (by rw[<-mem_singleton.mp hb,<-z];exact ha)⟩
theorem j0C(S xs:List Nat)(x:Nat):addS S (xs++[x])=putS (addS S xs) x:=by
 unfold addS;rw[List.foldl_append];rfl
def KySet(kvs:List (Key×V))(S:List Nat):Prop:=kvs.map (·.1)=S.map iK/\S.Nodup
theorem xR{a b:Nat}(h:iK a=iK b):a=b:=by
 have:(a:Int)=b:=Sum.inl.inj h;omega
theorem KySet.mem{kvs:List (Key×V)}{S:List Nat}(h:KySet kvs S){x:Nat}:(valV kvs (iK x)).isSome=decide (x∈S):=by
 have e:iK x∈kvs.map (·.1)↔x∈S:=by
  rw[h.1];exact⟨fun z=>let ⟨y,hy,e⟩:=mem_map.mp z;(xR e)▸hy,fun z=>mem_map.mpr ⟨x,z,rfl⟩⟩
 cases v:valV kvs (iK x)with
 | none=>exact(decide_eq_false fun z=>j2X v (e.mpr z)).symm
 | some y=>exact(decide_eq_true (e.mp (j3V v))).symm
theorem KySet.put{kvs:List (Key×V)}{S:List Nat}(h:KySet kvs S)(x:Nat)(v:V):KySet (putK kvs (iK x) v) (putS S x):=by
 refine⟨?_,j3s h.2 x⟩;have m:=h.mem (x:=x);unfold putK putS;rw[ZB,m];by_cases z:x∈S
 ·rw[decide_eq_true z,if_pos rfl,if_pos z,map_map,<-h.1];refine map_congr_left fun q _=>?_
  show(if q.1=iK x then(q.1,v)else q).1=q.1;split<;>rfl
 ·rw[decide_eq_false z,if_neg Bool.false_ne_true,if_neg z,map_append,map_append,h.1];rfl
theorem KySet.len{kvs:List (Key×V)}{S:List Nat}(h:KySet kvs S):kvs.length=S.length:=by
 have:=congrArg List.length h.1;rw[length_map,length_map]at this;exact this
theorem j0o{α:Type}[DecidableEq α]:∀{l m:List α},l.Nodup->(∀x∈l,x∈m)->l.length<=m.length
 | [],m,_,_=>Nat.zero_le _
 | a::l,m,nd,h=>by
  rw[nodup_cons]at nd;have ha:=h a mem_cons_self;have:=j0o (l:=l) (m:=m.erase a) nd.2 fun x hx=>(List.mem_erase_of_ne (fun z:x=a=>nd.1 (by rw[<-z];exact hx))).mpr (h x (mem_cons_of_mem _ hx))
  rw[List.length_erase_of_mem ha]at this;have:=List.length_pos_of_mem ha;rw[length_cons];omega
theorem YV{S:List Nat}{n:Nat}(nd:S.Nodup)(h:∀x∈S,x<n):S.length<=n:=by
 have:=j0o (m:=List.range n) nd fun x hx=>mem_range.mpr (h x hx)
 rw[length_range]at this;exact this
structure CmOk(ks:List Dm)(t i:Nat)(S:List Nat):Prop where
 rc:∀x∈S,Rc ks t x
 tp:t∈S
 cl:∀y∈S,t<y+i->∀j∈(ks.getD y (.hold 0)).ns,j∈S
theorem CmOk.all{ks:List Dm}{t:Nat}{S:List Nat}(c:CmOk ks t (t+1) S){x:Nat}:x∈S↔Rc ks t x:=by
 refine⟨c.rc x,fun h=>?_⟩
 induction h with
 | top=>exact c.tp
 | sub _ hm ih=>exact c.cl _ ih (by omega) _ hm
theorem CmOk.yes{ks:List Dm}{t i y:Nat}{S:List Nat}(D:Dwn ks)(c:CmOk ks t i S)(hy:y∈S)(e:y+i=t):CmOk ks t (i+1) (addS S (ks.getD y (.hold 0)).ns):=by
 refine⟨fun x hx=>?_,QT.mpr (.inl c.tp),fun z hz hi j hj=>?_⟩
 ·rcases QT.mp hx with h | h
  ·exact c.rc x h
  ·exact .sub (c.rc y hy) h
 ·rcases QT.mp hz with h | h
  ·by_cases zy:z=y
   ·subst zy;exact QT.mpr (.inr hj)
   ·exact QT.mpr (.inl (c.cl z h (by omega) j hj))
  ·have:=(D.get h).1;omega
theorem CmOk.no{ks:List Dm}{t i y:Nat}{S:List Nat}(c:CmOk ks t i S)(hy:y∉S)(e:y+i=t):CmOk ks t (i+1) S:=
 ⟨c.rc,c.tp,fun z hz hi j hj=>c.cl z hz (by have:z≠y:=fun e=>hy (e▸hz);omega) j hj⟩
theorem j07:∀{ms:List Int},(∀m∈ms,0<=m)->∃ns:List Nat,ms=ns.map (fun n:Nat=>(n:Int))
 | [],_=>⟨[],rfl⟩
 | m::ms,h=>by
  obtain⟨ns,e⟩:=j07 (ms:=ms) fun x hx=>h x (mem_cons_of_mem _ hx)
  have:=h m mem_cons_self;exact⟨m.toNat::ns,by rw[map_cons,<-e,show((m.toNat:Nat):Int)=m by omega]⟩
theorem xg{ms:List Int}{S:List Nat}(p:ms.Perm (S.map fun n:Nat=>(n:Int)))(o:ms.Pairwise (·<=·))(nd:S.Nodup):∃ns:List Nat,ms.map V.int=ns.map vN/\ns.Pairwise (· < ·)/\∀x,x∈ns↔x∈S:=by
 obtain⟨ns,rfl⟩:=j07 (ms:=ms) fun m hm=>by
  obtain⟨n,_,rfl⟩:=mem_map.mp (p.mem_iff.mp hm);exact Int.natCast_nonneg n
 have mem:∀x,x∈ns↔x∈S:=fun x=>by
  constructor
  ·intro h;obtain⟨y,hy,e⟩:=mem_map.mp (p.mem_iff.mp (mem_map.mpr ⟨x,h,rfl⟩));have:y=x:=by omega
   exact this▸hy
  ·intro h;obtain⟨y,hy,e⟩:=mem_map.mp (p.mem_iff.mpr (mem_map.mpr ⟨x,h,rfl⟩));have:y=x:=by omega
   exact this▸hy
 have nd2:(S.map fun n:Nat=>(n:Int)).Nodup:=pairwise_map.mpr (nd.imp fun h e=>h (by omega));have nd3:=pairwise_map.mp (p.nodup_iff.mpr nd2);refine⟨ns,by rw[map_map];rfl,?_,mem⟩;exact((pairwise_map.mp o).and nd3).imp fun⟨h1,h2⟩=>by omega
inductive sp_come(vs:List V)(H:Hp)(Q:VK)(xk:XK):Prop
 | mk (f:Addr) (fas:List Addr) (ks:List Dm) (t:Nat) (_:vs=[.ref f,vN t]) (_:H f=some (.lst (fas.map V.ref))) (_:DrAt H fas ks) (_:Dwn ks) (_:t<ks.length) (_:ks.length<=61) (_:∀(l:Addr) (ms:List Nat) (H':Hp),Same H H'->H l=none->H' l=some (.lst (ms.map vN))->ms.Pairwise (· < ·)->(∀x,x∈ms↔Rc ks t x)->Q (.ref l) H'):sp_come vs H Q xk
noncomputable def reD(P:Nat->Nat):Dm->Dm
 | .row ps=>.row (ps.map P)
 | .side ps=>.side (ps.map P)
 | .again k p=>.again k (P p)
 | d=>d
noncomputable def keptD(ks:List Dm)(ms:List Nat):List Dm:=ms.map fun k=>reD (fun n=>ms.idxOf n) (ks.getD k (.hold 0))
def LmOk(ks:List Dm)(n:Nat):Prop:=∀d∈ks,∀l h b,d = .rise l h b->l<n
theorem j47{ls:List (Str×Int)}{ps:List (Str×Fm)}(W:WfB ls ps):∀n,n<=ps.length->LmOk (madeM (nmsOf ls) (nmsOf ps) (ps.take n)).1 ls.length
 | 0,_=>fun d h=>by simp[madeM]at h
 | n+1,hn=>by
  have hp:ps[n]?=some ps[n]:=List.getElem?_eq_getElem hn;have ih:=j47 W n (by omega);rw[take_snoc hp,Jx];generalize madeM (nmsOf ls) (nmsOf ps) (ps.take n)=st at ih;unfold stepM;dsimp only;split
  ·exact ih
  ·intro d hd l h b e;rcases mem_append.mp hd with hd | hd
   ·exact ih d hd l h b e
   ·rw[mem_singleton.mp hd]at e;generalize ep:ps[n]=p at e hp;obtain⟨nm,f⟩:=p;cases f with
    | rise x v m=>
     obtain⟨j,hj⟩:=W.r n nm x v m hp;have e1:(Dm.rise (ixOf (nmsOf ls) x) v m) = .rise l h b:=e;injection e1 with e1;rw[<-e1,JO W.ln hj];have:=(List.getElem?_eq_some_iff.mp hj).1;rw[nmsOf,length_map]at this;exact this
    | hold n=>cases e
    | ring x n=>cases e
    | row qs=>cases e
    | side qs=>cases e
    | again k x=>cases e
noncomputable def numI(ms:List Nat):List (Key×V):=ms.zipIdx.map fun p=>(iK p.1,vN p.2)
theorem j13(ms:List Nat)(m:Nat):numI (ms++[m])=numI ms++[(iK m,vN ms.length)]:=by
 unfold numI;rw[List.zipIdx_append,map_append];simp
theorem j2h(ms:List Nat):(numI ms).length=ms.length:=by simp[numI]
theorem K1(ms:List Nat):(numI ms).map (·.1)=ms.map iK:=by
 unfold numI;rw[map_map];have e:∀(k:Nat) (xs:List Nat),(xs.zipIdx k).map ((fun x=>x.1)∘fun p:Nat×Nat=>(iK p.1,vN p.2))=xs.map iK:=fun k xs=>by
  induction xs generalizing k with
  | nil=>rfl
  | cons x r ih=>rw[zipIdx_cons,map_cons,map_cons,ih];rfl
 exact e 0 ms
theorem j2i{ms:List Nat}(nd:ms.Nodup){m:Nat}(h:m∈ms):valV (numI ms) (iK m)=some (vN (ms.idxOf m)):=by
 refine Ww (j:=ms.idxOf m) (by rw[K1];exact pairwise_map.mpr (nd.imp fun h e=>h (xR e))) ?_;unfold numI;have hl:=idxOf_lt_length_of_mem h;rw[List.getElem?_map,List.getElem?_zipIdx,List.getElem?_eq_getElem hl,getElem_idxOf hl];simp
theorem j08{ms:List Nat}(h:ms.Pairwise (· < ·)):ms.Nodup:=h.imp fun h=>Nat.ne_of_lt h
theorem j4Z{H:Hp}{l an:Addr}{n:Nat}{ms:List Nat}{d:Dm}(el:H l=some (.lst ((List.range n).map vN)))(ea:H an=some (.dK (numI ms)))(nd:ms.Nodup)(hl:∀k h b,d = .rise k h b->k<n)(hn:∀j∈d.ns,j∈ms)(h8:d.ns.length<=8) :
  GMap H l an (gD d) (gD (reD (fun n=>ms.idxOf n) d)):=by
 have it:∀j∈d.ns,Itm H an (vN j) (vN (ms.idxOf j)):=fun j hj=>by
  refine .inr ?_;have g:=DGet.k (k:=iK j) ea;rw[j2i nd (hn j hj)]at g;exact g
 have many:∀(s:Bool) (ps:List Nat),(∀j∈ps,j∈d.ns)->ps.length<=8->GMap H l an (.many s (ps.map vN)) (.many s ((ps.map fun n=>ms.idxOf n).map vN)):=fun s ps hp h8=>by
  refine⟨_,by rw[length_map,length_map,length_map],fun k x y hx hy=>?_,by rw[length_map];exact h8,rfl⟩;obtain⟨z,hz,rfl,hm⟩:=Zz hx;rw[List.getElem?_map,List.getElem?_map,hz]at hy;cases hy;exact it z (hp z hm)
 cases d with
 | hold n=>rfl
 | ring x n=>rfl
 | rise k h b=>
  have hk:=hl k h b rfl;exact⟨.int (k:Nat),.inl ⟨_,_,el,rfl,L2.Jn (j:=k) (by rw[List.getElem?_map,List.getElem?_range hk];rfl)⟩,rfl⟩
 | row ps=>exact many false ps (fun j h=>h) h8
 | side ps=>exact many true ps (fun j h=>h) h8
 | again k p=>exact⟨_,it p mem_cons_self,rfl⟩
noncomputable def topM(ls:List (Str×Int))(ps:List (Str×Fm)):Nat:=(madeM (nmsOf ls) (nmsOf ps) ps).2.getD (ps.length-1) 0
noncomputable def drsM(ls:List (Str×Int))(ps:List (Str×Fm)):List Dm:=(madeM (nmsOf ls) (nmsOf ps) ps).1
def Kept(ls:List (Str×Int))(ps:List (Str×Fm))(ms:List Nat):Prop:=ms.Pairwise (· < ·)/\∀x,x∈ms↔Rc (drsM ls ps) (topM ls ps) x
inductive sp_drums(vs:List V)(H:Hp)(Q:VK)(xk:XK):Prop
 | mk (b pl pp:Addr) (las pas:List Addr) (ls:List (Str×Int)) (ps:List (Str×Fm)) (_:vs=[.ref b]) (_:BookAt H b pl pp las pas ls ps) (_:WfB ls ps) (_:1<=ps.length) (_:∀(t l f:Addr) (das:List Addr) (ms:List Nat) (H':Hp),Same H H'->H' t=some (.tup [.ref l,.ref f])->H' l=some (.lst (las.map V.ref))->H' f=some (.lst (das.map V.ref))->H l=none->H f=none->l≠f->DrAt H' das (keptD (drsM ls ps) ms)->Kept ls ps ms->Q (.ref t) H'):sp_drums vs H Q xk
structure MadeOk(ls:List (Str×Int))(ps:List (Str×Fm)):Prop where
 dw:Dwn (drsM ls ps)
 lm:LmOk (drsM ls ps) ls.length
 nd:(drsM ls ps).Nodup
 k61:(drsM ls ps).length<=61
 tp:topM ls ps<(drsM ls ps).length
theorem wR{ls:List (Str×Int)}{ps:List (Str×Fm)}(W:WfB ls ps)(n1:1<=ps.length):MadeOk ls ps:=by
 have M:=yH (nmsOf ls) (nmsOf ps) ps.length ps rfl;have d:=j29 W ps.length (Nat.le_refl _);have l:=j47 W ps.length (Nat.le_refl _);rw[take_length]at d l;refine⟨d,l,M.nd,Nat.le_trans M.lk W.p61,M.lt _ ?_⟩;unfold topM;rw[getD_eq_getElem?_getD,List.getElem?_eq_getElem (by rw[M.ln];omega)];exact getElem_mem _
theorem Kept.lt{ls:List (Str×Int)}{ps:List (Str×Fm)}{ms:List Nat}(K:Kept ls ps ms)(O:MadeOk ls ps){x:Nat}(h:x∈ms):x<=topM ls ps:=((K.2 x).mp h).le O.dw
theorem Kept.len{ls:List (Str×Int)}{ps:List (Str×Fm)}{ms:List Nat}(K:Kept ls ps ms)(O:MadeOk ls ps):ms.length<=61:=by
 have:=YV (n:=topM ls ps+1) (j08 K.1) fun x hx=>by have:=K.lt O hx;omega
 have:=O.tp;have:=O.k61;omega
theorem Kept.sub{ls:List (Str×Int)}{ps:List (Str×Fm)}{ms:List Nat}(K:Kept ls ps ms){x j:Nat}(h:x∈ms)(hj:j∈((drsM ls ps).getD x (.hold 0)).ns):j∈ms:=(K.2 j).mpr (.sub ((K.2 x).mp h) hj)
inductive sp_roomB(K:Frg)(vs:List V)(H:Hp)(Q:VK)(xk:XK):Prop
 | mk (a:Addr) (ns:List Int) (_:vs=[.ref a]) (_:SqL K H a (ns.map V.int)) (_:ns.length<=63) (_:∀(z:Ra) (m:Rr) (H':Hp),Same H H'->RoomAt H' z m->Good m->1<=m.parts.length->(m.parts.length<=1\/m.parts.length+2<=ns.length)->H z.pl=none->H z.pp=none->(∀b u,H b=some u->z.off b)->Q (.ref z.r) H'):sp_roomB K vs H Q xk
theorem j39{xs:List V}:(cutV xs (some 2) (some 62)).length<=xs.length-2:=by
 unfold cutV;rw[length_take,length_drop,show HT.sIx xs.length 0 (some 2)=min 2 xs.length from HT.QA xs.length 0 2];omega
theorem pow55{H:Hp}{Q:VK}(h:Q (.int (10^55)) H):rI CPow (fun i j=>.int (i^j.toNat)) (.int 10) (.int 55) H Q:=⟨10,55,rfl,rfl,⟨by decide,by decide,by decide⟩,h⟩
noncomputable def addJ(m:Rr)(is:List Nat)(ks:List Int):Rr:=m.add (.row (is.map m.nm)) ks (is.map m.lg).sum
theorem kU:∀{as bs:List Addr},as.map V.ref=bs.map V.ref->as=bs
 | [],[],_=>rfl
 | [],_::_,h=>by simp at h
 | _::_,[],h=>by simp at h
 | a::as,b::bs,h=>by
  rw[map_cons,map_cons]at h;injection h with h1 h2;injection h1 with h1;rw[h1,kU h2]
def Away(H:Hp)(z:Ra)(p:Addr):Prop:=∀hs:List Addr,H z.ph=some (.lst (hs.map V.ref))->p∉hs
theorem RoomAt.but{H H':Hp}{z:Ra}{m:Rr}{p:Addr}{xs:List V}(R:RoomAt H z m)(aw:Away H z p)(ep:H p=some (.lst xs))(o:z.off p)(n1:p≠z.pn)(n2:p≠z.pl)(k:∀b u,b≠p->H b=some u->H' b=some u):RoomAt H' z m:=by
 have t:∀b ys,H b=some (.tup ys)->H' b=some (.tup ys):=fun b ys h=>k _ _ (qw h ep (fun z=>by cases z)) h
 obtain⟨ls,e1,a1⟩:=R.l;obtain⟨qs,e2,a2⟩:=R.p;obtain⟨hs,e3,a3⟩:=R.h;refine⟨k _ _ (qw R.d ep (fun z=>by cases z)) R.d,k _ _ (Ne.symm n1) R.n,⟨ls,k _ _ (Ne.symm n2) e1,a1.mono fun a x h=>t _ _ h⟩,⟨qs,k _ _ (Ne.symm o.1) e2,a2.mono fun a x h=>?_⟩,⟨hs,k _ _ (Ne.symm o.2.1) e3,a3.1,fun i a x h1 h2=>?_⟩,k _ _ (Ne.symm o.2.2) R.g,R.on,R.ol,R.ph,R.pg,R.hg⟩
 ·obtain⟨b,h1,h2⟩:=h;exact⟨b,t _ _ h1,WK.mpr (GAt.tups t (WK.mp h2))⟩
 ·obtain⟨h3,h4⟩:=a3.2 i a x h1 h2;exact⟨k _ _ (fun e=>aw hs e3 (e▸List.mem_of_getElem? h1)) h3,h4⟩
inductive sp_joined(vs:List V)(H:Hp)(Q:VK)(xk:XK):Prop
 | mk (z:Ra) (m:Rr) (l:Addr) (is:List Nat) (_:vs=[.ref z.r,.ref l]) (_:RoomAt H z m) (_:Good m) (_:H l=some (.lst (is.map vN))) (_:1<=is.length) (_:is.length<=8) (_:(∀j∈is,j<m.parts.length)) (_:(is.map m.lg).sum<=10^60) (_:m.parts.length<65) (_:∀(ks:List Int) (H':Hp),Kp z H H'->RoomAt H' z (addJ m is ks)->Good (addJ m is ks)->(∀p u,H p=some u->Away H z p->Away H' z p)->Q .non H'):sp_joined vs H Q xk
theorem j4o{xs:List V}{k:Nat}:cutV xs none (some (k:Int))=xs.take k:=by
 unfold cutV;rw[show HT.sIx xs.length 0 none=0 from rfl,show HT.sIx xs.length xs.length (some (k:Int))=min k xs.length from HT.QA xs.length xs.length k,List.drop_zero,Nat.sub_zero];rcases Nat.lt_or_ge k xs.length with z | z
 ·rw[Nat.min_eq_left (by omega)]
 ·rw[Nat.min_eq_right z,take_length,take_of_length_le z]
theorem j57{is:List Nat}{i:Nat}(h:8*i<is.length):cutV (is.map vN) (some ((8*i:Nat):Int)) (some (((8*i:Nat):Int)+8))=((is.drop (8*i)).take 8).map vN:=by
 unfold cutV;rw[show HT.sIx (is.map vN).length 0 (some ((8*i:Nat):Int))=min (8*i) (is.map vN).length from HT.QA _ 0 _,show HT.sIx (is.map vN).length (is.map vN).length (some (((8*i:Nat):Int)+8))=min (8*i+8) (is.map vN).length from HT.QA _ _ (8*i+8),length_map,Nat.min_eq_left (show 8*i<=is.length by omega),map_take,List.map_drop];rcases Nat.lt_or_ge (8*i+8) is.length with z | z
 ·rw[Nat.min_eq_left (by omega)];congr 1;omega
 ·rw[Nat.min_eq_right z,take_of_length_le (by rw[length_drop,length_map];omega),take_of_length_le (by rw[length_drop,length_map];omega)]
theorem j3U(is:List Nat):is.map vN=(is.map fun n:Nat=>(n:Int)).map V.int:=by rw[map_map];rfl
theorem Wp{m:Rr}{c:Int}:∀{is:List Nat},(∀j∈is,m.lg j<=c)->(is.map m.lg).sum<=is.length*c
 | [],_=>by simp
 | j::r,h=>by
  have a:=Wp (m:=m) (is:=r) fun x hx=>h x (mem_cons_of_mem _ hx)
  have b:=h j mem_cons_self;rw[map_cons,sum_cons,length_cons];have e:((r.length+1:Nat):Int)*c=r.length*c+c:=by
   rw[Int.natCast_add,Int.add_mul];simp
  omega
structure Jo(m0:Rr)(n0 i:Nat)(m:Rr):Prop where
 ln:m.parts.length=n0+i
 lo:∀j,j<n0->m.lg j=m0.lg j
 hi:∀j,n0<=j->j<n0+i->m.lg j<=8*10^55
theorem Jo.add{m0 m:Rr}{n0 i:Nat}(J:Jo m0 n0 i m)(G:Good m){is:List Nat}{ks:List Int}(h8:is.length<=8)(hs:∀j∈is,j<n0/\m0.lg j<=10^55):Jo m0 n0 (i+1) (addJ m is ks):=by
 have gl:=G.gl;have ln:=J.ln;have e:∀j,j<m.longs.length->(addJ m is ks).lg j=m.lg j:=fun j h=>yZ h
 refine⟨by unfold addJ;rw[Qw,ln];omega,fun j hj=>by rw[e j (by omega)];exact J.lo j hj,fun j h1 h2=>?_⟩;rcases Nat.lt_or_ge j (n0+i)with z | z
 ·rw[e j (by omega)];exact J.hi j h1 z
 ·have ej:j=m.longs.length:=by omega
  rw[ej];have:(addJ m is ks).lg m.longs.length=(is.map m.lg).sum:=getD_last;rw[this];have:=Wp (m:=m) (c:=10^55) (is:=is) fun x hx=>by rw[J.lo x (hs x hx).1];exact(hs x hx).2
  omega
theorem j06:∀{a b:List Nat},a.Pairwise (· < ·)->b.Pairwise (· < ·)->(∀k,k∈a↔k∈b)->a=b
 | [],[],_,_,_=>rfl
 | [],y::b,_,_,h=>nomatch (h y).mpr mem_cons_self
 | x::a,[],_,_,h=>nomatch (h x).mp mem_cons_self
 | x::a,y::b,h1,h2,h=>by
  rw[pairwise_cons]at h1 h2;have e:x=y:=by
   rcases mem_cons.mp ((h x).mp mem_cons_self)with z | z
   ·exact z
   ·rcases mem_cons.mp ((h y).mpr mem_cons_self)with w | w
    ·exact w.symm
    ·have:=h1.1 y w;have:=h2.1 x z;omega
  subst e;rw[j06 h1.2 h2.2 fun k=>?_];constructor
  ·intro hk;rcases mem_cons.mp ((h k).mp (mem_cons_of_mem _ hk))with z | z
   ·have:=h1.1 k hk;omega
   ·exact z
  ·intro hk;rcases mem_cons.mp ((h k).mpr (mem_cons_of_mem _ hk))with z | z
   ·have:=h2.1 k hk;omega
   ·exact z
theorem j3Q{lx px:List Str}{st:List Dm×List Nat}{p:Str×Fm}:∃j,(stepM lx px st p).2=st.2++[j]/\(stepM lx px st p).1[j]?=some (wiF lx px st.2 p.2)/\∀m,m<j->(stepM lx px st p).1[m]?≠some (wiF lx px st.2 p.2):=by
 unfold stepM;dsimp only;split
 ·rename_i hd;refine⟨_,rfl,?_,fun m hm e=>?_⟩
  ·have hl:=idxOf_lt_length_of_mem hd;rw[List.getElem?_eq_getElem hl,getElem_idxOf hl]
  ·obtain⟨h1,e1⟩:=List.getElem?_eq_some_iff.mp e;have:=List.not_of_lt_findIdx (p:=(· == wiF lx px st.2 p.2)) (xs:=st.1) hm;rw[e1]at this;simp at this
 ·rename_i hd;refine⟨_,rfl,by rw[List.getElem?_append_right (Nat.le_refl _),Nat.sub_self];rfl,fun m hm e=>hd ?_⟩;rw[List.getElem?_append_left hm]at e;exact List.mem_of_getElem? e
theorem kr{ms:List Nat}{x:Nat}(h:x∈ms):ms[ms.idxOf x]?=some x/\∀m,m<ms.idxOf x->ms[m]?≠some x:=by
 refine⟨?_,fun m hm e=>?_⟩
 ·have hl:=idxOf_lt_length_of_mem h;rw[List.getElem?_eq_getElem hl,getElem_idxOf hl]
 ·obtain⟨h1,e1⟩:=List.getElem?_eq_some_iff.mp e;have:=List.not_of_lt_findIdx (p:=(· == x)) (xs:=ms) hm;rw[e1]at this;simp at this
noncomputable def natD(n:Nat):PyData:=.int (n:Int)
noncomputable def dmD:Dm->PyData
 | .hold n=>.tuple [.str "hold",.int n]
 | .ring x n=>.tuple [.str "ring",.str x,.int n]
 | .rise l h n=>.tuple [.str "raise",natD l,.int h,.int n]
 | .row ps=>.tuple [.str "row",.tuple (ps.map natD)]
 | .side ps=>.tuple [.str "side",.tuple (ps.map natD)]
 | .again k p=>.tuple [.str "again",.int k,natD p]
theorem kj{H:Hp}:∀ns:List Nat,DVs H (ns.map vN) (ns.map natD)
 | []=>.nil
 | n::r=>.cons (.int _) (kj r)
theorem j59{H:Hp}{a:Addr}{d:Dm}(h:GAt H a (gD d)):DV H (.ref a) (dmD d):=by
 cases d with
 | hold n=>exact .tup h (.cons (.str _) (.cons (.int _) .nil))
 | ring x n=>exact .tup h (.cons (.str _) (.cons (.str _) (.cons (.int _) .nil)))
 | rise l v n=>exact .tup h (.cons (.str _) (.cons (.int _) (.cons (.int _) (.cons (.int _) .nil))))
 | row ps=>obtain⟨b,h1,h2⟩:=h;exact .tup h1 (.cons (.str _) (.cons (.tup h2 (kj ps)) .nil))
 | side ps=>obtain⟨b,h1,h2⟩:=h;exact .tup h1 (.cons (.str _) (.cons (.tup h2 (kj ps)) .nil))
 | again k p=>exact .tup h (.cons (.str _) (.cons (.int _) (.cons (.int _) .nil)))
noncomputable def boxD(ls:List (Str×Int))(ks:List Dm):PyData:=.tuple [.list (ls.map limbD),.list (ks.map dmD)]
theorem j1P{H:Hp}{t l f:Addr}{las das:List Addr}{ls:List (Str×Int)}{ks:List Dm}(et:H t=some (.tup [.ref l,.ref f]))(el:H l=some (.lst (las.map V.ref)))(la:All2 (LimbAt H) las ls)(ef:H f=some (.lst (das.map V.ref)))(da:DrAt H das ks):DV H (.ref t) (boxD ls ks):=
 .tup et (.cons (.lst el (qI (fun _ _ h=>YQ h) la)) (.cons (.lst ef (qI (fun _ _ h=>j59 h) da)) .nil))
theorem j0k(P:Nat->Nat)(d:Dm):(reD P d).ns=d.ns.map P:=by cases d<;>rfl
theorem j3n{ls:List (Str×Int)}{ps:List (Str×Fm)}{ms:List Nat}(O:MadeOk ls ps)(K:Kept ls ps ms):∀d∈keptD (drsM ls ps) ms,d.ns.length<=8:=fun d hd=>by
 obtain⟨k,hk,rfl⟩:=mem_map.mp hd;rw[j0k,length_map];have:=K.lt O hk;have:=O.tp;rw[getD_eq_getElem?_getD,List.getElem?_eq_getElem (by omega)];exact O.dw.l8 _ (getElem_mem _)
end Rm
namespace L2
open PySem PySem.Spec PyProof.Rows
end L2
namespace Rm
open PySem PySem.Spec PyProof.Rows L2
noncomputable def nmK(n:Nat):Str:=if n<26 then⟨#[97+n]⟩else⟨#[97+n/26,97+n%26]⟩
def xh:Sp:=fun vs H Q _=>∃n:Nat,vs=[.int (n:Nat)]/\n<676/\Q (.str (nmK n)) H
noncomputable def bkF(lx:List Str):Dm->Fm
 | .hold n=>.hold n
 | .ring x n=>.ring x n
 | .rise l h n=>.rise (lx.getD l ⟨#[]⟩) h n
 | .row ps=>.row (ps.map nmK)
 | .side ps=>.side (ps.map nmK)
 | .again k p=>.again k (nmK p)
noncomputable def bkP(ls:List (Str×Int))(ks:List Dm):List (Str×Fm):=(List.range ks.length).map fun i=>(nmK i,bkF (nmsOf ls) (ks.getD i (.hold 0)))
theorem Qx(ls:List (Str×Int))(ks:List Dm):(bkP ls ks).length=ks.length:=by unfold bkP;rw[length_map,length_range]
theorem wv{ls:List (Str×Int)}{ks:List Dm}{i:Nat}{d:Dm}(h:ks[i]?=some d):(bkP ls ks)[i]?=some (nmK i,bkF (nmsOf ls) d):=by
 unfold bkP;rw[List.getElem?_map,List.getElem?_range (List.getElem?_eq_some_iff.mp h).1];show some (nmK i,bkF (nmsOf ls) (ks.getD i _))=_;rw[getD_eq_getElem?_getD,h];rfl
structure BxOk(ls:List (Str×Int))(ks:List Dm):Prop where
 dw:Dwn ks
 lm:LmOk ks ls.length
 k61:ks.length<=61
 l8:ls.length<=8
theorem j4h{H:Hp}{l p:Addr}{ls:List (Str×Int)}{d:Dm}{n:Nat}(el:H l=some (.lst ((nmsOf ls).map V.str)))(ep:H p=some (.lst ((List.range n).map fun i=>V.str (nmK i))))(hl:∀k h b,d = .rise k h b->k<ls.length)(hn:∀j∈d.ns,j<n)(h8:d.ns.length<=8) :
  GMap H l p (gD d) (gF (bkF (nmsOf ls) d)):=by
 have it:∀j∈d.ns,Itm H p (vN j) (.str (nmK j)):=fun j hj=>.inl ⟨_,_,ep,rfl,L2.Jn (j:=j) (by rw[List.getElem?_map,List.getElem?_range (hn j hj)];rfl)⟩
 have many:∀(s:Bool) (ps:List Nat),(∀j∈ps,j∈d.ns)->ps.length<=8->GMap H l p (.many s (ps.map vN)) (.many s ((ps.map nmK).map V.str)):=fun s ps hp h8=>by
  refine⟨_,by rw[length_map,length_map,length_map],fun k x y hx hy=>?_,by rw[length_map];exact h8,rfl⟩;obtain⟨z,hz,rfl,hm⟩:=Zz hx;rw[List.getElem?_map,List.getElem?_map,hz]at hy;cases hy;exact it z (hp z hm)
 cases d with
 | hold n=>rfl
 | ring x n=>rfl
 | rise k h b=>
  have hk:=hl k h b rfl;have hk':k<(nmsOf ls).length:=by rw[nmsOf,length_map];exact hk
  refine⟨.str ((nmsOf ls).getD k ⟨#[]⟩),.inl ⟨_,_,el,rfl,L2.Jn (j:=k) ?_⟩,rfl⟩;rw[List.getElem?_map,getD_eq_getElem?_getD,List.getElem?_eq_getElem hk'];rfl
 | row ps=>exact many false ps (fun j h=>h) h8
 | side ps=>exact many true ps (fun j h=>h) h8
 | again k p=>exact⟨_,it p mem_cons_self,rfl⟩
inductive sp_bookof(vs:List V)(H:Hp)(Q:VK)(xk:XK):Prop
 | mk (bx l f:Addr) (las das:List Addr) (ls:List (Str×Int)) (ks:List Dm) (_:vs=[.ref bx]) (_:H bx=some (.tup [.ref l,.ref f])) (_:H l=some (.lst (las.map V.ref))) (_:All2 (LimbAt H) las ls) (_:H f=some (.lst (das.map V.ref))) (_:DrAt H das ks) (_:BxOk ls ks) (_:∀(b pl pp:Addr) (pas:List Addr) (H':Hp),Same H H'->BookAt H' b pl pp las pas ls (bkP ls ks)->H pl=none->H pp=none->pl≠pp->Q (.ref b) H'):sp_bookof vs H Q xk
theorem j4w{ms:List Nat}(h:ms.Pairwise (· < ·)){i n m:Nat}(hi:ms[i]?=some m)(hn:n∈ms)(hlt:n<m):ms.idxOf n<i:=by
 have hl:=idxOf_lt_length_of_mem hn;have e:=getElem_idxOf hl;obtain⟨h1,e1⟩:=List.getElem?_eq_some_iff.mp hi;rcases Nat.lt_or_ge (ms.idxOf n) i with z | z
 ·exact z
 ·rcases Nat.lt_or_ge i (ms.idxOf n)with w | w
  ·have:=pairwise_iff_getElem.mp h i _ h1 hl w;rw[e1,e]at this;omega
  ·have:i=ms.idxOf n:=by omega
   subst this;rw[e]at e1;omega
theorem wJ{ks:List Dm}{ms:List Nat}{i m:Nat}(h:ms[i]?=some m):(keptD ks ms)[i]?=some (reD (fun n=>ms.idxOf n) (ks.getD m (.hold 0))):=by
 unfold keptD;rw[List.getElem?_map,h];rfl
theorem kx(ks:List Dm)(ms:List Nat):(keptD ks ms).length=ms.length:=length_map _
theorem X9{ls:List (Str×Int)}{ps:List (Str×Fm)}{ms:List Nat}(O:MadeOk ls ps)(l8:ls.length<=8)(K:Kept ls ps ms):BxOk ls (keptD (drsM ls ps) ms):=by
 refine⟨⟨fun i d hd j hj=>?_,j3n O K⟩,fun d hd l h b e=>?_,by rw[kx];exact K.len O,l8⟩
 ·have hi:=(List.getElem?_eq_some_iff.mp hd).1;rw[kx]at hi;have hm:ms[i]?=some ms[i]:=List.getElem?_eq_getElem hi;rw[wJ hm]at hd;cases hd;rw[j0k]at hj;obtain⟨n,hn,rfl⟩:=mem_map.mp hj;exact j4w K.1 hm (K.sub (getElem_mem hi) hn) (O.dw.get hn).1
 ·obtain⟨k,hk,rfl⟩:=mem_map.mp hd;have:=K.lt O hk;have:=O.tp;have ek:(drsM ls ps).getD k (.hold 0)=(drsM ls ps)[k]:=by rw[getD_eq_getElem?_getD,List.getElem?_eq_getElem (by omega)];rfl
  rw[ek]at e;have hmem:(drsM ls ps)[k]∈drsM ls ps:=getElem_mem _;generalize(drsM ls ps)[k]=d' at e hmem;refine O.lm d' hmem l h b ?_;cases d'<;>first | exact e | cases e
theorem xA(lx:List Str)(d:Dm):(bkF lx d).ns=d.ns.map nmK:=by cases d<;>rfl
theorem j4Y{f:Nat->Nat}{d e:Dm}(fi:∀a∈d.ns,∀b∈e.ns,f a=f b->a=b)(h:reD f d=reD f e):d=e:=by
 have lists:∀{ps qs:List Nat},(∀a∈ps,∀b∈qs,f a=f b->a=b)->ps.map f=qs.map f->ps=qs:=by
  intro ps
  induction ps with
  | nil=>intro qs _ h;cases qs with
   | nil=>rfl
   | cons=>simp at h
  | cons p ps ih=>
   intro qs fi h;cases qs with
   | nil=>simp at h
   | cons q qs=>
    rw[map_cons,map_cons]at h;injection h with h1 h2;rw[fi p mem_cons_self q mem_cons_self h1,ih (fun a ha b hb=>fi a (mem_cons_of_mem _ ha) b (mem_cons_of_mem _ hb)) h2]
 cases d with
 | row ps=>cases e with
  | row qs=>injection h with h;exact congrArg Dm.row (lists fi h)
  | _=>cases h
 | side ps=>cases e with
  | side qs=>injection h with h;exact congrArg Dm.side (lists fi h)
  | _=>cases h
 | again k p=>cases e with
  | again k' p'=>injection h with h1 h2;rw[h1,fi p mem_cons_self p' mem_cons_self h2]
  | _=>cases h
 | hold n=>cases e with
  | hold=>exact h
  | _=>cases h
 | ring x n=>cases e with
  | ring=>exact h
  | _=>cases h
 | rise l v n=>cases e with
  | rise=>exact h
  | _=>cases h
theorem j2G{f g:Nat->Nat}{d:Dm}(h:∀n∈d.ns,f n=g n):reD f d=reD g d:=by
 cases d with
 | row ps=>exact congrArg Dm.row (map_congr_left h)
 | side ps=>exact congrArg Dm.side (map_congr_left h)
 | again k p=>show Dm.again k (f p) = .again k (g p);rw[h p mem_cons_self]
 | _=>rfl
theorem Rc.inv{ks:List Dm}{t x:Nat}(h:Rc ks t x):x=t\/∃y,Rc ks t y/\x∈(ks.getD y (.hold 0)).ns:=by
 cases h with
 | top=>exact .inl rfl
 | sub h1 h2=>exact .inr ⟨_,h1,h2⟩
theorem j3l{ms:List Nat}{a b:Nat}(ha:a∈ms)(hb:b∈ms)(h:ms.idxOf a=ms.idxOf b):a=b:=by
 have h1:=(kr ha).1;have h2:=(kr hb).1;rw[h,h2]at h1;exact(Option.some.inj h1).symm
section
variable{ls:List (Str×Int)}{ps:List (Str×Fm)}{ms:List Nat}
theorem Kept.refs(K:Kept ls ps ms)(O:MadeOk ls ps){x:Nat}{d:Dm}(hx:x∈ms)(hd:(drsM ls ps)[x]?=some d):∀j∈d.ns,j∈ms:=fun j hj=>K.sub hx (by rw[getD_eq_getElem?_getD,hd];exact hj)
theorem Kept.nd(K:Kept ls ps ms)(O:MadeOk ls ps):(keptD (drsM ls ps) ms).Nodup:=by
 refine pairwise_map.mpr (List.Pairwise.imp_of_mem (fun {a b} ha hb hab e=>?_) K.1);have al:=K.lt O ha;have bl:=K.lt O hb;have tp:=O.tp;have hda:(drsM ls ps)[a]?=some (drsM ls ps)[a]:=List.getElem?_eq_getElem (by omega);have hdb:(drsM ls ps)[b]?=some (drsM ls ps)[b]:=List.getElem?_eq_getElem (by omega);rw[getD_eq_getElem?_getD,getD_eq_getElem?_getD,hda,hdb]at e;have:=j4Y (fun x hx y hy=>j3l (K.refs O ha hda x hx) (K.refs O hb hdb y hy)) e;have:=(List.getElem_inj O.nd).mp this;omega
theorem Kept.named(K:Kept ls ps ms)(O:MadeOk ls ps):(∃c,ms[c]?=some (topM ls ps)/\c+1=ms.length)/\∀j,j+1<ms.length->∃(i:Nat) (d:Dm),(keptD (drsM ls ps) ms)[i]?=some d/\j∈d.ns:=by
 have tm:topM ls ps∈ms:=(K.2 _).mpr .top;have last:ms.idxOf (topM ls ps)+1=ms.length:=by
  have h1:=idxOf_lt_length_of_mem tm;have e1:=getElem_idxOf h1;rcases Nat.lt_or_ge (ms.idxOf (topM ls ps)+1) ms.length with z | z
  ·have:=pairwise_iff_getElem.mp K.1 (ms.idxOf (topM ls ps)) (ms.idxOf (topM ls ps)+1) h1 z (by omega);have:=K.lt O (getElem_mem z);rw[e1]at *;omega
  ·omega
 refine⟨⟨_,(kr tm).1,last⟩,fun j hj=>?_⟩;have hjm:ms[j]?=some ms[j]:=List.getElem?_eq_getElem (by omega);have hm:ms[j]∈ms:=getElem_mem _;have ej:ms.idxOf ms[j]=j:=(j08 K.1).idxOf_getElem j (by omega);rcases((K.2 _).mp hm).inv with e | ⟨y,hy,hn⟩
 ·rw[e]at ej;omega
 ·have ym:=(K.2 y).mpr hy;refine⟨_,_,wJ (kr ym).1,?_⟩;rw[j0k];exact mem_map.mpr ⟨_,hn,ej⟩
end
theorem j2P{lx px:List Str}{st:List Dm×List Nat}{p:Str×Fm}:∃r,(stepM lx px st p).1=st.1++r:=by
 unfold stepM;dsimp only;split
 ·exact⟨[],(append_nil _).symm⟩
 ·exact⟨_,rfl⟩
theorem j2a(lx px:List Str)(ps:List (Str×Fm))(n:Nat):∀k,∃r,(madeM lx px (ps.take (n+k))).1=(madeM lx px (ps.take n)).1++r
 | 0=>⟨[],(append_nil _).symm⟩
 | k+1=>by
  obtain⟨r,h⟩:=j2a lx px ps n k;rcases Nat.lt_or_ge (n+k) ps.length with z | z
  ·rw[show n+(k+1)=(n+k)+1 by omega,take_snoc (List.getElem?_eq_getElem z),Jx];obtain⟨r',h'⟩:=j2P (lx:=lx) (px:=px) (st:=madeM lx px (ps.take (n+k))) (p:=ps[n+k]);exact⟨r++r',by rw[h',h,List.append_assoc]⟩
  ·have e:ps.take (n+(k+1))=ps.take (n+k):=by rw[take_of_length_le (by omega),take_of_length_le z]
   rw[e];exact⟨r,h⟩
theorem j4p{ls:List (Str×Int)}{ps:List (Str×Fm)}{n x:Nat}{d:Dm}(h:(madeM (nmsOf ls) (nmsOf ps) (ps.take n)).1[x]?=some d):(drsM ls ps)[x]?=some d:=by
 obtain⟨r,e⟩:=j2a (nmsOf ls) (nmsOf ps) ps n ps.length;rw[take_of_length_le (by omega)]at e;unfold drsM;rw[e,List.getElem?_append_left (List.getElem?_eq_some_iff.mp h).1];exact h
theorem Kf{lx px:List Str}{st:List Dm×List Nat}{p:Str×Fm}:∃j,(stepM lx px st p).2=st.2++[j]/\(stepM lx px st p).1[j]?=some (wiF lx px st.2 p.2)/\((j<st.1.length/\(stepM lx px st p).1=st.1)\/(j=st.1.length/\(stepM lx px st p).1.length=st.1.length+1)):=by
 obtain⟨j,h1,h2,_⟩:=j3Q (lx:=lx) (px:=px) (st:=st) (p:=p);refine⟨j,h1,h2,?_⟩;unfold stepM at h1|-;dsimp only at h1|-;split
 ·rename_i hd;rw[if_pos hd]at h1;have:st.1.idxOf (wiF lx px st.2 p.2)=j:=by
   have:=List.append_cancel_left h1;injection this
  exact .inl ⟨this▸idxOf_lt_length_of_mem hd,rfl⟩
 ·rename_i hd;rw[if_neg hd]at h1;have:st.1.length=j:=by
   have:=List.append_cancel_left h1;injection this
  exact .inr ⟨this.symm,by rw[List.length_append];rfl⟩
theorem j2f{α:Type}[DecidableEq α]{l:List α}(nd:l.Nodup){i:Nat}{x:α}(h:l[i]?=some x):l.idxOf x=i:=by
 obtain⟨h1,rfl⟩:=List.getElem?_eq_some_iff.mp h;exact nd.idxOf_getElem i h1
def RenF(R:Str->Str->Prop)(p q:Fm):Prop:=match p with
 | .row ps=>∃qs,q = .row qs/\ps.length=qs.length/\∀(i:Nat) (x y:Str),ps[i]?=some x->qs[i]?=some y->R x y
 | .side ps=>∃qs,q = .side qs/\ps.length=qs.length/\∀(i:Nat) (x y:Str),ps[i]?=some x->qs[i]?=some y->R x y
 | .again k x=>∃y,q = .again k y/\R x y
 | p=>q=p
theorem RenF.rise{R:Str->Str->Prop}{p:Fm}{x:Str}{a b:Int}(h:RenF R p (.rise x a b)):p = .rise x a b:=by
 cases p with
 | row ps=>obtain⟨_,e,_⟩:=h;cases e
 | side ps=>obtain⟨_,e,_⟩:=h;cases e
 | again k y=>obtain⟨_,e,_⟩:=h;cases e
 | _=>exact h.symm
section
variable{lx px fr:List Str}{ps qs:List (Str×Fm)}{n:Int}{i:Nat}{nh:List (List Nat)}
end
inductive sp_roomT(K:Frg)(vs:List V)(H:Hp)(Q:VK)(xk:XK):Prop
 | mk (a:Addr) (ns:List Int) (_:vs=[.ref a]) (_:SqL K H a (ns.map V.int)) (_:ns.length<=63) (_:∀(z:Ra) (m:Rr) (H':Hp),Same H H'->RoomAt H' z m->Good m->1<=m.parts.length->m.parts.length<=60->H z.pl=none->H z.pp=none->Q (.ref z.r) H'):sp_roomT K vs H Q xk
theorem j48{ls:List (Str×Int)}{ps:List (Str×Fm)}(B:BkOk ls ps):∀n,n<=ps.length->∀d∈(madeM (nmsOf ls) (nmsOf ps) (ps.take n)).1,∀x b,d = .ring x b->Ws.isW x=true
 | 0,_=>fun d h=>by simp[madeM]at h
 | n+1,hn=>by
  have hp:ps[n]?=some ps[n]:=List.getElem?_eq_getElem hn;have ih:=j48 B n (by omega);rw[take_snoc hp,Jx];generalize madeM (nmsOf ls) (nmsOf ps) (ps.take n)=st at ih;unfold stepM;dsimp only;split
  ·exact ih
  ·intro d hd x b e;rcases mem_append.mp hd with hd | hd
   ·exact ih d hd x b e
   ·rw[mem_singleton.mp hd]at e;have w:=(B.pn _ (getElem_mem (h:=hn))).2;generalize ps[n]=p at e w;obtain⟨nm,f⟩:=p;cases f with
    | ring y m=>
     have e1:(Dm.ring y m) = .ring x b:=e;injection e1 with e1;rw[<-e1];exact w.1
    | hold n=>cases e
    | rise x v n=>cases e
    | row qs=>cases e
    | side qs=>cases e
    | again k x=>cases e
theorem j52{d:Dm}(h:∀x b,d = .ring x b->Ws.isW x=true):Shp 2 (dmD d):=by
 have sw:∀{x:Str},Ws.isW x=true->Shp 1 (.str x):=fun h=>Kc (xs:=[_]) (fun y hy=>by rw[mem_singleton.mp hy];exact h) _ (mem_singleton.mpr rfl)
 have nats:∀ps:List Nat,Shp 1 (.tuple (ps.map natD)):=fun ps=>Shp.tup (n:=0) fun d hd=>by
  obtain⟨n,_,rfl⟩:=mem_map.mp hd;exact Shp.int
 have i1:∀{i:Int},Shp 1 (.int i):=Shp.int.mono (Nat.zero_le _);have tag:∀{x:Str},PyData.strOk x=true->Shp 1 (.str x):=fun h=>(Shp.str h).mono (Nat.zero_le _)
 cases d with
 | hold n=>exact Shp.tup (forall_mem_cons.mpr ⟨tag (by decide +kernel),forall_mem_cons.mpr ⟨i1,fun _ h=>nomatch h⟩⟩)
 | ring x n=>exact Shp.tup (forall_mem_cons.mpr ⟨tag (by decide +kernel),forall_mem_cons.mpr ⟨sw (h x n rfl),forall_mem_cons.mpr ⟨i1,fun _ h=>nomatch h⟩⟩⟩)
 | rise l v n=>exact Shp.tup (forall_mem_cons.mpr ⟨tag (by decide +kernel),forall_mem_cons.mpr ⟨i1,forall_mem_cons.mpr ⟨i1,forall_mem_cons.mpr ⟨i1,fun _ h=>nomatch h⟩⟩⟩⟩)
 | row ps=>exact Shp.tup (forall_mem_cons.mpr ⟨tag (by decide +kernel),forall_mem_cons.mpr ⟨nats ps,fun _ h=>nomatch h⟩⟩)
 | side ps=>exact Shp.tup (forall_mem_cons.mpr ⟨tag (by decide +kernel),forall_mem_cons.mpr ⟨nats ps,fun _ h=>nomatch h⟩⟩)
 | again k p=>exact Shp.tup (forall_mem_cons.mpr ⟨tag (by decide +kernel),forall_mem_cons.mpr ⟨i1,forall_mem_cons.mpr ⟨i1,fun _ h=>nomatch h⟩⟩⟩)
theorem j3P{ls:List (Str×Int)}{ps:List (Str×Fm)}{ms:List Nat}(B:BkOk ls ps):Shp 5 (boxD ls (keptD (drsM ls ps) ms)):=by
 have mw:=j48 B ps.length (Nat.le_refl _);rw[take_length]at mw;refine Shp.tup (n:=4) (forall_mem_cons.mpr ⟨zD B,forall_mem_cons.mpr ⟨?_,fun _ h=>nomatch h⟩⟩);refine(Shp.lst (n:=2) fun d hd=>?_).mono (by decide);obtain⟨e,he,rfl⟩:=mem_map.mp hd;obtain⟨k,_,rfl⟩:=mem_map.mp he;refine j52 fun x b er=>?_
 rw[getD_eq_getElem?_getD]at er;cases ek:(drsM ls ps)[k]? with
 | none=>rw[ek]at er;cases er
 | some d=>
  rw[ek]at er;cases d with
  | ring y c=>
   have e1:Dm.ring y c = .ring x b:=er;injection e1 with e1;rw[<-e1];exact mw _ (List.mem_of_getElem? ek) y c rfl
  | _=>cases er
theorem j3t{i j:Nat}(hi:i<676)(hj:j<676)(h:nmK i=nmK j):i=j:=by
 unfold nmK at h;split at h<;>split at h<;>(injection h with h;simp only[Array.mk.injEq,List.cons.injEq,reduceCtorEq,and_true,and_false,false_and]at h)<;>omega
theorem Xb(ls:List (Str×Int))(ks:List Dm):nmsOf (bkP ls ks)=(List.range ks.length).map nmK:=by
 unfold nmsOf bkP;rw[map_map];rfl
section
variable{ls:List (Str×Int)}{ks:List Dm}
theorem j41(B:BxOk ls ks):(nmsOf (bkP ls ks)).Nodup:=by
 rw[Xb];refine pairwise_map.mpr (List.Pairwise.imp_of_mem (fun {a b} ha hb hab e=>hab (j3t ?_ ?_ e)) (List.nodup_range (n:=ks.length)))
 ·have:=mem_range.mp ha;have:=B.k61;omega
 ·have:=mem_range.mp hb;have:=B.k61;omega
theorem j42{j:Nat}(h:j<ks.length):(nmsOf (bkP ls ks))[j]?=some (nmK j):=by
 rw[Xb,List.getElem?_map,List.getElem?_range h];rfl
theorem j40(B:BxOk ls ks){j:Nat}(h:j<ks.length):ixOf (nmsOf (bkP ls ks)) (nmK j)=j:=JO (j41 B) (j42 h)
theorem kT{n j:Nat}(h:j<n):(List.range n).getD j 0=j:=by
 rw[getD_eq_getElem?_getD,List.getElem?_range h];rfl
theorem j5i(B:BxOk ls ks)(ln:(nmsOf ls).Nodup){i:Nat}{d:Dm}(hd:ks[i]?=some d):wiF (nmsOf ls) (nmsOf (bkP ls ks)) (List.range i) (bkF (nmsOf ls) d)=d:=by
 have hi:=(List.getElem?_eq_some_iff.mp hd).1;have lt:=B.dw.lt i d hd;have num:∀j∈d.ns,(List.range i).getD (ixOf (nmsOf (bkP ls ks)) (nmK j)) 0=j:=fun j hj=>by
  rw[j40 B (Nat.lt_trans (lt j hj) hi),kT (lt j hj)]
 have many:∀ps:List Nat,(∀j∈ps,j∈d.ns)->((ps.map nmK).map fun x=>(List.range i).getD (ixOf (nmsOf (bkP ls ks)) x) 0)=ps:=fun ps h=>by
  rw[map_map]
  conv=>rhs;rw[<-map_id ps]
  exact map_congr_left fun j hj=>num j (h j hj)
 cases d with
 | hold n=>rfl
 | ring x n=>rfl
 | rise l h n=>
  have hl:=B.lm _ (List.mem_of_getElem? hd) l h n rfl;show Dm.rise (ixOf (nmsOf ls) ((nmsOf ls).getD l ⟨#[]⟩)) h n=_;rw[JO (j:=l) ln (by rw[getD_eq_getElem?_getD,List.getElem?_eq_getElem (by unfold nmsOf;rw[length_map];exact hl)];rfl)]
 | row ps=>exact congrArg Dm.row (many ps fun j h=>h)
 | side ps=>exact congrArg Dm.side (many ps fun j h=>h)
 | again k p=>show Dm.again k _=_;rw[num p mem_cons_self]
theorem j04(B:BxOk ls ks)(ln:(nmsOf ls).Nodup)(nd:ks.Nodup):∀n,n<=ks.length->madeM (nmsOf ls) (nmsOf (bkP ls ks)) ((bkP ls ks).take n)=(ks.take n,List.range n)
 | 0,_=>rfl
 | n+1,h=>by
  have hd:ks[n]?=some ks[n]:=List.getElem?_eq_getElem h;rw[take_snoc (wv hd),Jx,j04 B ln nd n (by omega)];unfold stepM;dsimp only;rw[j5i B ln hd,if_neg,take_snoc hd,range_succ,length_take,Nat.min_eq_left (by omega)];intro z;obtain⟨j,hj,e⟩:=mem_iff_getElem.mp z;rw[length_take]at hj;rw[getElem_take]at e;exact absurd e (pairwise_iff_getElem.mp nd j n (by omega) h (by omega))
theorem j4q(B:BxOk ls ks)(ln:(nmsOf ls).Nodup)(nd:ks.Nodup):madeM (nmsOf ls) (nmsOf (bkP ls ks)) (bkP ls ks)=(ks,List.range ks.length):=by
 have h:=j04 B ln nd ks.length (Nat.le_refl _);rw[take_length,take_of_length_le (by rw[Qx];exact Nat.le_refl _)]at h;exact h
theorem j4W(D:Dwn ks)(nm:∀j,j+1<ks.length->∃(i:Nat) (d:Dm),ks[i]?=some d/\j∈d.ns):∀m x,ks.length-1-x=m->x<ks.length->Rc ks (ks.length-1) x:=by
 intro m
 induction m using Nat.strongRecOn with
 | _ m ih=>
  intro x e hx;rcases Nat.lt_or_ge (x+1) ks.length with z | z
  ·obtain⟨i,d,hd,hj⟩:=nm x z;have hi:=(List.getElem?_eq_some_iff.mp hd).1;have lt:=D.lt i d hd x hj;exact .sub (ih (ks.length-1-i) (by omega) i rfl hi) (by rw[getD_eq_getElem?_getD,hd];exact hj)
  ·rw[show x=ks.length-1 by omega];exact .top
theorem j1E{mt:List Nat}(B:BxOk ls ks)(ln:(nmsOf ls).Nodup)(nd:ks.Nodup)(k1:1<=ks.length)(nm:∀j,j+1<ks.length->∃(i:Nat) (d:Dm),ks[i]?=some d/\j∈d.ns)(K:Kept ls (bkP ls ks) mt):keptD (drsM ls (bkP ls ks)) mt=ks:=by
 have e:=j4q B ln nd;have e1:drsM ls (bkP ls ks)=ks:=by unfold drsM;rw[e]
 have e2:topM ls (bkP ls ks)=ks.length-1:=by
  unfold topM;rw[e,Qx];exact kT (by omega)
 have em:mt=List.range ks.length:=by
  refine j06 K.1 List.pairwise_lt_range fun k=>(K.2 k).trans ?_
  rw[e1,e2,mem_range];constructor
  ·intro h;have:=h.le B.dw;omega
  ·exact fun h=>j4W B.dw nm _ k rfl h
 rw[e1,em];unfold keptD;refine ext_getElem (by rw[length_map,length_range]) fun i h1 h2=>?_
 rw[getElem_map,getElem_range,getD_eq_getElem?_getD,List.getElem?_eq_getElem h2];have lt:=B.dw.lt i _ (List.getElem?_eq_getElem h2);refine(j2G (g:=id) fun j hj=>j2f List.nodup_range (List.getElem?_range (Nat.lt_trans (lt j hj) h2))).trans ?_;show reD id ks[i]=ks[i];cases ks[i]with
 | row ps=>show Dm.row (ps.map id)=_;rw[map_id]
 | side ps=>show Dm.side (ps.map id)=_;rw[map_id]
 | _=>rfl
theorem j5h(B:BxOk ls ks)(ln:(nmsOf ls).Nodup):WfB ls (bkP ls ks):=by
 refine⟨ln,B.l8,j41 B,by rw[Qx];exact B.k61,fun i p hp=>?_,fun i y x h n hp=>?_⟩
 all_goals
  have hi:=(List.getElem?_eq_some_iff.mp hp).1;rw[Qx]at hi;have hd:ks[i]?=some ks[i]:=List.getElem?_eq_getElem hi;rw[wv hd]at hp
 ·cases hp;refine⟨fun x hx=>?_,?_⟩
  ·rw[xA]at hx;obtain⟨j,hj,rfl⟩:=mem_map.mp hx;have:=B.dw.lt i _ hd j hj;exact⟨j,this,j42 (by omega)⟩
  ·show(bkF _ _).ns.length<=8;rw[xA,length_map];exact B.dw.l8 _ (getElem_mem _)
 ·injection hp with hp;injection hp with _ hp;cases e:ks[i]with
  | rise l v b=>
   rw[e]at hp;injection hp with h1;have hl:=B.lm _ (List.mem_of_getElem? hd) l v b e;exact⟨l,by rw[<-h1,getD_eq_getElem?_getD,List.getElem?_eq_getElem (by unfold nmsOf;rw[length_map];exact hl)];rfl⟩
  | _=>rw[e]at hp;cases hp
end
theorem j0a(lx px:List Str)(ps:List (Str×Fm))(n:Nat):∀k,∃r,(madeM lx px (ps.take (n+k))).2=(madeM lx px (ps.take n)).2++r
 | 0=>⟨[],(append_nil _).symm⟩
 | k+1=>by
  obtain⟨r,h⟩:=j0a lx px ps n k;rcases Nat.lt_or_ge (n+k) ps.length with z | z
  ·rw[show n+(k+1)=(n+k)+1 by omega,take_snoc (List.getElem?_eq_getElem z),Jx];obtain⟨j,h',_⟩:=Kf (lx:=lx) (px:=px) (st:=madeM lx px (ps.take (n+k))) (p:=ps[n+k]);exact⟨r++[j],by rw[h',h,List.append_assoc]⟩
  ·have e:ps.take (n+(k+1))=ps.take (n+k):=by rw[take_of_length_le (by omega),take_of_length_le z]
   rw[e];exact⟨r,h⟩
noncomputable def numOf(ls:List (Str×Int))(ps:List (Str×Fm))(i:Nat):Nat:=(madeM (nmsOf ls) (nmsOf ps) ps).2.getD i 0
section
variable{ls:List (Str×Int)}{ps:List (Str×Fm)}{ms:List Nat}
theorem Xc{n i:Nat}(hn:n<=ps.length)(h:i<n):(madeM (nmsOf ls) (nmsOf ps) (ps.take n)).2.getD i 0=numOf ls ps i:=by
 obtain⟨r,e⟩:=j0a (nmsOf ls) (nmsOf ps) ps n ps.length;have M:=yH (nmsOf ls) (nmsOf ps) n (ps.take n) (by rw[length_take];omega);rw[take_of_length_le (by omega)]at e;unfold numOf;rw[e,getD_eq_getElem?_getD,getD_eq_getElem?_getD,List.getElem?_append_left (by rw[M.ln];exact h)]
theorem j18(W:WfB ls ps){i:Nat}{p:Str×Fm}(hp:ps[i]?=some p):(drsM ls ps)[numOf ls ps i]?=some (wiF (nmsOf ls) (nmsOf ps) (madeM (nmsOf ls) (nmsOf ps) ps).2 p.2):=by
 have hi:=(List.getElem?_eq_some_iff.mp hp).1;have M1:=yH (nmsOf ls) (nmsOf ps) i (ps.take i) (by rw[length_take];omega);have et:madeM (nmsOf ls) (nmsOf ps) (ps.take (i+1))=stepM (nmsOf ls) (nmsOf ps) (madeM (nmsOf ls) (nmsOf ps) (ps.take i)) p:=by rw[take_snoc hp,Jx]
 obtain⟨j,e1,e2,_⟩:=Kf (lx:=nmsOf ls) (px:=nmsOf ps) (st:=madeM (nmsOf ls) (nmsOf ps) (ps.take i)) (p:=p);rw[<-et]at e1 e2;have ej:numOf ls ps i=j:=by
  rw[<-Xc (n:=i+1) (by omega) (by omega),e1];have:=getD_last (l:=(madeM (nmsOf ls) (nmsOf ps) (ps.take i)).2) (x:=j) (d:=0);rw[M1.ln]at this;exact this
 rw[ej];have:=j4p e2;rw[this];have cg:∀x∈p.2.ns,(madeM (nmsOf ls) (nmsOf ps) (ps.take i)).2.getD (ixOf (nmsOf ps) x) 0=(madeM (nmsOf ls) (nmsOf ps) ps).2.getD (ixOf (nmsOf ps) x) 0:=fun x hx=>Xc (by omega) (W.inP_lt hp (mem_map.mpr ⟨x,hx,rfl⟩))
 generalize p.2=f at cg;cases f with
 | row qs=>exact congrArg (fun z=>some (Dm.row z)) (map_congr_left cg)
 | side qs=>exact congrArg (fun z=>some (Dm.side z)) (map_congr_left cg)
 | again k x=>exact congrArg (fun z=>some (Dm.again k z)) (cg x mem_cons_self)
 | _=>rfl
structure Cor(ps qs:List (Str×Fm))(C:Nat->Nat->Prop)(g:Nat->Nat):Prop where
 lt:∀i k,C i k->i<ps.length/\k<qs.length
 ex:∀k,k<qs.length->∃i,C i k
 top:C (ps.length-1) (qs.length-1)
 f:∀(i k:Nat) (p q:Str×Fm),C i k->ps[i]?=some p->qs[k]?=some q->RenF (fun _ _=>True) p.2 q.2/\inP qs q.2=(inP ps p.2).map g/\∀j∈inP ps p.2,j<i/\C j (g j)
theorem j2n(n:Nat):∀(i:Nat),i<=n->∀(x:Nat),x<(madeM (nmsOf ls) (nmsOf ps) (ps.take i)).1.length->i<=ps.length->∃j,j<i/\numOf ls ps j=x
 | 0,_,x,h,_=>by simp[madeM]at h
 | i+1,hn,x,h,hi=>by
  have hp:ps[i]?=some ps[i]:=List.getElem?_eq_getElem hi;have M1:=yH (nmsOf ls) (nmsOf ps) i (ps.take i) (by rw[length_take];omega);obtain⟨j,e1,e2,e3⟩:=Kf (lx:=nmsOf ls) (px:=nmsOf ps) (st:=madeM (nmsOf ls) (nmsOf ps) (ps.take i)) (p:=ps[i]);have et:madeM (nmsOf ls) (nmsOf ps) (ps.take (i+1))=stepM (nmsOf ls) (nmsOf ps) (madeM (nmsOf ls) (nmsOf ps) (ps.take i)) ps[i]:=by rw[take_snoc hp,Jx]
  rw[<-et]at e1 e3;have old:x<(madeM (nmsOf ls) (nmsOf ps) (ps.take i)).1.length->∃j,j<i+1/\numOf ls ps j=x:=fun h=>by
   obtain⟨j,h1,h2⟩:=j2n n i (by omega) x h (by omega);exact⟨j,by omega,h2⟩
  rcases e3 with⟨_,z⟩ | ⟨z1,z2⟩
  ·exact old (by rw[z]at h;exact h)
  ·rcases Nat.lt_or_ge x (madeM (nmsOf ls) (nmsOf ps) (ps.take i)).1.length with y | y
   ·exact old y
   ·refine⟨i,by omega,?_⟩;rw[<-Xc (n:=i+1) (by omega) (by omega),e1];have:=getD_last (l:=(madeM (nmsOf ls) (nmsOf ps) (ps.take i)).2) (x:=j) (d:=0);rw[M1.ln]at this;omega
theorem j4m(W:WfB ls ps)(n1:1<=ps.length)(K:Kept ls ps ms):Cor ps (bkP ls (keptD (drsM ls ps) ms)) (fun i k=>i<ps.length/\ms[k]?=some (numOf ls ps i)) (fun j=>ms.idxOf (numOf ls ps j)):=by
 have O:=wR W n1;have B:=X9 O W.l8 K;have kl:(keptD (drsM ls ps) ms).length=ms.length:=by unfold keptD;rw[length_map]
 have ql:(bkP ls (keptD (drsM ls ps) ms)).length=ms.length:=by rw[Qx,kl]
 refine⟨fun i k h=>⟨h.1,by rw[ql];exact(List.getElem?_eq_some_iff.mp h.2).1⟩,fun k hk=>?_,?_,fun i k p q h hp hq=>?_⟩
 ·rw[ql]at hk;have hm:ms[k]<(drsM ls ps).length:=Nat.lt_of_le_of_lt (K.lt O (getElem_mem hk)) O.tp;obtain⟨j,h1,h2⟩:=j2n (ls:=ls) (ps:=ps) ps.length ps.length (Nat.le_refl _) ms[k] (by rw[take_length];exact hm) (Nat.le_refl _);exact⟨j,h1,by rw[h2];exact List.getElem?_eq_getElem hk⟩
 ·obtain⟨⟨c,h1,h2⟩,_⟩:=K.named O;refine⟨by omega,?_⟩;rw[ql,show ms.length-1=c by omega];exact h1
 ·obtain⟨hi,hm⟩:=h;have hd:=j18 W hp;have ek:=wJ (ks:=drsM ls ps) hm;rw[getD_eq_getElem?_getD,hd]at ek;have eq:=wv (ls:=ls) ek;rw[hq]at eq;cases eq;have inm:∀j∈inP ps p.2,numOf ls ps j∈ms:=fun j hj=>by
   refine K.refs O (List.mem_of_getElem? hm) hd _ ?_;obtain⟨x,hx,rfl⟩:=mem_map.mp hj;generalize p.2=f at hx;cases f with
   | row qs=>exact mem_map.mpr ⟨x,hx,rfl⟩
   | side qs=>exact mem_map.mpr ⟨x,hx,rfl⟩
   | again k y=>rw[mem_singleton.mp hx];exact mem_cons_self
   | _=>exact nomatch hx
  have ix:∀j∈inP ps p.2,ixOf (nmsOf (bkP ls (keptD (drsM ls ps) ms))) (nmK (ms.idxOf (numOf ls ps j)))=ms.idxOf (numOf ls ps j):=fun j hj=>j40 B (by rw[kl];exact idxOf_lt_length_of_mem (inm j hj))
  refine⟨?_,?_,fun j hj=>⟨W.inP_lt hp hj,by have:=W.inP_lt hp hj;omega,(kr (inm j hj)).1⟩⟩
  ·have wr:=fun x h n (e:p.2 = .rise x h n)=>W.r i p.1 x h n (by rw[hp,<-e])
   show RenF _ p.2 (bkF (nmsOf ls) (reD _ (wiF _ _ _ p.2)));generalize p.2=f at wr;cases f with
   | hold n=>rfl
   | ring x n=>rfl
   | rise x h n=>
    obtain⟨j,hj⟩:=wr x h n rfl;show Fm.rise ((nmsOf ls).getD (ixOf (nmsOf ls) x) ⟨#[]⟩) h n = .rise x h n;rw[JO W.ln hj,getD_eq_getElem?_getD,hj];rfl
   | row qs=>exact⟨_,rfl,by rw[length_map,length_map,length_map],fun _ _ _ _ _=>trivial⟩
   | side qs=>exact⟨_,rfl,by rw[length_map,length_map,length_map],fun _ _ _ _ _=>trivial⟩
   | again k x=>exact⟨_,rfl,trivial⟩
  ·unfold inP at ix|-;show(bkF (nmsOf ls) (reD _ (wiF _ _ _ p.2))).ns.map _=_;rw[xA,j0k,map_map,map_map];have wn:(wiF (nmsOf ls) (nmsOf ps) (madeM (nmsOf ls) (nmsOf ps) ps).2 p.2).ns=p.2.ns.map fun x=>numOf ls ps (ixOf (nmsOf ps) x):=by cases p.2<;>rfl
   rw[wn,map_map];refine Eq.trans ?_ map_map.symm;exact map_congr_left fun x hx=>ix _ (mem_map.mpr ⟨x,hx,rfl⟩)
theorem RenF.rise'{R:Str->Str->Prop}{p q:Fm}{x:Str}{a b:Int}(h:RenF R p q):p = .rise x a b↔q = .rise x a b:=by
 constructor
 ·rintro rfl;exact h
 ·rintro rfl;exact h.rise
section
variable{qs:List (Str×Fm)}{C:Nat->Nat->Prop}{g:Nat->Nat}
theorem XO{M N:List (List Int)}(R:Cor ps qs C g)(ml:M.length=ps.length)(nl:N.length=qs.length)(hM:MovOk ls ps M)(hN:MovOk ls qs N):∀i k,C i k->N.getD k []=M.getD i []:=by
 intro i
 induction i using Nat.strongRecOn with
 | ind i ih=>
  intro k hc;obtain⟨hi,hk⟩:=R.lt i k hc;have ep:ps[i]?=some ps[i]:=List.getElem?_eq_getElem hi;have eq:qs[k]?=some qs[k]:=List.getElem?_eq_getElem hk;have eM:M[i]?=some (M.getD i []):=by rw[getD_eq_getElem?_getD,List.getElem?_eq_getElem (by omega)];rfl
  have eN:N[k]?=some (N.getD k []):=by rw[getD_eq_getElem?_getD,List.getElem?_eq_getElem (by omega)];rfl
  obtain⟨a,b⟩:=hM i _ _ ep eM;obtain⟨a',b'⟩:=hN k _ _ eq eN;obtain⟨rf,ein,hj⟩:=R.f i k _ _ hc ep eq;refine Wv a' a fun v=>(b' v).trans (Iff.trans ?_ (b v).symm)
  rw[ein];refine or_congr ⟨?_,?_⟩ ⟨?_,?_⟩
  ·rintro⟨j',hj',hv⟩;obtain⟨j,hjm,rfl⟩:=mem_map.mp hj';obtain⟨l1,l2⟩:=hj j hjm;exact⟨j,hjm,by rw[<-ih j l1 _ l2];exact hv⟩
  ·rintro⟨j,hjm,hv⟩;obtain⟨l1,l2⟩:=hj j hjm;exact⟨g j,mem_map.mpr ⟨j,hjm,rfl⟩,by rw[ih j l1 _ l2];exact hv⟩
  ·rintro⟨x,h,n,e,ev⟩;exact⟨x,h,n,rf.rise'.mpr e,ev⟩
  ·rintro⟨x,h,n,e,ev⟩;exact⟨x,h,n,rf.rise'.mp e,ev⟩
def LastL(Ls:List (List (Int×Int)))(k v:Int):Prop:=∃pre e post,Ls=pre++e::post/\(k,v)∈e/\∀e'∈post,∀v',(k,v')∉e'
theorem j05{α β:Type}{f:α->β}:∀{l:List α} {pre:List β} {e:β} {post:List β},l.map f=pre++e::post->∃p x q,l=p++x::q/\p.map f=pre/\f x=e/\q.map f=post
 | [],pre,e,post,h=>by cases pre<;>simp at h
 | y::l,[],e,post,h=>by
  rw[map_cons,List.nil_append]at h;injection h with h1 h2;exact⟨[],y,l,rfl,rfl,h1,h2⟩
 | y::l,z::pre,e,post,h=>by
  rw[map_cons,cons_append]at h;injection h with h1 h2;obtain⟨p,x,q,rfl,e1,e2,e3⟩:=j05 h2;exact⟨y::p,x,q,rfl,by rw[map_cons,h1,e1],e2,e3⟩
theorem WR{E:List (List (Int×Int))}{is:List Nat}{k v:Int}:LastIn E is k v↔LastL (is.map fun j=>E.getD j []) k v:=by
 constructor
 ·rintro⟨pre,j,post,rfl,h1,h2⟩;refine⟨pre.map fun j=>E.getD j [],E.getD j [],post.map fun j=>E.getD j [],by rw[map_append];rfl,h1,fun e' he=>?_⟩;obtain⟨j',hj',rfl⟩:=mem_map.mp he;exact h2 j' hj'
 ·rintro⟨pre,e,post,h,h1,h2⟩;obtain⟨p,x,q,rfl,rfl,rfl,rfl⟩:=j05 h;exact⟨p,x,q,rfl,h1,fun j' hj'=>h2 _ (mem_map.mpr ⟨j',hj',rfl⟩)⟩
theorem j36{E F:List (List (Int×Int))}(R:Cor ps qs C g)(el:E.length=ps.length)(fl:F.length=qs.length)(hE:EndOk ls ps E)(hF:EndOk ls qs F):∀i k,C i k->F.getD k []=E.getD i []:=by
 intro i
 induction i using Nat.strongRecOn with
 | ind i ih=>
  intro k hc;obtain⟨hi,hk⟩:=R.lt i k hc;have ep:ps[i]?=some ps[i]:=List.getElem?_eq_getElem hi;have eq:qs[k]?=some qs[k]:=List.getElem?_eq_getElem hk;have eE:E[i]?=some (E.getD i []):=by rw[getD_eq_getElem?_getD,List.getElem?_eq_getElem (by omega)];rfl
  have eF:F[k]?=some (F.getD k []):=by rw[getD_eq_getElem?_getD,List.getElem?_eq_getElem (by omega)];rfl
  obtain⟨a,b⟩:=hE i _ _ ep eE;obtain⟨a',b'⟩:=hF k _ _ eq eF;obtain⟨rf,ein,hj⟩:=R.f i k _ _ hc ep eq;refine j0s a' a fun x v=>(b' x v).trans (Iff.trans ?_ (b x v).symm)
  unfold EndIs;have em:(inP ps ps[i].2).map ((fun j=>F.getD j [])∘g)=(inP ps ps[i].2).map fun j=>E.getD j []:=map_congr_left fun j hjm=>ih j (hj j hjm).1 _ (hj j hjm).2
  rw[WR,WR,ein,map_map,em];refine or_congr Iff.rfl ⟨?_,?_⟩
  ·rintro⟨x,n,e,ev⟩;exact⟨x,n,rf.rise'.mpr e,ev⟩
  ·rintro⟨x,n,e,ev⟩;exact⟨x,n,rf.rise'.mp e,ev⟩
theorem j25:∀{l:List Int},l≠[]->∃g∈l,∀x∈l,x<=g
 | [],h=>absurd rfl h
 | [a],_=>⟨a,mem_cons_self,fun x hx=>by rw[mem_singleton.mp hx];exact Int.le_refl _⟩
 | a::b::r,_=>by
  obtain⟨g,hg,hm⟩:=j25 (l:=b::r) (fun z=>by cases z);rcases Int.le_total a g with z | z
  ·exact⟨g,mem_cons_of_mem _ hg,fun x hx=>by
    rcases mem_cons.mp hx with rfl | hx
    ·exact z
    ·exact hm x hx⟩
  ·exact⟨a,mem_cons_self,fun x hx=>by
    rcases mem_cons.mp hx with rfl | hx
    ·exact Int.le_refl _
    ·exact Int.le_trans (hm x hx) z⟩
theorem j4F{f:Fm}{cs:List Int}(h:LenPre f cs):∃g,LenIs f cs g:=by
 cases f with
 | side qs=>exact(j25 h).imp fun g h=>h
 | again k x=>obtain⟨y,r,rfl,_⟩:=h;exact⟨k*y,y,rfl,rfl⟩
 | row qs=>exact⟨_,rfl⟩
 | _=>exact⟨_,rfl⟩
theorem YT{R:Str->Str->Prop}{p q:Fm}(h:RenF R p q){cs:List Int}:(LenPre p cs↔LenPre q cs)/\∀g,LenIs p cs g↔LenIs q cs g:=by
 cases p with
 | row ps=>obtain⟨_,rfl,_⟩:=h;exact⟨Iff.rfl,fun g=>Iff.rfl⟩
 | side ps=>obtain⟨_,rfl,_⟩:=h;exact⟨Iff.rfl,fun g=>Iff.rfl⟩
 | again k x=>obtain⟨_,rfl,_⟩:=h;exact⟨Iff.rfl,fun g=>Iff.rfl⟩
 | _=>rw[show q=_ from h];exact⟨Iff.rfl,fun g=>Iff.rfl⟩
theorem RenF.side'{R:Str->Str->Prop}{p q:Fm}{ys:List Str}(h:RenF R p q)(e:q = .side ys):∃xs,p = .side xs:=by
 subst e;cases p with
 | side ps=>exact⟨_,rfl⟩
 | row ps=>obtain⟨_,e,_⟩:=h;cases e
 | again k x=>obtain⟨_,e,_⟩:=h;cases e
 | _=>cases h
theorem j37{gs:List Int}{hs:List (List Int)}(S:Snd ls ps gs hs)(hl:hs.length=ps.length)(Mv:MovOk ls ps hs)(R:Cor ps qs C g)(n1:1<=qs.length)(Wq:WfB ls qs):∃gs' hs',Snd ls qs gs' hs'/\gs'.getD (qs.length-1) 0=gs.getD (ps.length-1) 0:=by
 have⟨rep,hrep⟩:∃rep:Nat->Nat,∀k,k<qs.length->C (rep k) k:=by
  have h:∀k,∃i,k<qs.length->C i k:=fun k=>by
   rcases Nat.lt_or_ge k qs.length with z | z
   ·exact(R.ex k z).imp fun i h _=>h
   ·exact⟨0,fun h=>by omega⟩
  exact⟨fun k=>(h k).choose,fun k hk=>(h k).choose_spec hk⟩
 have kids:∀{α:Type} (v:Nat->α) (k i:Nat) (p q:Str×Fm),C i k->ps[i]?=some p->qs[k]?=some q->(∀k',k'<k->∀j,C j k'->v j=v (rep k'))->(inP ps p.2).map v=(inP qs q.2).map fun k'=>v (rep k'):=fun v k i p q hc hp hq ih=>by
  obtain⟨_,ein,hj⟩:=R.f i k p q hc hp hq;rw[ein,map_map];refine map_congr_left fun j hjm=>ih (g j) ?_ j (hj j hjm).2
  exact Wq.inP_lt hq (by rw[ein];exact mem_map.mpr ⟨j,hjm,rfl⟩)
 have hG:∀k,k<qs.length->∀i,C i k->gs.getD i 0=gs.getD (rep k) 0:=by
  intro k
  induction k using Nat.strongRecOn with
  | ind k ih=>
   intro hk i hc;have eq:qs[k]?=some qs[k]:=List.getElem?_eq_getElem hk;have all:∀i,C i k->∀g,LenIs qs[k].2 ((inP qs qs[k].2).map fun k'=>gs.getD (rep k') 0) g->g=gs.getD i 0:=fun i hc g hg=>by
    obtain⟨p,ep⟩:∃p,ps[i]?=some p:=⟨_,List.getElem?_eq_getElem (R.lt i k hc).1⟩
    have ek:=kids (fun j=>gs.getD j 0) k i _ _ hc ep eq fun k' hk' j hj=>ih k' hk' (by omega) j hj
    refine(S.ln i _ ep).2 g ?_;rw[ek];exact((YT (R.f i k _ _ hc ep eq).1).2 g).mpr hg
   obtain⟨p,ep⟩:∃p,ps[i]?=some p:=⟨_,List.getElem?_eq_getElem (R.lt i k hc).1⟩
   have ek:=kids (fun j=>gs.getD j 0) k i _ _ hc ep eq fun k' hk' j hj=>ih k' hk' (by omega) j hj
   have pre:=(S.ln i _ ep).1;rw[ek]at pre;obtain⟨g,hg⟩:=j4F ((YT (R.f i k _ _ hc ep eq).1).1.mp pre);rw[<-all i hc g hg,<-all (rep k) (hrep k hk) g hg]
 have hH:∀k,k<qs.length->∀i,C i k->hs.getD i []=hs.getD (rep k) []:=by
  intro k
  induction k using Nat.strongRecOn with
  | ind k ih=>
   intro hk i hc;have eq:qs[k]?=some qs[k]:=List.getElem?_eq_getElem hk;have all:∀i,C i k->(hs.getD i []).Pairwise (· < ·)/\∀v,v∈hs.getD i []↔(∃c∈(inP qs qs[k].2).map (fun k'=>hs.getD (rep k') []),v∈c)\/∃x h n,qs[k].2 = .rise x h n/\v=(ixOf (nmsOf ls) x:Nat):=fun i hc=>by
    have hi:=(R.lt i k hc).1;obtain⟨p,ep⟩:∃p,ps[i]?=some p:=⟨_,List.getElem?_eq_getElem hi⟩
    have ek:=kids (fun j=>hs.getD j []) k i _ _ hc ep eq fun k' hk' j hj=>ih k' hk' (by omega) j hj
    have rf:=(R.f i k _ _ hc ep eq).1;obtain⟨a,b⟩:=Mv i _ (hs.getD i []) ep (by rw[getD_eq_getElem?_getD,List.getElem?_eq_getElem (by omega)];rfl);refine⟨a,fun v=>(b v).trans (or_congr ?_ ?_)⟩
    ·rw[<-ek];constructor
     ·rintro⟨j,hj,hv⟩;exact⟨_,mem_map.mpr ⟨j,hj,rfl⟩,hv⟩
     ·rintro⟨c,hcm,hv⟩;obtain⟨j,hj,rfl⟩:=mem_map.mp hcm;exact⟨j,hj,hv⟩
    ·constructor
     ·rintro⟨x,h,n,e,ev⟩;exact⟨x,h,n,rf.rise'.mp e,ev⟩
     ·rintro⟨x,h,n,e,ev⟩;exact⟨x,h,n,rf.rise'.mpr e,ev⟩
   have h1:=all i hc;have h2:=all (rep k) (hrep k hk);exact Wv h1.1 h2.1 fun v=>(h1.2 v).trans (h2.2 v).symm
 have gG:∀k,k<qs.length->((List.range qs.length).map fun k=>gs.getD (rep k) 0).getD k 0=gs.getD (rep k) 0:=fun k hk=>by
  rw[getD_eq_getElem?_getD,List.getElem?_map,List.getElem?_range hk];rfl
 have gH:∀k,k<qs.length->((List.range qs.length).map fun k=>hs.getD (rep k) []).getD k []=hs.getD (rep k) []:=fun k hk=>by
  rw[getD_eq_getElem?_getD,List.getElem?_map,List.getElem?_range hk];rfl
 have inl:∀{k:Nat} {q:Str×Fm},qs[k]?=some q->∀j∈inP qs q.2,j<qs.length:=fun hq j hj=>by
  have:=Wq.inP_lt hq hj;have:=(List.getElem?_eq_some_iff.mp hq).1;omega
 refine⟨(List.range qs.length).map fun k=>gs.getD (rep k) 0,(List.range qs.length).map fun k=>hs.getD (rep k) [],⟨Wq,by rw[length_map,length_range],fun k hk=>?_,fun N nl hN k hk=>?_,fun k q hq=>?_,fun k q xs hq e=>?_⟩,?_⟩
 ·rw[gG k hk];exact S.gb _ (R.lt _ k (hrep k hk)).1
 ·rw[gH k hk];exact XO R hl nl Mv hN _ k (hrep k hk)
 ·have hk:=(List.getElem?_eq_some_iff.mp hq).1;have hc:=hrep k hk;obtain⟨p,ep⟩:∃p,ps[rep k]?=some p:=⟨_,List.getElem?_eq_getElem (R.lt _ k hc).1⟩
  have ek:=kids (fun j=>gs.getD j 0) k _ _ _ hc ep hq fun k' hk' j hj=>hG k' (by omega) j hj
  have er:(inP qs q.2).map (fun j=>((List.range qs.length).map fun k=>gs.getD (rep k) 0).getD j 0)=(inP ps p.2).map fun j=>gs.getD j 0:=by
   rw[ek];exact map_congr_left fun j hj=>gG j (inl hq j hj)
  have rf:=(R.f _ k _ _ hc ep hq).1;rw[er,gG k hk];exact⟨(YT rf).1.mp (S.ln _ _ ep).1,fun g hg=>(S.ln _ _ ep).2 g (((YT rf).2 g).mpr hg)⟩
 ·have hk:=(List.getElem?_eq_some_iff.mp hq).1;have hc:=hrep k hk;obtain⟨p,ep⟩:∃p,ps[rep k]?=some p:=⟨_,List.getElem?_eq_getElem (R.lt _ k hc).1⟩
  have ek:=kids (fun j=>hs.getD j []) k _ _ _ hc ep hq fun k' hk' j hj=>hH k' (by omega) j hj
  obtain⟨rf,ein,hj⟩:=R.f _ k _ _ hc ep hq;obtain⟨ys,ey⟩:=rf.side' e;obtain⟨s1,s2⟩:=S.sd _ _ ys ep ey;have er:(inP qs q.2).map (fun j=>((List.range qs.length).map fun k=>hs.getD (rep k) []).getD j [])=(inP ps p.2).map fun j=>hs.getD j []:=by
   rw[ek];exact map_congr_left fun j hj=>gH j (inl hq j hj)
  refine⟨fun j hjm=>?_,by rw[er];exact s2⟩;rw[gH j (inl hq j hjm)];rw[ein]at hjm;obtain⟨j',hj',rfl⟩:=mem_map.mp hjm;rw[<-hH _ (R.lt _ _ (hj j' hj').2).2 j' (hj j' hj').2];exact s1 j' hj'
 ·rw[gG _ (by omega)];exact(hG _ (by omega) _ R.top).symm
end
end
theorem j5e{n:Nat}(h:n<676):Ws.isW (nmK n)=true:=by
 have e:(nmK n).cps.toList=if n<26 then[97+n]else[97+n/26,97+n%26]:=by
  unfold nmK;split<;>rfl
 refine j1Z ?_ ?_ ?_<;>rw[e]<;>split
 ·exact Nat.le_refl _
 ·exact Nat.le_succ_of_le (Nat.le_refl _)
 ·show 1<=_;omega
 ·show 2<=_;omega
 ·intro c hc;rw[mem_singleton.mp hc];omega
 ·intro c hc;rcases mem_cons.mp hc with rfl | hc
  ·omega
  ·rw[mem_singleton.mp hc];omega
theorem Good.mov{m:Rr}(G:Good m)(W:WfB m.limbs m.parts):MovOk m.limbs m.parts m.hands:=by
 intro i p ks hp hk;have hi:=(List.getElem?_eq_some_iff.mp hp).1;obtain⟨_,o⟩:=G.ps i p hp;have ek:ks=m.hd i:=by
  unfold Rr.hd;rw[getD_eq_getElem?_getD,hk];rfl
 subst ek;refine⟨o.o,fun k=>?_⟩;have hlt:=fun j=>W.inP_lt (j:=j) hp
 have f:=o.f;show k∈m.hd i↔(∃j∈inP m.parts p.2,k∈m.hd j)\/_;generalize p.2=fm at f hlt|-;refine Iff.symm ?_;cases fm with
 | hold n=>
  have e:m.hd i=[]:=f.2.2.1;rw[e];simp[inP,Fm.ns]
 | ring x n=>
  have e:m.hd i=[]:=f.2.2.2.1;rw[e];simp[inP,Fm.ns]
 | rise x v n=>
  obtain⟨⟨j,v',hj,e⟩,_⟩:=f;rw[e];have ex:ixOf (nmsOf m.limbs) x=j:=JO W.ln (by unfold nmsOf;rw[List.getElem?_map,hj];rfl);constructor
  ·rintro(⟨j',hj',_⟩ | ⟨x',h',n',e1,e2⟩)
   ·exact nomatch hj'
   ·injection e1 with e1 _ _;subst e1;rw[e2,ex];exact mem_singleton.mpr rfl
  ·intro hk;exact .inr ⟨x,v,n,rfl,by rw[ex];exact mem_singleton.mp hk⟩
 | row ps=>
  obtain⟨is,⟨rfl,hlt'⟩,_,_,ks,_⟩:=f;rw[show inP m.parts (.row (is.map m.nm))=is from qK G W fun j hj=>by have:=hlt' j hj;omega];rw[ks k];exact⟨(fun q=>q.elim id (fun⟨_,_,_,e,_⟩=>(nomatch e))),Or.inl⟩
 | side ps=>
  obtain⟨is,⟨rfl,hlt'⟩,_,_,_,ks,_⟩:=f;rw[show inP m.parts (.side (is.map m.nm))=is from qK G W fun j hj=>by have:=hlt' j hj;omega];rw[ks k];exact⟨(fun q=>q.elim id (fun⟨_,_,_,e,_⟩=>(nomatch e))),Or.inl⟩
 | again n x=>
  obtain⟨_,_,j,hj,rfl,e,_⟩:=f;rw[show inP m.parts (.again n (m.nm j))=[j]from qK G W (is:=[j]) fun j' hj'=>by have:=mem_singleton.mp hj';omega];rw[e];constructor
  ·rintro(⟨j',hj',hk⟩ | ⟨_,_,_,e,_⟩)
   ·rw[mem_singleton.mp hj']at hk;exact hk
   ·exact nomatch e
  ·exact fun hk=>.inl ⟨j,mem_singleton.mpr rfl,hk⟩
theorem j55{R:Str->Str->Prop}{p q:Fm}(h:RenF R p q)(hp:FmWs p)(hq:∀x∈q.ns,Ws.isW x=true):FmWs q:=by
 cases p with
 | row ps=>obtain⟨qs,rfl,e,_⟩:=h;exact⟨by rw[<-e];exact hp.1,hq⟩
 | side ps=>obtain⟨qs,rfl,e,_⟩:=h;exact⟨by rw[<-e];exact hp.1,hq⟩
 | again k x=>obtain⟨y,rfl,_⟩:=h;exact⟨hp.1,hp.2.1,hq y mem_cons_self⟩
 | _=>rw[show q=_ from h];exact hp
theorem j4X{R:Str->Str->Prop}{p q:Fm}{k1 k2 k3:List (Key×V)}(h:RenF R p q)(hp:FmRd k1 k2 p)(hq:∀x∈q.ns,(valV k3 (Sum.inr x)).isSome=true):FmRd k1 k3 q:=by
 cases p with
 | row ps=>obtain⟨qs,rfl,e,_⟩:=h;exact⟨by rw[<-e];exact hp.1,hq⟩
 | side ps=>obtain⟨qs,rfl,e,_⟩:=h;exact⟨by rw[<-e];exact hp.1,hq⟩
 | again k x=>obtain⟨y,rfl,_⟩:=h;exact⟨hp.1,hp.2.1,hq y mem_cons_self⟩
 | _=>rw[show q=_ from h];exact hp
theorem j33{ls:List (Str×Int)}{ps qs:List (Str×Fm)}{C:Nat->Nat->Prop}{g:Nat->Nat}(R:Cor ps qs C g)(P:RdOk ls ps)(Wq:WfB ls qs)(q1:1<=qs.length)(ql:qs.length<=ps.length)(nw:∀x∈nmsOf qs,Ws.isW x=true):RdOk ls qs:=by
 have kn:∀(k:Nat) (q:Str×Fm),qs[k]?=some q->∀x∈q.2.ns,x∈(qs.take k).map (·.1):=fun k q hq x hx=>by
  obtain⟨j,hj,e⟩:=(Wq.f k q hq).1 x hx;unfold nmsOf at e;rw[List.getElem?_map]at e;obtain⟨r,er,ex⟩:=Option.map_eq_some_iff.mp e;exact mem_map.mpr ⟨r,List.mem_of_getElem? (i:=j) (by rw[List.getElem?_take,if_pos hj];exact er),ex⟩
 have sub:∀(k:Nat) (x:Str),x∈(qs.take k).map (·.1)->x∈nmsOf qs:=fun k x h=>by
  obtain⟨r,hr,rfl⟩:=mem_map.mp h;exact mem_map.mpr ⟨r,mem_of_mem_take hr,rfl⟩
 have p60:=P.p60;refine⟨P.l,⟨P.b.l8,P.b.ln,by omega,fun q hq=>⟨nw _ (mem_map.mpr ⟨q,hq,rfl⟩),?_⟩⟩,q1,by omega,Wq.pn,fun k q hq=>?_⟩
 ·obtain⟨k,hk⟩:=List.getElem?_of_mem hq;obtain⟨i,hc⟩:=R.ex k (List.getElem?_eq_some_iff.mp hk).1;have ep:ps[i]?=some (ps[i]'(R.lt i k hc).1):=List.getElem?_eq_getElem _;exact j55 (R.f i k _ _ hc ep hk).1 (P.b.pn _ (List.mem_of_getElem? ep)).2 fun x hx=>nw x (sub k x (kn k q hk x hx))
 ·obtain⟨i,hc⟩:=R.ex k (List.getElem?_eq_some_iff.mp hq).1;have ep:ps[i]?=some (ps[i]'(R.lt i k hc).1):=List.getElem?_eq_getElem _;exact j4X (R.f i k _ _ hc ep hq).1 (P.f i _ ep) fun x hx=>zF (kn k q hq x hx)
end Rm
theorem L2.fsc{N P:List PySem.Str}{sc:PySem.Scope}(a:sc.kind = .function:=by rfl)(b:sc.isCoroutine=false:=by rfl)(c:sc.isGenerator=false:=by rfl)(d:N.Nodup:=by decide +kernel)(e:N.take P.length=P:=by rfl)(f:∀x∈P,sc.names.lookup x=some .local\/sc.names.lookup x=some .cell:=by decide +kernel)(g:∀y∈sc.names,y.2≠.free:=by decide +kernel):L2.FnScope N P sc:=⟨a,b,c,d,e,f,g⟩
structure PySem.W.Fast:Prop where
  (tw12662461205307863398 tw8217367154055247317 tw311084662748470763 tw18446556788198515540 tw15354159482111946297 tw4391792065684936064 tw6490823231478695339 tw15767864595733095114 tw13605909778181714506 tw7962470629705956365 tw3572704949050534204 tw1378483083741437673 tw16483121642256693857 tw2526156855194414093 tw1270301635632345818 tw12072057191265024872 tw12292070299413338479 tw1130418567427551073 tw4051667025211902941 tw2013379398534306559 tw3096377775214947573 tw2785812467081527821 tw4818703721753514402 tw4395611205558419238 tw15390854773472108643 tw10253975356665930816 tw5806297605288263534 tw6764004941617564890 tw15703356406531366407 tw5237391791901074821 tw1894154935185675249 tw15718096849283462373 tw13965535753438670939 tw11384651106421702809 tw6022338651456132058 tw10684198444764287220 tw14108035996989362562 tw14420478625031491739 tw9673661988300068677 tw13048284773275335449 tw14297667943025317163 tw5946175202503695498 tw5467896483494351489 tw10334175656531693526 tw9526146211783460132 tw10515766525038124412 tw6428634479630130502 tw87648995996344377 tw18193002973108737922 tw1679442339929314727 tw9737888886952562472 tw16222192996915849434 tw11878746212343366171 tw12020861844958369499 tw13963400373497792763 tw12540746078676879013 tw6604529952787180923 tw14084675210016559083 tw3458490455216794797 tw15767615810803088097 tw13912555911585208245 tw4024973014489686818 tw1998861533878414537 tw5648812137684682844 tw565085603536208475 tw10449512402097031040 tw14381244573975875175 tw1679027656485904390 tw8066230058677266381 tw17015885664657552240 tw14307531188801333413 tw5595728726259883868 tw12072184516112782844 tw14244411353732442508 tw10591618638588786674 tw9646078543193192590 tw4471497757389828093 tw1705273497137063587 tw15916306989967873586 tw361787734332309298 tw1508089541045358107 tw2145441975769127123 tw2470210189783239776 tw5735496872718885946 tw250203013429673802 tw17470693460678967545 tw18196238157236848771 tw16934847435340253778 tw6775172696857675144 tw8747678949370535181 tw4243726956766249010 tw11137016069169413002 tw13835125175439780185 tw13618797541715496618 tw3987164139924650846 tw3327437934941104102 tw17878617472580915779 tw16840394514393841634 tw1262728482176960834 tw9815469523638948455 tw17023590544993508246 tw7887685748026915747 tw11839434577014305671 tw16962787681783587302 tw15185179495676733474 tw508123843992531796 tw13825190011541577689 tw6895932061014751608 tw1597324327101028591 tw12251007326439331930 tw4897169822783153926 tw13557218516966582313 tw13082718506980720926 tw2171300988889565415 tw15576093596360303346 tw12343551162541661354 tw5649755101188091153 tw5966643177751807784 tw2939702592664607350 tw16663808255618802962 tw11475649808073572950 tw12486988898297155664 tw8624252566516748714 tw16353944783291203575 tw6771242644522074771 tw2576657264456217746 tw14951857727882105028 tw4149505281201583236 tw4942657145116067613 tw11923928391969171853 tw2477805864289324474 tw6473335407706545352 tw2255721525456919990 tw16419667269006063994 tw17285129412209094843 tw11148793808858395155 tw16199888964812637259 tw10290645617408201533 tw4126854979263268942 tw11525678985421644824 tw6071067255975052365 tw14937212969405423468 tw1436537475597864987 tw3327229842446378600 tw8283671321853341017 tw146086054199309353 tw5937234926866514729 tw10528036882463051175 tw3437146162138066397 tw6187920046151197654 tw633434591282414477 tw5930312339827628044 tw403867806720748544 tw12794458678826458977 tw12357407449337973879 tw298414199541446780 tw11496862687042876250 tw3139555279080298372 tw15285950314131471046 tw2706942096252553578 tw6467925263256014630 tw1582242216012544940 tw3934926193607418410 tw1768534003250446516 tw4915941864013335048 tw9801611589564233319 tw10783195032633721629 tw4366993037471356365 tw14382300682500548999 tw8950726588399399885 tw7269542827547971989 tw9452903944567145850 tw15881455533181805210 tw12671534449902718096 tw14566201655660580815 tw12726988747089322210 tw14736636550593948062 tw5503151380016064134 tw4966833150750371557 tw4061379860584718198 tw7857013057709068396 tw900009036671574258 tw2175793648376496711 tw14112299446055664461 tw59397118593287954 tw15611604094390902632 tw16987902369239444222 tw9648815875250806397 tw13902342837605964420 tw9793025132360217301 tw15472028291473142860 tw12236136950119730092 tw18329670447594857336 tw13983878550769793881 tw8972905381363726999 tw4282361356796688490 tw10834797181012789641 tw173909070521544355 tw1617665591164065177 tw6037013235897113348 tw1807071281485402521 tw13774833209114510601 tw3864577428678560652 tw1172893178099151315 tw9996181884414039143:True)
theorem Rm.iteE0{b:Bool}{A B:Prop}(h:B)(e:b=false:=by decide +kernel):if b=true then A else B:=Rm.iteB0 e h
theorem Rm.iteE1{b:Bool}{A B:Prop}(h:A)(e:b=true:=by decide +kernel):if b=true then A else B:=Rm.iteB1 e h
namespace K35
open PySem L2 Rm
noncomputable def top(i:Nat):Stmt:=PySem.Challenge.pw_camplay_k35_whole_there_and_back.main.body.getD i (.Pass ⟨0,0,0,0⟩)
noncomputable abbrev Q1:Stmt:=top 9
theorem Wj:FnScope ["text","signs"] ["text","signs"] (defScope Q1):=fsc
noncomputable abbrev Yl:Stmt:=top 10
theorem Xt:FnScope ["text"] ["text"] (defScope Yl):=fsc
noncomputable abbrev qx:Stmt:=top 11
theorem Wm:FnScope ["text","most"] ["text","most"] (defScope qx):=fsc
noncomputable abbrev zR:Stmt:=top 16
theorem Qi:FnScope ["named","numbers","number","one"] ["named"] (defScope zR):=fsc
noncomputable abbrev yf:Stmt:=top 17
theorem xc:FnScope ["form"] ["form"] (defScope yf):=fsc
noncomputable abbrev Yj:Stmt:=top 18
theorem kW:FnScope ["text","least","number"] ["text","least"] (defScope Yj):=fsc
noncomputable abbrev yg:Stmt:=top 19
theorem YC:FnScope ["wanted","text","limbs","parts","known"] ["wanted","text","limbs","parts"] (defScope yg):=fsc
noncomputable abbrev QE:Stmt:=top 20
theorem Kt:FnScope ["kind","words","parts"] ["kind","words","parts"] (defScope QE):=fsc
noncomputable abbrev ZS:Stmt:=top 21
theorem kY:FnScope ["kind","words","limbs","parts","values"] ["kind","words","limbs","parts"] (defScope ZS):=fsc
noncomputable abbrev Yn:Stmt:=top 22
theorem Kb:FnScope ["words","limbs","parts","form"] ["words","limbs","parts"] (defScope Yn):=fsc
noncomputable abbrev QW:Stmt:=top 23
theorem Zx:FnScope ["words","names","heights"] ["words"] (defScope QW):=fsc
noncomputable abbrev Xs:Stmt:=top 24
theorem QF:FnScope ["text","rows","limbs","limb_names","part_names","parts","row","line","part"] ["text"] (defScope Xs):=fsc
noncomputable abbrev zT:Stmt:=top 25
theorem xf:FnScope ["form"] ["form"] (defScope zT):=fsc
noncomputable abbrev Wh:Stmt:=top 26
theorem QZ:FnScope ["book","words","name","height","rows","form"] ["book"] (defScope Wh):=fsc
noncomputable abbrev Q2:Stmt:=top 29
theorem Wk:FnScope ["form","limbs","parts"] ["form","limbs","parts"] (defScope Q2):=fsc
noncomputable abbrev Xr:Stmt:=top 30
theorem ZT:FnScope ["book","limbs","numbers","known","name","form"] ["book"] (defScope Xr):=fsc
noncomputable abbrev Yk:Stmt:=top 31
theorem zU:FnScope ["forms","drum","needed","number","other"] ["forms","drum"] (defScope Yk):=fsc
noncomputable abbrev YY:Stmt:=top 32
theorem Qr:FnScope ["book","found","forms","kept","limbs","anew","place","number"] ["book"] (defScope YY):=fsc
noncomputable abbrev Ym:Stmt:=top 33
theorem zV:FnScope ["number","name"] ["number"] (defScope Ym):=fsc
noncomputable abbrev QK:Stmt:=top 34
theorem yh:FnScope ["box","limbs","names"] ["box"] (defScope QK):=fsc
noncomputable abbrev YZ:Stmt:=top 36
theorem Zw:FnScope ["book","numbers","found","name","form"] ["book"] (defScope YZ):=fsc
noncomputable abbrev Xq:Stmt:=top 37
theorem Q3:FnScope ["book","limbs","found","part","inside","form","left","other"] ["book"] (defScope Xq):=fsc
noncomputable abbrev Y0:Stmt:=top 38
theorem Ka:FnScope ["book","found","left"] ["book"] (defScope Y0):=fsc
noncomputable abbrev QD:Stmt:=top 39
theorem zd:FnScope ["row","moves","limbs","number","limb"] ["row","moves","limbs"] (defScope QD):=fsc
noncomputable abbrev Zv:Stmt:=top 40
theorem Wl:FnScope ["form","inside"] ["form","inside"] (defScope Zv):=fsc
noncomputable abbrev zC:Stmt:=top 41
theorem qr:FnScope ["book","moves","found","row","inside","form","length"] ["book"] (defScope zC):=fsc
noncomputable abbrev QV:Stmt:=top 43
theorem YL:FnScope ["_law_script","_law_k"] ["_law_script","_law_k"] (defScope QV):=fsc
noncomputable abbrev zc:Stmt:=top 44
theorem QY:FnScope ["_law_cell","_law_turn","_law_k"] ["_law_cell","_law_turn"] (defScope zc):=fsc
noncomputable abbrev zb:Stmt:=top 45
theorem jY:FnScope ["_law_cell","_law_many","_law_found","_law_number_here","_law_k"] ["_law_cell","_law_many"] (defScope zb):=fsc
noncomputable abbrev QC:Stmt:=top 46
theorem Jk:FnScope ["_law_cell","_law_many","_law_letters","_law_some","_law_base","_law_at","_law_names_here","_law_k","_law_two"] ["_law_cell","_law_many"] (defScope QC):=fsc
noncomputable abbrev Q9:Stmt:=top 47
theorem QX:FnScope ["_law_cell","_law_mixed","_law_least","_law_way","_law_power"] ["_law_cell","_law_mixed","_law_least"] (defScope Q9):=fsc
noncomputable abbrev ye:Stmt:=top 48
theorem xb:FnScope ["_law_room_here","_law_form","_law_hands","_law_long"] ["_law_room_here","_law_form","_law_hands","_law_long"] (defScope ye):=fsc
noncomputable abbrev za:Stmt:=top 49
theorem qQ:FnScope ["_law_room_here","_law_cell","_law_some","_law_beats","_law_limb","_law_high"] ["_law_room_here","_law_cell","_law_some"] (defScope za):=fsc
noncomputable abbrev zQ:Stmt:=top 50
theorem Z4:FnScope ["_law_room_here","_law_number_here","_law_many"] ["_law_room_here","_law_number_here"] (defScope zQ):=fsc
noncomputable abbrev QB:Stmt:=top 51
theorem Ja:FnScope ["_law_room_here","_law_some","_law_there_here","_law_hands","_law_k","_law_first","_law_step","_law_one","_law_here"] ["_law_room_here","_law_some"] (defScope QB):=fsc
noncomputable abbrev Jz:Stmt:=top 52
theorem jG:FnScope ["_law_room_here","_law_cell","_law_some","_law_there_here","_law_long","_law_hands","_law_one","_law_names_here","_law_times"] ["_law_room_here","_law_cell","_law_some"] (defScope Jz):=fsc
noncomputable abbrev Zu:Stmt:=top 53
theorem Jb:FnScope ["_law_script","_law_first","_law_names_here","_law_limbs","_law_k","_law_at","_law_high","_law_room_here","_law_cell","_law_some"] ["_law_script"] (defScope Zu):=fsc
noncomputable abbrev JN:Stmt:=top 54
theorem JU:FnScope ["_law_room_here","_law_there_here","_law_hands","_law_one","_law_names_here"] ["_law_room_here","_law_there_here"] (defScope JN):=fsc
noncomputable abbrev qj:Stmt:=top 55
theorem JC:FnScope ["_law_script","_law_room_here","_law_there_here","_law_rows","_law_first"] ["_law_script"] (defScope qj):=fsc
noncomputable abbrev j2J:Stmt:=top 56
theorem kZ:FnScope ["_law_script","_law_room_here","_law_book","_law_box","_law_back"] ["_law_script"] (defScope j2J):=fsc
set_option genInjectivity false in
set_option genSizeOf false in
structure Ad where
 qu:Addr
 qv:FuncData
 qT:Addr
 qV:FuncData
 Ql:Addr
 Qp:FuncData
 xm:Addr
 Jq:Addr
 Jr:FuncData
 qU:Addr
 qW:FuncData
 QH:Addr
 QI:FuncData
 QM:Addr
 QP:FuncData
 qD:Addr
 qH:FuncData
 zh:Addr
 zq:FuncData
 zk:Addr
 zv:FuncData
 QL:Addr
 QO:FuncData
 Y6:Addr
 kg:FuncData
 QN:Addr
 QQ:FuncData
 yt:Addr
 yA:FuncData
 JS:Addr
 JT:FuncData
 Y5:Addr
 kf:FuncData
 zg:Addr
 zo:FuncData
 yr:Addr
 yz:FuncData
 zj:Addr
 zu:FuncData
 zf:Addr
 zn:FuncData
 ZH:Addr
 ZL:FuncData
 yY:Addr
 y8:FuncData
 ZI:Addr
 ZM:FuncData
 qC:Addr
 qG:FuncData
 Qk:Addr
 Qo:FuncData
 zi:Addr
 zt:FuncData
 JA:Addr
 JB:FuncData
 Ji:Addr
 Jj:FuncData
 Ju:Addr
 Jw:FuncData
 qB:Addr
 qF:FuncData
 Jt:Addr
 Jv:FuncData
 qm:Addr
 qo:FuncData
 JL:Addr
 JM:FuncData
 JX:Addr
 JY:FuncData
 qA:Addr
 qE:FuncData
 qb:Addr
 qe:FuncData
 Qj:Addr
 Qn:FuncData
 qa:Addr
 qd:FuncData
 JH:Addr
 JI:FuncData
 XH:Addr
 WF:FuncData
 JD:Addr
 Zc:Value
 Zd:Value
 Q4:Addr
 wa:Value
 Jh:Addr
structure Txt(K:Frg)(mg:Str->Option Value)(t:Ad):Prop where
 Zg:Fun K "all_among" "all_among" Q1 t.qu t.qv
 Yz:mg "all_among"= some (.ref t.qu)
 Yq:Binds K t.qv ["text","signs"] []
 ZE:Fun K "is_word" "is_word" Yl t.qT t.qV
 Yg:mg "is_word"= some (.ref t.qT)
 yR:Binds K t.qV ["text"] []
 Yu:FunD K "number_of" "number_of" qx t.xm t.Ql t.Qp
 WV:mg "number_of"= some (.ref t.Ql)
 Wz:Binds K t.Qp ["text","most"] []
 qz:Fun K "numbers_of" "numbers_of" zR t.Jq t.Jr
 Qz:mg "numbers_of"= some (.ref t.Jq)
 Qv:Binds K t.Jr ["named"] []
 Z5:Fun K "names_in" "names_in" yf t.qU t.qW
 kB:mg "names_in"= some (.ref t.qU)
 Y1:Binds K t.qW ["form"] []
 ZD:Fun K "bounded" "bounded" Yj t.QH t.QI
 Yf:mg "bounded"= some (.ref t.QH)
 yQ:Binds K t.QI ["text","least"] []
 Y3:Fun K "value_of" "value_of" yg t.QM t.QP
 xZ:mg "value_of"= some (.ref t.QM)
 xv:Binds K t.QP ["wanted","text","limbs","parts"] []
 yq:Fun K "names_form" "names_form" QE t.qD t.qH
 wQ:mg "names_form"= some (.ref t.qD)
 wk:Binds K t.qH ["kind","words","parts"] []
 KA:Fun K "form_of" "form_of" ZS t.zh t.zq
 j0W:mg "form_of"= some (.ref t.zh)
 j0z:Binds K t.zq ["kind","words","limbs","parts"] []
 KC:Fun K "part_of" "part_of" Yn t.zk t.zv
 j0Y:mg "part_of"= some (.ref t.zk)
 j0B:Binds K t.zv ["words","limbs","parts"] []
 Y2:Fun K "limbs_of" "limbs_of" QW t.QL t.QO
 xY:mg "limbs_of"= some (.ref t.QL)
 xu:Binds K t.QO ["words"] []
 j1w:Fun K "read" "read" Xs t.Y6 t.kg
 j4K:mg "read"= some (.ref t.Y6)
 j4e:Binds K t.kg ["text"] []
 Y4:Fun K "words_of" "words_of" zT t.QN t.QQ
 x4:mg "words_of"= some (.ref t.QN)
 xw:Binds K t.QQ ["form"] []
 XG:Fun K "shown" "shown" Wh t.yt t.yA
 j3q:mg "shown"= some (.ref t.yt)
 j31:Binds K t.yA ["book"] []
 Q0:Fun K "form_with" "form_with" Q2 t.JS t.JT
 Zo:mg "form_with"= some (.ref t.JS)
 Zf:Binds K t.JT ["form","limbs","parts"] []
 j1v:Fun K "made" "made" Xr t.Y5 t.kf
 j4J:mg "made"= some (.ref t.Y5)
 j4d:Binds K t.kf ["book"] []
 Kz:Fun K "come_to" "come_to" Yk t.zg t.zo
 j0V:mg "come_to"= some (.ref t.zg)
 j0y:Binds K t.zo ["forms","drum"] []
 wl:Fun K "drums" "drums" YY t.yr t.yz
 j02:mg "drums"= some (.ref t.yr)
 XE:Binds K t.yz ["book"] []
 KB:Fun K "name_of" "name_of" Ym t.zj t.zu
 j0X:mg "name_of"= some (.ref t.zj)
 j0A:Binds K t.zu ["number"] []
 Ky:Fun K "book_of" "book_of" QK t.zf t.zn
 j0U:mg "book_of"= some (.ref t.zf)
 j0x:Binds K t.zn ["box"] []
 wo:Fun K "inner" "inner" YZ t.ZH t.ZL
 j03:mg "inner"= some (.ref t.ZH)
 XF:Binds K t.ZL ["book"] []
 wm:Fun K "ends" "ends" Xq t.yY t.y8
 xW:mg "ends"= some (.ref t.yY)
 xt:Binds K t.y8 ["book"] []
 YM:Fun K "moved" "moved" Y0 t.ZI t.ZM
 wP:mg "moved"= some (.ref t.ZI)
 wj:Binds K t.ZM ["book"] []
 yp:Fun K "check_side" "check_side" QD t.qC t.qG
 wO:mg "check_side"= some (.ref t.qC)
 wg:Binds K t.qG ["row","moves","limbs"] []
 Yt:Fun K "length_of" "length_of" Zv t.Qk t.Qo
 WU:mg "length_of"= some (.ref t.Qk)
 Wy:Binds K t.Qo ["form","inside"] []
 yS:Fun K "lengths" "lengths" zC t.zi t.zt
 KZ:mg "lengths"= some (.ref t.zi)
 Kx:Binds K t.zt ["book"] []
 JR:Fun K "_law_cell_at" "_law_cell_at" QV t.JA t.JB
 qL:mg "_law_cell_at"= some (.ref t.JA)
 qy:Binds K t.JB ["_law_script","_law_k"] []
 JK:Fun K "_law_window" "_law_window" zc t.Ji t.Jj
 qf:mg "_law_window"= some (.ref t.Ji)
 J1:Binds K t.Jj ["_law_cell","_law_turn"] []
 J3:Fun K "_law_stream" "_law_stream" zb t.Ju t.Jw
 Qg:mg "_law_stream"= some (.ref t.Ju)
 Qa:Binds K t.Jw ["_law_cell","_law_many"] []
 yo:Fun K "_law_names" "_law_names" QC t.qB t.qF
 wN:mg "_law_names"= some (.ref t.qB)
 we:Binds K t.qF ["_law_cell","_law_many"] []
 J2:Fun K "_law_number" "_law_number" Q9 t.Jt t.Jv
 Qf:mg "_law_number"= some (.ref t.Jt)
 q0:Binds K t.Jv ["_law_cell","_law_mixed","_law_least"] []
 JQ:Fun K "_law_add" "_law_add" ye t.qm t.qo
 qq:mg "_law_add"= some (.ref t.qm)
 qk:Binds K t.qo ["_law_room_here","_law_form","_law_hands","_law_long"] []
 Qb:Fun K "_law_simple" "_law_simple" za t.JL t.JM
 Q8:mg "_law_simple"= some (.ref t.JL)
 Q5:Binds K t.JM ["_law_room_here","_law_cell","_law_some"] []
 zG:Fun K "_law_there" "_law_there" zQ t.JX t.JY
 yG:mg "_law_there"= some (.ref t.JX)
 yj:Binds K t.JY ["_law_room_here","_law_number_here"] []
 yn:Fun K "_law_apart" "_law_apart" QB t.qA t.qE
 wM:mg "_law_apart"= some (.ref t.qA)
 wd:Binds K t.qE ["_law_room_here","_law_some"] []
 ZZ:Fun K "_law_naming" "_law_naming" Jz t.qb t.qe
 Kl:mg "_law_naming"= some (.ref t.qb)
 Ki:Binds K t.qe ["_law_room_here","_law_cell","_law_some"] []
 Yr:Fun K "_law_room" "_law_room" Zu t.Qj t.Qn
 WT:mg "_law_room"= some (.ref t.Qj)
 Wx:Binds K t.Qn ["_law_script"] []
 Q6:Fun K "_law_joined" "_law_joined" JN t.qa t.qd
 Z0:mg "_law_joined"= some (.ref t.qa)
 ZY:Binds K t.qd ["_law_room_here","_law_there_here"] []
 zZ:Fun K "_law_gathered" "_law_gathered" qj t.JH t.JI
 YG:mg "_law_gathered"= some (.ref t.JH)
 YD:Binds K t.JI ["_law_script"] []
 j3X:Fun K "law" "law" j2J t.XH t.WF
 j5d:mg "law"= some (.ref t.XH)
 j5m:Binds K t.WF ["_law_script"] []
 j1B:mg "all"= none
 j4g:mg "dict"= none
 Qm:mg "enumerate"= none
 j1C:mg "int"= none
 Jd:mg "len"= none
 y0:mg "list"= none
 j1D:mg "max"= none
 j3Y:mg "min"= none
 qg:mg "range"= none
 j56:mg "set"= none
 Zk:mg "sorted"= none
 j3Z:mg "str"= none
 XL:mg "sum"= none
 yv:mg "tuple"= none
 XM:mg "zip"= none
 Y7:mg "FEWEST_NAMES"= some (.ref t.JD)
 ku:TabK K t.JD [("row",.flat (.int 1)),("side",.flat (.int 2))]
 Za:mg "FIGURES_drums"= some t.Zc
 Zb:RelV (.str "abcdefghijklmnopqrstuvwxyz") t.Zc
 YE:mg "FIGURES_words"= some t.Zd
 YJ:RelV (.str "0123456789") t.Zd
 wy:mg "FORMS"= some (.ref t.Q4)
 wI:TabK K t.Q4 [("raise",.tup [.str "limb",.str "height",.str "beats"]),("hold",.tup [.str "beats"]),("ring",.tup [.str "word",.str "beats"]),("again",.tup [.str "times",.str "part"])]
 j0G:mg "LETTERS"= some t.wa
 j1f:RelV (.str "abcdefghijklmnopqrstuvwxyz") t.wa
 Qy:mg "MOST_NAMES"= some (.ref t.Jh)
 jX:TabK K t.Jh [("row",.flat (.int 8)),("side",.flat (.int 4))]
section
variable{P:Program}{w:World}{K:Frg}{mg:Str->Option Value}{base:Heap}{t:Ad}
theorem Ks(T:Txt K mg t):FnOk P w K mg base CX0 1 t.Jq t.Jr ["named"] (sp_numbers_of):=by
 refine T.qz.ok Qi (fun vs H Q E h=>?_) (fun cdv A outer s H vs Q E hr h=>?_)
 ·cases h;subst_vars;rfl
 obtain⟨l,as,xs,rfl,el,hl,ha,nd,h100,q⟩:=h;refine⟨_,(je (jq (i:=1) Qi.nd rfl (.inl rfl) Zr)
  (je (Jf PassesOwn.never rfl (YW (by rfl) T.Qm (ja (pv 0) jd)) (qO rfl (jC (jr (i:=2) Qi.nd rfl (.inl rfl)) (jC (jr (i:=3) Qi.nd rfl (.inl rfl)) JP)))
   (jf (ZR (jM hr) (pv 1) (jm jA (pv 3) jc) (pv 2) rfl)))
  (jf (jx (pv 1))))),?_⟩
 refine jy (σ':=[some _,none,none,none]) rfl ?_;have sz:(200:Nat)<sizeLine:=by decide
 walk_at"g";walk_at"f d hd H1 s1 t1";exists⟨l,_,rfl,SqL.of (s1 _ _ el),?_⟩;refine yD (xs:=as.map V.ref) (fun i σ H'=>∃o2 o3:Option V,σ=[some (.ref l),some (.ref d),o2,o3]/\Same H H'/\H' d=some (.dK (numK (xs.take i)))) ⟨_,_,rfl,s1,t1⟩ ?_ ?_ ?_
 ·rintro i σ H' _ ⟨o2,o3,rfl,sm,ed⟩;exact SqL.of (sm _ _ el)
 ·rintro i v σ H' P H'' hx ⟨o2,o3,rfl,sm,ed⟩ sP tP;rw[List.getElem?_map]at hx;obtain⟨a,ea,rfl⟩:=Option.map_eq_some_iff.mp hx;have hi:=(List.getElem?_eq_some_iff.mp ea).1;have ex:xs[i]?=some xs[i]:=List.getElem?_eq_getElem (by omega);obtain⟨r,er⟩:=ha i a _ ea ex;have s2:=sm.trans sP;have tl:(xs.take i).length=i:=by rw[length_take];omega
  refine qP (SqT.of tP) ?_;exists ixTm (SqT.of (s2 _ _ er)) rfl ?_;refine⟨d,_,rfl,DPut.k (k:=Sum.inr xs[i]) (sP _ _ ed) (by rw[j2j,tl];omega),?_⟩;have hk:(Sum.inr xs[i]:Key)∉(numK (xs.take i)).map (·.1):=fun z=>by
   rw[K2]at z;obtain⟨y,hy,e⟩:=mem_map.mp z;have e':y=xs[i]:=Sum.inr.inj e;subst e';obtain⟨j,hj,e⟩:=mem_iff_getElem.mp hy;rw[getElem_take]at e;rw[tl]at hj;exact absurd e (pairwise_iff_getElem.mp nd j i (by omega) (by omega) hj)
  refine⟨_,_,rfl,fun b u h=>(jo (jg h hd)).trans (s2 _ _ h),?_⟩;rw[jh,Zt hk,take_snoc ex,j14,tl]
 rintro σ' H' ⟨o2,o3,rfl,sm,ed⟩;rw[length_map,hl,take_length]at ed;walk_at"g";exact q d H' sm hd ed
theorem wV(T:Txt K mg t):FnOk P w K mg base CX0 1 t.qu t.qv ["text","signs"] (Ws.zW):=by
 refine T.Zg.ok Wj (fun vs H Q E h=>?_) (fun cdv A outer s H vs Q E hr h=>?_)
 ·obtain⟨x,z,rfl,hx,q⟩:=h;rfl
 obtain⟨x,z,rfl,hx,q⟩:=h;refine⟨_,(jf (jx (jt (y3 rfl) (by rfl) T.j1B xB (ja (j9 (ow:=["sign"]) (ci:=[1]) rfl (CompScope.of (defScope Q1) ["text","signs"] rfl rfl (by decide +kernel)) (j4 (by decide)) (j4V (pv 0)) (fun _ _ _ _ _=>⟨(jr (i:=0) (jS ["text","signs"] rfl (by decide +kernel)) rfl (.inl rfl)),Jy,(Wb j4O (pv 0) (pv 1) (by with_unfolding_all rfl))⟩)) jd)))),?_⟩;refine jy (σ':=[some _,some _]) rfl ?_;have sz:(200:Nat)<sizeLine:=by decide
 have hlen:=Ws.zO x;have hsz:x.cps.size=x.length:=rfl;exists j1I (fun i ys H'=>ys=((x.cps.toList.take i).map fun c=>V.bl (decide (c∈z.cps.toList)))/\H=H') ⟨rfl,rfl⟩ ?_ ?_
 ·rintro i c ys H' hc ⟨rfl,rfl⟩;have hc':x.cps.toList[i]?=some c:=by rw[Array.getElem?_toList];exact hc
  refine j8 (σ':=[none,some _]) rfl ?_;exists iteT ?_;exists⟨_,_,rfl,rfl,?_⟩;refine⟨by rw[length_map,length_take];omega,?_,rfl⟩;rw[List.take_add_one,hc',map_append];rfl
 ·rintro ys H' ⟨rfl,rfl⟩;have e:x.cps.toList.take x.cps.size=x.cps.toList:=take_of_length_le (by omega);rw[e];refine⟨by rw[length_map];omega,fun p hp=>?_⟩;exists⟨p,x.cps.toList.map fun c=>decide (c∈z.cps.toList),rfl,SqL.of (by rw[jh,map_map];rfl),?_⟩;have e2:(x.cps.toList.map fun c=>decide (c∈z.cps.toList)).all id=Ws.among x z:=by
   unfold Ws.among;rw[Bool.eq_iff_iff,all_eq_true,decide_eq_true_iff];constructor
   ·intro h c hc;exact of_decide_eq_true (h _ (mem_map.mpr ⟨c,hc,rfl⟩))
   ·intro h b hb;obtain⟨c,hc,rfl⟩:=mem_map.mp hb;exact decide_eq_true (h c hc)
  rw[e2];exact q _ (Pr.jw hp _)
theorem Xh(T:Txt K mg t)(qt:FnOk P w K mg base CX0 1 t.qu t.qv ["text","signs"] (Ws.zW)):FnOk P w K mg base CX0 2 t.qT t.qV ["text"] (Ws.zX):=by
 refine T.ZE.ok Xt (fun vs H Q E h=>?_) (fun cdv A outer s H vs Q E hr h=>?_)
 ·obtain⟨x,rfl,hx,q⟩:=h;rfl
 obtain⟨x,rfl,hx,q⟩:=h;refine⟨_,(jf (jx (j4Q (j2s Zq Zq jc (jt jB (by rfl) T.Jd jK (ja (pv 0) jd)) jc) (j4T (jk (qt.mono (by decide)) hr (by rfl) T.Yz T.Zg.kp T.Yq .nil pass0 (ja (pv 0) (ja (qh (by rfl) T.j0G T.j1f) jd))))))),?_⟩;refine jy (σ':=[some _]) rfl ?_;have sz:(200:Nat)<sizeLine:=by decide
 exists⟨_,_,rfl,⟨by omega,rfl⟩,?_⟩;exists iteD (fun c1=>?_) (fun c1=>?_)
 ·exists iteD (fun c2=>?_) (fun c2=>?_)
  ·exists⟨_,_,rfl,hx,fun H' g=>?_⟩;have e:Ws.isW x=Ws.among x Ws.lets:=by
    unfold Ws.isW;rw[decide_eq_true (show 1<=x.length/\x.length<=8 by omega),Bool.true_and]
   have q':=q H' g;rw[e]at q';exact q'
  ·have e:Ws.isW x=false:=by
    unfold Ws.isW;rw[decide_eq_false (show¬(1<=x.length/\x.length<=8) by omega),Bool.false_and]
   have q':=q H (Same.refl _);rw[e]at q';exact q'
 ·exists iteF ?_;have e:Ws.isW x=false:=by
   unfold Ws.isW;rw[decide_eq_false (show¬(1<=x.length/\x.length<=8) by omega),Bool.false_and]
  have q':=q H (Same.refl _);rw[e]at q';exact q'
theorem wY(T:Txt K mg t)(qt:FnOk P w K mg base CX0 1 t.qu t.qv ["text","signs"] (Ws.zW)):FnOk P w K mg base CX0 2 t.Ql t.Qp ["text","most"] (Ws.sp_number_of):=by
 refine T.Yu.ok Wm (fun vs H Q E h=>?_) (fun cdv A outer s H vs Q E hr h=>?_)
 ·cases h;subst_vars;rfl
 obtain⟨x,m,rfl,hx,q⟩:=h;refine⟨_,(je (jJ (PW.pt (Qu (Zs (yL Zq Zq jc (jt jB (by rfl) T.Jd jK (ja (pv 0) jd)) (pv 1))) (QU (Zs (kS (jk (qt.mono (by decide)) hr (by rfl) T.Yz T.Zg.kp T.Yq .nil pass0 (ja (pv 0) (ja (qh (by rfl) T.YE T.YJ) jd))))))))
   (jf (jx JG))
   jz)
  (je (jJ (PW.pt (Wf (jn JE (jm Yb (pv 0) jc) jv (nomark _)) (YX (jn YB (pv 0) jv (nomark _)))))
   (jf (jx JG))
   jz)
  (jf (jx (j7 KI (by rfl) T.j1C xC (ja (pv 0) jd)))))),?_⟩
 refine jy (σ':=[some _,some _]) rfl ?_;have sz:(200:Nat)<sizeLine:=by decide
 have no:∀H',Same H H'->¬((1<=x.length/\(x.length:Int)<=m)/\Ws.among x Ws.figs=true/\¬(x.cps.toList.head?=some 48/\x.length≠1))->Q .non H':=fun H' g h=>by
  have q':=q H' g;rw[Ws.j3z h]at q';exact q'
 exists⟨_,_,rfl,⟨by omega,rfl⟩,?_⟩;exists iteD (fun c1=>?_) (fun c1=>?_)
 ·exists iteN (fun c2=>?_) (fun c2=>?_)
  ·walk_at"g";exact no _ (Same.refl _) (fun h=>by omega)
  exists⟨_,_,rfl,hx,fun H' g=>?_⟩;walk_at"g";cases ha:Ws.among x Ws.figs with
  | false=>
   have ha':Ws.among x "0123456789"= false:=ha;rw[ha'];refine iteT ?_;walk_at"g";exact no _ g (fun h=>by rw[ha]at h;exact absurd h.2.1 Bool.false_ne_true)
  | true=>
   have ha':Ws.among x "0123456789"= true:=ha;rw[ha'];refine iteF ?_;walk_at"g";obtain⟨c,r,er,e0⟩:=Ws.j3k (x:=x) (by omega);have eh:x.cps.toList.head?=some c:=by rw[er];rfl
   refine⟨x,0,c,rfl,rfl,by omega,e0,?_⟩;walk_at"g";have last:¬(x.cps.toList.head?=some 48/\x.length≠1)->Q (.int (NumText.digitsVal x.cps.toList:Nat)) H':=fun h=>by
    have q':=q H' g;rw[Ws.j2l ⟨by omega,ha,h⟩]at q';exact q'
   refine iteD (fun c3=>?_) (fun c3=>?_)
   ·have c48:=Ws.j0n.mp c3;subst c48;exists iteN (fun c4=>?_) (fun c4=>?_)
    ·walk_at"g";exact no _ g (fun h=>h.2.2 ⟨eh,fun z=>c4 ((Ws.j0w eh).mpr z)⟩)
    ·walk_at"g";exact⟨_,_,rfl,Ws.intText ha (by omega) hx,by omega,last (fun h=>h.2 ((Ws.j0w eh).mp c4))⟩
   ·refine iteF ?_;walk_at"g";exact⟨_,_,rfl,Ws.intText ha (by omega) hx,by omega,last (fun h=>c3 (Ws.j0n.mpr (by rw[eh]at h;exact Option.some.inj h.1)))⟩
 ·exists iteT ?_;walk_at"g";exact no _ (Same.refl _) (fun h=>by omega)
theorem Xe(T:Txt K mg t)(Zj:FnOk P w K mg base CX0 2 t.Ql t.Qp ["text","most"] (Ws.sp_number_of)):FnOk P w K mg base CX0 3 t.QH t.QI ["text","least"] (sp_bounded):=by
 refine T.ZD.ok kW (fun vs H Q E h=>?_) (fun cdv A outer s H vs Q E hr h=>?_)
 ·cases h;subst_vars;rfl
 obtain⟨n,least,rfl,n0,n1,hl,q⟩:=h;refine⟨_,(je (jq (i:=2) kW.nd rfl (.inl rfl) (jk (Zj.mono (by decide)) hr (by rfl) T.WV T.Yu.kp T.Wz .nil pass0 (ja (pv 0) (ja jc jd))))
  (je (jJ (PW.pt (Qu (jn w4 (pv 2) JG (nomark _)) (QU (Zs (yL Zq Zq (pv 1) (pv 2) (jp qZ jc jc))))))
   (jf (jx JG))
   jz)
  (jf (jx (pv 2))))),?_⟩
 refine jy (σ':=[some _,some _,none]) rfl ?_;have ln:=Zy n0 n1;exists⟨tI n,19,rfl,by omega,fun H1 s1=>?_⟩;rw[Nm.j2m n0 n1];exists⟨rfl,_,rfl,?_⟩;refine iteB0 (by simp) ?_;exists iteD (fun _=>?_) (fun c=>absurd hl c);exists iteN (fun z=>absurd n1 z) (fun _=>?_);walk_at"g";exact q _ s1
theorem W6(T:Txt K mg t)(JW:FnOk P w K mg base CX0 2 t.qT t.qV ["text"] (Ws.zX))(qR:FnOk P w K mg base CX0 3 t.QH t.QI ["text","least"] (sp_bounded)):FnOk P w K mg base CX0 4 t.QM t.QP ["wanted","text","limbs","parts"] (sp_value_of):=by
 refine T.Y3.ok YC (fun vs H Q E h=>?_) (fun cdv A outer s H vs Q E hr h=>?_)
 ·cases h;subst_vars;rfl
 obtain⟨wanted,text,d1,d2,k1,k2,r,rfl,e1,e2,ok,q⟩:=h;refine⟨_,(je (jJ (jn JE (pv 0) jv (nomark _))
   (jf (jx (jk (qR.mono (by decide)) hr (by rfl) T.Yf T.ZD.kp T.yQ .nil pass0 (ja (pv 1) (ja jc jd)))))
   jz)
  (je (jJ (jn zw (pv 0) (Jg (ja jv (ja jv jd))) (by with_unfolding_all rfl))
   (jf (jx (jk (qR.mono (by decide)) hr (by rfl) T.Yf T.ZD.kp T.yQ .nil pass0 (ja (pv 1) (ja jc jd)))))
   jz)
  (je (jJ (jn JE (pv 0) jv (nomark _))
   (jf (jx (zx (kS (jk (JW.mono (by decide)) hr (by rfl) T.Yg T.ZE.kp T.yR .nil pass0 (ja (pv 1) jd))) (pv 1) JG)))
   jz)
  (je (jq (i:=4) YC.nd rfl (.inl rfl) (zx (jn JE (pv 0) jv (nomark _)) (pv 2) (pv 3)))
  (jf (jx (zx (Xp (Wa (jM hr) (pv 1) (pv 4))) (pv 1) JG))))))),?_⟩
 refine jy (σ':=[some _,some _,some _,some _,none]) rfl ?_;have sz:(200:Nat)<sizeLine:=by decide
 rcases ok with⟨rfl,n,rfl,n0,n1,rfl⟩ | ⟨hw,n,rfl,n0,n1,rfl⟩ | ⟨rfl,hw,hl,rfl⟩ | ⟨rfl,hs,rfl⟩ | ⟨rfl,hs,rfl⟩
 ·exists iteE1 ?_;walk_at"g";exact⟨n,0,rfl,n0,n1,n0,fun H1 s1=>q _ s1⟩
 ·have key:∀x:Str,x = "beats"\/x = "times"->decide (x=("height" : Str))=false/\inV (.str x) [.str "beats",.str "times"]=true:=fun x h=>by
   rcases h with rfl | rfl<;>exact⟨by decide +kernel,by decide +kernel⟩
  obtain⟨c1,c2⟩:=key wanted hw;exists iteB0 c1 ?_;exists⟨(by show 2<=sizeLine;omega),?_⟩;walk_at"f p hp H1 s1 t1";refine⟨p,_,rfl,.inr (SqT.of t1),rfl,rfl,?_⟩;exists iteB1 c2 ?_;walk_at"g";exact⟨n,1,rfl,by omega,n1,n0,fun H2 s2=>q _ (s1.trans s2)⟩
 ·exists iteE0 ?_;exists⟨(by show 2<=sizeLine;omega),?_⟩;walk_at"f p hp H1 s1 t1";refine⟨p,_,rfl,.inr (SqT.of t1),rfl,rfl,?_⟩;exists iteE0 ?_;exists iteE1 ?_;exists⟨text,rfl,hl,fun H2 s2=>?_⟩;rw[hw];exists iteT ?_;walk_at"g";exact q _ (s1.trans s2)
 ·exists iteE0 ?_;exists⟨(by show 2<=sizeLine;omega),?_⟩;walk_at"f p hp H1 s1 t1";refine⟨p,_,rfl,.inr (SqT.of t1),rfl,rfl,?_⟩;exists iteE0 ?_;exists iteE0 ?_;exists iteE1 ?_;exists⟨d1,_,rfl,DGet.k (k:=Sum.inr text) (s1 _ _ e1),?_⟩;exists iteB1 hs ?_;walk_at"g";exact q _ s1
 ·exists iteE0 ?_;exists⟨(by show 2<=sizeLine;omega),?_⟩;walk_at"f p hp H1 s1 t1";refine⟨p,_,rfl,.inr (SqT.of t1),rfl,rfl,?_⟩;exists iteE0 ?_;exists iteE0 ?_;exists iteE0 ?_;exists⟨d2,_,rfl,DGet.k (k:=Sum.inr text) (s1 _ _ e2),?_⟩;exists iteB1 hs ?_;walk_at"g";exact q _ s1
theorem Kr(T:Txt K mg t):FnOk P w K mg base CX0 1 t.qD t.qH ["kind","words","parts"] (sp_names_form):=by
 refine T.yq.ok Kt (fun vs H Q E h=>?_) (fun cdv A outer s H vs Q E hr h=>?_)
 ·cases h;subst_vars;rfl
 obtain⟨kind,l,d,ws,kvs,rfl,mk,el,ed,hk,q⟩:=h;refine⟨_,(je (jJ (Zs (yL Zq Zq (jm X6 (qh (v:=.ref t.JD) (by rfl) T.Y7 rfl) (pv 0)) (jt jB (by rfl) T.Jd jK (ja (pv 1) jd)) (jm X6 (qh (v:=.ref t.Jh) (by rfl) T.Qy rfl) (pv 0))))
   (jf (jx JG))
   jz)
  (je (jJ (Zs (kS (jt (y3 rfl) (by rfl) T.j1B xB (ja (j9 (ow:=["word"]) (ci:=[2]) rfl (CompScope.of (defScope QE) ["kind","words","parts"] rfl rfl (by decide +kernel)) (j4 (by decide)) (jL (pv 1)) (fun _ _ _ _ _=>⟨(jr (i:=0) (jS ["kind","words","parts"] rfl (by decide +kernel)) rfl (.inl rfl)),Jy,(j4S (Wa (jM hr) (pv 0) (pv 1)))⟩)) jd))))
   (jf (jx JG))
   jz)
  (jf (jx (Jg (ja (pv 0) (ja (j7 qc (by rfl) T.yv Zl (ja (pv 1) jd)) jd))))))),?_⟩
 refine jy (σ':=[some _,some _,some _]) rfl ?_;have sz:(200:Nat)<sizeLine:=by decide
 obtain⟨lo,hi,t1,t2,b1,b2,b8⟩:=mk.tabs;exists⟨_,kind,_,lo,rfl,rfl,T.ku,t1,?_⟩;exists⟨_,_,rfl,.inl ⟨_,SqL.of el,rfl⟩,?_⟩;rw[length_map];exists iteD (fun _=>?_) (fun c=>absurd b1 c);exists⟨_,kind,_,hi,rfl,rfl,T.jX,t2,?_⟩;exists iteN (fun z=>absurd b2 z) (fun _=>?_);exists⟨l,rfl,⟨_,SqL.of el⟩,?_⟩;refine jN (xs:=ws.map V.str) (fun i ys H'=>ys=(List.replicate i true).map V.bl/\H=H') ⟨rfl,rfl⟩ ?_ ?_ ?_
 ·rintro i ys H' _ ⟨rfl,rfl⟩;exact SqL.of el
 ·rintro i v ys H' hv ⟨rfl,rfl⟩;rw[List.getElem?_map]at hv;obtain⟨x,hx,rfl⟩:=Option.map_eq_some_iff.mp hv;have hi:=(List.getElem?_eq_some_iff.mp hx).1;refine j8 (σ':=[none,some _]) rfl ?_;exists iteT ?_;exists⟨d,_,rfl,DGet.k (k:=Sum.inr x) ed,?_⟩;rw[hk x (List.mem_of_getElem? hx)];refine⟨by rw[length_map,length_replicate];omega,?_,rfl⟩;rw[List.replicate_succ',map_append];rfl
 rintro ys H' ⟨rfl,rfl⟩;refine⟨by rw[length_map,length_replicate,length_map];omega,?_⟩;walk_at"f p hp H1 s1 e1";exists⟨p,_,rfl,SqL.of e1,?_⟩;rw[show(List.replicate (ws.map V.str).length true).all id=true by simp];exists iteF ?_;exists⟨l,_,rfl,.inl ⟨SqL.of (s1 _ _ el),?_⟩⟩;walk_at"f 2 e";exists⟨(by show 2<=sizeLine;omega),?_⟩;walk_at"f 3 e";exact q p3 p2 H3 (s1.trans (s2.trans s3)) e3 (s3 _ _ e2)
theorem Xg(T:Txt K mg t)(Z8:FnOk P w K mg base CX0 4 t.QM t.QP ["wanted","text","limbs","parts"] (sp_value_of))(zL:FnOk P w K mg base CX0 1 t.qD t.qH ["kind","words","parts"] (sp_names_form)):FnOk P w K mg base CX0 5 t.zh t.zq ["kind","words","limbs","parts"] (sp_form_of):=by
 refine T.KA.ok kY (fun vs H Q E h=>?_) (fun cdv A outer s H vs Q E hr h=>?_)
 ·cases h;subst_vars;rfl
 obtain⟨f,kind,ws,l,d1,d2,k1,k2,rfl,ef,el,e1,e2,ok,q⟩:=h;refine⟨_,(je (jJ (jn Xl (pv 0) (qh (v:=.ref t.Jh) (by rfl) T.Qy rfl) (by with_unfolding_all rfl))
   (jf (jx (jk (zL.mono (by decide)) hr (by rfl) T.wQ T.yq.kp T.wk .nil pass0 (ja (pv 0) (ja (pv 1) (ja (pv 3) jd))))))
   jz)
  (je (jJ (PW.pt (Qu (jn j17 (pv 0) (qh (v:=.ref t.Q4) (by rfl) T.wy rfl) (by with_unfolding_all rfl)) (QU (jn YB (jt jB (by rfl) T.Jd jK (ja (pv 1) jd)) (jt jB (by rfl) T.Jd jK (ja (jm X7 (qh (v:=.ref t.Q4) (by rfl) T.wy rfl) (pv 0)) jd)) (nomark _)))))
   (jf (jx JG))
   jz)
  (je (yK (i:=4) (ow:=["wanted","word"]) (ci:=[2,3]) rfl (CompScope.of (defScope ZS) ["kind","words","limbs","parts","values"] rfl rfl (by decide +kernel)) (YR (by decide) (by decide)) kY.nd rfl (.inl rfl) (j3H (by rfl) T.XM (ja (jm X7 (qh (v:=.ref t.Q4) (by rfl) T.wy rfl) (pv 0)) (ja (pv 1) jd))) (fun _ _ _ _ _=>⟨(qO rfl (jC (jr (i:=0) (jS ["kind","words","limbs","parts","values"] rfl (by decide +kernel)) rfl (.inl rfl)) (jC (jr (i:=1) (jS ["kind","words","limbs","parts","values"] rfl (by decide +kernel)) rfl (.inl rfl)) JP))),Jy,(jk (Z8.mono (by decide)) hr (by rfl) T.xZ T.Y3.kp T.xv .nil pass0 (ja (pv 0) (ja (pv 1) (ja (pv 2) (ja (pv 3) jd)))))⟩))
  (jf (jx (zx (jn zw JG (pv 4) (by with_unfolding_all rfl)) JG (jp j0d (Jg (ja (pv 0) jd)) (j7 qc (by rfl) T.yv Zl (ja (pv 4) jd))))))))),?_⟩
 refine jy (σ':=[some _,some _,some _,some _,none]) rfl ?_;have sz:(200:Nat)<sizeLine:=by decide
 rcases xN ok ef with⟨hk,mk,hn,mf⟩ | ⟨hk,hk2,wants,rs,O⟩
 ·exists⟨_,_,_,rfl,rfl,T.jX,?_⟩;exists iteB1 hk ?_;walk_at"g";exact⟨kind,l,d2,ws,k2,rfl,mk,el,e2,hn,fun p b H1 s1 t1 t2=>q p H1 s1 (mf _ _ _ t1 t2)⟩
 ·obtain⟨la,lr⟩:=O.v.len;have l3:=O.l;exists⟨_,_,_,rfl,rfl,T.jX,?_⟩;exists iteB0 hk ?_;exists⟨_,_,_,rfl,rfl,T.wI,?_⟩;exists iteB0 (by show(!PyProof.Rows.KTD.inKeys kind FT)=false;rw[hk2];rfl) ?_;exists⟨_,_,rfl,.inl ⟨_,SqL.of el,rfl⟩,?_⟩;exists⟨_,kind,_,wants,rfl,rfl,T.wI,O.d,by omega,fun b hb=>?_⟩;exists⟨_,_,rfl,.inr ⟨_,hb _,rfl⟩,?_⟩;rw[length_map,length_map];exists iteN (fun z=>absurd (by omega) z) (fun _=>?_);exists⟨_,kind,_,wants,rfl,rfl,T.wI,O.d,by omega,fun b hb=>?_⟩;exists⟨b,l,_,_,rfl,hb _,SqL.of el,?_⟩;refine j0M (xs:=wants.map V.str) (zs:=ws.map V.str) (fun i ys H'=>ys=rs.take i/\Same H H') (by rw[length_map,length_map];exact la) ⟨rfl,Same.refl _⟩ ?_ ?_ ?_
  ·rintro i ys H' _ ⟨rfl,s1⟩;exact⟨hb _,SqL.of (s1 _ _ el)⟩
  ·rintro i u v ys H' P H'' hu hv ⟨rfl,s1⟩ s2 tP;rw[List.getElem?_map]at hu hv;obtain⟨a,ha,rfl⟩:=Option.map_eq_some_iff.mp hu;obtain⟨w,hw,rfl⟩:=Option.map_eq_some_iff.mp hv;obtain⟨r,hr',vo⟩:=O.v.get ha hw;have hi:=(List.getElem?_eq_some_iff.mp hr').1;have s12:=s1.trans s2;refine j8 (σ':=[none,none,some _,some _]) rfl ?_;refine qP (SqT.of tP) ?_;exists iteT ?_;exists⟨a,w,d1,d2,k1,k2,r,rfl,s12 _ _ e1,s12 _ _ e2,vo,fun H3 s3=>?_⟩;exact⟨by rw[length_take];omega,(take_snoc hr').symm,s12.trans s3⟩
  rintro ys H1 ⟨rfl,s1⟩;rw[length_map,show wants.length=rs.length by omega,take_length];refine⟨by omega,?_⟩;walk_at"f p hp H2 s2 t2";exists⟨p,_,rfl,.inl (SqL.of t2),rfl,O.fl,?_⟩;exists iteB0 O.nn ?_;exists⟨(by show 1<=sizeLine;omega),?_⟩;walk_at"f 3 t";exists⟨p,_,rfl,.inl ⟨SqL.of (s3 _ _ t2),?_⟩⟩;walk_at"f 4 t";exists⟨p3,p4,_,_,rfl,rfl,SqT.of (s4 _ _ t3),SqT.of t4,by simp,by show 1+rs.length<=sizeLine;omega,fun z=>absurd z O.n,fun _=>?_⟩;walk_at"f 5 t";exact q p5 H5 (s1.trans (s2.trans (s3.trans (s4.trans s5)))) (O.f _ _ t5)
theorem Xk(T:Txt K mg t)(JW:FnOk P w K mg base CX0 2 t.qT t.qV ["text"] (Ws.zX))(yV:FnOk P w K mg base CX0 5 t.zh t.zq ["kind","words","limbs","parts"] (sp_form_of)):FnOk P w K mg base CX0 6 t.zk t.zv ["words","limbs","parts"] (sp_part_of):=by
 refine T.KC.ok Kb (fun vs H Q E h=>?_) (fun cdv A outer s H vs Q E hr h=>?_)
 ·cases h;subst_vars;rfl
 obtain⟨f,x,l,d1,d2,k1,k2,rfl,el,e1,e2,ok,wx,lx,nx,q⟩:=h;refine⟨_,(je (jJ (PW.pt (Qu (jn W8 (jt jB (by rfl) T.Jd jK (ja (pv 0) jd)) jc (nomark _)) (Qu (jn YB (jm ju (pv 0) jc) jv (nomark _)) (Qu (Zs (kS (jk (JW.mono (by decide)) hr (by rfl) T.Yg T.ZE.kp T.yR .nil pass0 (ja (jm ju (pv 0) jc) jd)))) (QU (Xp (Wa (jM hr) (jm ju (pv 0) jc) (pv 2))))))))
   (jf (jx JG))
   jz)
  (je (jq (i:=3) Kb.nd rfl (.inl rfl) (jk (yV.mono (by decide)) hr (by rfl) T.j0W T.KA.kp T.j0z .nil pass0 (ja (jm ju (pv 0) jc) (ja (Jm QG (pv 0) (j5 jc) qi) (ja (pv 1) (ja (pv 2) jd))))))
  (jf (jx (zx (jn w4 (pv 3) JG (nomark _)) JG (Jg (ja (jm ju (pv 0) jc) (ja (pv 3) jd)))))))),?_⟩
 refine jy (σ':=[some _,some _,some _,none]) rfl ?_;have sz:(200:Nat)<sizeLine:=by decide
 obtain⟨kind,ws,ew,w1⟩:=WJ ok;rw[ew]at el;exists⟨_,_,rfl,.inl ⟨_,SqL.of el,rfl⟩,?_⟩;rw[length_map,length_cons,length_cons,length_cons];exists iteD (fun c=>absurd c (by omega)) (fun _=>?_);exists ixLm (SqL.of el) (Jn (j:=0) rfl) ?_;exists iteE0 ?_;exists ixLm (SqL.of el) (Jn (j:=1) rfl) ?_;exists⟨x,rfl,lx,fun H1 s1=>?_⟩;rw[wx];exists iteF ?_;exists ixLm (SqL.of (s1 _ _ el)) (Jn (j:=1) rfl) ?_;exists⟨d2,_,rfl,DGet.k (k:=Sum.inr x) (s1 _ _ e2),?_⟩;rw[nx];exists iteF ?_;exists ixLm (SqL.of (s1 _ _ el)) (Jn (j:=2) rfl) ?_;exists⟨l,_,rfl,SqL.of (s1 _ _ el),?_⟩;walk_at"f 2 t";walk_at"g";have s12:=s1.trans s2;have cut:cutV ((("part" : Str)::x::kind::ws).map V.str) (some 3) none=ws.map V.str:=by
  unfold cutV;simp[HT.sIx];exact take_of_length_le (by simp)
 rw[cut]at t2;refine⟨f,kind,ws,p2,d1,d2,k1,k2,rfl,ew,t2,s12 _ _ e1,s12 _ _ e2,ok,fun p3 H3 s3 h3=>?_⟩;have s13:=s12.trans s3;exists⟨rfl,_,rfl,?_⟩;refine iteB0 (by simp) ?_;exists ixLm (SqL.of (s13 _ _ el)) (Jn (j:=1) rfl) ?_;exists⟨(by show 2<=sizeLine;omega),?_⟩;walk_at"f 4 t";exact q p4 H4 (s13.trans s4) ⟨p3,t4,FormAt.same s4 h3⟩
theorem W4(T:Txt K mg t)(JW:FnOk P w K mg base CX0 2 t.qT t.qV ["text"] (Ws.zX))(qR:FnOk P w K mg base CX0 3 t.QH t.QI ["text","least"] (sp_bounded)):FnOk P w K mg base CX0 4 t.QL t.QO ["words"] (sp_limbs_of):=by
 refine T.Y2.ok Zx (fun vs H Q E h=>?_) (fun cdv A outer s H vs Q E hr h=>?_)
 ·cases h;subst_vars;rfl
 obtain⟨l,ls,rfl,el,ok,q⟩:=h;refine⟨_,(je (jq (i:=1) Zx.nd rfl (.inl rfl) (j0f (pv 0) (j5 jc) (j5 jc)))
  (je (yK (i:=2) (ow:=["word"]) (ci:=[]) rfl (CompScope.of (defScope QW) ["words","names","heights"] rfl rfl (by decide +kernel)) (j4 (by decide)) Zx.nd rfl (.inl rfl) (jL (j0f (pv 0) (j5 jc) (j5 jc))) (fun _ _ _ _ _=>⟨(jr (i:=0) (jS ["words","names","heights"] rfl (by decide +kernel)) rfl (.inl rfl)),Jy,(jk (qR.mono (by decide)) hr (by rfl) T.Yf T.ZD.kp T.yQ .nil pass0 (ja (pv 0) (ja jc jd)))⟩))
  (je (jJ (PW.pt (Qu (jn YB (jm ju (pv 0) jc) jv (nomark _)) (Qu (Zs (yL Zq Zq jc (jt jB (by rfl) T.Jd jK (ja (pv 1) jd)) jc)) (Qu (jn YB (jt jB (by rfl) T.Jd jK (ja (pv 2) jd)) (jt jB (by rfl) T.Jd jK (ja (pv 1) jd)) (nomark _)) (QU (jn zw JG (pv 2) (by with_unfolding_all rfl)))))))
   (jf (jx JG))
   jz)
  (je (jJ (PW.pt (Qu (Zs (kS (jt (y3 rfl) (by rfl) T.j1B xB (ja (j9 (ow:=["name"]) (ci:=[]) rfl (CompScope.of (defScope QW) ["words","names","heights"] rfl rfl (by decide +kernel)) (j4 (by decide)) (jL (pv 1)) (fun _ _ _ _ _=>⟨(jr (i:=0) (jS ["words","names","heights"] rfl (by decide +kernel)) rfl (.inl rfl)),Jy,(jk (JW.mono (by decide)) hr (by rfl) T.Yg T.ZE.kp T.yR .nil pass0 (ja (pv 0) jd))⟩)) jd)))) (QU (jn YB (j19 rfl (by rfl) T.Jd (by rfl) T.j56 (pv 1)) (jt jB (by rfl) T.Jd jK (ja (pv 1) jd)) (nomark _)))))
   (jf (jx JG))
   jz)
  (jf (jx (Xn rfl (by rfl) T.y0 (by rfl) T.XM (ja (pv 1) (ja (pv 2) jd))))))))),?_⟩
 refine jy (σ':=[some _,none,none]) rfl ?_;have sz:(200:Nat)<sizeLine:=by decide
 obtain⟨o1,o8,nd,ow⟩:=ok;have fl:(ls.flatMap limbW).length=2*ls.length:=by rw[(yF ow).1]
 exists⟨rfl,l,_,1,rfl,by rw[length_map,length_cons];omega,rfl,SqL.of el,?_⟩;walk_at"f 1 t";have c1:ev (((("limbs" : Str)::ls.flatMap limbW).map V.str).drop 1)=(ls.map (·.1)).map V.str:=X2 ls;have c2:ev (((("limbs" : Str)::ls.flatMap limbW).map V.str).drop 2)=(ls.map fun p=>tI p.2).map V.str:=X1 ls;rw[c1]at t1;exists⟨rfl,l,_,2,rfl,by rw[length_map,length_cons];omega,rfl,SqL.of (s1 _ _ el),?_⟩;walk_at"f 2 t";rw[c2]at t2;have s12:=s1.trans s2;exists⟨p2,rfl,⟨_,SqL.of t2⟩,?_⟩;refine jN (xs:=(ls.map fun p=>tI p.2).map V.str) (fun i ys H'=>ys=((ls.take i).map (·.2)).map V.int/\Same H2 H') ⟨rfl,Same.refl _⟩ ?_ ?_ ?_
 ·rintro i ys H' _ ⟨rfl,s3⟩;exact SqL.of (s3 _ _ t2)
 ·rintro i v ys H' hv ⟨rfl,s3⟩;rw[List.getElem?_map,List.getElem?_map]at hv;obtain⟨x,hx,rfl⟩:=Option.map_eq_some_iff.mp hv;obtain⟨p,hp,rfl⟩:=Option.map_eq_some_iff.mp hx;have hi:=(List.getElem?_eq_some_iff.mp hp).1;obtain⟨_,h0,h1⟩:=ow p (List.mem_of_getElem? hp);refine j8 (σ':=[none]) rfl ?_;exists iteT ?_;exists⟨p.2,0,rfl,h0,h1,h0,fun H4 s4=>?_⟩;refine⟨by rw[length_map,length_map,length_take];omega,?_,s3.trans s4⟩;rw[take_snoc hp,map_append,map_append];rfl
 rintro ys H3 ⟨rfl,s3⟩;rw[show((ls.map fun p=>tI p.2).map V.str).length=ls.length by rw[length_map,length_map],take_length];refine⟨by rw[length_map,length_map];omega,?_⟩;walk_at"f 4 t";have s34:=s3.trans s4;have s04:=s12.trans s34;have e1:=s34 _ _ (s2 _ _ t1);exists ixLm (SqL.of (s04 _ _ el)) (Jn (j:=0) rfl) ?_;exists iteE0 ?_;exists⟨_,_,rfl,.inl ⟨_,SqL.of e1,rfl⟩,?_⟩;rw[length_map,length_map];exists iteD (fun _=>?_) (fun c=>absurd (by omega) c);exists iteN (fun z=>absurd (by omega) z) (fun _=>?_);exists⟨_,_,rfl,.inl ⟨_,SqL.of t4,rfl⟩,?_⟩;exists⟨_,_,rfl,.inl ⟨_,SqL.of e1,rfl⟩,?_⟩;rw[length_map,length_map,length_map,length_map];exists iteN (fun z=>absurd rfl z) (fun _=>?_);exists⟨p4,_,rfl,.inl (SqL.of t4),rfl,?_,?_⟩
 ·rw[all_eq_true];intro x hx;obtain⟨i,_,rfl⟩:=mem_map.mp hx;rfl
 exists iteB0 ?_ ?_
 ·show List.any _ _=false;rw[List.any_eq_false];intro x hx;obtain⟨i,_,rfl⟩:=mem_map.mp hx;exact Bool.false_ne_true
 exists⟨p1,rfl,⟨_,SqL.of e1⟩,?_⟩;refine jN (xs:=(ls.map (·.1)).map V.str) (fun i ys H'=>ys=(List.replicate i true).map V.bl/\Same H4 H') ⟨rfl,Same.refl _⟩ ?_ ?_ ?_
 ·rintro i ys H' _ ⟨rfl,s5⟩;exact SqL.of (s5 _ _ e1)
 ·rintro i v ys H' hv ⟨rfl,s5⟩;rw[List.getElem?_map,List.getElem?_map]at hv;obtain⟨x,hx,rfl⟩:=Option.map_eq_some_iff.mp hv;obtain⟨p,hp,rfl⟩:=Option.map_eq_some_iff.mp hx;have hi:=(List.getElem?_eq_some_iff.mp hp).1;have w1:=(ow p (List.mem_of_getElem? hp)).1;refine j8 (σ':=[none]) rfl ?_;exists iteT ?_;exists⟨p.1,rfl,Nat.le_trans (KY w1) (by decide),fun H6 s6=>?_⟩;rw[w1];refine⟨by rw[length_map,length_replicate];omega,?_,s5.trans s6⟩;rw[List.replicate_succ',map_append];rfl
 rintro ys H5 ⟨rfl,s5⟩;refine⟨by rw[length_map,length_replicate,length_map,length_map];omega,?_⟩;walk_at"f 6 t";have s46:=s5.trans s6;exists⟨p6,_,rfl,SqL.of t6,?_⟩;rw[show(List.replicate ((ls.map (·.1)).map V.str).length true).all id=true by simp];exists iteF ?_;exists⟨p1,ls.map (·.1),rfl,SqL.of (s46 _ _ e1),nd,by rw[length_map];omega,?_⟩;exists⟨_,_,rfl,.inl ⟨_,SqL.of (s46 _ _ e1),rfl⟩,?_⟩;exists iteN (fun z=>absurd (by simp) z) (fun _=>?_);exists⟨p1,p4,_,_,rfl,SqL.of (s46 _ _ e1),SqL.of (s46 _ _ t4),by rw[length_map,length_map,length_map,length_map],fun c as H7 s7 hc tc la pr=>?_⟩;rw[length_map,length_map]at la;refine q c as H7 (s04.trans (s46.trans s7)) (none_of (s04.trans s46) hc) tc ⟨la,fun i a x ha hx=>?_⟩;exact pr i a _ _ ha (by rw[List.getElem?_map,List.getElem?_map,hx];rfl) (by rw[List.getElem?_map,List.getElem?_map,hx];rfl)
theorem j3E(T:Txt K mg t)(jP:FnOk P w K mg base CX0 1 t.Jq t.Jr ["named"] (sp_numbers_of))(yX:FnOk P w K mg base CX0 6 t.zk t.zv ["words","limbs","parts"] (sp_part_of))(Z7:FnOk P w K mg base CX0 4 t.QL t.QO ["words"] (sp_limbs_of)):FnOk P w K mg base CX0 7 t.Y6 t.kg ["text"] (sp_read):=by
 refine T.j1w.ok QF (fun vs H Q E h=>?_) (fun cdv A outer s H vs Q E hr h=>?_)
 ·cases h;subst_vars;rfl
 obtain⟨ls,ps,rfl,ok,q⟩:=h;refine⟨_,(je (jq (i:=1) QF.nd rfl (.inl rfl) (JF PySem.F.plainAttrs_str PySem.F.slot_str_split PySem.F.type_str_split kE (pv 0) (ja jv jd)))
  (je (jq (i:=2) QF.nd rfl (.inl rfl) (jk (Z7.mono (by decide)) hr (by rfl) T.xY T.Y2.kp T.xu .nil pass0 (ja (JF PySem.F.plainAttrs_str PySem.F.slot_str_split PySem.F.type_str_split kE (jm ju (pv 1) jc) (ja jv jd)) jd)))
  (je (jJ (jn w4 (pv 2) JG (nomark _))
   (jf zB)
   jz)
  (je (jJ (jn JE (jt jB (by rfl) T.Jd jK (ja (pv 1) jd)) jc (nomark _))
   (jf zB)
   jz)
  (je (jq (i:=3) QF.nd rfl (.inl rfl) (jk (jP.mono (by decide)) hr (by rfl) T.Qz T.qz.kp T.Qv .nil pass0 (ja (pv 2) jd)))
  (je (jq (i:=4) QF.nd rfl (.inl rfl) Zr)
  (je (jq (i:=5) QF.nd rfl (.inl rfl) (jU jd))
  (je (Jf PassesOwn.never rfl (j2u (by rfl) T.Qm (ja (Jm QG (pv 1) (j5 jc) qi) jd) jc) (qO rfl (jC (jr (i:=6) QF.nd rfl (.inl rfl)) (jC (jr (i:=7) QF.nd rfl (.inl rfl)) JP)))
   (je (jq (i:=8) QF.nd rfl (.inl rfl) (jk (yX.mono (by decide)) hr (by rfl) T.j0Y T.KC.kp T.j0B .nil pass0 (ja (JF PySem.F.plainAttrs_str PySem.F.slot_str_split PySem.F.type_str_split kE (pv 7) (ja jv jd)) (ja (pv 3) (ja (pv 4) jd)))))
   (je (jJ (PW.pt (Qu (jn w4 (pv 8) JG (nomark _)) (QU (jn yJ (pv 6) jc (nomark _)))))
    (jf zB)
    jz)
   (je (ZR (jM hr) (pv 4) (jm jA (pv 8) jc) kQ rfl)
   (jf (jD (JF PySem.F.plainAttrs_list PySem.F.slot_list_append PySem.F.type_list_append jR (pv 5) (ja (pv 8) jd))))))))
  (jf (jx (Jg (ja (pv 2) (ja (pv 5) jd))))))))))))),?_⟩
 refine jy (σ':=[some _,none,none,none,none,none,none,none,none]) rfl ?_;have sz:(100000:Nat)<sizeLine:=by decide
 obtain⟨okl,B,p1,p60,pn,okf⟩:=ok;have nlE:(Str.ofString "\n")=⟨#[10]⟩:=by decide +kernel
 have blE:(Str.ofString " ")=⟨#[32]⟩:=by decide +kernel
 have rl:(rowsOf ls ps).length=ps.length+1:=by show(_::_).length=_;rw[length_cons,length_map]
 exists⟨rfl,?_⟩;walk_at"g";obtain⟨v1,w1,u1,f1,f2,f3,f4⟩:=Ke (c:=10) (ys:=rowsOf ls ps) nlE rfl (by omega) (j1H B) (by omega);refine⟨_,10,v1,w1,u1,rfl,by rw[nlE],by decide,f1,f2,f3,Nat.le_trans (j2I B) (by omega),?_⟩;rw[f4];walk_at"f r1 hr1 H1 s1 t1";exists ixLm (SqL.of t1) (Jn (j:=0) rfl) ?_;exists⟨rfl,?_⟩;walk_at"g";have lw:=(yF okl.2.2.2).1;have ll:=okl.2.1;have l1:=okl.1;obtain⟨v2,w2,u2,g1,g2,g3,g4⟩:=Ke (c:=32) (z:=rowL ls) (ys:=("limbs" : Str)::ls.flatMap limbW) blE rfl (by rw[length_cons];omega) (fun y hy=>no32 (WD okl.2.2.2 y hy)) (by rw[length_cons];omega);refine⟨_,32,v2,w2,u2,rfl,by rw[blE],by decide,g1,g2,g3,Nat.le_trans (xa ll okl.2.2.2) (by omega),?_⟩;rw[g4];walk_at"f r2 hr2 H2 s2 t2";exists⟨r2,ls,rfl,t2,okl,fun pl las H3 s3 hpl t3 la=>?_⟩;have s12:=s1.trans s2;have s13:=s12.trans s3;exists⟨rfl,_,rfl,?_⟩;refine iteB0 (by simp) ?_;walk_at"g";have e1:=s3 _ _ (s2 _ _ t1);refine⟨_,_,rfl,.inl ⟨_,SqL.of e1,rfl⟩,?_⟩;rw[length_map,rl];exists iteD (fun c=>absurd c (by omega)) (fun _=>?_);exists⟨pl,las,ls.map (·.1),rfl,t3,by rw[la.1,length_map],fun i a x ha hx=>?_,okl.2.2.1,by rw[length_map];omega,fun d1 H4 s4 hd1 t4=>?_⟩
 ·rw[List.getElem?_map]at hx;obtain⟨p,hp,rfl⟩:=Option.map_eq_some_iff.mp hx;exact⟨_,la.2 i a p ha hp⟩
 walk_at"g";walk_at"f d2 hd2 H5 s5 t5";exists⟨Nat.zero_le _,?_⟩;walk_at"f pp hpp H6 s6 t6";have s35:=s4.trans s5;have s36:=s35.trans s6;have nd2p:d2≠pp:=jg t5 hpp;exists⟨r1,_,rfl,SqL.of (s36 _ _ e1),?_⟩;walk_at"f r7 hr7 H7 s7 t7";have cut:cutV ((rowsOf ls ps).map V.str) (some 1) none=(ps.map rowP).map V.str:=j1L;rw[cut]at t7;exists⟨rfl,r7,_,rfl,SqL.of t7,?_⟩;have n7d:r7≠d2:=(jg (s6 _ _ t5) hr7).symm;have n7p:r7≠pp:=(jg t6 hr7).symm;have t57:=s7 _ _ (s6 _ _ t5);have t67:=s7 _ _ t6;refine j0P (xs:=(ps.map rowP).map V.str) (fun i σ H'=>∃(pas:List Addr) (o6 o7 o8:Option V),σ=[some (.str (Txt.join "\n" (rowsOf ls ps))),some (.ref r1),some (.ref pl),some (.ref d1),some (.ref d2),some (.ref pp),o6,o7,o8]/\Same H4 H'/\H' r7=some (.lst ((ps.map rowP).map V.str))/\
  H' d2=some (.dK (tabB ((ps.take i).map (·.1))))/\H' pp=some (.lst (pas.map V.ref))/\All2 (PartAt H') pas (ps.take i)) ⟨[],_,_,_,rfl,s5.trans (s6.trans s7),t7,t57,t67,.nil⟩ ?_ ?_ ?_
 ·rintro i σ H' _ ⟨pas,o6,o7,o8,rfl,sm,er,ed,ep,ap⟩;exact SqL.of er
 ·rintro i v σ H' P H'' hv ⟨pas,o6,o7,o8,rfl,sm,er,ed,ep,ap⟩ sP tP;rw[List.getElem?_map,List.getElem?_map]at hv;obtain⟨x,hx,rfl⟩:=Option.map_eq_some_iff.mp hv;obtain⟨p,hp,rfl⟩:=Option.map_eq_some_iff.mp hx;have hi:=(List.getElem?_eq_some_iff.mp hp).1;have hm:=List.mem_of_getElem? hp;obtain⟨pw,pf⟩:=B.pn p hm;have fm:=okf i p hp;obtain⟨kind,ws,ew,w1⟩:=WJ fm;have f9:=(wE pf).1;have s2P:=sm.trans sP;refine qP (SqT.of tP) ?_;exists⟨rfl,?_⟩;walk_at"g";obtain⟨v3,w3,u3,g1,g2,g3,g4⟩:=Ke (c:=32) (z:=rowP p) (ys:=("part" : Str)::p.1::fmW p.2) blE rfl (by rw[length_cons,length_cons];omega) (fun y hy=>no32 (WE pw pf y hy)) (by rw[length_cons,length_cons];omega);refine⟨_,32,v3,w3,u3,rfl,by rw[blE],by decide,g1,g2,g3,Nat.le_trans (j2H B hm) (by omega),?_⟩;rw[g4];walk_at"f r8 hr8 H8 s8 t8";have sP8:=sP.trans s8;walk_at"g";have nin:p.1∉(ps.take i).map (·.1):=fun z=>by
   obtain⟨y,hy,e⟩:=mem_map.mp z;obtain⟨j,hj,e'⟩:=mem_iff_getElem.mp hy;rw[getElem_take]at e';rw[length_take]at hj;have ei:ps[i]'hi=p:=(List.getElem?_eq_some_iff.mp hp).2;have:=pairwise_iff_getElem.mp pn j i (by rw[length_map];omega) (by rw[length_map];exact hi) (by omega);rw[getElem_map,getElem_map,ei,e']at this;exact this e
  refine⟨p.2,p.1,r8,d1,d2,_,_,rfl,t8,s8 _ _ (s2P _ _ t4),sP8 _ _ ed,fm,pw,Nat.le_trans (KY pw) (by decide),K8 nin,fun a H9 s9 hP=>?_⟩;have sP9:=sP8.trans s9;exists⟨rfl,_,rfl,?_⟩;refine iteB0 (by simp) ?_;exists iteD (fun c=>absurd c (by omega)) (fun _=>?_);walk_at"g";obtain⟨fa,ha,hf⟩:=id hP;refine ixTm (SqT.of ha) (at0) ?_;have ed9:=sP9 _ _ ed;have ep9:=sP9 _ _ ep;have tl:((ps.take i).map (·.1)).length=i:=by rw[length_map,length_take];omega
  refine⟨d2,_,rfl,DPut.k (k:=Sum.inr p.1) ed9 (by show(List.map _ _).length<_;rw[length_map,tl];omega),?_⟩;rw[j2T nin];generalize eX:upd H9 d2 _=H10;have td10:=j1z eX;have k10:∀b u,b≠d2->H9 b=some u->H10 b=some u:=fun b u hb h=>by rw[<-eX,jo hb];exact h
  clear eX;have ep10:=k10 _ _ nd2p.symm ep9;have pal:=ap.1;exists⟨.inl ⟨rfl,_,SqL.of ep10⟩,?_⟩;exists⟨pp,_,_,rfl,rfl,ep10,by rw[length_map,pal,length_take];omega,?_⟩;have tk:ps.take (i+1)=ps.take i++[p]:=take_snoc hp;have kt:∀b xs,H9 b=some (.tup xs)->upd H10 pp (.lst (pas.map V.ref++[.ref a])) b=some (.tup xs):=fun b xs h=>(jo (qw (k10 _ _ (qw h ed9 (fun z=>by cases z)) h) ep10 (fun z=>by cases z))).trans (k10 _ _ (qw h ed9 (fun z=>by cases z)) h)
  have low:∀{b u},H4 b=some u->b≠d2/\b≠pp:=fun h=>⟨jg h hd2,jg (s5 _ _ h) hpp⟩
  refine⟨pas++[a],_,_,_,rfl,fun b u h=>(jo (low h).2).trans (k10 _ _ (low h).1 (sP9 _ _ (sm _ _ h))),(jo n7p).trans (k10 _ _ n7d (sP9 _ _ er)),(jo nd2p).trans (by rw[tk,map_append];exact td10),by rw[jh,map_append];rfl,?_⟩;rw[tk];exact All2.snoc (ap.mono fun b x h=>PartAt.put kt (PartAt.same sP9 h)) (PartAt.put kt hP)
 rintro σ' H' ⟨pas,o6,o7,o8,rfl,sm,er,ed,ep,ap⟩;rw[length_map,length_map,take_length]at ap;exists⟨(by show 2<=sizeLine;omega),?_⟩;walk_at"f b hb H9 s9 t9";have s39:=s4.trans (sm.trans s9);refine q b pl pp las pas H9 (s13.trans s39) (none_of s12 hpl) (none_of (s13.trans s35) hpp) (jg (s35 _ _ t3) hpp) ⟨t9,s39 _ _ t3,la.mono fun a x h=>s39 _ _ h,s9 _ _ ep,ap.mono fun a x h=>PartAt.same s9 h⟩
theorem W7(T:Txt K mg t):FnOk P w K mg base CX0 1 t.QN t.QQ ["form"] (sp_words_of):=by
 refine T.Y4.ok xf (fun vs H Q E h=>?_) (fun cdv A outer s H vs Q E hr h=>?_)
 ·cases h;subst_vars;rfl
 obtain⟨a,f,rfl,hF,hW,q⟩:=h;refine⟨_,(je (jJ (jn Xl (jm jA (pv 0) jc) (qh (v:=.ref t.Jh) (by rfl) T.Qy rfl) (by with_unfolding_all rfl))
   (jf (jx (jp kN (jU (ja (jm jA (pv 0) jc) jd)) (j7 zM (by rfl) T.y0 ZJ (ja (jm jA (pv 0) jc) jd)))))
   jz)
  (jf (jx (j9 (ow:=["value"]) (ci:=[]) rfl (CompScope.of (defScope zT) ["form"] rfl rfl (by decide +kernel)) (j4 (by decide)) (Wc (pv 0)) (fun _ _ _ _ _=>⟨(jr (i:=0) (jS ["form"] rfl (by decide +kernel)) rfl (.inl rfl)),Jy,(j7 KL (by rfl) T.j3Z j1G (ja (pv 0) jd))⟩))))),?_⟩
 refine jy (σ':=[some _]) rfl ?_;have sz:(200:Nat)<sizeLine:=by decide
 obtain⟨fl,_⟩:=wE hW;rcases j1T hF hW with⟨k,b,ps,ha,hb,e,hl,hk⟩ | ⟨k,vs,ha,hk,tx⟩
 ·exists ixTm (SqT.of ha) rfl ?_;exists⟨_,_,_,rfl,rfl,T.jX,?_⟩;exists iteB1 hk ?_;exists ixTm (SqT.of ha) rfl ?_;exists⟨(by show 1<=sizeLine;omega),?_⟩;walk_at"f 1 t";exists ixTm (SqT.of (s1 _ _ ha)) rfl ?_;exists⟨b,_,rfl,.inr (SqT.of (s1 _ _ hb)),?_⟩;walk_at"f 2 t";exists⟨p1,p2,_,_,rfl,rfl,s2 _ _ t1,t2,by rw[length_map];show 1+ps.length<=sizeLine;omega,?_⟩;walk_at"f 3 t";have s13:=s1.trans (s2.trans s3);refine q p3 H3 s13 (none_of (s1.trans s2) hp3) ?_;rw[e];exact t3
 ·exists ixTm (SqT.of ha) (at0) ?_;exists⟨_,_,_,rfl,rfl,T.jX,?_⟩;exists iteB0 hk ?_;exists⟨a,rfl,⟨_,SqT.of ha⟩,?_⟩;have txl:=tx.len;refine yy (xs:=.str k::vs) (fun i ys H'=>ys=((fmW f).take i).map V.str/\H=H') ⟨rfl,rfl⟩ ?_ ?_ ?_
  ·rintro i ys H' _ ⟨rfl,rfl⟩;exact SqT.of ha
  ·rintro i x ys H' hx ⟨rfl,rfl⟩;obtain⟨w,hw,tv⟩:=tx.get hx;refine j8 (σ':=[none]) rfl ?_;exists iteT ?_;walk_at"g";rcases tv with rfl | ⟨n,rfl,n0,n1,rfl⟩
   ·refine .inr ⟨w,rfl,?_⟩;refine⟨by rw[length_map,length_take];omega,?_,rfl⟩;rw[take_snoc hw,map_append];rfl
   ·refine .inl ⟨n,rfl,j23 n0 n1,?_⟩;refine⟨by rw[length_map,length_take];omega,?_,rfl⟩;rw[take_snoc hw,map_append];rfl
  rintro ys H' ⟨rfl,rfl⟩;rw[txl,take_length];refine⟨by rw[length_map];omega,?_⟩;walk_at"f 1 t";exact q p1 H1 s1 hp1 t1
theorem j2r(T:Txt K mg t)(Z9:FnOk P w K mg base CX0 1 t.QN t.QQ ["form"] (sp_words_of)):FnOk P w K mg base CX0 2 t.yt t.yA ["book"] (sp_shown):=by
 refine T.XG.ok QZ (fun vs H Q E h=>?_) (fun cdv A outer s H vs Q E hr h=>?_)
 ·cases h;subst_vars;rfl
 obtain⟨b,pl,pp,las,pas,ls,ps,rfl,B,O,q⟩:=h;refine⟨_,(je (jq (i:=1) QZ.nd rfl (.inl rfl) (jU (ja jv jd)))
  (je (Jf PassesOwn.never rfl (jL (jm jA (pv 0) jc)) (qO rfl (jC (jr (i:=2) QZ.nd rfl (.inl rfl)) (jC (jr (i:=3) QZ.nd rfl (.inl rfl)) JP)))
   (jf (jD (JF PySem.F.plainAttrs_list PySem.F.slot_list_extend PySem.F.type_list_extend j10 (pv 1) (ja (jU (ja (pv 2) (ja (j7 KL (by rfl) T.j3Z j1G (ja (pv 3) jd)) jd))) jd)))))
  (je (jq (i:=4) QZ.nd rfl (.inl rfl) (jU (ja (JF PySem.F.plainAttrs_str PySem.F.slot_str_join PySem.F.type_str_join YU jv (ja (pv 1) jd)) jd)))
  (je (Jf PassesOwn.never rfl (jL (jm jA (pv 0) jc)) (qO rfl (jC (jr (i:=2) QZ.nd rfl (.inl rfl)) (jC (jr (i:=5) QZ.nd rfl (.inl rfl)) JP)))
   (jf (jD (JF PySem.F.plainAttrs_list PySem.F.slot_list_append PySem.F.type_list_append jR (pv 4) (ja (JF PySem.F.plainAttrs_str PySem.F.slot_str_join PySem.F.type_str_join YU jv (ja (jp kN (jU (ja jv (ja (pv 2) jd))) (jk (Z9.mono (by decide)) hr (by rfl) T.x4 T.Y4.kp T.xw .nil pass0 (ja (pv 5) jd))) jd)) jd)))))
  (jf (jx (JF PySem.F.plainAttrs_str PySem.F.slot_str_join PySem.F.type_str_join YU jv (ja (pv 4) jd)))))))),?_⟩
 refine jy (σ':=[some _,none,none,none,none,none]) rfl ?_;have sz:(200:Nat)<sizeLine:=by decide
 have l8:=O.l8;have p61:=O.p61;have la:=B.la.1;have pa:=B.pa.1;exists⟨(by show 1<=sizeLine;omega),?_⟩;walk_at"f 1 t";exists ixTm (SqT.of (s1 _ _ B.t)) rfl ?_;refine⟨pl,rfl,⟨_,SqL.of (s1 _ _ B.l)⟩,?_⟩;refine qJ (xs:=las.map V.ref) (fun i σ H'=>∃o2 o3:Option V,σ=[some (.ref b),some (.ref p1),o2,o3,none,none]/\Same H H'/\H' p1=some (.lst ((("limbs" : Str)::(ls.take i).flatMap limbW).map V.str)))
  ⟨_,_,rfl,s1,t1⟩ ?_ ?_ ?_
 ·rintro i σ H' _ ⟨o2,o3,rfl,sm,e1⟩;exact SqL.of (sm _ _ B.l)
 ·rintro i x σ H' hx ⟨o2,o3,rfl,sm,e1⟩;obtain⟨a,p,rfl,hp,hat⟩:=B.la.at_ref hx;obtain⟨w1,w2,w3⟩:=O.ln p (List.mem_of_getElem? hp);have tl:=(yF (ls:=ls.take i) fun p hp=>O.ln p (mem_of_mem_take hp)).1;rw[length_take]at tl;refine qP (SqT.of (sm _ _ hat)) ?_;exists⟨.inl ⟨rfl,_,SqL.of e1⟩,?_⟩;exists .inl ⟨_,rfl,j23 w2 w3,?_⟩;exists⟨(by show 2<=sizeLine;omega),?_⟩;walk_at"f 3 t";exists⟨p1,p3,_,_,rfl,rfl,s3 _ _ e1,t3,?_,?_⟩
  ·rw[length_map,length_cons,tl];show _+2<=sizeLine;omega
  refine⟨_,_,rfl,fun c u h=>(jo (jg h hp1)).trans (s3 _ _ (sm _ _ h)),?_⟩;rw[jh,take_snoc hp,List.flatMap_append,map_cons,map_cons,map_append];rfl
 rintro σ' H2 ⟨o2,o3,rfl,s2,e2⟩;rw[show(las.map V.ref).length=ls.length by rw[length_map,la],take_length]at e2;exists⟨rfl,?_⟩;exists⟨_,p1,_,rfl,rfl,SqL.of e2,Nat.le_trans (j0l l8 O.ln) (show 340<=16777216 by decide),?_⟩;exists⟨(by show 1<=sizeLine;omega),?_⟩;walk_at"f 4 t";have s24:=s2.trans s4;have np4:=none_of s2 hp4;exists ixTm (SqT.of (s24 _ _ B.t)) rfl ?_;refine⟨pp,rfl,⟨_,SqL.of (s24 _ _ B.p)⟩,?_⟩;refine qJ (xs:=pas.map V.ref) (fun i σ H'=>∃o2 o3 o5:Option V,σ=[some (.ref b),some (.ref p1),o2,o3,some (.ref p4),o5]/\Same H H'/\H' p4=some (.lst ((rowL ls::(ps.take i).map rowP).map V.str)))
  ⟨_,_,_,rfl,s24,t4⟩ ?_ ?_ ?_
 ·rintro i σ H' _ ⟨o2,o3,o5,rfl,sm,e1⟩;exact SqL.of (sm _ _ B.p)
 ·rintro i x σ H' hx ⟨o2,o3,o5,rfl,sm,e1⟩;obtain⟨a,p,rfl,hp,fb,hat,hf⟩:=B.pa.at_ref hx;have hpm:=List.mem_of_getElem? hp;obtain⟨w1,w2⟩:=O.pn p hpm;obtain⟨fl,_⟩:=wE w2;have hi:=(List.getElem?_eq_some_iff.mp hp).1;refine qP (SqT.of (sm _ _ hat)) ?_;exists⟨.inl ⟨rfl,_,SqL.of e1⟩,?_⟩;exists⟨rfl,?_⟩;exists⟨(by show 2<=sizeLine;omega),?_⟩;walk_at"f 5 t";exists⟨fb,p.2,rfl,FormAt.same (sm.trans s5) hf,w2,fun l H6 s6 hl6 e6=>?_⟩;exists⟨p5,l,_,_,rfl,rfl,s6 _ _ t5,e6,by rw[length_map];show 2+_<=sizeLine;omega,?_⟩;walk_at"f 7 t";have s57:=s5.trans (s6.trans s7);exists⟨_,p7,_,rfl,rfl,SqL.of (xs:=(("part" : Str)::p.1::fmW p.2).map V.str) t7,Nat.le_trans (Wg O hpm) (show 220<=16777216 by decide),?_⟩;exists⟨p4,_,_,rfl,rfl,s57 _ _ e1,?_,?_⟩
  ·rw[length_map,length_cons,length_map,length_take];omega
  refine⟨_,_,_,rfl,fun c u h=>(jo (jg h np4)).trans (s57 _ _ (sm _ _ h)),?_⟩;rw[jh,take_snoc hp,map_cons,map_cons,map_append,map_append];rfl
 rintro σ' H5 ⟨o2,o3,o5,rfl,s5,e5⟩;rw[show(pas.map V.ref).length=ps.length by rw[length_map,pa],take_length]at e5;exists⟨rfl,?_⟩;exists⟨_,p4,_,rfl,rfl,SqL.of e5,j3O O,?_⟩;exact q _ s5
theorem wW(T:Txt K mg t):FnOk P w K mg base CX0 1 t.JS t.JT ["form","limbs","parts"] (sp_formW):=by
 refine T.Q0.ok Wk (fun vs H Q E h=>?_) (fun cdv A outer s H vs Q E hr h=>?_)
 ·cases h;subst_vars;rfl
 obtain⟨a,l,p,g,g',rfl,ha,hm,q⟩:=h;refine⟨_,(je (jJ (jn JE (jm jA (pv 0) jc) jv (nomark _))
   (jf (jx (jp j0d (Jg (ja (jm jA (pv 0) jc) (ja (jm (xT (K:=K) rfl (jM hr)) (pv 1) (jm jA (pv 0) jc)) jd))) (Jm j2M (pv 0) (j5 jc) qi))))
   jz)
  (je (jJ (jn JE (jm jA (pv 0) jc) jv (nomark _))
   (jf (jx (Jg (ja (jm jA (pv 0) jc) (ja (jm jA (pv 0) jc) (ja (jm (xT (K:=K) rfl (jM hr)) (pv 2) (jm jA (pv 0) jc)) jd))))))
   jz)
  (je (jJ (jn zw (jm jA (pv 0) jc) (Jg (ja jv (ja jv jd))) (by with_unfolding_all rfl))
   (jf (jx (Jg (ja (jm jA (pv 0) jc) (ja (j7 qc (by rfl) T.yv Zl (ja (j9 (ow:=["other"]) (ci:=[2]) rfl (CompScope.of (defScope Q2) ["form","limbs","parts"] rfl rfl (by decide +kernel)) (j4 (by decide)) (Wc (jm jA (pv 0) jc)) (fun _ _ _ _ _=>⟨(jr (i:=0) (jS ["form","limbs","parts"] rfl (by decide +kernel)) rfl (.inl rfl)),Jy,(jm (xT (K:=K) rfl (jM hr)) (pv 1) (pv 0))⟩)) jd)) jd)))))
   jz)
  (jf (jx (pv 0)))))),?_⟩
 refine jy (σ':=[some _,some _,some _]) rfl ?_;have sz:(200:Nat)<sizeLine:=by decide
 cases g with
 | smp r vs=>
  cases hm;cases r with
  | false=>
   have h1:H a=some (.tup (.str "hold"::vs)):=ha;exists ixTm (SqT.of h1) (at0) ?_;exists iteE0 ?_;exists ixTm (SqT.of h1) (at0) ?_;exists iteE0 ?_;exists ixTm (SqT.of h1) (at0) ?_;exists⟨by show 2<=sizeLine;omega,?_⟩;walk_at"f 1 t";refine⟨p1,_,rfl,.inr (SqT.of t1),rfl,rfl,_,rfl,?_⟩;refine iteE0 ?_;walk_at"g";exact q a H1 s1 (s1 _ _ h1)
  | true=>
   have h1:H a=some (.tup (.str "ring"::vs)):=ha;exists ixTm (SqT.of h1) (at0) ?_;exists iteE0 ?_;exists ixTm (SqT.of h1) (at0) ?_;exists iteE0 ?_;exists ixTm (SqT.of h1) (at0) ?_;exists⟨by show 2<=sizeLine;omega,?_⟩;walk_at"f 1 t";refine⟨p1,_,rfl,.inr (SqT.of t1),rfl,rfl,_,rfl,?_⟩;refine iteE0 ?_;walk_at"g";exact q a H1 s1 (s1 _ _ h1)
 | rise x h n=>
  have h1:H a=some (.tup [.str "raise",x,h,n]):=ha;obtain⟨y,iy,rfl⟩:=hm;exists ixTm (SqT.of h1) rfl ?_;exists iteE1 ?_;exists ixTm (SqT.of h1) rfl ?_;exists ixTm (SqT.of h1) rfl ?_;refine wH iy ?_;exists⟨by show 2<=sizeLine;omega,?_⟩;walk_at"f 1 t";exists⟨a,_,rfl,SqT.of (s1 _ _ h1),(by show¬(HT.sIx 4 0 (some 2)=0/\HT.sIx 4 4 none=4);decide),?_⟩;walk_at"f 2 t";refine⟨p1,p2,_,_,rfl,rfl,SqT.of (s2 _ _ t1),SqT.of t2,(fun z=>by cases z),?_,?_,?_⟩
  ·show 2+2<=sizeLine;omega
  ·intro z;cases z
  intro _;walk_at"f 3 t";exact q p3 H3 (s1.trans (s2.trans s3)) t3
 | again k x=>
  have h1:H a=some (.tup [.str "again",k,x]):=ha;obtain⟨y,iy,rfl⟩:=hm;exists ixTm (SqT.of h1) rfl ?_;exists iteE0 ?_;exists ixTm (SqT.of h1) rfl ?_;exists iteE1 ?_;exists ixTm (SqT.of h1) rfl ?_;exists ixTm (SqT.of h1) rfl ?_;exists ixTm (SqT.of h1) rfl ?_;refine wH iy ?_;exists⟨by show 3<=sizeLine;omega,?_⟩;walk_at"f 1 t";exact q p1 H1 s1 t1
 | many s xs=>
  obtain⟨ys,yl,im,x8,rfl⟩:=hm;cases s with
  | false=>
   obtain⟨b,h1,h2⟩:=ha;have h1:H a=some (.tup [.str "row",.ref b]):=h1;exists ixTm (SqT.of h1) rfl ?_;exists iteE0 ?_;exists ixTm (SqT.of h1) rfl ?_;exists iteE0 ?_;exists ixTm (SqT.of h1) rfl ?_;exists⟨by show 2<=sizeLine;omega,?_⟩;walk_at"f 1 t";refine⟨p1,_,rfl,.inr (SqT.of t1),rfl,rfl,_,rfl,?_⟩;refine iteE1 ?_;exists ixTm (SqT.of (s1 _ _ h1)) rfl ?_;exists ixTm (SqT.of (s1 _ _ h1)) rfl ?_;refine⟨b,rfl,⟨_,SqT.of (s1 _ _ h2)⟩,?_⟩;refine yy (xs:=xs) (fun i zs H'=>zs=ys.take i/\H1=H') ⟨rfl,rfl⟩ ?_ ?_ ?_
   ·rintro i zs H' _ ⟨rfl,rfl⟩;exact SqT.of (s1 _ _ h2)
   ·rintro i x zs H' hx ⟨rfl,rfl⟩;have hi:=(List.getElem?_eq_some_iff.mp hx).1;have hy:ys[i]?=some ys[i]:=List.getElem?_eq_getElem (by omega);refine j8 (σ':=[none,some _]) rfl ?_;exists iteT ?_;exists wH ((im i x _ hx hy).same s1) ?_;refine⟨by rw[length_take];omega,?_,rfl⟩;rw[take_snoc hy]
   rintro zs H' ⟨rfl,rfl⟩;rw[<-yl,take_length];refine⟨by omega,?_⟩;walk_at"f 2 t";exists⟨p2,_,rfl,.inl ⟨SqL.of t2,?_⟩⟩;walk_at"f 3 t";exists⟨by show 2<=sizeLine;omega,?_⟩;walk_at"f 4 t";exact q p4 H4 (s1.trans (s2.trans (s3.trans s4))) ⟨p3,t4,s4 _ _ t3⟩
  | true=>
   obtain⟨b,h1,h2⟩:=ha;have h1:H a=some (.tup [.str "side",.ref b]):=h1;exists ixTm (SqT.of h1) rfl ?_;exists iteE0 ?_;exists ixTm (SqT.of h1) rfl ?_;exists iteE0 ?_;exists ixTm (SqT.of h1) rfl ?_;exists⟨by show 2<=sizeLine;omega,?_⟩;walk_at"f 1 t";refine⟨p1,_,rfl,.inr (SqT.of t1),rfl,rfl,_,rfl,?_⟩;refine iteE1 ?_;exists ixTm (SqT.of (s1 _ _ h1)) rfl ?_;exists ixTm (SqT.of (s1 _ _ h1)) rfl ?_;refine⟨b,rfl,⟨_,SqT.of (s1 _ _ h2)⟩,?_⟩;refine yy (xs:=xs) (fun i zs H'=>zs=ys.take i/\H1=H') ⟨rfl,rfl⟩ ?_ ?_ ?_
   ·rintro i zs H' _ ⟨rfl,rfl⟩;exact SqT.of (s1 _ _ h2)
   ·rintro i x zs H' hx ⟨rfl,rfl⟩;have hi:=(List.getElem?_eq_some_iff.mp hx).1;have hy:ys[i]?=some ys[i]:=List.getElem?_eq_getElem (by omega);refine j8 (σ':=[none,some _]) rfl ?_;exists iteT ?_;exists wH ((im i x _ hx hy).same s1) ?_;refine⟨by rw[length_take];omega,?_,rfl⟩;rw[take_snoc hy]
   rintro zs H' ⟨rfl,rfl⟩;rw[<-yl,take_length];refine⟨by omega,?_⟩;walk_at"f 2 t";exists⟨p2,_,rfl,.inl ⟨SqL.of t2,?_⟩⟩;walk_at"f 3 t";exists⟨by show 2<=sizeLine;omega,?_⟩;walk_at"f 4 t";exact q p4 H4 (s1.trans (s2.trans (s3.trans s4))) ⟨p3,t4,s4 _ _ t3⟩
theorem j3D(T:Txt K mg t)(jP:FnOk P w K mg base CX0 1 t.Jq t.Jr ["named"] (sp_numbers_of))(Jp:FnOk P w K mg base CX0 1 t.JS t.JT ["form","limbs","parts"] (sp_formW)):FnOk P w K mg base CX0 2 t.Y5 t.kf ["book"] (sp_made):=by
 refine T.j1v.ok ZT (fun vs H Q E h=>?_) (fun cdv A outer s H vs Q E hr h=>?_)
 ·cases h;subst_vars;rfl
 obtain⟨b,pl,pp,las,pas,ls,ps,rfl,B,W,n1,q⟩:=h;refine⟨_,(je (jq (i:=1) ZT.nd rfl (.inl rfl) (jk (jP.mono (by decide)) hr (by rfl) T.Qz T.qz.kp T.Qv .nil pass0 (ja (jm jA (pv 0) jc) jd)))
  (je (jq (i:=2) ZT.nd rfl (.inl rfl) Zr)
  (je (jq (i:=3) ZT.nd rfl (.inl rfl) j2t)
  (je (Jf PassesOwn.never rfl (jL (jm jA (pv 0) jc)) (qO rfl (jC (jr (i:=4) ZT.nd rfl (.inl rfl)) (jC (jr (i:=5) ZT.nd rfl (.inl rfl)) JP)))
   (jf (ZR (jM hr) (pv 2) (pv 4) (j3G hr.units (pv 3) (ja (jk (Jp.mono (by decide)) hr (by rfl) T.Zo T.Q0.kp T.Zf .nil pass0 (ja (pv 5) (ja (pv 1) (ja (pv 2) jd)))) (ja (jt j0I (by rfl) T.Jd jK (ja (pv 3) jd)) jd))) rfl)))
  (jf (jx (Jg (ja (j7 (xH rfl) (by rfl) T.y0 ZJ (ja (pv 3) jd)) (ja (jF (jM hr) (pv 2) (jm jA (jm ju (jm jA (pv 0) jc) (Z2 ze jc)) jc)) jd))))))))),?_⟩
 refine jy (σ':=[some _,none,none,none,none,none]) rfl ?_;have sz:(200:Nat)<sizeLine:=by decide
 have p61:=W.p61;have pa:=B.pa.1;have la:=B.la.1;have l8:=W.l8;have pl':(nmsOf ps).length=ps.length:=length_map _;exists ixTm (SqT.of B.t) rfl ?_;exists⟨pl,las,nmsOf ls,rfl,B.l,by rw[nmsOf,length_map];exact la,fun i a x ea ex=>?_,W.ln,by rw[nmsOf,length_map];omega,fun d H1 s1 hd ed=>?_⟩
 ·unfold nmsOf at ex;rw[List.getElem?_map]at ex;obtain⟨p,ep,rfl⟩:=Option.map_eq_some_iff.mp ex;exact⟨_,B.la.2 i a p ea ep⟩
 walk_at"g";walk_at"f d2 hd2 H2 s2 t2";exists j2F ?_;walk_at"f d3 hd3 H3 s3 t3";have n3:=none_of s2 hd3;have s13:=s2.trans s3;have n32:d2≠d3:=jg t2 hd3;exists ixTm (SqT.of (s13 _ _ (s1 _ _ B.t))) rfl ?_;refine⟨pp,rfl,⟨_,SqL.of (s13 _ _ (s1 _ _ B.p))⟩,?_⟩;refine qJ (xs:=pas.map V.ref) (fun i σ H'=>∃(o4 o5:Option V) (xs:List NE),σ=[some (.ref b),some (.ref d),some (.ref d2),some (.ref d3),o4,o5]/\Same H1 H'/\H' d2=some (.dK (numV ((nmsOf ps).take i) (madeM (nmsOf ls) (nmsOf ps) (ps.take i)).2))/\H' d3=some (DNx P w d3 xs)/\EnAt H' xs (madeM (nmsOf ls) (nmsOf ps) (ps.take i)).1)
  ⟨_,_,[],rfl,s13,s3 _ _ t2,t3,⟨rfl,fun i d h=>by simp[madeM]at h⟩⟩ ?_ ?_ ?_
 ·rintro i σ H' _ ⟨o4,o5,xs,rfl,sm,_⟩;exact SqL.of (sm _ _ (s1 _ _ B.p))
 ·rintro i x σ H' hx ⟨o4,o5,xs,rfl,sm,e2,e3,en⟩;obtain⟨a,p,rfl,hp,fb,hat,hf⟩:=B.pa.at_ref hx;have hi:=(List.getElem?_eq_some_iff.mp hp).1;have s0:=s1.trans sm;have M:=yH (nmsOf ls) (nmsOf ps) i (ps.take i) (by rw[length_take];omega);have mp:=j24 (H:=H') W hp M.ln (sm _ _ ed) e2;have en1:=en.1;have lk:=M.lk;have hnm:(nmsOf ps)[i]?=some p.1:=by unfold nmsOf;rw[List.getElem?_map,hp];rfl
  have hk:(Sum.inr p.1:Key)∉(numV ((nmsOf ps).take i) (madeM (nmsOf ls) (nmsOf ps) (ps.take i)).2).map (·.1):=fun z=>by
   rw[K4 (by rw[length_take,M.ln];omega)]at z;obtain⟨y,hy,e⟩:=mem_map.mp z;have e':y=p.1:=Sum.inr.inj e;subst e';obtain⟨j,hj,e⟩:=mem_iff_getElem.mp hy;rw[length_take]at hj;rw[getElem_take]at e;obtain⟨h2,e2⟩:=List.getElem?_eq_some_iff.mp hnm;exact absurd (e.trans e2.symm) (pairwise_iff_getElem.mp W.pn j i (by omega) h2 (by omega))
  have nl:(numV ((nmsOf ps).take i) (madeM (nmsOf ls) (nmsOf ps) (ps.take i)).2).length<sizeLine:=by
   rw[j2k (by rw[length_take,M.ln];omega),length_take];omega
  have et:(nmsOf ps).take (i+1)=(nmsOf ps).take i++[p.1]:=take_snoc hnm;have em:madeM (nmsOf ls) (nmsOf ps) (ps.take (i+1))=stepM (nmsOf ls) (nmsOf ps) (madeM (nmsOf ls) (nmsOf ps) (ps.take i)) p:=by rw[take_snoc hp,Jx]
  rw[et,em];have ll:((nmsOf ps).take i).length=(madeM (nmsOf ls) (nmsOf ps) (ps.take i)).2.length:=by rw[length_take,M.ln];omega
  generalize madeM (nmsOf ls) (nmsOf ps) (ps.take i)=st at *;refine qP (SqT.of (s0 _ _ hat)) ?_;exists j3N ?_;exists⟨d3,xs,rfl,e3,?_⟩;exists⟨fb,d,d2,_,_,rfl,WK.mp (FormAt.same s0 hf),mp,fun c H4 s4 gc=>?_⟩;exists⟨d3,xs,rfl,s4 _ _ e3,?_⟩;walk_at"g";have en4:=en.tups fun b xs h=>s4 b (.tup xs) h
  obtain⟨f1,f2⟩:=en4.found (d:=wiF (nmsOf ls) (nmsOf ps) st.2 p.2) M.nd;refine⟨xs,c,_,_,rfl,s4 _ _ e3,en4.nat,j2d gc,by omega,fun p' hp'=>?_,fun hn=>?_⟩
  ·obtain⟨hm,hv⟩:=f1 p' hp';rw[hv];exists⟨d2,_,rfl,DPut.k (k:=Sum.inr p.1) (s4 _ _ e2) nl,?_⟩;unfold stepM;dsimp only;rw[if_pos hm];refine⟨_,_,xs,rfl,fun c u h=>(jo (jg h hd2)).trans ((sm.trans s4) _ _ h),?_,(jo n32.symm).trans (s4 _ _ e3),en4.tups fun b xs h=>(jo (qw h (s4 _ _ e2) (fun z=>by cases z))).trans h⟩;rw[jh,Zt hk,K5 ll];rfl
  ·have hm:=f2 hn;exists⟨d2,_,rfl,DPut.k (k:=Sum.inr p.1) ((jo n32).trans (s4 _ _ e2)) nl,?_⟩;unfold stepM;dsimp only;rw[if_neg hm];have tk:∀b ys,H4 b=some (.tup ys)->upd (upd H4 d3 (DNx P w d3 (xs++[(kD (wiF (nmsOf ls) (nmsOf ps) st.2 p.2),c,.int (xs.length:Nat))]))) d2 (.dK (putK (numV ((nmsOf ps).take i) st.2) (Sum.inr p.1) (.int (xs.length:Nat)))) b=some (.tup ys):=fun b ys h=>(jo (qw h (s4 _ _ e2) (fun z=>by cases z))).trans ((jo (qw h (s4 _ _ e3) (fun z=>by cases z))).trans h)
   refine⟨_,_,xs++[(kD (wiF (nmsOf ls) (nmsOf ps) st.2 p.2),c,.int (xs.length:Nat))],rfl,fun c u h=>(jo (jg h hd2)).trans ((jo (jg h n3)).trans ((sm.trans s4) _ _ h)),?_,(jo n32.symm).trans jh,?_⟩
   ·rw[jh,Zt hk,K5 ll,en1];rfl
   ·rw[en1];rw[en1]at tk;exact(en4.tups tk).snoc (GAt.tups tk gc)
 rintro σ' H' ⟨o4,o5,xs,rfl,sm,e2,e3,en⟩;rw[length_map,pa,take_length]at e2 en;rw[<-pl',take_length]at e2;have s0:=s1.trans sm;exists⟨d3,xs,rfl,e3,?_⟩;walk_at"f l5 hl5 H5 s5 t5";walk_at"g";have s05:=s0.trans s5;obtain⟨a,ha,fb,hat,hf⟩:=B.pa.get (i:=ps.length-1) (x:=ps[ps.length-1]) (List.getElem?_eq_getElem (by omega));refine ixTm (SqT.of (s05 _ _ B.t)) rfl ?_;exists ixLm (SqL.of (s05 _ _ B.p)) (yb (n:=ps.length) n1 (by rw[length_map];exact pa) (by rw[List.getElem?_map,ha];rfl)) ?_;exists ixTm (SqT.of (s05 _ _ hat)) rfl ?_;have M:=yH (nmsOf ls) (nmsOf ps) ps.length ps rfl;have g:DGet H5 d2 (.str ps[ps.length-1].1) (some (vN ((madeM (nmsOf ls) (nmsOf ps) ps).2.getD (ps.length-1) 0))):=by
  have g:=DGet.k (k:=Sum.inr ps[ps.length-1].1) (s5 _ _ e2);rw[W1 (j:=ps.length-1) (pl'.trans M.ln.symm) W.pn (by unfold nmsOf;rw[List.getElem?_map,List.getElem?_eq_getElem (by omega)];rfl)]at g;exact g
 refine⟨d2,_,rfl,g,?_⟩;exists⟨by show 2<=sizeLine;omega,?_⟩;walk_at"f 6 t";have s56:=s5.trans s6;exact q p6 l5 (xs.map fun q=>q.2.1) H6 (s0.trans s56) t6 (by rw[map_map];exact s6 _ _ t5) (DrAt.of (en.tups fun b xs h=>s56 _ _ h))
theorem W5(T:Txt K mg t):FnOk P w K mg base CX0 1 t.qU t.qW ["form"] (sp_namesG):=by
 refine T.Z5.ok xc (fun vs H Q E h=>?_) (fun cdv A outer s H vs Q E hr h=>?_)
 ·cases h;subst_vars;rfl
 obtain⟨a,g,rfl,ha,q⟩:=h;refine⟨_,(je (jJ (jn Xl (jm jA (pv 0) jc) (qh (v:=.ref t.Jh) (by rfl) T.Qy rfl) (by with_unfolding_all rfl))
   (jf (jx (jm jA (pv 0) jc)))
   jz)
  (jf (jx (zx (jn JE (jm jA (pv 0) jc) jv (nomark _)) (Jm j2M (pv 0) (j5 jc) qi) (Jg jd))))),?_⟩
 refine jy (σ':=[some _]) rfl ?_;have sz:(200:Nat)<sizeLine:=by decide
 cases g with
 | smp r vs=>
  cases r with
  | false=>
   have h1:H a=some (.tup (.str "hold"::vs)):=ha;exists ixTm (SqT.of h1) (at0) ?_;exists⟨_,_,_,rfl,rfl,T.jX,?_⟩;exists iteE0 ?_;exists ixTm (SqT.of h1) (at0) ?_;exists iteE0 ?_;exists⟨Nat.zero_le _,?_⟩;walk_at"f b hb H1 s1 t1";exact q b H1 s1 t1
  | true=>
   have h1:H a=some (.tup (.str "ring"::vs)):=ha;exists ixTm (SqT.of h1) (at0) ?_;exists⟨_,_,_,rfl,rfl,T.jX,?_⟩;exists iteE0 ?_;exists ixTm (SqT.of h1) (at0) ?_;exists iteE0 ?_;exists⟨Nat.zero_le _,?_⟩;walk_at"f b hb H1 s1 t1";exact q b H1 s1 t1
 | rise x h n=>
  have h1:H a=some (.tup [.str "raise",x,h,n]):=ha;exists ixTm (SqT.of h1) rfl ?_;exists⟨_,_,_,rfl,rfl,T.jX,?_⟩;exists iteE0 ?_;exists ixTm (SqT.of h1) rfl ?_;exists iteE0 ?_;exists⟨Nat.zero_le _,?_⟩;walk_at"f b hb H1 s1 t1";exact q b H1 s1 t1
 | again k x=>
  have h1:H a=some (.tup [.str "again",k,x]):=ha;exists ixTm (SqT.of h1) rfl ?_;exists⟨_,_,_,rfl,rfl,T.jX,?_⟩;exists iteE0 ?_;exists ixTm (SqT.of h1) rfl ?_;exists iteE1 ?_;exists⟨a,_,rfl,SqT.of h1,(by show¬(HT.sIx 3 0 (some 2)=0/\HT.sIx 3 3 none=3);decide),?_⟩;walk_at"f b hb H1 s1 t1";exact q b H1 s1 t1
 | many s xs=>
  obtain⟨b,h1,h2⟩:=ha;cases s with
  | false=>
   have h1:H a=some (.tup [.str "row",.ref b]):=h1;exists ixTm (SqT.of h1) rfl ?_;exists⟨_,_,_,rfl,rfl,T.jX,?_⟩;exists iteE1 ?_;exists ixTm (SqT.of h1) rfl ?_;exact q b H (Same.refl _) h2
  | true=>
   have h1:H a=some (.tup [.str "side",.ref b]):=h1;exists ixTm (SqT.of h1) rfl ?_;exists⟨_,_,_,rfl,rfl,T.jX,?_⟩;exists iteE1 ?_;exists ixTm (SqT.of h1) rfl ?_;exact q b H (Same.refl _) h2
theorem Xf(T:Txt K mg t)(qS:FnOk P w K mg base CX0 1 t.qU t.qW ["form"] (sp_namesG)):FnOk P w K mg base CX0 2 t.zg t.zo ["forms","drum"] (sp_come):=by
 refine T.Kz.ok zU (fun vs H Q E h=>?_) (fun cdv A outer s H vs Q E hr h=>?_)
 ·cases h;subst_vars;rfl
 obtain⟨f,fas,ks,dn,rfl,ef,dr,D,tl,k61,q⟩:=h;refine⟨_,(je (jq (i:=2) zU.nd rfl (.inl rfl) (j0e (zA (pv 1) kQ j0h) rfl rfl (by simp) (by decide)))
  (je (Jf PassesOwn.never rfl (j1a (by rfl) T.qg (ja (pv 1) (ja (Z2 ze jc) (ja (Z2 ze jc) jd)))) (jr (i:=3) zU.nd rfl (.inl rfl))
   (jf (jJ (Xp (Wa (jM hr) (pv 3) (pv 2)))
    (jf (Jf PassesOwn.never rfl (Wc (jk (qS.mono (by decide)) hr (by rfl) T.kB T.Z5.kp T.Y1 .nil pass0 (ja (jm ju (pv 0) (pv 3)) jd))) (jr (i:=4) zU.nd rfl (.inl rfl))
     (jf (ZR (jM hr) (pv 2) (pv 4) kQ rfl))))
    jz)))
  (jf (jx (jt (Kk rfl) (by rfl) T.Zk zm (ja (pv 2) jd)))))),?_⟩
 refine jy (σ':=[some _,some _,none,none,none]) rfl ?_;have sz:(200:Nat)<sizeLine:=by decide
 have fl:=dr.1;exists j0j fun d hd=>?_
 exists⟨jh,[(iK dn,.bl true)],rfl,(by show 1<=15;decide),?_⟩;rw[j3T];have sm0:Same H (upd H d (.dK (mergeK [] [(iK dn,.bl true)]))):=Wi hd rfl;have e0:upd H d (.dK (mergeK [] [(iK dn,.bl true)])) d=some (.dK [(iK dn,.bl true)]):=jh;generalize upd H d (.dK (mergeK [] [(iK dn,.bl true)]))=H0 at sm0 e0|-;exists⟨(dn:Int),-1,rfl,⟨by omega,by omega,by omega,by omega⟩,?_⟩;have en:((dn:Int) - -1).toNat=dn+1:=by omega
 rw[en];refine j1U (fun i σ H'=>∃(o3 o4:Option V) (kvs:List (Key×V)) (S:List Nat),σ=[some (.ref f),some (vN dn),some (.ref d),o3,o4]/\Same H H'/\H' d=some (.dK kvs)/\KySet kvs S/\CmOk ks dn i S)
  ⟨_,_,_,[dn],rfl,sm0,e0,⟨rfl,by simp⟩,⟨fun x hx=>by rw[mem_singleton.mp hx];exact .top,mem_singleton.mpr rfl,fun y hy hi=>absurd hi (by rw[mem_singleton.mp hy];omega)⟩⟩ ?_ ?_
 ·rintro i σ H' hi ⟨o3,o4,kvs,S,rfl,sm,ed,ky,cm⟩;obtain⟨y,hy⟩:∃y:Nat,(dn:Int)-(i:Int)=(y:Int):=⟨dn-i,by omega⟩
  have yi:y+i=dn:=by omega
  rw[hy];have yk:ks[y]?=some ks[y]:=List.getElem?_eq_getElem (by omega);obtain⟨fa,hfa,gfa⟩:=dr.get yk;walk_at"g";have g:=DGet.k (k:=iK y) ed;refine⟨d,_,rfl,g,?_⟩;rw[ky.mem];refine⟨_,rfl,?_⟩;refine iteD (fun d1=>?_) (fun d1=>?_)
  ·exists ixLm (SqL.of (sm _ _ ef)) (Jn (j:=y) (by rw[List.getElem?_map,hfa];rfl)) ?_;exists⟨fa,_,rfl,gfa.same sm,fun b H1 s1 eb=>?_⟩;rw[j5b]at eb;have eg:ks.getD y (.hold 0)=ks[y]:=by rw[getD_eq_getElem?_getD,yk];rfl
   have cy:=cm.yes D d1 yi;rw[eg]at cy;have n8:=D.l8 _ (getElem_mem (by omega):ks[y]∈ks);refine⟨b,rfl,⟨_,SqT.of eb⟩,?_⟩;refine j3f (xs:=ks[y].ns.map vN) (fun j σ H2=>∃(o4:Option V) (kvs':List (Key×V)),σ=[some (.ref f),some (vN dn),some (.ref d),some (.int (y:Nat)),o4]/\(∀c u,c≠d->H1 c=some u->H2 c=some u)/\H2 d=some (.dK kvs')/\KySet kvs' (addS S (ks[y].ns.take j)))
    ⟨_,kvs,rfl,fun c u _ h=>h,s1 _ _ ed,ky⟩ ?_ ?_ ?_
   ·rintro j σ H2 _ ⟨o4,kvs',rfl,s2,e2,k2⟩;exact SqT.of (s2 _ _ (qw eb (s1 _ _ ed) (fun z=>by cases z)) eb)
   ·rintro j x σ H2 hx ⟨o4,kvs',rfl,s2,e2,k2⟩;obtain⟨z,hz1,rfl,hz2⟩:=Zz hx;have hj:=(List.getElem?_eq_some_iff.mp hz1).1;have kl:=k2.len;have sl:(addS S (ks[y].ns.take j)).length<=dn+1:=YV k2.2 fun x hx=>by
     rcases QT.mp hx with h | h
     ·have:=(cm.rc x h).le D;omega
     ·have:=D.lt y _ yk x (mem_of_mem_take h);omega
    exists⟨d,_,rfl,DPut.k (k:=iK z) e2 (by omega),?_⟩;refine⟨_,_,rfl,fun c u n h=>(jo n).trans (s2 _ _ n h),jh,?_⟩;rw[take_snoc hz1,j0C];exact k2.put z _
   rintro σ H2 ⟨o4,kvs',rfl,s2,e2,k2⟩;rw[length_map,take_length]at k2;exact⟨_,_,kvs',_,rfl,fun c u h=>s2 _ _ (jg h hd) (s1 _ _ (sm _ _ h)),e2,k2,cy⟩
  ·walk_at"g";exact⟨_,_,kvs,S,rfl,sm,ed,ky,cm.no d1 yi⟩
 rintro σ H' ⟨o3,o4,kvs,S,rfl,sm,ed,ky,cm⟩;have sl:S.length<=dn+1:=YV ky.2 fun x hx=>by have:=(cm.rc x hx).le D;omega
 exists⟨d,kvs,S.map (fun n:Nat=>(n:Int)),rfl,ed,by rw[ky.1,map_map];rfl,by rw[length_map];omega,fun l ms hl pm od=>?_⟩;obtain⟨ns,e1,e2,e3⟩:=xg pm od ky.2;rw[e1];exact q l ns _ (sm.trans (Wi hl rfl)) (none_of sm hl) jh e2 fun x=>(e3 x).trans cm.all
theorem j2o(T:Txt K mg t)(Jp:FnOk P w K mg base CX0 1 t.JS t.JT ["form","limbs","parts"] (sp_formW))(xx:FnOk P w K mg base CX0 2 t.Y5 t.kf ["book"] (sp_made))(yU:FnOk P w K mg base CX0 2 t.zg t.zo ["forms","drum"] (sp_come)):FnOk P w K mg base CX0 3 t.yr t.yz ["book"] (sp_drums):=by
 refine T.wl.ok Qr (fun vs H Q E h=>?_) (fun cdv A outer s H vs Q E hr h=>?_)
 ·cases h;subst_vars;rfl
 obtain⟨b,pl,pp,las,pas,ls,ps,rfl,B,W,n1,q⟩:=h;refine⟨_,(je (jq (i:=1) Qr.nd rfl (.inl rfl) (jk (xx.mono (by decide)) hr (by rfl) T.j4J T.j1v.kp T.j4d .nil pass0 (ja (pv 0) jd)))
  (je (jq (i:=2) Qr.nd rfl (.inr rfl) (jm jA (pv 1) jc))
  (je (jq (i:=3) Qr.nd rfl (.inl rfl) (jk (yU.mono (by decide)) hr (by rfl) T.j0V T.Kz.kp T.j0y .nil pass0 (ja (pv 2) (ja (jm jA (pv 1) jc) jd))))
  (je (jq (i:=4) Qr.nd rfl (.inr rfl) (Xm rfl (by rfl) T.y0 (by rfl) T.qg (ja (jt jB (by rfl) T.Jd jK (ja (jm jA (pv 0) jc) jd)) jd)))
  (je (jq (i:=5) Qr.nd rfl (.inr rfl) Zr)
  (je (Jf PassesOwn.never rfl (YW (by rfl) T.Qm (ja (pv 3) jd)) (qO rfl (jC (jr (i:=6) Qr.nd rfl (.inl rfl)) (jC (jr (i:=7) Qr.nd rfl (.inl rfl)) JP)))
   (jf (ZR (jM hr) (pv 5) (pv 7) (pv 6) rfl)))
  (jf (jx (Jg (ja (j7 zM (by rfl) T.y0 ZJ (ja (jm jA (pv 0) jc) jd)) (ja (j9 (ow:=["number"]) (ci:=[4,5,2]) rfl (CompScope.of (defScope YY) ["book","found","forms","kept","limbs","anew","place","number"] rfl rfl (by decide +kernel)) (j4 (by decide)) (jL (pv 3)) (fun _ _ _ _ _=>⟨(jr (i:=0) (jS ["book","found","forms","kept","limbs","anew","place","number"] rfl (by decide +kernel)) rfl (.inl rfl)),Jy,(jk (Jp.mono (by decide)) hr (by rfl) T.Zo T.Q0.kp T.Zf .nil pass0 (ja (jm (Qq (K:=K) rfl) (pv 3) (pv 0)) (ja (pv 1) (ja (pv 2) jd))))⟩)) jd))))))))))),?_⟩
 refine jy (σ':=[some _,none,none,none,none,none,none,none]) rfl ?_;have sz:(200:Nat)<sizeLine:=by decide
 have O:=wR W n1;have k61:=O.k61;have tp:=O.tp;have la:=B.la.1;have l8:=W.l8;exists⟨b,pl,pp,las,pas,ls,ps,rfl,B,W,n1,fun tt f fas H1 s1 et ef dr=>?_⟩;exists ixTm (SqT.of et) rfl ?_;exists ixTm (SqT.of et) rfl ?_;exists⟨f,fas,drsM ls ps,topM ls ps,rfl,ef,dr,O.dw,tp,k61,fun l2 ms H2 s2 hl2 e2 m1 m2=>?_⟩;have Kp:Kept ls ps ms:=⟨m1,m2⟩
 have m61:=Kp.len O;have nd:=j08 m1;have s12:=s1.trans s2;exists j5g ?_;exists ixTm (SqT.of (s12 _ _ B.t)) rfl ?_;refine⟨_,_,rfl,.inl ⟨_,SqL.of (s12 _ _ B.l),rfl⟩,?_⟩;rw[length_map,la];exists⟨ls.length,rfl,by omega,?_⟩;walk_at"f 3 t";walk_at"g";walk_at"f d4 hd4 H4 s4 t4";exists⟨l2,_,rfl,SqL.of (s4 _ _ (s3 _ _ e2)),?_⟩;refine yD (xs:=ms.map vN) (fun i σ H'=>∃o6 o7:Option V,σ=[some (.ref b),some (.ref tt),some (.ref f),some (.ref l2),some (.ref p3),some (.ref d4),o6,o7]/\Same H3 H'/\H' d4=some (.dK (numI (ms.take i)))) ⟨_,_,rfl,s4,t4⟩ ?_ ?_ ?_
 ·rintro i σ H' _ ⟨o6,o7,rfl,sm,ed⟩;exact SqL.of (sm _ _ (s3 _ _ e2))
 ·rintro i v σ H' T' H'' hx ⟨o6,o7,rfl,sm,ed⟩ sP tP;obtain⟨m,hm1,rfl,hm2⟩:=Zz hx;have hi:=(List.getElem?_eq_some_iff.mp hm1).1;have tl:(ms.take i).length=i:=by rw[length_take];omega
  refine qP (SqT.of tP) ?_;exists⟨d4,_,rfl,DPut.k (k:=iK m) (sP _ _ ed) (by rw[j2h,tl];omega),?_⟩;have hk:iK m∉(numI (ms.take i)).map (·.1):=fun z=>by
   rw[K1]at z;obtain⟨y,hy,e⟩:=mem_map.mp z;have e':=xR e;subst e';obtain⟨j,hj,e⟩:=mem_iff_getElem.mp hy;rw[tl]at hj;rw[getElem_take]at e;obtain⟨h2,e2⟩:=List.getElem?_eq_some_iff.mp hm1;exact absurd (e.trans e2.symm) (pairwise_iff_getElem.mp nd j i (by omega) h2 hj)
  refine⟨_,_,rfl,fun c u h=>(jo (jg h hd4)).trans (sP _ _ (sm _ _ h)),?_⟩;rw[jh,Zt hk,take_snoc hm1,j13,tl];rfl
 rintro σ' H5 ⟨o6,o7,rfl,sm,ed⟩;rw[length_map,take_length]at ed;have s25:=s3.trans sm;have s05:=s12.trans s25;exists ixTm (SqT.of (s05 _ _ B.t)) rfl ?_;refine⟨pl,_,rfl,.inl (SqL.of (s05 _ _ B.l)),?_⟩;walk_at"f 6 t";have s26:=s25.trans s6;have s06:=s05.trans s6;exists⟨l2,rfl,⟨_,SqL.of (s26 _ _ e2)⟩,?_⟩;refine jN (xs:=ms.map vN) (fun i ys H'=>∃das:List Addr,ys=das.map V.ref/\Same H6 H'/\DrAt H' das ((keptD (drsM ls ps) ms).take i)) ⟨[],rfl,Same.refl _,.nil⟩ ?_ ?_ ?_
 ·rintro i ys H' _ ⟨das,rfl,sm',dr'⟩;exact SqL.of (sm' _ _ (s26 _ _ e2))
 ·rintro i x ys H' hx ⟨das,rfl,sm',dr'⟩;obtain⟨m,hm1,rfl,hm2⟩:=Zz hx;have hi:=(List.getElem?_eq_some_iff.mp hm1).1;have mt:=Kp.lt O hm2;have mk:(drsM ls ps)[m]?=some (drsM ls ps)[m]:=List.getElem?_eq_getElem (by omega);have eg:(drsM ls ps).getD m (.hold 0)=(drsM ls ps)[m]:=by rw[getD_eq_getElem?_getD,mk];rfl
  obtain⟨fa,hfa,gfa⟩:=dr.get mk;have sH:=s26.trans sm';have hin:=getElem_mem (by omega) (l:=drsM ls ps) (n:=m);have gm:=j4Z (H:=H') (l:=p3) (an:=d4) (n:=ls.length) (ms:=ms) (d:=(drsM ls ps)[m]) (sm' _ _ (s6 _ _ (sm _ _ t3))) (sm' _ _ (s6 _ _ ed)) nd (O.lm _ hin) (fun j hj=>Kp.sub hm2 (by rw[eg];exact hj)) (O.dw.l8 _ hin);refine j8 (σ':=[none,some _,some _,some _]) rfl ?_;exists iteT ?_;exists ixLm (SqL.of (sH _ _ (s2 _ _ ef))) (Jn (j:=m) (by rw[List.getElem?_map,hfa];rfl)) ?_;exists⟨fa,p3,d4,_,_,rfl,(gfa.same s2).same sH,gm,fun c H7 s7 gc=>?_⟩;have dl:=dr'.1;rw[length_take]at dl;refine⟨by rw[length_map];omega,das++[c],by rw[map_append];rfl,sm'.trans s7,?_⟩;rw[take_snoc (x:=reD (fun n=>ms.idxOf n) (drsM ls ps)[m]) (by unfold keptD;rw[List.getElem?_map,hm1,<-eg];rfl)];exact All2.snoc (All2.mono dr' fun a d h=>h.same s7) gc
 rintro ys H' ⟨das,rfl,sm',dr'⟩;have kl:(keptD (drsM ls ps) ms).length=(ms.map vN).length:=by unfold keptD;rw[length_map,length_map]
 rw[<-kl,take_length]at dr';have dl:=dr'.1;rw[kl,length_map]at dl;refine⟨by rw[length_map];omega,?_⟩;walk_at"f 8 t";exists⟨by show 2<=sizeLine;omega,?_⟩;walk_at"f 9 t";have s68:=sm'.trans s8;have s89:=s8.trans s9;exact q p9 p6 p8 das ms H9 (s06.trans (sm'.trans s89)) t9 (s89 _ _ (sm' _ _ t6)) (s9 _ _ t8) (none_of s05 hp6) (none_of (s06.trans sm') hp8) (jg (sm' _ _ t6) hp8) (All2.mono dr' fun a d h=>h.same s89) Kp
theorem Xj(T:Txt K mg t):FnOk P w K mg base CX0 1 t.zj t.zu ["number"] (xh):=by
 refine T.KB.ok zV (fun vs H Q E h=>?_) (fun cdv A outer s H vs Q E hr h=>?_)
 ·obtain⟨N,rfl,hN,q⟩:=h;rfl
 obtain⟨N,rfl,hN,q⟩:=h;refine⟨_,(je (jq (i:=1) zV.nd rfl (.inl rfl) (jm Yb (qh (by rfl) T.Za T.Zb) (jp jI (pv 0) jc)))
  (je (j2z PassesOwn.never (jn j49 (pv 0) jc (nomark _))
   (je (jq (i:=0) zV.nd rfl (.inl rfl) (jp JJ (pv 0) jc))
   (jf (jq (i:=1) zV.nd rfl (.inl rfl) (jp qY (jm Yb (qh (by rfl) T.Za T.Zb) (jp jI (pv 0) jc)) (pv 1))))))
  (jf (jx (pv 1))))),?_⟩
 refine jy (σ':=[some _,none]) rfl ?_;have sz:(200:Nat)<sizeLine:=by decide
 exists⟨_,_,_,rfl,rfl,(by decide +kernel),kA (by omega) (by omega),?_⟩;exists⟨fun n σ' H'=>∃(num:Nat) (nm:Str),σ'=[some (.int (num:Nat)),some (.str nm)]/\H'=H/\n=num/\(num<26->nm=nmK N)/\(26<=num->num=N/\nm=⟨#[97+N%26]⟩),⟨N,N,_,rfl,rfl,rfl,fun h=>?_,fun h=>⟨rfl,?_⟩⟩,?_⟩
 ·unfold nmK;rw[if_pos h,show((N:Int)%26).toNat=N by omega]
 ·rw[show((N:Int)%26).toNat=N%26 by omega]
 rintro n σ' H' ⟨num,nm,rfl,rfl,e0,h1,h2⟩;exists iteD (fun c=>?_) (fun c=>?_)
 ·obtain⟨e1,rfl⟩:=h2 (by omega);refine⟨_,fun σ' H' h=>h,?_⟩;exists⟨_,_,_,rfl,rfl,(by decide +kernel),kA (by omega) (by omega),?_⟩;exists⟨_,_,rfl,rfl,(by show 1+1<=sizeLine;omega),?_⟩;refine⟨num/26,by omega,num/26,_,rfl,rfl,rfl,fun h=>?_,fun h=>absurd h (by omega)⟩;unfold nmK;rw[if_neg (by omega),show((num:Int)/26%26).toNat=N/26 by omega];rfl
 ·rw[h1 (by omega)];walk_at"g";exact q
theorem Xd(T:Txt K mg t)(Jp:FnOk P w K mg base CX0 1 t.JS t.JT ["form","limbs","parts"] (sp_formW))(yW:FnOk P w K mg base CX0 1 t.zj t.zu ["number"] (xh)):FnOk P w K mg base CX0 2 t.zf t.zn ["box"] (sp_bookof):=by
 refine T.Ky.ok yh (fun vs H Q E h=>?_) (fun cdv A outer s H vs Q E hr h=>?_)
 ·cases h;subst_vars;rfl
 obtain⟨bx,l,f,las,das,ls,ks,rfl,et,el,la,ef,dr,O,q⟩:=h;refine⟨_,(je (jq (i:=1) yh.nd rfl (.inr rfl) (j9 (ow:=["name","height"]) (ci:=[]) rfl (CompScope.of (defScope QK) ["box","limbs","names"] rfl rfl (by decide +kernel)) (YR (by decide) (by decide)) (jL (jm jA (pv 0) jc)) (fun _ _ _ _ _=>⟨(qO rfl (jC (jr (i:=0) (jS ["box","limbs","names"] rfl (by decide +kernel)) rfl (.inl rfl)) (jC (jr (i:=1) (jS ["box","limbs","names"] rfl (by decide +kernel)) rfl (.inl rfl)) JP))),Jy,(pv 0)⟩)))
  (je (jq (i:=2) yh.nd rfl (.inr rfl) (j9 (ow:=["number"]) (ci:=[]) rfl (CompScope.of (defScope QK) ["box","limbs","names"] rfl rfl (by decide +kernel)) (j4 (by decide)) (JZ (by rfl) T.qg (ja (jt jB (by rfl) T.Jd jK (ja (jm jA (pv 0) jc) jd)) jd)) (fun _ _ _ _ _=>⟨(jr (i:=0) (jS ["box","limbs","names"] rfl (by decide +kernel)) rfl (.inl rfl)),Jy,(jk (yW.mono (by decide)) hr (by rfl) T.j0X T.KB.kp T.j0A .nil pass0 (ja (pv 0) jd))⟩)))
  (jf (jx (Jg (ja (j7 zM (by rfl) T.y0 ZJ (ja (jm jA (pv 0) jc) jd)) (ja (j9 (ow:=["name","form"]) (ci:=[1,2]) rfl (CompScope.of (defScope QK) ["box","limbs","names"] rfl rfl (by decide +kernel)) (YR (by decide) (by decide)) (j2v (by rfl) T.XM (ja (pv 2) (ja (jm jA (pv 0) jc) jd))) (fun _ _ _ _ _=>⟨(qO rfl (jC (jr (i:=0) (jS ["box","limbs","names"] rfl (by decide +kernel)) rfl (.inl rfl)) (jC (jr (i:=1) (jS ["box","limbs","names"] rfl (by decide +kernel)) rfl (.inl rfl)) JP))),Jy,(Jg (ja (pv 0) (ja (jk (Jp.mono (by decide)) hr (by rfl) T.Zo T.Q0.kp T.Zf .nil pass0 (ja (pv 1) (ja (pv 2) (ja (pv 3) jd)))) jd)))⟩)) jd))))))),?_⟩
 refine jy (σ':=[some _,none,none]) rfl ?_;have sz:(200:Nat)<sizeLine:=by decide
 have k61:=O.k61;have l8:=O.l8;have lal:=la.1;have dl:=dr.1;have nml:(nmsOf ls).length=ls.length:=length_map _;exists ixTm (SqT.of et) rfl ?_;refine⟨l,rfl,⟨_,SqL.of el⟩,?_⟩;refine jN (xs:=las.map V.ref) (fun i ys H'=>ys=((nmsOf ls).take i).map V.str/\H=H') ⟨rfl,rfl⟩ ?_ ?_ ?_
 ·rintro i ys H' _ ⟨rfl,rfl⟩;exact SqL.of el
 ·rintro i x ys H' hx ⟨rfl,rfl⟩;obtain⟨a,p,rfl,hp,hat⟩:=la.at_ref hx;have hi:=(List.getElem?_eq_some_iff.mp hp).1;refine j8 (σ':=[none,none]) rfl ?_;refine qP (SqT.of hat) ?_;exists iteT ?_;exists⟨by rw[length_map,length_take];omega,?_,rfl⟩;rw[take_snoc (x:=p.1) (by unfold nmsOf;rw[List.getElem?_map,hp];rfl),map_append];rfl
 rintro ys H' ⟨rfl,rfl⟩;have el':(las.map V.ref).length=(nmsOf ls).length:=by rw[length_map,nml];exact lal
 rw[el',take_length];refine⟨by rw[length_map,nml];omega,?_⟩;walk_at"f 1 t";exists ixTm (SqT.of (s1 _ _ et)) rfl ?_;refine⟨_,_,rfl,.inl ⟨_,SqL.of (s1 _ _ ef),rfl⟩,?_⟩;rw[length_map,dl];exists⟨_,rfl,by omega,by omega,?_⟩;refine ke (fun i ys H'=>ys=(List.range i).map (fun k=>V.str (nmK k))/\H1=H') ⟨rfl,rfl⟩ ?_ ?_
 ·rintro i ys H' hi ⟨rfl,rfl⟩;rw[show(0:Int)+(i:Nat)=(i:Nat)from Int.zero_add _];refine j8 (σ':=[none]) rfl ?_;exists iteT ?_;exists⟨i,rfl,by omega,?_⟩;refine⟨by rw[length_map,length_range];omega,?_,rfl⟩;rw[range_succ,map_append];rfl
 rintro ys H' ⟨rfl,rfl⟩;rw[show((ks.length:Nat):Int).toNat=ks.length from Int.toNat_natCast _];refine⟨by rw[length_map,length_range];omega,?_⟩;walk_at"f 2 t";have s12:=s1.trans s2;exists ixTm (SqT.of (s12 _ _ et)) rfl ?_;refine⟨l,_,rfl,.inl (SqL.of (s12 _ _ el)),?_⟩;walk_at"f 3 t";have s13:=s12.trans s3;exists ixTm (SqT.of (s13 _ _ et)) rfl ?_;walk_at"g";have t23:=s3 _ _ t2;refine⟨p2,f,_,_,rfl,SqL.of t23,SqL.of (s13 _ _ ef),?_⟩;refine j1J (xs:=(List.range ks.length).map fun k=>V.str (nmK k)) (zs:=das.map V.ref) (fun i ys H'=>∃pas:List Addr,ys=pas.map V.ref/\Same H3 H'/\All2 (PartAt H') pas ((bkP ls ks).take i)) (by rw[length_map,length_map,length_range];exact dl.symm) ⟨[],rfl,Same.refl _,.nil⟩ ?_ ?_ ?_
 ·rintro i ys H' _ ⟨pas,rfl,sm,_⟩;exact⟨SqL.of (sm _ _ t23),SqL.of (sm _ _ (s13 _ _ ef))⟩
 ·rintro i u v ys H' T' H'' hu hv ⟨pas,rfl,sm,pa⟩ sP tP;rw[List.getElem?_map]at hu;obtain⟨k,hk,rfl⟩:=Option.map_eq_some_iff.mp hu;have hi:i<ks.length:=by
   have:=(List.getElem?_eq_some_iff.mp hk).1;rw[length_range]at this;exact this
  rw[List.getElem?_range hi]at hk;cases hk;obtain⟨a,d,rfl,hd,gd⟩:=dr.at_ref hv;have sA:=sm.trans sP;have s0A:=s13.trans sA;have hin:=List.mem_of_getElem? hd;have pl:=pa.1;rw[length_take,Qx]at pl;have gm:=j4h (H:=H'') (l:=p1) (p:=p2) (ls:=ls) (d:=d) (n:=ks.length) (sA _ _ (s3 _ _ (s2 _ _ t1))) (sA _ _ t23) (O.lm d hin) (fun j hj=>by have:=O.dw.lt i d hd j hj;omega) (O.dw.l8 d hin);refine j8 (σ':=[none,none,some _,some _]) rfl ?_;refine qP (SqT.of tP) ?_;exists iteT ?_;exists⟨a,p1,p2,_,_,rfl,gd.same s0A,gm,fun c H4 s4 gc=>?_⟩;exists⟨by show 2<=sizeLine;omega,?_⟩;walk_at"f 5 t";have sB:=sP.trans (s4.trans s5);refine⟨by rw[length_map];omega,pas++[p5],by rw[map_append];rfl,sm.trans sB,?_⟩;rw[take_snoc (wv hd)];exact All2.snoc (All2.mono pa fun a x h=>PartAt.same sB h) ⟨c,t5,WK.mpr (gc.same s5)⟩
 rintro ys H' ⟨pas,rfl,sm,pa⟩;have kl:(bkP ls ks).length=((List.range ks.length).map fun k=>V.str (nmK k)).length:=by rw[Qx,length_map,length_range]
 rw[<-kl,take_length]at pa;have pl:=pa.1;rw[Qx]at pl;refine⟨by rw[length_map];omega,?_⟩;walk_at"f 6 t";exists⟨by show 2<=sizeLine;omega,?_⟩;walk_at"f 7 t";have s67:=s6.trans s7;have s37:=sm.trans s67;have s07:=s13.trans s37;exact q p7 p3 p6 pas H7 s07 ⟨t7,s37 _ _ t3,la.mono fun a x h=>s07 _ _ h,s7 _ _ t6,pa.mono fun a x h=>PartAt.same s67 h⟩ (none_of s12 hp3) (none_of (s13.trans sm) hp6) (jg (sm _ _ t3) hp6)
theorem j2p(T:Txt K mg t)(jP:FnOk P w K mg base CX0 1 t.Jq t.Jr ["named"] (sp_numbers_of))(qS:FnOk P w K mg base CX0 1 t.qU t.qW ["form"] (sp_namesG)):FnOk P w K mg base CX0 2 t.ZH t.ZL ["book"] (sp_inner):=by
 refine T.wo.ok Zw (fun vs H Q E h=>?_) (fun cdv A outer s H vs Q E hr h=>?_)
 ·cases h;subst_vars;rfl
 obtain⟨b,pl,pp,las,pas,ls,ps,rfl,B,W,q⟩:=h;refine⟨_,(je (jq (i:=1) Zw.nd rfl (.inr rfl) (jk (jP.mono (by decide)) hr (by rfl) T.Qz T.qz.kp T.Qv .nil pass0 (ja (jm jA (pv 0) jc) jd)))
  (je (jq (i:=2) Zw.nd rfl (.inl rfl) (jU jd))
  (je (Jf PassesOwn.never rfl (jL (jm jA (pv 0) jc)) (qO rfl (jC (jr (i:=3) Zw.nd rfl (.inl rfl)) (jC (jr (i:=4) Zw.nd rfl (.inl rfl)) JP)))
   (jf (jD (JF PySem.F.plainAttrs_list PySem.F.slot_list_append PySem.F.type_list_append jR (pv 2) (ja (j9 (ow:=["other"]) (ci:=[1]) rfl (CompScope.of (defScope YZ) ["book","numbers","found","name","form"] rfl rfl (by decide +kernel)) (j4 (by decide)) (Wc (jk (qS.mono (by decide)) hr (by rfl) T.kB T.Z5.kp T.Y1 .nil pass0 (ja (pv 4) jd))) (fun _ _ _ _ _=>⟨(jr (i:=0) (jS ["book","numbers","found","name","form"] rfl (by decide +kernel)) rfl (.inl rfl)),Jy,(jF (jM hr) (pv 1) (pv 0))⟩)) jd)))))
  (jf (jx (pv 2)))))),?_⟩
 refine jy (σ':=[some _,none,none,none,none]) rfl ?_;have sz:(200:Nat)<sizeLine:=by decide
 have p61:=W.p61;have pa:=B.pa.1;exists ixTm (SqT.of B.t) rfl ?_;exists⟨pp,pas,nmsOf ps,rfl,B.p,by rw[nmsOf,length_map];exact pa,fun i a x ea ex=>?_,W.pn,by rw[nmsOf,length_map];omega,fun d H1 s1 hd ed=>?_⟩
 ·unfold nmsOf at ex;rw[List.getElem?_map]at ex;obtain⟨p,ep,rfl⟩:=Option.map_eq_some_iff.mp ex;obtain⟨fb,hb,_⟩:=B.pa.2 i a p ea ep;exact⟨_,hb⟩
 exists⟨Nat.zero_le _,?_⟩;walk_at"f l hl H2 s2 t2";have nl:=none_of s1 hl;have s12:=s1.trans s2;exists ixTm (SqT.of (s12 _ _ B.t)) rfl ?_;refine⟨pp,rfl,⟨_,SqL.of (s12 _ _ B.p)⟩,?_⟩;refine qJ (xs:=pas.map V.ref) (fun i σ H'=>∃(as:List Addr) (o3 o4:Option V),σ=[some (.ref b),some (.ref d),some (.ref l),o3,o4]/\Same H1 H'/\H' l=some (.lst (as.map V.ref))/\(∀a∈as,H a=none/\a≠l)/\ListsAt H' as ((ps.take i).map fun p=>(inP ps p.2).map fun j:Nat=>(j:Int)))
  ⟨[],_,_,rfl,s2,t2,(fun a h=>nomatch h),.nil⟩ ?_ ?_ ?_
 ·rintro i σ H' _ ⟨as,o3,o4,rfl,sm,e1,na,la⟩;exact SqL.of ((s1.trans sm) _ _ B.p)
 ·rintro i x σ H' hx ⟨as,o3,o4,rfl,sm,e1,na,la⟩;obtain⟨a,p,rfl,hp,fb,hat,hf⟩:=B.pa.at_ref hx;have hi:=(List.getElem?_eq_some_iff.mp hp).1;have s0:=s1.trans sm;obtain⟨wn,w8⟩:=W.f i p hp;have lal:=la.1;rw[length_map,length_take]at lal;refine qP (SqT.of (s0 _ _ hat)) ?_;exists⟨.inl ⟨rfl,_,SqL.of e1⟩,?_⟩;exists⟨fb,gF p.2,rfl,WK.mp (FormAt.same s0 hf),fun c H3 s3 hc=>?_⟩;have hc:H3 c=some (.tup (p.2.ns.map V.str)):=by rw[hc];cases p.2<;>rfl
  refine⟨c,rfl,⟨_,SqT.of hc⟩,?_⟩;refine yy (xs:=p.2.ns.map V.str) (fun j ys H'=>ys=((p.2.ns.take j).map fun x=>(ixOf (nmsOf ps) x:Int)).map V.int/\H3=H') ⟨rfl,rfl⟩ ?_ ?_ ?_
  ·rintro j ys H' _ ⟨rfl,rfl⟩;exact SqT.of hc
  ·rintro j x ys H' hx ⟨rfl,rfl⟩;rw[List.getElem?_map]at hx;obtain⟨y,ey,rfl⟩:=Option.map_eq_some_iff.mp hx;have hj:=(List.getElem?_eq_some_iff.mp ey).1;obtain⟨k,hk,ek⟩:=wn y (List.mem_of_getElem? ey);refine j8 (σ':=[none,some _]) rfl ?_;exists iteT ?_;walk_at"g";have g:DGet H3 d (.str y) (some (.int (k:Nat))):=by
    have g:=DGet.k (k:=Sum.inr y) ((sm.trans s3) _ _ ed);rw[yI W.pn ek]at g;exact g
   refine⟨d,_,rfl,g,?_⟩;refine⟨by rw[length_map,length_map,length_take];omega,?_,rfl⟩;rw[take_snoc ey,map_append,map_append,<-JO W.pn ek];rfl
  rintro ys H' ⟨rfl,rfl⟩;rw[show(p.2.ns.map V.str).length=p.2.ns.length from length_map _,take_length];refine⟨by rw[length_map,length_map];omega,?_⟩;walk_at"f 4 t";have s34:=s3.trans s4;exists⟨l,_,_,rfl,rfl,s34 _ _ e1,by rw[length_map];omega,?_⟩;have hne:p4≠l:=(jg (s3 _ _ e1) hp4).symm;have n4:H p4=none:=none_of (s0.trans s3) hp4;refine⟨as++[p4],_,_,rfl,fun c u h=>(jo (jg h hl)).trans ((sm.trans s34) _ _ h),?_,fun c hc'=>?_,?_⟩
  ·rw[jh,map_append];rfl
  ·rcases mem_append.mp hc' with e | e
   ·exact na c e
   ·rw[mem_singleton.mp e];exact⟨n4,hne⟩
  ·rw[take_snoc hp,map_append];refine All2.snoc (All2.monoM la fun c hc' ks h=>(jo (na c hc').2).trans (s34 _ _ h)) ?_;have eq:List.map (fun j:Nat=>(j:Int)) (inP ps p.2)=p.2.ns.map fun x=>(ixOf (nmsOf ps) x:Int):=by
    unfold inP;rw[map_map];rfl
   show upd H4 l _ p4=some (.lst (List.map V.int (List.map (fun j:Nat=>(j:Int)) (inP ps p.2))));rw[jo hne,t4,eq]
 rintro σ' H3 ⟨as,o3,o4,rfl,sm,e1,na,la⟩;rw[length_map,pa,take_length]at la;walk_at"g";exact q l as H3 (s1.trans sm) nl e1 (fun a ha=>(na a ha).1) la
theorem j3C(T:Txt K mg t)(jP:FnOk P w K mg base CX0 1 t.Jq t.Jr ["named"] (sp_numbers_of))(ZF:FnOk P w K mg base CX0 2 t.ZH t.ZL ["book"] (sp_inner)):FnOk P w K mg base CX0 3 t.yY t.y8 ["book"] (sp_ends):=by
 refine T.wm.ok Q3 (fun vs H Q E h=>?_) (fun cdv A outer s H vs Q E hr h=>?_)
 ·cases h;subst_vars;rfl
 obtain⟨b,pl,pp,las,pas,ls,ps,rfl,B,W,q⟩:=h;refine⟨_,(je (jq (i:=1) Q3.nd rfl (.inl rfl) (jk (jP.mono (by decide)) hr (by rfl) T.Qz T.qz.kp T.Qv .nil pass0 (ja (jm jA (pv 0) jc) jd)))
  (je (jq (i:=2) Q3.nd rfl (.inl rfl) (jU jd))
  (je (Jf PassesOwn.never rfl (j2v (by rfl) T.XM (ja (jm jA (pv 0) jc) (ja (jk (ZF.mono (by decide)) hr (by rfl) T.j03 T.wo.kp T.XF .nil pass0 (ja (pv 0) jd)) jd))) (qO rfl (jC (jr (i:=3) Q3.nd rfl (.inl rfl)) (jC (jr (i:=4) Q3.nd rfl (.inl rfl)) JP)))
   (je (jq (i:=5) Q3.nd rfl (.inl rfl) (jm jA (pv 3) jc))
   (je (jq (i:=6) Q3.nd rfl (.inl rfl) Zr)
   (je (yd (jn JE (jm jA (pv 5) jc) jv (nomark _))
    (jf (ZR (jM hr) (pv 6) (jF (jM hr) (pv 1) (jm jA (pv 5) jc)) (jm jA (pv 5) jc) rfl))
    jz)
   (je (Jf PassesOwn.never rfl (jL (pv 4)) (jr (i:=7) Q3.nd rfl (.inl rfl))
    (jf (jD (JF PySem.F.plainAttrs_dict PySem.F.slot_dict_update PySem.F.type_dict_update j11 (pv 6) (ja (j7 (xF rfl) (by rfl) T.j4g j34 (ja (jm ju (pv 2) (pv 7)) jd)) jd)))))
   (jf (jD (JF PySem.F.plainAttrs_list PySem.F.slot_list_append PySem.F.type_list_append jR (pv 2) (ja (jt (wz rfl) (by rfl) T.Zk zm (ja (j4R PySem.F.plainAttrs_dict PySem.F.slot_dict_items PySem.F.type_dict_items j2c (pv 6)) jd)) jd)))))))))
  (jf (jx (pv 2)))))),?_⟩
 refine jy (σ':=[some _,none,none,none,none,none,none,none]) rfl ?_;have sz:(200:Nat)<sizeLine:=by decide
 have p61:=W.p61;have l8:=W.l8;have pa:=B.pa.1;have la:=B.la.1;exists ixTm (SqT.of B.t) rfl ?_;exists⟨pl,las,nmsOf ls,rfl,B.l,by rw[nmsOf,length_map];exact la,fun i a x ea ex=>?_,W.ln,by rw[nmsOf,length_map];omega,fun d H1 s1 hd ed=>?_⟩
 ·unfold nmsOf at ex;rw[List.getElem?_map]at ex;obtain⟨p,ep,rfl⟩:=Option.map_eq_some_iff.mp ex;exact⟨_,B.la.2 i a p ea ep⟩
 exists⟨Nat.zero_le _,?_⟩;walk_at"f l hl H2 s2 t2";have nl:=none_of s1 hl;have s12:=s1.trans s2;have ndl:d≠l:=jg ed hl;exists ixTm (SqT.of (s12 _ _ B.t)) rfl ?_;exists⟨b,pl,pp,las,pas,ls,ps,rfl,B.same s12,W,fun li ias H3 s3 hli eli nia lia=>?_⟩;walk_at"g";have s13:=s12.trans s3;have lial:=lia.1;rw[length_map]at lial;have nli:li≠l:=fun z=>by rw[z,t2]at hli;cases hli
 refine⟨pp,li,_,_,rfl,SqL.of (s13 _ _ B.p),SqL.of eli,?_⟩;have npl:∀{c u},H c=some u->c≠l:=fun h=>jg h nl
 have t3:H3 l=some (.lst []):=s3 _ _ t2;refine j3g (xs:=pas.map V.ref) (ys:=ias.map V.ref) (fun i σ H'=>∃(as:List Addr) (E:List (List (Int×Int))) (o3 o4 o5 o6 o7:Option V),σ=[some (.ref b),some (.ref d),some (.ref l),o3,o4,o5,o6,o7]/\(∀c u,c≠l->H3 c=some u->H' c=some u)/\H' l=some (.lst (as.map V.ref))/\(∀a∈as,H a=none/\a≠l)/\E.length=i/\EndsAt H' as E/\EndOk ls ps E)
  (by rw[length_map,length_map];omega) ⟨[],[],_,_,_,_,_,rfl,fun c u _ h=>h,t3,(fun a h=>nomatch h),rfl,.nil,fun i p e _ h=>by simp at h⟩ ?_ ?_ ?_
 ·rintro i σ H' _ ⟨as,E,o3,o4,o5,o6,o7,rfl,sm,e1,na,lE,aE,oE⟩;exact⟨SqL.of (sm _ _ (npl B.p) (s13 _ _ B.p)),SqL.of (sm _ _ nli eli)⟩
 ·rintro i u v σ H' P H4 hu hv ⟨as,E,o3,o4,o5,o6,o7,rfl,sm,e1,na,lE,aE,oE⟩ sP tP;obtain⟨a,p,rfl,hp,fb,hat,hf⟩:=B.pa.at_ref hu;obtain⟨ia,is,rfl,his,hia⟩:=lia.at_ref hv;rw[List.getElem?_map,hp]at his;cases his;have hi:=(List.getElem?_eq_some_iff.mp hp).1;have iam:ia∈ias:=by
   rw[List.getElem?_map]at hv;obtain⟨a',ea,e'⟩:=Option.map_eq_some_iff.mp hv;injection e' with e';subst e';exact List.mem_of_getElem? ea
  have nial:ia≠l:=fun z=>by have:=nia ia iam;rw[z,t2]at this;cases this
  have k4:∀c u,c≠l->H3 c=some u->H4 c=some u:=fun c u hc h=>sP _ _ (sm _ _ hc h)
  have hat4:H4 a=_:=k4 _ _ (npl hat) (s13 _ _ hat);have hia4:H4 ia=_:=k4 _ _ nial hia;have ed4:H4 d=_:=k4 _ _ ndl (s3 _ _ (s2 _ _ ed));have e14:=sP _ _ e1;have hf4:FormAt H4 fb p.2:=by
   have h0:=FormAt.same s13 hf;generalize p.2=f at h0;have np:∀{c:Addr} {xs:List V},H3 c=some (.tup xs)->c≠l:=fun h=>qw h t3 (fun z=>by cases z)
   cases f with
   | row ps=>obtain⟨c,h1,h2⟩:=h0;exact⟨c,k4 _ _ (np h1) h1,k4 _ _ (np h2) h2⟩
   | side ps=>obtain⟨c,h1,h2⟩:=h0;exact⟨c,k4 _ _ (np h1) h1,k4 _ _ (np h2) h2⟩
   | hold n=>exact k4 _ _ (np h0) h0
   | ring x n=>exact k4 _ _ (np h0) h0
   | rise x g n=>exact k4 _ _ (np h0) h0
   | again x n=>exact k4 _ _ (np h0) h0
  have w8:=(W.f i p hp).2;have wr:=fun x h n (e:p.2 = .rise x h n)=>W.r i p.1 x h n (by rw[hp,<-e])
  have inl:=fun j=>W.inP_lt (j:=j) hp
  have bnd:=WH W (by omega) oE;have elen:∀(j:Nat) (e:List (Int×Int)),E[j]?=some e->e.length<=8:=fun j e h=>WI W (by omega) oE h
  refine qP (SqT.of tP) ?_;exists ixTm (SqT.of hat4) rfl ?_;walk_at"g";walk_at"f dl hdl H5 s5 t5";exists⟨fun σ' H6=>σ'=[some (.ref b),some (.ref d),some (.ref l),some (.ref a),some (.ref ia),some (.ref fb),some (.ref dl),o7]/\Same H4 H6/\H6 dl=some (.dK ((kv0 ls p.2).map iiK)),?_,?_⟩
  rotate_left
  ·by_cases hr':∃x h n,p.2 = .rise x h n
   ·obtain⟨x,h,n,e⟩:=hr';rw[e]at hf4;have hf5:H5 fb=some (.tup [.str "raise",.str x,.int h,.int n]):=s5 _ _ hf4;obtain⟨j,hj⟩:=wr x h n e;exists ixTm (SqT.of hf5) rfl ?_;exists iteE1 ?_;exists ixTm (SqT.of hf5) rfl ?_;exists ixTm (SqT.of hf5) rfl ?_;have g:DGet H5 d (.str x) (some (.int (j:Nat))):=by
     have g:=DGet.k (k:=Sum.inr x) (s5 _ _ ed4);rw[yI W.ln hj]at g;exact g
    refine⟨d,_,rfl,g,?_⟩;refine⟨dl,_,rfl,DPut.k (k:=Sum.inl (j:Int)) t5 (by show 0<sizeLine;omega),?_⟩;refine⟨rfl,fun c u h=>(jo (jg h hdl)).trans (s5 _ _ h),?_⟩;rw[jh,e];show _=some (HO.dK [iiK ((ixOf (nmsOf ls) x:Nat),h)]);rw[JO W.ln hj];rfl
   ·obtain⟨k,xs,hk,dk⟩:=j20 hf4 fun x v n e=>hr' ⟨x,v,n,e⟩
    exists ixTm (SqT.of (s5 _ _ hk)) (at0) ?_;exists iteB0 dk ?_;exists⟨rfl,s5,?_⟩;rw[j3o fun x v n e=>hr' ⟨x,v,n,e⟩];exact t5
  rintro σ' H6 ⟨rfl,s6,t6⟩;walk_at"g";have hia6:=s6 _ _ hia4;have nlist:∀{c u},H4 c=some u->c≠dl:=fun h=>jg h hdl
  refine⟨ia,rfl,⟨_,SqL.of hia6⟩,?_⟩;refine qJ (xs:=((inP ps p.2).map fun j:Nat=>(j:Int)).map V.int) (fun t σ H7=>∃(kvs:List (Int×Int)) (o7:Option V),σ=[some (.ref b),some (.ref d),some (.ref l),some (.ref a),some (.ref ia),some (.ref fb),some (.ref dl),o7]/\Same H4 H7/\H7 dl=some (.dK (kvs.map iiK))/\(kvs.map (·.1)).Nodup/\∀k v,(k,v)∈kvs↔LastIn E ((inP ps p.2).take t) k v\/(k,v)∈kv0 ls p.2)
   ⟨_,_,rfl,s6,t6,j4D _,fun k v=>⟨.inr,fun h=>h.elim (fun⟨pre,j,post,e,_⟩=>by cases pre<;>simp at e) id⟩⟩ ?_ ?_ ?_
  ·rintro t σ H7 _ ⟨kvs,o7,rfl,s7,t7,nd7,m7⟩;exact SqL.of (s7 _ _ hia4)
  ·rintro t x σ H7 hx ⟨kvs,o7,rfl,s7,t7,nd7,m7⟩;rw[List.getElem?_map,List.getElem?_map]at hx;obtain⟨jj,hjj,rfl⟩:=Option.map_eq_some_iff.mp hx;obtain⟨j,hj,rfl⟩:=Option.map_eq_some_iff.mp hjj;have jlt:=inl j (List.mem_of_getElem? hj);have e0:kv0 ls p.2=[]:=by
    rcases j4C (ps:=ps) (ls:=ls) p.2 with z | z
    ·rw[z]at hj;simp at hj
    ·exact z
   rw[e0]at m7;have hE:E[j]?=some (E.getD j []):=by rw[getD_eq_getElem?_getD,List.getElem?_eq_getElem (by omega)];rfl
   obtain⟨aj,haj,bs,hbs,prs⟩:=aE.get hE;have ndE:((E.getD j []).map (·.1)).Nodup:=((oE j _ _ (List.getElem?_eq_getElem (by omega)) hE).1).imp fun h=>Int.ne_of_lt h
   have e8:=elen j _ hE;have k8:kvs.length<=8:=by
    have z:=QJ (n:=ls.length) nd7 fun k hk=>by
     obtain⟨q',hq',rfl⟩:=mem_map.mp hk;rcases(m7 q'.1 q'.2).mp hq' with⟨pre,i',post,_,hin,_⟩ | hin
     ·exact bnd i' _ hin
     ·exact nomatch hin
    rw[length_map]at z;omega
   exists⟨.inr (.inr (.inl ⟨rfl,.inl ⟨_,t7⟩⟩)),?_⟩;exists ixLm (SqL.of (s7 _ _ e14)) (Qd (i:=(j:Int)) (by omega) haj) ?_;exists⟨aj,bs,E.getD j [],rfl,s7 _ _ (sP _ _ hbs),prs.1,fun i' c q' h1 h2=>s7 _ _ (sP _ _ (prs.2 i' c q' h1 h2)),?_⟩;walk_at"f d2 hd2 H8 s8 t8";walk_at"g";rw[show([]:List (Key×V))=([]:List (Int×Int)).map iiK from rfl,yc,x6 ndE]at t8;have n2:dl≠d2:=jg t7 hd2;refine⟨dl,d2,_,_,rfl,rfl,s8 _ _ t7,t8,n2,by rw[length_map,length_map];omega,?_⟩;rw[yc];obtain⟨mn,mm⟩:=K0 nd7 ndE;refine⟨mergeI kvs (E.getD j []),_,rfl,fun c u h=>(jo (nlist h)).trans (s8 _ _ (s7 _ _ h)),jh,mn,fun k v=>?_⟩;rw[mm,m7,e0,take_snoc hj,j0T];constructor
   ·rintro(h | ⟨h1,h | h⟩)
    ·exact .inl (.inl h)
    ·exact .inl (.inr ⟨h1,h⟩)
    ·exact nomatch h
   ·rintro((h | ⟨h1,h⟩) | h)
    ·exact .inl h
    ·exact .inr ⟨h1,.inl h⟩
    ·exact nomatch h
  rintro σ' H7 ⟨kvs,o7',rfl,s7,t7,nd7,m7⟩;rw[length_map,length_map,take_length]at m7;have k8:kvs.length<=8:=by
   have z:=QJ (n:=ls.length) nd7 fun k hk=>by
    obtain⟨q',hq',rfl⟩:=mem_map.mp hk;rcases(m7 q'.1 q'.2).mp hq' with⟨pre,i',post,_,hin,_⟩ | hin
    ·exact bnd i' _ hin
    ·obtain⟨x,n,e,ek⟩:=wT.mp hin;obtain⟨j,hj⟩:=wr x _ n e;have h3:=X5 (List.mem_of_getElem? hj);have h4:(nmsOf ls).length=ls.length:=length_map _;rw[ek];omega
   rw[length_map]at z;omega
  exists⟨.inl ⟨rfl,_,SqL.of (s7 _ _ e14)⟩,?_⟩;exists⟨.inr (.inr (.inl ⟨rfl,.inl ⟨_,t7⟩⟩)),dl,_,rfl,rfl,t7,?_⟩;walk_at"f vw hvw H8 s8 t8";exists⟨vw,dl,kvs,rfl,t8,s8 _ _ t7,by omega,fun r cs ms H9 s9 hr9 e9 n9 perm pw len tup=>?_⟩;walk_at"g";have asl:=aE.1;refine⟨l,_,_,rfl,rfl,s9 _ _ (s8 _ _ (s7 _ _ e14)),by rw[length_map];omega,?_⟩;have s49:=s7.trans (s8.trans s9);have nrl:r≠l:=(jg (s8 _ _ (s7 _ _ e14)) hr9).symm;have nr:H r=none:=by
   cases z:H r with
   | none=>rfl
   | some u=>rw[s8 _ _ (s7 _ _ (k4 _ _ nrl (s13 _ _ z)))]at hr9;cases hr9
  have ntl:∀{c:Addr} {xs:List V},H9 c=some (.tup xs)->c≠l:=fun h=>qw h (s49 _ _ e14) (fun z=>by cases z)
  refine⟨as++[r],E++[ms],_,_,_,_,_,rfl,fun c u hc h=>(jo hc).trans (s49 _ _ (k4 _ _ hc h)),?_,fun c hc=>?_,by rw[List.length_append,lE];rfl,?_,?_⟩
  ·rw[jh,map_append];rfl
  ·rcases mem_append.mp hc with z | z
   ·exact na c z
   ·rw[mem_singleton.mp z];exact⟨nr,nrl⟩
  ·refine All2.snoc (All2.monoM aE fun c hc e h=>?_) ?_
   ·obtain⟨bs,hbs,prs⟩:=h;refine⟨bs,(jo (na c hc).2).trans (s49 _ _ (sP _ _ hbs)),All2.mono prs fun c' q' h'=>?_⟩;have h9:=s49 _ _ (sP _ _ h');exact(jo (ntl h9)).trans h9
   ·exact⟨cs,(jo nrl).trans e9,len,fun i' c q' h1 h2=>(jo (ntl (tup i' c q' h1 h2))).trans (tup i' c q' h1 h2)⟩
  ·refine EndOk.snoc W oE (p:=p) (by rw[lE];exact hp) ?_ fun k v=>?_
   ·exact ZU (perm.map _) nd7 pw
   ·rw[perm.mem_iff,m7];exact⟨fun h=>h.imp id wT.mp,fun h=>h.imp id wT.mpr⟩
 rintro σ' H' ⟨as,E,o3,o4,o5,o6,o7,rfl,sm,e1,na,lE,aE,oE⟩;rw[length_map]at lE;walk_at"g";exact q l as E H' (fun c u h=>sm _ _ (npl h) (s13 _ _ h)) nl e1 (fun a ha=>(na a ha).1) (by omega) aE oE
theorem j2q(T:Txt K mg t)(Z6:FnOk P w K mg base CX0 3 t.yY t.y8 ["book"] (sp_ends)):FnOk P w K mg base CX0 4 t.ZI t.ZM ["book"] (sp_moved):=by
 refine T.YM.ok Ka (fun vs H Q E h=>?_) (fun cdv A outer s H vs Q E hr h=>?_)
 ·cases h;subst_vars;rfl
 obtain⟨b,pl,pp,las,pas,ls,ps,rfl,B,W,q⟩:=h;refine⟨_,(je (jq (i:=1) Ka.nd rfl (.inl rfl) (jU jd))
  (je (Jf PassesOwn.never rfl (jL (jk (Z6.mono (by decide)) hr (by rfl) T.xW T.wm.kp T.xt .nil pass0 (ja (pv 0) jd))) (jr (i:=2) Ka.nd rfl (.inl rfl))
   (jf (jD (JF PySem.F.plainAttrs_list PySem.F.slot_list_append PySem.F.type_list_append jR (pv 1) (ja (j9 (ow:=["limb","height"]) (ci:=[]) rfl (CompScope.of (defScope Y0) ["book","found","left"] rfl rfl (by decide +kernel)) (YR (by decide) (by decide)) (jL (pv 2)) (fun _ _ _ _ _=>⟨(qO rfl (jC (jr (i:=0) (jS ["book","found","left"] rfl (by decide +kernel)) rfl (.inl rfl)) (jC (jr (i:=1) (jS ["book","found","left"] rfl (by decide +kernel)) rfl (.inl rfl)) JP))),Jy,(pv 0)⟩)) jd)))))
  (jf (jx (pv 1))))),?_⟩
 refine jy (σ':=[some _,none,none]) rfl ?_;have sz:(200:Nat)<sizeLine:=by decide
 have p61:=W.p61;exists⟨Nat.zero_le _,?_⟩;walk_at"f l hl H1 s1 t1";exists⟨b,pl,pp,las,pas,ls,ps,rfl,B.same s1,W,fun e as E H2 s2 he ee ne lE aE oE=>?_⟩;have aE1:=aE.1;have s12:=s1.trans s2;have l2:H2 l=some (.lst []):=s2 _ _ t1;have nle:l≠e:=fun z=>by rw[z,he]at t1;cases t1
 refine⟨e,rfl,⟨_,SqL.of ee⟩,?_⟩;refine qJ (xs:=as.map V.ref) (fun i σ H'=>∃(cs:List Addr) (o2:Option V),σ=[some (.ref b),some (.ref l),o2]/\(∀c u,c≠l->H2 c=some u->H' c=some u)/\H' l=some (.lst (cs.map V.ref))/\(∀c∈cs,H1 c=none/\c≠l)/\ListsAt H' cs ((E.take i).map fun e=>e.map (·.1)))
  ⟨[],_,rfl,fun c u _ h=>h,l2,(fun c h=>nomatch h),.nil⟩ ?_ ?_ ?_
 ·rintro i σ H' _ ⟨cs,o2,rfl,sm,e1,na,la⟩;exact SqL.of (sm _ _ nle.symm ee)
 ·rintro i x σ H' hx ⟨cs,o2,rfl,sm,e1,na,la⟩;obtain⟨a,ev,rfl,hev,bs,hbs,prs⟩:=aE.at_ref hx;have hi:=(List.getElem?_eq_some_iff.mp hev).1;have lal:=la.1;rw[length_map,length_take]at lal;have am:a∈as:=by
   rw[List.getElem?_map]at hx;obtain⟨a',ea,e'⟩:=Option.map_eq_some_iff.mp hx;injection e' with e';subst e';exact List.mem_of_getElem? ea
  have nal:a≠l:=fun z=>by have:=ne a am;rw[z,t1]at this;cases this
  have hb':H' a=some (.lst (bs.map V.ref)):=sm _ _ nal hbs;have evl:=(oE i _ ev (List.getElem?_eq_getElem (by omega)) hev).1;have ev100:=WI W (by omega) oE hev;exists⟨.inl ⟨rfl,_,SqL.of e1⟩,?_⟩;exists⟨a,rfl,⟨_,SqL.of hb'⟩,?_⟩;refine jN (xs:=bs.map V.ref) (fun j ys H''=>ys=((ev.take j).map (·.1)).map V.int/\H'=H'') ⟨rfl,rfl⟩ ?_ ?_ ?_
  ·rintro j ys H'' _ ⟨rfl,rfl⟩;exact SqL.of hb'
  ·rintro j x ys H'' hx2 ⟨rfl,rfl⟩;obtain⟨c,kv,rfl,hkv,ht⟩:=prs.at_ref hx2;have hj:=(List.getElem?_eq_some_iff.mp hkv).1;have ncl:c≠l:=fun z=>by rw[z,l2]at ht;cases ht
   refine j8 (σ':=[none,none]) rfl ?_;refine qP (SqT.of (sm _ _ ncl ht)) ?_;exists iteT ?_;exists⟨by rw[length_map,length_map,length_take];omega,?_,rfl⟩;rw[take_snoc hkv,map_append,map_append];rfl
  rintro ys H'' ⟨rfl,rfl⟩;rw[show(bs.map V.ref).length=ev.length by rw[length_map];exact prs.1,take_length];refine⟨by rw[length_map,length_map];omega,?_⟩;walk_at"f 4 t";exists⟨l,_,_,rfl,rfl,s4 _ _ e1,by rw[length_map];omega,?_⟩;have hne:p4≠l:=(jg e1 hp4).symm;have n4:H1 p4=none:=by
   cases z:H1 p4 with
   | none=>rfl
   | some u=>rw[sm _ _ hne (s2 _ _ z)]at hp4;cases hp4
  refine⟨cs++[p4],_,rfl,fun c u hc h=>(jo hc).trans (s4 _ _ (sm _ _ hc h)),?_,fun c hc=>?_,?_⟩
  ·rw[jh,map_append];rfl
  ·rcases mem_append.mp hc with z | z
   ·exact na c z
   ·rw[mem_singleton.mp z];exact⟨n4,hne⟩
  ·rw[take_snoc hev,map_append];exact All2.snoc (All2.monoM la fun c hc ks h=>(jo (na c hc).2).trans (s4 _ _ h)) ((jo hne).trans t4)
 rintro σ' H3 ⟨cs,o2,rfl,sm,e1,na,la⟩;rw[length_map,aE1,take_length]at la;exists q l cs (E.map fun e=>e.map (·.1)) H3 (fun c u h=>sm _ _ (jg h hl) (s12 _ _ h)) hl e1 (fun c hc=>none_of s1 (na c hc).1) (by rw[length_map];exact lE) la (j4L lE oE)
theorem Kq(T:Txt K mg t):FnOk P w K mg base CX0 1 t.qC t.qG ["row","moves","limbs"] (sp_check_side):=by
 refine T.yp.ok zd (fun vs H Q E h=>?_) (fun cdv A outer s H vs Q E hr h=>?_)
 ·cases h;subst_vars;rfl
 obtain⟨r,l,ll,as,las,M,rfl,el,la,ne,M8,ell,one,q⟩:=h;refine⟨_,(je (jJ (jn (j4P hr.units) (jU jd) (pv 1) (by with_unfolding_all rfl))
   (jf zB)
   jz)
  (jf (Jf PassesOwn.never rfl (YW (by rfl) T.Qm (ja (pv 2) jd)) (qO rfl (jC (jr (i:=3) zd.nd rfl (.inr rfl)) (jC (jr (i:=4) zd.nd rfl (.inl rfl)) JP)))
   (jf (jJ (jn yJ (jt jB (by rfl) T.Jd jK (ja (j9 (ow:=["move"]) (ci:=[3]) rfl (CompScope.of (defScope QD) ["row","moves","limbs","number","limb"] rfl rfl (by decide +kernel)) (j4 (by decide)) (jL (pv 1)) (fun _ _ _ _ _=>⟨(jr (i:=0) (jS ["row","moves","limbs","number","limb"] rfl (by decide +kernel)) rfl (.inl rfl)),(kR (jn (kO (K:=K) rfl) (pv 1) (pv 0) (by with_unfolding_all rfl))),kQ⟩)) jd)) jc (nomark _))
    (jf zB)
    jz))))),?_⟩
 refine jy (σ':=[some _,some _,some _,none,none]) rfl ?_;have sz:(200:Nat)<sizeLine:=by decide
 have lal:=la.1;exists⟨Nat.zero_le _,?_⟩;walk_at"f 0 t";exists⟨p0,l,as,M,rfl,rfl,t0,s0 _ _ el,lal,fun i b ks e1 e2=>s0 _ _ (la.2 i b ks e1 e2),?_⟩;exists iteB0 (any_empty ne) ?_;exists⟨ll,_,rfl,SqL.of (s0 _ _ ell),?_⟩;refine yD (xs:=las.map V.ref) (fun i σ H'=>∃o3 o4:Option V,σ=[some (.int r),some (.ref l),some (.ref ll),o3,o4]/\Same H H') ⟨_,_,rfl,s0⟩ ?_ ?_ ?_
 ·rintro i σ H' _ ⟨o3,o4,rfl,sm⟩;exact SqL.of (sm _ _ ell)
 ·rintro i v σ H' P H1 hx ⟨o3,o4,rfl,sm⟩ sP tP;have s1:=sm.trans sP;refine qP (SqT.of tP) ?_;exists⟨l,rfl,⟨_,SqL.of (s1 _ _ el)⟩,?_⟩;refine jN (xs:=as.map V.ref) (fun j ys H''=>ys.length=((M.take j).filter fun ks=>decide ((i:Int)∈ks)).length/\H1=H'') ⟨rfl,rfl⟩ ?_ ?_ ?_
  ·rintro j ys H'' _ ⟨_,rfl⟩;exact SqL.of (s1 _ _ el)
  ·rintro j x ys H'' hx2 ⟨hy,rfl⟩;obtain⟨a,ks,rfl,hks,ha⟩:=la.at_ref hx2;refine j8 (σ':=[none,some _]) rfl ?_;exists⟨a,_,rfl,.inl (SqL.of (s1 _ _ ha)),rfl,flats ks,?_⟩;rw[inI];walk_at"g";have hle:((M.take j).filter fun ks=>decide ((i:Int)∈ks)).length<=8:=Nat.le_trans (length_filter_le _ _) (Nat.le_trans (List.length_take_le' _ _) M8);refine iteD (fun d=>?_) (fun d=>?_)
   ·exists⟨by omega,?_,rfl⟩;rw[take_snoc hks,filter_append,filter_cons,if_pos (decide_eq_true d),List.length_append,List.length_append,hy];rfl
   ·refine⟨?_,rfl⟩;rw[take_snoc hks,filter_append,filter_cons,if_neg (by simpa using d),List.length_append,hy];rfl
  rintro ys H'' ⟨hy,rfl⟩;rw[length_map,lal,take_length]at hy;have o1:=one (i:Int);refine⟨by omega,?_⟩;walk_at"f 2 t";exists⟨_,_,rfl,.inl ⟨_,SqL.of t2,rfl⟩,?_⟩;exists iteD (fun d=>?_) (fun d=>?_)
  ·exfalso;omega
  ·walk_at"g";exact⟨_,_,rfl,s1.trans s2⟩
 rintro σ' H' ⟨o3,o4,rfl,sm⟩;exact q H' sm
theorem wX(T:Txt K mg t):FnOk P w K mg base CX0 1 t.Qk t.Qo ["form","inside"] (sp_length_of):=by
 refine T.Yt.ok Wl (fun vs H Q E h=>?_) (fun cdv A outer s H vs Q E hr h=>?_)
 ·cases h;subst_vars;rfl
 obtain⟨a,l,f,gs,rfl,hF,el,pre,q⟩:=h;refine⟨_,(je (jJ (jn JE (jm jA (pv 0) jc) jv (nomark _))
   (jf (jx (jt (ZK rfl) (by rfl) T.XL ww (ja (pv 1) jd))))
   jz)
  (je (jJ (jn JE (jm jA (pv 0) jc) jv (nomark _))
   (jf (jx (jt (KJ rfl) (by rfl) T.j1D xD (ja (pv 1) jd))))
   jz)
  (je (jJ (jn JE (jm jA (pv 0) jc) jv (nomark _))
   (jf (jx (jp qN (jm jA (pv 0) jc) (jm ju (pv 1) jc))))
   jz)
  (jf (jx (jm jA (pv 0) (Z2 ze jc))))))),?_⟩
 refine jy (σ':=[some _,some _]) rfl ?_;have sz:(200:Nat)<sizeLine:=by decide
 cases f with
 | hold n=>
  have ha:H a=some (.tup _):=hF;exists ixTm (SqT.of ha) rfl ?_;exists iteE0 ?_;exists ixTm (SqT.of ha) rfl ?_;exists iteE0 ?_;exists ixTm (SqT.of ha) rfl ?_;exists iteE0 ?_;exists ixTm (SqT.of ha) rfl ?_;exact q _ rfl
 | ring x n=>
  have ha:H a=some (.tup _):=hF;exists ixTm (SqT.of ha) rfl ?_;exists iteE0 ?_;exists ixTm (SqT.of ha) rfl ?_;exists iteE0 ?_;exists ixTm (SqT.of ha) rfl ?_;exists iteE0 ?_;exists ixTm (SqT.of ha) rfl ?_;exact q _ rfl
 | rise x v n=>
  have ha:H a=some (.tup _):=hF;exists ixTm (SqT.of ha) rfl ?_;exists iteE0 ?_;exists ixTm (SqT.of ha) rfl ?_;exists iteE0 ?_;exists ixTm (SqT.of ha) rfl ?_;exists iteE0 ?_;exists ixTm (SqT.of ha) rfl ?_;exact q _ rfl
 | row ps=>
  obtain⟨b,ha,hb⟩:=hF;exists ixTm (SqT.of ha) rfl ?_;exists iteE1 ?_;exists⟨l,gs,rfl,SqL.of el,?_⟩;exact q _ rfl
 | side ps=>
  obtain⟨b,ha,hb⟩:=hF;exists ixTm (SqT.of ha) rfl ?_;exists iteE0 ?_;exists ixTm (SqT.of ha) rfl ?_;exists iteE1 ?_;exists⟨l,gs,rfl,SqL.of el,List.length_pos_iff.mpr pre,fun g h1 h2=>?_⟩;exact q g ⟨h1,h2⟩
 | again k x=>
  have ha:H a=some (.tup _):=hF;obtain⟨y,r,rfl,k1,k2,y1,y2⟩:=pre;exists ixTm (SqT.of ha) rfl ?_;exists iteE0 ?_;exists ixTm (SqT.of ha) rfl ?_;exists iteE0 ?_;exists ixTm (SqT.of ha) rfl ?_;exists iteE1 ?_;exists ixTm (SqT.of ha) rfl ?_;exists ixLm (SqL.of el) (at0) ?_;walk_at"g";exact q _ ⟨y,rfl,rfl⟩
theorem Xi(T:Txt K mg t)(ZF:FnOk P w K mg base CX0 2 t.ZH t.ZL ["book"] (sp_inner))(zK:FnOk P w K mg base CX0 4 t.ZI t.ZM ["book"] (sp_moved))(zJ:FnOk P w K mg base CX0 1 t.qC t.qG ["row","moves","limbs"] (sp_check_side))(Zi:FnOk P w K mg base CX0 1 t.Qk t.Qo ["form","inside"] (sp_length_of)):FnOk P w K mg base CX0 5 t.zi t.zt ["book"] (sp_lengths):=by
 refine T.yS.ok qr (fun vs H Q E h=>?_) (fun cdv A outer s H vs Q E hr h=>?_)
 ·cases h;subst_vars;rfl
 obtain⟨b,pl,pp,las,pas,ls,ps,gs,hs,rfl,B,S,q⟩:=h;refine⟨_,(je (jq (i:=1) qr.nd rfl (.inr rfl) (jk (zK.mono (by decide)) hr (by rfl) T.wP T.YM.kp T.wj .nil pass0 (ja (pv 0) jd)))
  (je (jq (i:=2) qr.nd rfl (.inr rfl) (jU jd))
  (je (Jf PassesOwn.never rfl (YW (by rfl) T.Qm (ja (jk (ZF.mono (by decide)) hr (by rfl) T.j03 T.wo.kp T.XF .nil pass0 (ja (pv 0) jd)) jd)) (qO rfl (jC (jr (i:=3) qr.nd rfl (.inl rfl)) (jC (jr (i:=4) qr.nd rfl (.inl rfl)) JP)))
   (je (jq (i:=5) qr.nd rfl (.inl rfl) (jm jA (jm ju (jm jA (pv 0) jc) (pv 3)) jc))
   (je (yd (jn JE (jm jA (pv 5) jc) jv (nomark _))
    (jf (jD (jk (zJ.mono (by decide)) hr (by rfl) T.wO T.yp.kp T.wg .nil pass0 (ja (pv 3) (ja (j9 (ow:=["part"]) (ci:=[1]) rfl (CompScope.of (defScope zC) ["book","moves","found","row","inside","form","length"] rfl rfl (by decide +kernel)) (j4 (by decide)) (jL (pv 4)) (fun _ _ _ _ _=>⟨(jr (i:=0) (jS ["book","moves","found","row","inside","form","length"] rfl (by decide +kernel)) rfl (.inl rfl)),Jy,(jm (Qq (K:=K) rfl) (pv 1) (pv 0))⟩)) (ja (jm jA (pv 0) jc) jd))))))
    jz)
   (je (jq (i:=6) qr.nd rfl (.inl rfl) (jk (Zi.mono (by decide)) hr (by rfl) T.WU T.Yt.kp T.Wy .nil pass0 (ja (pv 5) (ja (j9 (ow:=["part"]) (ci:=[2]) rfl (CompScope.of (defScope zC) ["book","moves","found","row","inside","form","length"] rfl rfl (by decide +kernel)) (j4 (by decide)) (jL (pv 4)) (fun _ _ _ _ _=>⟨(jr (i:=0) (jS ["book","moves","found","row","inside","form","length"] rfl (by decide +kernel)) rfl (.inl rfl)),Jy,(jm (Qq (K:=K) rfl) (pv 1) (pv 0))⟩)) jd))))
   (je (jJ (jn yJ (pv 6) (jp qZ jc jc) (nomark _))
    (jf zB)
    jz)
   (jf (jD (JF PySem.F.plainAttrs_list PySem.F.slot_list_append PySem.F.type_list_append jR (pv 2) (ja (pv 6) jd)))))))))
  (jf (jx (pv 2)))))),?_⟩
 refine jy (σ':=[some _,none,none,none,none,none,none]) rfl ?_;have sz:(200:Nat)<sizeLine:=by decide
 have W:=S.w;have pa:=B.pa.1;have gl:=S.gl;have p61:=W.p61;exists⟨b,pl,pp,las,pas,_,_,rfl,B,W,fun lm cms M H1 s1 hlm elm nlm Ml aM oM=>?_⟩;have mg:=S.mv M Ml oM;have aMl:=aM.1;exists⟨Nat.zero_le _,?_⟩;walk_at"f l hl H2 s2 t2";have nl:=none_of s1 hl;have s12:=s1.trans s2;exists⟨b,pl,pp,las,pas,_,_,rfl,B.same s12,W,fun li ias H3 s3 hli eli nia lia=>?_⟩;walk_at"g";have s13:=s12.trans s3;have s23:=s2.trans s3;have lial:=lia.1;rw[length_map]at lial;have nli:li≠l:=fun z=>by rw[z,t2]at hli;cases hli
 have t3:H3 l=some (.lst []):=s3 _ _ t2;have npl:∀{c u},H c=some u->c≠l:=fun h=>jg h nl
 have np1:∀{c u},H1 c=some u->c≠l:=fun h=>jg h hl
 refine⟨li,_,rfl,SqL.of eli,?_⟩;refine yD (xs:=ias.map V.ref) (fun i σ H'=>∃(o3 o4 o5 o6:Option V),σ=[some (.ref b),some (.ref lm),some (.ref l),o3,o4,o5,o6]/\(∀c u,c≠l->H3 c=some u->H' c=some u)/\H' l=some (.lst ((gs.take i).map V.int)))
  ⟨_,_,_,_,rfl,fun c u _ h=>h,t3⟩ ?_ ?_ ?_
 ·rintro i σ H' _ ⟨o3,o4,o5,o6,rfl,sm,e1⟩;exact SqL.of (sm _ _ nli eli)
 ·rintro i v σ H' P H4 hv ⟨o3,o4,o5,o6,rfl,sm,e1⟩ sP tP;obtain⟨ia,is',rfl,his,hia⟩:=lia.at_ref hv;have hi:i<ps.length:=by
   have:=(List.getElem?_eq_some_iff.mp his).1;rw[length_map]at this;exact this
  obtain⟨p,hp⟩:∃p,ps[i]?=some p:=⟨_,List.getElem?_eq_getElem hi⟩
  rw[List.getElem?_map,hp]at his;cases his;obtain⟨a,ea,fb,hat,hf⟩:=B.pa.get hp;have iam:ia∈ias:=by
   rw[List.getElem?_map]at hv;obtain⟨a',ea',e'⟩:=Option.map_eq_some_iff.mp hv;injection e' with e';subst e';exact List.mem_of_getElem? ea'
  have nial:ia≠l:=fun z=>by have:=nia ia iam;rw[z,t2]at this;cases this
  have k4:∀c u,c≠l->H3 c=some u->H4 c=some u:=fun c u hc h=>sP _ _ (sm _ _ hc h)
  have k04:∀c u,H c=some u->H4 c=some u:=fun c u h=>k4 _ _ (npl h) (s13 _ _ h)
  have k14:∀c u,H1 c=some u->H4 c=some u:=fun c u h=>k4 _ _ (np1 h) (s23 _ _ h)
  have hia4:H4 ia=some (.lst (((inP ps p.2).map fun j:Nat=>(j:Int)).map V.int)):=k4 _ _ nial hia;have e14:=sP _ _ e1;have hf4:FormAt H4 fb p.2:=FormAt.same k04 hf;have inl:=fun j=>W.inP_lt (j:=j) hp
  have w8:(inP ps p.2).length<=8:=by unfold inP;rw[length_map];exact(W.f i p hp).2
  obtain⟨lp,lgd⟩:=S.ln i p hp;have lgi:=S.gb i hi;refine qP (SqT.of tP) ?_;exists ixTm (SqT.of (k04 _ _ B.t)) rfl ?_;exists ixLm (SqL.of (k04 _ _ B.p)) (Qd (i:=(i:Int)) (by omega) ea) ?_;exists ixTm (SqT.of (k04 _ _ hat)) rfl ?_;exists⟨fun σ' H5=>σ'=[some (.ref b),some (.ref lm),some (.ref l),some (.int i),some (.ref ia),some (.ref fb),o6]/\Same H4 H5,?_,?_⟩
  rotate_left
  ·by_cases hs0:∃qs,p.2 = .side qs
   ·obtain⟨qs,e⟩:=hs0;have ap:=S.sd i p qs hp e;generalize inP ps p.2=is at hia4 inl ap w8;rw[e]at hf4;obtain⟨nb,hf5,_⟩:=hf4;exists ixTm (SqT.of hf5) rfl ?_;exists iteE1 ?_;exists⟨ia,rfl,⟨_,SqL.of hia4⟩,?_⟩;have cat:∀j∈is,∃c,cms[j]?=some c/\H4 c=some (.lst ((hs.getD j []).map V.int)):=fun j hj=>by
     have jl:=inl j hj;obtain⟨c,hc,h1⟩:=aM.get (i:=j) (x:=M.getD j []) (by rw[getD_eq_getElem?_getD,List.getElem?_eq_getElem (by omega)];rfl);rw[mg j (by omega)]at h1;exact⟨c,hc,k14 _ _ h1⟩
    refine jN (xs:=(is.map fun j:Nat=>(j:Int)).map V.int) (fun t ys H'=>∃cs:List Addr,ys=cs.map V.ref/\ListsAt H4 cs ((is.take t).map fun j=>hs.getD j [])/\H4=H') ⟨[],rfl,.nil,rfl⟩ ?_ ?_ ?_
    ·rintro t ys H' _ ⟨cs,rfl,lc,rfl⟩;exact SqL.of hia4
    ·rintro t x ys H' hx ⟨cs,rfl,lc,rfl⟩;rw[List.getElem?_map,List.getElem?_map]at hx;obtain⟨jj,hjj,rfl⟩:=Option.map_eq_some_iff.mp hx;obtain⟨j,hj,rfl⟩:=Option.map_eq_some_iff.mp hjj;obtain⟨c,hc,h1⟩:=cat j (List.mem_of_getElem? hj);have lcl:=lc.1;rw[length_map,length_take]at lcl;refine j8 (σ':=[none,some _]) rfl ?_;exists iteT ?_;exists ixLm (SqL.of (k14 _ _ elm)) (Qd (i:=(j:Int)) (by omega) hc) ?_;refine⟨by rw[length_map];omega,cs++[c],by rw[map_append];rfl,?_,rfl⟩;rw[take_snoc hj,map_append];exact All2.snoc lc h1
    rintro ys H' ⟨cs,rfl,lc,rfl⟩;rw[length_map,length_map,take_length]at lc;have lcl:=lc.1;rw[length_map]at lcl;refine⟨by rw[length_map];omega,?_⟩;walk_at"f 5 t";exists ixTm (SqT.of (s5 _ _ (k04 _ _ B.t))) rfl ?_;exists⟨_,p5,pl,cs,las,(is.map fun j=>hs.getD j []),rfl,t5,All2.mono lc fun c ks h=>s5 _ _ h,fun ks hks=>?_,by rw[length_map];omega,s5 _ _ (k04 _ _ B.l),ap.2,fun H6 s6=>?_⟩
    ·obtain⟨j,hj,rfl⟩:=mem_map.mp hks;exact ap.1 j hj
    walk_at"g";exact⟨rfl,s5.trans s6⟩
   ·have kd:∃k xs,H4 fb=some (.tup (.str k::xs))/\decide (k=("side" : Str))=false:=by
     generalize p.2=f at hf4 hs0;cases f with
     | side qs=>exact absurd ⟨qs,rfl⟩ hs0
     | hold n=>exact⟨_,_,hf4,by decide +kernel⟩
     | ring x n=>exact⟨_,_,hf4,by decide +kernel⟩
     | rise x v n=>exact⟨_,_,hf4,by decide +kernel⟩
     | row qs=>obtain⟨_,h1,_⟩:=hf4;exact⟨_,_,h1,by decide +kernel⟩
     | again k x=>exact⟨_,_,hf4,by decide +kernel⟩
    obtain⟨k,xs,hk,dk⟩:=kd;exists ixTm (SqT.of hk) (at0) ?_;exists iteB0 dk ?_;walk_at"g";exact⟨rfl,Same.refl _⟩
  rintro σ' H5 ⟨rfl,s5⟩;exists⟨ia,rfl,⟨_,SqL.of (s5 _ _ hia4)⟩,?_⟩;have e15:=s5 _ _ e14;refine jN (xs:=((inP ps p.2).map fun j:Nat=>(j:Int)).map V.int) (fun t ys H'=>ys=(((inP ps p.2).take t).map fun j=>gs.getD j 0).map V.int/\H5=H') ⟨rfl,rfl⟩ ?_ ?_ ?_
  ·rintro t ys H' _ ⟨rfl,rfl⟩;exact SqL.of (s5 _ _ hia4)
  ·rintro t x ys H' hx ⟨rfl,rfl⟩;rw[List.getElem?_map,List.getElem?_map]at hx;obtain⟨jj,hjj,rfl⟩:=Option.map_eq_some_iff.mp hx;obtain⟨j,hj,rfl⟩:=Option.map_eq_some_iff.mp hjj;have jl:=inl j (List.mem_of_getElem? hj);refine j8 (σ':=[none,some _]) rfl ?_;exists iteT ?_;exists ixLm (SqL.of e15) (j5c (by omega) jl) ?_;refine⟨by rw[length_map,length_map,length_take];omega,?_,rfl⟩;rw[take_snoc hj,map_append,map_append];rfl
  rintro ys H' ⟨rfl,rfl⟩;rw[show(((inP ps p.2).map fun j:Nat=>(j:Int)).map V.int).length=(inP ps p.2).length by rw[length_map,length_map],take_length];refine⟨by rw[length_map,length_map];omega,?_⟩;walk_at"f 6 t";exists⟨fb,p6,p.2,_,rfl,FormAt.same (s5.trans s6) hf4,t6,lp,fun g hg=>?_⟩;have eg:=lgd g hg;subst eg;exists iteD (fun d=>?_) (fun d=>?_)
  ·exfalso;omega
  exists⟨.inl ⟨rfl,_,SqL.of (s6 _ _ e15)⟩,?_⟩;exists⟨l,_,_,rfl,rfl,s6 _ _ e15,by rw[length_map,length_take];omega,?_⟩;refine⟨_,_,_,_,rfl,fun c u hc h=>(jo hc).trans (s6 _ _ (s5 _ _ (k4 _ _ hc h))),?_⟩;rw[jh,j3i (by omega),map_append];rfl
 rintro σ' H' ⟨o3,o4,o5,o6,rfl,sm,e1⟩;rw[length_map,lial,<-gl,take_length]at e1;walk_at"g";exact q l H' (fun c u h=>sm _ _ (npl h) (s13 _ _ h)) nl e1
theorem YI(T:Txt K mg t):FnOk P w K mg base CX0 1 t.JA t.JB ["_law_script","_law_k"] (Pr.sp_cell_at K):=by
 refine T.JR.ok YL (fun vs H Q E h=>?_) (fun cdv A outer s H vs Q E hr h=>?_)
 ·cases h;subst_vars;rfl
 obtain⟨a,ns,k,rfl,hS,h63,h0,q⟩:=h;refine⟨_,(je (jJ (jn W8 (pv 1) (jt jB (by rfl) T.Jd jK (ja (pv 0) jd)) (nomark _))
   (jf (jx (jm ju (pv 0) (pv 1))))
   jz)
  (jf (jx jc))),?_⟩
 refine jy (σ':=[some _,some _]) rfl ?_;exists⟨_,_,rfl,.inl ⟨_,hS,rfl⟩,?_⟩;exists iteD (fun c=>?_) (fun c=>?_)
 ·walk_at"g";exact⟨a,_,k,_,rfl,rfl,hS,Pr.jQ h0 (by rw[length_map]at c;exact c),q⟩
 ·walk_at"g";have e:Pr.cell ns k=0:=by
   rw[length_map]at c;unfold Pr.cell;rw[getD_eq_getElem?_getD,List.getElem?_eq_none (by omega)];rfl
  rw[e]at q;exact q
theorem kM(T:Txt K mg t):FnOk P w K mg base CX0 1 t.Ji t.Jj ["_law_cell","_law_turn"] (zE):=by
 refine T.JK.ok QY (fun vs H Q E h=>?_) (fun cdv A outer s H vs Q E hr h=>?_)
 ·obtain⟨c,m,rfl,m0,m1,q⟩:=h;rfl
 obtain⟨c,m,rfl,m0,m1,q⟩:=h;refine⟨_,(je (jJ (jn W8 (pv 0) (jp qZ jc jc) (nomark _))
   (jf (jx (pv 0)))
   jz)
  (je (Jf PassesOwn.never rfl (JZ (by rfl) T.qg (ja (jp qN jc (pv 1)) jd)) (jr (i:=2) QY.nd rfl (.inl rfl))
   (jf (jq (i:=0) QY.nd rfl (.inl rfl) (jp JJ (pv 0) (jp qZ jc jc)))))
  (jf (jx (jp Je (jp qZ jc jc) (pv 0)))))),?_⟩
 refine jy (σ':=[some _,some _,none]) rfl ?_;exists iteD (fun c1=>?_) (fun c1=>?_)
 ·walk_at"g";exact q _
 exists⟨_,rfl,by omega,by omega,?_⟩;refine qX (fun i σ H'=>∃(x:Int) (o2:Option V),σ=[some (.int x),some (.int m),o2]/\H=H') ⟨_,_,rfl,rfl⟩ ?_ ?_
 ·rintro i σ H' hi ⟨x,o2,rfl,rfl⟩;walk_at"g";exact⟨_,_,rfl,rfl⟩
 ·rintro σ H' ⟨x,o2,rfl,rfl⟩;walk_at"g";exact q _
theorem kL(T:Txt K mg t):FnOk P w K mg base CX0 1 t.Ju t.Jw ["_law_cell","_law_many"] (Ws.ZW):=by
 refine T.J3.ok jY (fun vs H Q E h=>?_) (fun cdv A outer s H vs Q E hr h=>?_)
 ·obtain⟨c,m,rfl,m0,m1,q⟩:=h;rfl
 obtain⟨c,m,rfl,m0,m1,q⟩:=h;refine⟨_,(je (jq (i:=2) jY.nd rfl (.inl rfl) (jU jd))
  (je (jJ (jn j49 (pv 0) (jp qZ jc jc) (nomark _))
   (je (jq (i:=3) jY.nd rfl (.inl rfl) (jp Yi (pv 0) (jp qZ jc jc)))
   (je (Jf PassesOwn.never rfl (JZ (by rfl) T.qg (ja (pv 1) jd)) (jr (i:=4) jY.nd rfl (.inl rfl))
    (je (jD (JF PySem.F.plainAttrs_list PySem.F.slot_list_append PySem.F.type_list_append jR (pv 2) (ja (jp jI (pv 3) jc) jd)))
    (jf (jq (i:=3) jY.nd rfl (.inl rfl) (jp JJ (pv 3) jc)))))
   (jf (jx (pv 2)))))
   jz)
  (je (jq (i:=3) jY.nd rfl (.inl rfl) (jp Je (jp jI (pv 0) jc) jc))
  (je (Jf PassesOwn.never rfl (JZ (by rfl) T.qg (ja (pv 1) jd)) (jr (i:=4) jY.nd rfl (.inl rfl))
   (je (jq (i:=3) jY.nd rfl (.inl rfl) (jp Je (jp Je (jp Je (jp qN (pv 3) (pv 3)) (jp qN jc (pv 3))) (jp qN jc (pv 4))) jc))
   (je (jq (i:=3) jY.nd rfl (.inl rfl) (jp jI (pv 3) jc))
   (jf (jD (JF PySem.F.plainAttrs_list PySem.F.slot_list_append PySem.F.type_list_append jR (pv 2) (ja (jp JJ (pv 3) jc) jd)))))))
  (jf (jx (pv 2))))))),?_⟩
 refine jy (σ':=[some _,some _,none,none,none]) rfl ?_;have sz:(100:Nat)<sizeLine:=by decide
 exists⟨Nat.zero_le _,fun p hp=>?_⟩;exists iteD (fun c1=>?_) (fun c1=>?_)
 ·exists⟨_,rfl,by omega,by omega,?_⟩;refine qX (fun i σ H'=>∃(x:Int) (o4:Option V) (ns:List Int),σ=[some (.int c),some (.int m),some (.ref p),some (.int x),o4]/\Same H H'/\H' p=some (.lst (ns.map V.int))/\ns.length=i/\∀n∈ns,0<=n/\n<33554432)
   ⟨_,_,[],rfl,Pr.jw hp _,jh,rfl,fun n h=>by cases h⟩ ?_ ?_
  ·rintro i σ H' hi ⟨x,o4,ns,rfl,sm,hl,hn,hb⟩;exists⟨.inl ⟨rfl,_,SqL.of hl⟩,?_⟩;exists⟨p,_,_,rfl,rfl,hl,by rw[length_map];omega,?_⟩;exists⟨_,_,ns++[x%33554432],rfl,Ws.yM sm hp,by rw[jh,map_append];rfl,by simp[hn],fun n h=>?_⟩;rcases mem_append.mp h with z | z
   ·exact hb n z
   ·have e:n=x%33554432:=by simpa using z
    omega
  ·rintro σ H' ⟨x,o4,ns,rfl,sm,hl,hn,hb⟩;walk_at"g";exact q p ns _ sm hp hl (by omega) hb
 ·exists⟨_,rfl,by omega,by omega,?_⟩;refine qX (fun i σ H'=>∃(x:Int) (o4:Option V) (ns:List Int),σ=[some (.int c),some (.int m),some (.ref p),some (.int x),o4]/\0<=x/\x<=2147531918/\Same H H'/\H' p=some (.lst (ns.map V.int))/\ns.length=i/\∀n∈ns,0<=n/\n<33554432)
   ⟨_,_,[],rfl,by omega,by omega,Pr.jw hp _,jh,rfl,fun n h=>by cases h⟩ ?_ ?_
  ·rintro i σ H' hi ⟨x,o4,ns,rfl,x0,x1,sm,hl,hn,hb⟩;walk_at"g";generalize x*x+48271*x+7*(0+(i:Int))+1=y;refine⟨.inl ⟨rfl,_,SqL.of hl⟩,?_⟩;exists⟨p,_,_,rfl,rfl,hl,by rw[length_map];omega,?_⟩;refine⟨_,_,ns++[y%2147483647/64],rfl,by omega,by omega,Ws.yM sm hp,by rw[jh,map_append];rfl,by simp[hn],fun n h=>?_⟩;rcases mem_append.mp h with z | z
   ·exact hb n z
   ·have e:n=y%2147483647/64:=by simpa using z
    omega
  ·rintro σ H' ⟨x,o4,ns,rfl,x0,x1,sm,hl,hn,hb⟩;walk_at"g";exact q p ns _ sm hp hl (by omega) hb
theorem Kn(T:Txt K mg t)(jW:FnOk P w K mg base CX0 1 t.Ju t.Jw ["_law_cell","_law_many"] (Ws.ZW)):FnOk P w K mg base CX0 2 t.qB t.qF ["_law_cell","_law_many"] (xi):=by
 refine T.yo.ok Jk (fun vs H Q E h=>?_) (fun cdv A outer s H vs Q E hr h=>?_)
 ·obtain⟨c,rfl,q⟩:=h;rfl
 obtain⟨c,rfl,q⟩:=h;refine⟨_,(je (jq (i:=2) Jk.nd rfl (.inr rfl) jv)
  (je (jq (i:=3) Jk.nd rfl (.inl rfl) (jk (jW.mono (by decide)) hr (by rfl) T.Qg T.J3.kp T.Qa .nil pass0 (ja (pv 0) (ja jc jd))))
  (je (jq (i:=4) Jk.nd rfl (.inl rfl) (JF PySem.F.plainAttrs_str PySem.F.slot_str_join PySem.F.type_str_join YU jv (ja (j9 (ow:=["_law_one"]) (ci:=[2]) rfl (CompScope.of (defScope QC) ["_law_cell","_law_many","_law_letters","_law_some","_law_base","_law_at","_law_names_here","_law_k","_law_two"] rfl rfl (by decide +kernel)) (j4 (by decide)) (jL (Jm QG (pv 3) qi (j5 (jp jI (jm ju (pv 3) jc) jc)))) (fun _ _ _ _ _=>⟨(jr (i:=0) (jS ["_law_cell","_law_many","_law_letters","_law_some","_law_base","_law_at","_law_names_here","_law_k","_law_two"] rfl (by decide +kernel)) rfl (.inl rfl)),Jy,(jm Yb (pv 1) (jp jI (pv 0) jc))⟩)) jd)))
  (je (jq (i:=5) Jk.nd rfl (.inl rfl) (jp jI (jm ju (pv 3) jc) (jp Je (jt jB (by rfl) T.Jd jK (ja (pv 4) jd)) jc)))
  (je (jq (i:=6) Jk.nd rfl (.inl rfl) (jU jd))
  (je (Jf PassesOwn.never rfl (JZ (by rfl) T.qg (ja (pv 1) jd)) (jr (i:=7) Jk.nd rfl (.inl rfl))
   (je (jq (i:=8) Jk.nd rfl (.inl rfl) (jp qY (jm Yb (pv 2) (jp JJ (pv 7) jc)) (jm Yb (pv 2) (jp jI (pv 7) jc))))
   (jf (jJ (jn JE (jp jI (jm ju (pv 3) jc) jc) jc (nomark _))
    (jf (jD (JF PySem.F.plainAttrs_list PySem.F.slot_list_append PySem.F.type_list_append jR (pv 6) (ja (jp qY (jp qY (Jm Wn (pv 4) qi (j5 (pv 5))) (pv 8)) (Jm Wn (pv 4) (j5 (pv 5)) qi)) jd))))
    (jf (jJ (jn JE (jp jI (jm ju (pv 3) jc) jc) jc (nomark _))
     (jf (jD (JF PySem.F.plainAttrs_list PySem.F.slot_list_append PySem.F.type_list_append jR (pv 6) (ja (jp qY (pv 8) (Jm Wn (pv 4) qi (j5 (jp jI (pv 7) (jp Je (jt jB (by rfl) T.Jd jK (ja (pv 4) jd)) jc))))) jd))))
     (jf (jD (JF PySem.F.plainAttrs_list PySem.F.slot_list_append PySem.F.type_list_append jR (pv 6) (ja (Jm Wn (pv 8) (j5 (j7 j0H (by rfl) T.j1C xC (ja (Wb W8 (pv 7) jc (nomark _)) jd))) qi) jd))))))))))
  (jf (jx (pv 6))))))))),?_⟩
 refine jy (σ':=[some _,some _,none,none,none,none,none,none,none]) rfl ?_;have sz:(200:Nat)<sizeLine:=by decide
 exists⟨_,_,rfl,by omega,by omega,fun p ns H1 s1 hp hl hn hb=>?_⟩;have hb':∀k:Int,0<=k->k<9->0<=Pr.cell ns k:=fun k h0 h1=>(hb _ (List.mem_of_getElem? (Pr.WL (ns:=ns) (k:=k) h0 (by omega)))).1
 exists⟨rfl,?_⟩;exists ixLm (SqL.of hl) (Pr.jQ (by omega) (by omega)) ?_;exists⟨p,_,rfl,SqL.of hl,fun p3 hp3=>?_⟩;have b6:=hb' 6 (by omega) (by omega);have hcut:=Pr.j1M (ns:=ns) (m:=Pr.cell ns 6%7) (by omega) (by omega);rw[hcut];have s4:=Pr.jw hp3 (.lst ((ns.take (Pr.cell ns 6%7).toNat).map V.int));have e3:upd H1 p3 (.lst ((ns.take (Pr.cell ns 6%7).toNat).map V.int)) p3=some (.lst ((ns.take (Pr.cell ns 6%7).toNat).map V.int)):=jh;generalize upd H1 p3 (.lst ((ns.take (Pr.cell ns 6%7).toNat).map V.int))=H4 at s4 e3|-;have hml:(ns.take (Pr.cell ns 6%7).toNat).length<=6:=by rw[length_take];omega
 generalize ns.take (Pr.cell ns 6%7).toNat=ms at e3 hml|-;refine⟨p3,rfl,⟨_,SqL.of e3⟩,?_⟩;refine jN (xs:=ms.map V.int) (fun i ys H'=>∃zs:List Str,ys=zs.map V.str/\zs.length=i/\(∀z∈zs,∃c,z=⟨#[c]⟩/\97<=c/\c<=122)/\H4=H') ⟨[],rfl,rfl,(fun z h=>nomatch h),rfl⟩ ?_ ?_ ?_
 ·rintro i ys H' _ ⟨zs,rfl,hz,h1,rfl⟩;exact SqL.of e3
 ·rintro i x ys H' hx ⟨zs,rfl,hz,h1,rfl⟩;obtain⟨n,hn',rfl⟩:=mem_map.mp (List.mem_of_getElem? hx);have hi:=(List.getElem?_eq_some_iff.mp hx).1;rw[length_map]at hi;refine j8 (σ':=[none,some _]) rfl ?_;exists iteT ?_;exists⟨_,_,_,rfl,rfl,(by decide +kernel),kA (by omega) (by omega),?_⟩;refine⟨by rw[length_map];omega,zs++[⟨#[97+(n%26).toNat]⟩],by rw[map_append];rfl,by simp[hz],fun y hy=>?_,rfl⟩;rcases mem_append.mp hy with w | w
  ·exact h1 y w
  ·have e:y=⟨#[97+(n%26).toNat]⟩:=by simpa using w
   exact⟨_,e,by omega,by omega⟩
 rintro ys H' ⟨zs,rfl,hz,h1,rfl⟩;rw[length_map]at hz;refine⟨by rw[length_map];omega,fun p4 hp4=>?_⟩;have s5:=Pr.jw hp4 (.lst (zs.map V.str));have e4:upd H4 p4 (.lst (zs.map V.str)) p4=some (.lst (zs.map V.str)):=jh;generalize upd H4 p4 (.lst (zs.map V.str))=H5 at s5 e4|-;have h1':∀z∈zs,z.length=1:=fun z hz=>by obtain⟨c,rfl,_⟩:=h1 z hz;rfl
 have hone:(zs.map (·.length)).sum=zs.length:=Ws.xl zs h1';have ee:(Str.ofString "").length=0:=by decide +kernel
 have hsum:(zs.map (·.length)).sum+zs.length*(Str.ofString "").length<=16777216:=by rw[hone,ee];omega
 exists⟨_,p4,zs,rfl,rfl,SqL.of e4,hsum,?_⟩;obtain⟨hxl,hxc⟩:=j0E (zs:=zs) h1;generalize Txt.join (Str.ofString "") zs=x at hxl hxc|-;have s6:=s1.trans (s4.trans s5);have hl5:=s5 _ _ (s4 _ _ hl);have b7:=hb' 7 (by omega) (by omega);have b8:=hb' 8 (by omega) (by omega);exists ixLm (SqL.of hl5) (Pr.jQ (by omega) (by omega)) ?_;exists⟨_,_,rfl,⟨by omega,rfl⟩,?_⟩;walk_at"g";have a0:=Int.emod_nonneg (Pr.cell ns 7) (show(x.length:Int)+1≠0 by omega);have a1:=Int.emod_lt_of_pos (Pr.cell ns 7) (show 0<(x.length:Int)+1 by omega);generalize Pr.cell ns 7%((x.length:Int)+1)=a at a0 a1|-;refine⟨Nat.zero_le _,fun p5 hp5=>?_⟩;exists⟨_,rfl,by omega,by omega,?_⟩;have np:p≠p5:=jg hl5 hp5;refine qX (fun i σ H'=>∃(o7 o8:Option V) (ws:List Str),σ=[some (.int c),some (.int 68),some (.str "abcdefghijklmnopqrstuvwxyz"),some (.ref p),some (.str x),some (.int a),some (.ref p5),o7,o8]/\Same H5 H'/\H' p5=some (.lst (ws.map V.str))/\ws.length=i/\∀j,j<i->(ws[j]?).map (·.cps.toList)=some (nmL (Pr.cell ns 8%3) x.cps.toList a.toNat j))
  ⟨_,_,[],rfl,Pr.jw hp5 _,jh,rfl,fun j hj=>absurd hj (Nat.not_lt_zero j)⟩ ?_ ?_
 ·rintro i σ H' hi ⟨o7,o8,ws,rfl,sm,hl',hn',hw⟩;have hi':i<68:=by omega
  exists⟨_,_,_,rfl,rfl,(by decide +kernel),kA (by omega) (by omega),?_⟩;exists⟨_,_,_,rfl,rfl,(by decide +kernel),kA (by omega) (by omega),?_⟩;have one:∀c:Nat,(⟨#[c]⟩:Str).length=1:=fun _=>rfl
  refine⟨_,_,rfl,rfl,by rw[one,one];omega,?_⟩;obtain⟨two,etwo⟩:∃two,two=(⟨#[97+((0+(i:Int))/26).toNat]⟩:Str)++⟨#[97+((0+(i:Int))%26).toNat]⟩:=⟨_,rfl⟩
  rw[<-etwo];have ltwo:two.length=2:=by rw[etwo,Str.length_append];rfl
  have ctwo:two.cps.toList=[97+i/26,97+i%26]:=by
   rw[etwo,app_list];show[97+((0+(i:Int))/26).toNat]++[97+((0+(i:Int))%26).toNat]=_;rw[show((0+(i:Int))/26).toNat=i/26 by omega,show((0+(i:Int))%26).toNat=i%26 by omega];rfl
  clear etwo;exists ixLm (SqL.of (sm _ _ hl5)) (Pr.jQ (by omega) (by omega)) ?_;walk_at"g";have fin:∀y:Str,y.cps.toList=nmL (Pr.cell ns 8%3) x.cps.toList a.toNat i->∃(o7' o8':Option V) (ws':List Str),[some (V.int c),some (.int 68),some (.str "abcdefghijklmnopqrstuvwxyz"),some (.ref p),some (.str x),some (.int a),some (.ref p5),some (.int (0+(i:Int))),some (.str two)]=[some (V.int c),some (.int 68),some (.str "abcdefghijklmnopqrstuvwxyz"),some (.ref p),some (.str x),some (.int a),some (.ref p5),o7',o8']/\Same H5 (upd H' p5 (.lst (ws.map V.str++[.str y])))/\upd H' p5 (.lst (ws.map V.str++[.str y])) p5=some (.lst (ws'.map V.str))/\ws'.length=i+1/\∀j,j<i+1->(ws'[j]?).map (·.cps.toList)=some (nmL (Pr.cell ns 8%3) x.cps.toList a.toNat j):=
   fun y hy=>⟨_,_,ws++[y],rfl,Ws.yM sm hp5,by rw[jh,map_append];rfl,by simp[hn'],j3x hn' hw hy⟩
  refine iteD (fun c1=>?_) (fun c1=>?_)
  ·exists⟨.inl ⟨rfl,_,SqL.of hl'⟩,?_⟩;walk_at"g";have j1:=Txt.slice_le x none (some a);have j2:=Txt.slice_le x (some a) none;refine⟨by omega,?_⟩;exists⟨_,_,rfl,rfl,by omega,?_⟩;exists⟨by omega,?_⟩;refine⟨_,_,rfl,rfl,by rw[Str.length_append];omega,?_⟩;exists⟨p5,_,_,rfl,rfl,hl',by rw[length_map];omega,?_⟩;exists fin _ ?_;rw[app_list,app_list,cutTo (by omega) (by omega),cutFrom (by omega) (by omega),ctwo];unfold nmL;rw[if_pos c1]
  ·exists ixLm (SqL.of (sm _ _ hl5)) (Pr.jQ (by omega) (by omega)) ?_;exists iteD (fun c2=>?_) (fun c2=>?_)
   ·exists⟨.inl ⟨rfl,_,SqL.of hl'⟩,?_⟩;exists⟨_,_,rfl,⟨by omega,rfl⟩,?_⟩;walk_at"g";have d0:=Int.emod_nonneg (0+(i:Int)) (show(x.length:Int)+1≠0 by omega);have d1:=Int.emod_lt_of_pos (0+(i:Int)) (show 0<(x.length:Int)+1 by omega);have j1:=Txt.slice_le x none (some ((0+(i:Int))%((x.length:Int)+1)));refine⟨by omega,?_⟩;refine⟨_,_,rfl,rfl,by omega,?_⟩;exists⟨p5,_,_,rfl,rfl,hl',by rw[length_map];omega,?_⟩;exists fin _ ?_;rw[app_list,cutTo (by omega) (by omega),ctwo];unfold nmL;rw[if_neg c1,if_pos c2,Ws.zO,show((0+(i:Int))%((x.length:Int)+1)).toNat=i%(x.length+1) by rw[Int.zero_add];exact Int.toNat_natCast _]
   ·exists⟨.inl ⟨rfl,_,SqL.of hl'⟩,?_⟩;exists .inr ⟨_,rfl,?_⟩;walk_at"g";have j1:=Txt.slice_le two (some (if decide (0+(i:Int)<26)=true then 1 else 0)) none;refine⟨by omega,?_⟩;exists⟨p5,_,_,rfl,rfl,hl',by rw[length_map];omega,?_⟩;exists fin _ ?_;unfold nmL;rw[if_neg c1,if_neg c2];by_cases c3:i<26
    ·rw[if_pos (decide_eq_true (by omega)),if_pos c3,cutFrom (by omega) (by omega),ctwo];rfl
    ·rw[if_neg (by simp;omega),if_neg c3,cutFrom (by omega) (by omega),ctwo];rfl
 ·rintro σ H' ⟨o7,o8,ws,rfl,sm,hl',hn',hw⟩;walk_at"g";obtain⟨g1,g2⟩:=x9 (ws:=ws) hxc (by rw[Ws.zO];omega) (by omega) hw;exact q p5 ws _ (s6.trans sm) (none_of s6 hp5) hl' (by omega) g1 g2
theorem kJ(T:Txt K mg t):FnOk P w K mg base CX0 1 t.Jt t.Jv ["_law_cell","_law_mixed","_law_least"] (ZV):=by
 refine T.J2.ok QX (fun vs H Q E h=>?_) (fun cdv A outer s H vs Q E hr h=>?_)
 ·obtain⟨c,m,l,rfl,m0,m1,l0,l1,q⟩:=h;rfl
 obtain⟨c,m,l,rfl,m0,m1,l0,l1,q⟩:=h;refine⟨_,(je (jq (i:=3) QX.nd rfl (.inl rfl) (jp jI (pv 1) jc))
  (je (jJ (jn JE (pv 3) jc (nomark _))
   (jf (jx (jp Je (pv 2) (jp jI (jp JJ (pv 1) jc) jc))))
   jz)
  (je (jJ (jn JE (pv 3) jc (nomark _))
   (jf (jx (jp Je (pv 2) (jp jI (pv 0) (jp Yi (jp Je (jp qZ jc jc) jc) (pv 2))))))
   jz)
  (je (jJ (jn JE (pv 3) jc (nomark _))
   (jf (jx (jp Je (pv 2) (jp jI (jp qN (jp qN (pv 1) (pv 1)) jc) (jp Yi (jp Je (jp qZ jc jc) jc) (pv 2))))))
   jz)
  (je (jq (i:=4) QX.nd rfl (.inl rfl) (jp Yi (jp Je (j7 KI (by rfl) T.j1C xC (ja (jp qY jv (jp j3F jv (jp jI (jp JJ (pv 1) jc) jc))) jd)) (jp jI (jp JJ (pv 1) jc) jc)) jc))
  (jf (jx (jt (j0J rfl) (by rfl) T.j1D xD (ja (pv 2) (ja (jt (KK rfl) (by rfl) T.j3Y j1F (ja (jp qZ jc jc) (ja (pv 4) jd))) jd)))))))))),?_⟩
 refine jy (σ':=[some _,some _,some _,none,none]) rfl ?_;have a0:=Int.emod_nonneg c (show(10^18+1-l:Int)≠0 by omega);have a1:=Int.emod_lt_of_pos c (show(0:Int)<10^18+1-l by omega);have b0:=Int.emod_nonneg (m*m*48271) (show(10^18+1-l:Int)≠0 by omega);have b1:=Int.emod_lt_of_pos (m*m*48271) (show(0:Int)<10^18+1-l by omega);have mm:=j4M (x:=m) (y:=m) (A:=33554432) (B:=33554432) (by omega) (by omega) (by omega) (by omega);exists iteD (fun c1=>?_) (fun c1=>?_)
 ·exists q _ ?_ ?_<;>omega
 exists iteD (fun c2=>?_) (fun c2=>?_)
 ·exists q _ ?_ ?_<;>omega
 exists iteD (fun c3=>?_) (fun c3=>?_)
 ·exists q _ ?_ ?_<;>omega
 exists⟨_,_,rfl,rfl,mulOk0 (by omega) (by omega),?_⟩;exists⟨_,_,rfl,rfl,j2U (by omega) (by omega),?_⟩;exists⟨_,_,rfl,tens (by omega) (by omega),j1p (by omega) (by omega),?_⟩;walk_at"g";generalize(10:Int)^(m/4%19).toNat+m/76%3-1=y;refine⟨_,_,rfl,?_⟩;exists⟨_,_,rfl,q _ ?_ ?_⟩<;>repeat' split<;>omega
theorem W3(T:Txt K mg t):FnOk P w K mg base CX0 1 t.qm t.qo ["_law_room_here","_law_form","_law_hands","_law_long"] (sp_add):=by
 refine T.JQ.ok xb (fun vs H Q E h=>?_) (fun cdv A outer s H vs Q E hr h=>?_)
 ·cases h;subst_vars;rfl
 obtain⟨z,m,fa,ha,f,ks,g,rfl,R,hf,hh,l1,l2,l3,l4,q⟩:=h;refine⟨_,(je (jD (JF PySem.F.plainAttrs_list PySem.F.slot_list_append PySem.F.type_list_append jR (jF (jM hr) (pv 0) jv) (ja (Jg (ja (jm ju (jF (jM hr) (pv 0) jv) (jt jB (by rfl) T.Jd jK (ja (jF (jM hr) (pv 0) jv) jd))) (ja (pv 1) jd))) jd)))
  (je (jD (JF PySem.F.plainAttrs_list PySem.F.slot_list_append PySem.F.type_list_append jR (jF (jM hr) (pv 0) jv) (ja (pv 2) jd)))
  (jf (jD (JF PySem.F.plainAttrs_list PySem.F.slot_list_append PySem.F.type_list_append jR (jF (jM hr) (pv 0) jv) (ja (pv 3) jd)))))),?_⟩
 refine jy (σ':=[some _,some _,some _,some _]) rfl ?_;have sz:(200:Nat)<sizeLine:=by decide
 obtain⟨qs,eq,aq⟩:=R.p;obtain⟨hs,eh,ah⟩:=R.h;have hq:=aq.1;have hhl:=ah.1;exists⟨_,_,rfl,Jl R,?_⟩;refine⟨.inl ⟨rfl,_,SqL.of eq⟩,?_⟩;exists⟨_,_,rfl,KR R,?_⟩;exists⟨_,_,rfl,Jl R,?_⟩;exists⟨_,_,rfl,.inl ⟨_,SqL.of eq,rfl⟩,?_⟩;rw[length_map,hq];refine ixLm (SqL.of R.n) (XJ (by omega)) ?_;exists⟨(by show 2<=sizeLine;omega),fun p hp=>?_⟩;have s1:=Pr.jw hp (.tup [.str (m.names.getD m.parts.length ⟨#[]⟩),.ref fa]);have e1:upd H p (.tup [.str (m.names.getD m.parts.length ⟨#[]⟩),.ref fa]) p=some (.tup [.str (m.names.getD m.parts.length ⟨#[]⟩),.ref fa]):=jh;generalize upd H p (.tup [.str (m.names.getD m.parts.length ⟨#[]⟩),.ref fa])=H1 at s1 e1|-;have R1:=R.keeps s1;have hf1:FormAt H1 fa f:=FormAt.kp R (Rm.Kp.of s1) hf;have hh1:HandAt z H1 ha ks:=⟨s1 _ _ hh.1,hh.2⟩
 have aq1:All2 (PartAt H1) qs m.parts:=aq.mono fun a x h=>PartAt.kp R (Rm.Kp.of s1) h
 have ah1:All2 (HandAt z H1) hs m.hands:=ah.mono fun a x h=>⟨s1 _ _ h.1,h.2⟩
 have eq1:=s1 _ _ eq;have eh1:=s1 _ _ eh;have od:=W2 R;exists⟨_,_,_,rfl,rfl,eq1,by rw[length_map];omega,?_⟩;walk_at"g";have d2:upd H1 z.pp (.lst (qs.map V.ref++[.ref p])) z.r=_:=(jo od.1).trans R1.d;have eh2:upd H1 z.pp (.lst (qs.map V.ref++[.ref p])) z.ph=_:=(jo R.ph.symm).trans eh1;have eg2:upd H1 z.pp (.lst (qs.map V.ref++[.ref p])) z.pg=_:=(jo R.pg.symm).trans R1.g;have ep2:upd H1 z.pp (.lst (qs.map V.ref++[.ref p])) z.pp=_:=jh;have k2:Rm.Kp z H1 (upd H1 z.pp (.lst (qs.map V.ref++[.ref p]))):=fun b u o h=>(jo o.1).trans h
 generalize upd H1 z.pp (.lst (qs.map V.ref++[.ref p]))=H2 at d2 eh2 eg2 ep2 k2|-;refine⟨_,_,rfl,DGet.k (k:=Sum.inr "hands") d2,?_⟩;refine⟨.inl ⟨rfl,_,SqL.of eh2⟩,?_⟩;exists⟨_,_,_,rfl,rfl,eh2,by rw[length_map];omega,?_⟩;walk_at"g";have d3:upd H2 z.ph (.lst (hs.map V.ref++[.ref ha])) z.r=_:=(jo od.2.1).trans d2;have eg3:upd H2 z.ph (.lst (hs.map V.ref++[.ref ha])) z.pg=_:=(jo R.hg.symm).trans eg2;have ep3:upd H2 z.ph (.lst (hs.map V.ref++[.ref ha])) z.pp=_:=(jo R.ph).trans ep2;have eh3:upd H2 z.ph (.lst (hs.map V.ref++[.ref ha])) z.ph=_:=jh;have k3:Rm.Kp z H1 (upd H2 z.ph (.lst (hs.map V.ref++[.ref ha]))):=fun b u o h=>(jo o.2.1).trans (k2 b u o h)
 generalize upd H2 z.ph (.lst (hs.map V.ref++[.ref ha]))=H3 at d3 eg3 ep3 eh3 k3|-;refine⟨_,_,rfl,DGet.k (k:=Sum.inr "long") d3,?_⟩;refine⟨.inl ⟨rfl,_,SqL.of eg3⟩,?_⟩;exists⟨_,_,_,rfl,rfl,eg3,by rw[length_map];omega,?_⟩;have eg4:upd H3 z.pg (.lst (m.longs.map V.int++[.int g])) z.pg=_:=jh;have ep4:upd H3 z.pg (.lst (m.longs.map V.int++[.int g])) z.pp=_:=(jo R.pg).trans ep3;have eh4:upd H3 z.pg (.lst (m.longs.map V.int++[.int g])) z.ph=_:=(jo R.hg).trans eh3;have k4:Rm.Kp z H1 (upd H3 z.pg (.lst (m.longs.map V.int++[.int g]))):=fun b u o h=>(jo o.2.2).trans (k3 b u o h)
 exact q _ (fun b u o h=>k4 b u o (s1 b u h)) (j1x R1 k4 eq1 aq1 eh1 ah1 ⟨fa,e1,hf1⟩ hh1 ep4 eh4 eg4) fun hs' e=>by rw[eh]at e;injection e with e;injection e with e;rw[map_append,<-e];exact eh4
theorem kK(T:Txt K mg t)(jH:FnOk P w K mg base CX0 1 t.Ji t.Jj ["_law_cell","_law_turn"] (zE))(jV:FnOk P w K mg base CX0 1 t.Jt t.Jv ["_law_cell","_law_mixed","_law_least"] (ZV))(j6:FnOk P w K mg base CX0 1 t.qm t.qo ["_law_room_here","_law_form","_law_hands","_law_long"] (sp_add)):FnOk P w K mg base CX0 2 t.JL t.JM ["_law_room_here","_law_cell","_law_some"] (sp_simple):=by
 refine T.Qb.ok qQ (fun vs H Q E h=>?_) (fun cdv A outer s H vs Q E hr h=>?_)
 ·cases h;subst_vars;rfl
 obtain⟨z,m,c,p,ns,rfl,R,G,ml,hl,op,hn,hb,q⟩:=h;refine⟨_,(je (jq (i:=3) qQ.nd rfl (.inl rfl) (jk (jV.mono (by decide)) hr (by rfl) T.Qf T.J2.kp T.q0 .nil pass0 (ja (jk (jH.mono (by decide)) hr (by rfl) T.qf T.JK.kp T.J1 .nil pass0 (ja (pv 1) (ja jc jd))) (ja (jm ju (pv 2) jc) (ja jc jd)))))
  (jf (jJ (jn JE (jp jI (jm ju (pv 2) jc) jc) jc (nomark _))
   (jf (jD (jk (j6.mono (by decide)) hr (by rfl) T.qq T.JQ.kp T.qk .nil pass0 (ja (pv 0) (ja (Jg (ja jv (ja (pv 3) jd))) (ja (jU jd) (ja (pv 3) jd)))))))
   (jf (jJ (jn JE (jp jI (jm ju (pv 2) jc) jc) jc (nomark _))
    (jf (jD (jk (j6.mono (by decide)) hr (by rfl) T.qq T.JQ.kp T.qk .nil pass0 (ja (pv 0) (ja (Jg (ja jv (ja (jm ju (jF (jM hr) (pv 0) jv) (jp jI (jm ju (pv 2) jc) jc)) (ja (pv 3) jd)))) (ja (jU jd) (ja (pv 3) jd)))))))
    (je (jq (i:=4) qQ.nd rfl (.inl rfl) (jp jI (jm ju (pv 2) jc) (jt jB (by rfl) T.Jd jK (ja (jF (jM hr) (pv 0) jv) jd))))
    (je (jq (i:=5) qQ.nd rfl (.inl rfl) (jk (jV.mono (by decide)) hr (by rfl) T.Qf T.J2.kp T.q0 .nil pass0 (ja (jk (jH.mono (by decide)) hr (by rfl) T.qf T.JK.kp T.J1 .nil pass0 (ja (jp JJ (pv 1) jc) (ja jc jd))) (ja (jm ju (pv 2) jc) (ja jc jd)))))
    (jf (jD (jk (j6.mono (by decide)) hr (by rfl) T.qq T.JQ.kp T.qk .nil pass0 (ja (pv 0) (ja (Jg (ja jv (ja (jm jA (jm ju (jF (jM hr) (pv 0) jv) (pv 4)) jc) (ja (pv 5) (ja (pv 3) jd))))) (ja (jU (ja (pv 4) jd)) (ja (pv 3) jd)))))))))))))),?_⟩
 refine jy (σ':=[some _,some _,some _,none,none,none]) rfl ?_;have sz:(200:Nat)<sizeLine:=by decide
 have nl:=G.nl;have e1:=G.hl;have e2:=G.gl;have c0:=hb.cell (k:=0) (by omega) (by omega);have c1:=hb.cell (k:=1) (by omega) (by omega);have c2:=hb.cell (k:=2) (by omega) (by omega);have c3:=hb.cell (k:=3) (by omega) (by omega);exists⟨_,_,rfl,by omega,by omega,fun wn=>?_⟩;exists ixLm (SqL.of hl) (Pr.jQ (by omega) (by omega)) ?_;exists⟨_,_,_,rfl,by omega,by omega,by omega,by omega,fun b b1 b2=>?_⟩;exists ixLm (SqL.of hl) (Pr.jQ (by omega) (by omega)) ?_;exists iteD (fun d1=>?_) (fun d1=>?_)
 ·exists⟨(by show 2<=sizeLine;omega),fun p1 hp1=>?_⟩;have s1:=Pr.jw hp1 (.tup [.str "hold",.int b]);have t1:upd H p1 (.tup [.str "hold",.int b]) p1=some (.tup [.str "hold",.int b]):=jh;generalize upd H p1 (.tup [.str "hold",.int b])=H1 at s1 t1|-;have R1:=R.keeps s1;exists⟨Nat.zero_le _,fun p2 hp2=>?_⟩;have s2:=Pr.jw hp2 (.lst []);have t2:upd H1 p2 (.lst []) p2=some (.lst []):=jh;generalize upd H1 p2 (.lst [])=H2 at s2 t2|-;have R2:=R1.keeps s2;exists⟨z,m,p1,p2,.hold b,[],b,rfl,R2,s2 _ _ t1,⟨t2,qM R1 hp2⟩,by omega,by omega,by omega,nl,fun H' k R' _=>?_⟩;exact q _ _ ((Rm.Kp.of (s1.trans s2)).trans k) R' (G.add ⟨⟨b1,b2,rfl,rfl⟩,(fun z h=>nomatch h),.nil,by omega,by omega⟩) Qw
 exists ixLm (SqL.of hl) (Pr.jQ (by omega) (by omega)) ?_;exists iteD (fun d2=>?_) (fun d2=>?_)
 ·exists⟨_,_,rfl,KR R,?_⟩;exists ixLm (SqL.of hl) (Pr.jQ (by omega) (by omega)) ?_;exists ixLm (SqL.of R.n) (WA (by omega) (by omega)) ?_;have hx:=getD_in (ws:=m.names) (n:=(Pr.cell ns 1%60).toNat) (by omega);generalize m.names.getD (Pr.cell ns 1%60).toNat ⟨#[]⟩=x at hx|-;exists⟨(by show 3<=sizeLine;omega),fun p1 hp1=>?_⟩;have s1:=Pr.jw hp1 (.tup [.str "ring",.str x,.int b]);have t1:upd H p1 (.tup [.str "ring",.str x,.int b]) p1=some (.tup [.str "ring",.str x,.int b]):=jh;generalize upd H p1 (.tup [.str "ring",.str x,.int b])=H1 at s1 t1|-;have R1:=R.keeps s1;exists⟨Nat.zero_le _,fun p2 hp2=>?_⟩;have s2:=Pr.jw hp2 (.lst []);have t2:upd H1 p2 (.lst []) p2=some (.lst []):=jh;generalize upd H1 p2 (.lst [])=H2 at s2 t2|-;have R2:=R1.keeps s2;exists⟨z,m,p1,p2,.ring x b,[],b,rfl,R2,s2 _ _ t1,⟨t2,qM R1 hp2⟩,by omega,by omega,by omega,nl,fun H' k R' _=>?_⟩;exact q _ _ ((Rm.Kp.of (s1.trans s2)).trans k) R' (G.add ⟨⟨hx,b1,b2,rfl,rfl⟩,(fun z h=>nomatch h),.nil,by omega,by omega⟩) Qw
 exists ixLm (SqL.of hl) (Pr.jQ (by omega) (by omega)) ?_;walk_at"g";obtain⟨ls,el,al⟩:=R.l;have l1:=G.l1;have l8:=G.l8;have la:=al.1;refine⟨_,_,rfl,ZO R,?_⟩;exists⟨_,_,rfl,.inl ⟨_,SqL.of el,rfl⟩,?_⟩;rw[length_map,la];walk_at"g";have i0:=Int.emod_nonneg (Pr.cell ns 1) (show(m.limbs.length:Int)≠0 by omega);have i1:=Int.emod_lt_of_pos (Pr.cell ns 1) (show 0<(m.limbs.length:Int) by omega);generalize Pr.cell ns 1%(m.limbs.length:Int)=j at i0 i1|-;refine⟨_,_,rfl,by omega,by omega,fun wn2=>?_⟩;exists ixLm (SqL.of hl) (Pr.jQ (by omega) (by omega)) ?_;exists⟨_,_,_,rfl,by omega,by omega,by omega,by omega,fun h h1 h2=>?_⟩;exists⟨_,_,rfl,ZO R,?_⟩;walk_at"g";obtain⟨x,v,hx⟩:∃x v,m.limbs[j.toNat]?=some (x,v):=⟨_,_,List.getElem?_eq_getElem (by omega)⟩
 obtain⟨a,ha,hat⟩:=al.get hx;refine ixLm (SqL.of el) (Qd i0 ha) ?_;exists ixTm (SqT.of hat) rfl ?_;exists⟨(by show 4<=sizeLine;omega),fun p1 hp1=>?_⟩;have s1:=Pr.jw hp1 (.tup [.str "raise",.str x,.int h,.int b]);have t1:upd H p1 (.tup [.str "raise",.str x,.int h,.int b]) p1=some (.tup [.str "raise",.str x,.int h,.int b]):=jh;generalize upd H p1 (.tup [.str "raise",.str x,.int h,.int b])=H1 at s1 t1|-;have R1:=R.keeps s1;exists⟨(by show 1<=sizeLine;omega),fun p2 hp2=>?_⟩;have s2:=Pr.jw hp2 (.lst [.int j]);have t2:upd H1 p2 (.lst [.int j]) p2=some (.lst [.int j]):=jh;generalize upd H1 p2 (.lst [.int j])=H2 at s2 t2|-;have R2:=R1.keeps s2;exists⟨z,m,p1,p2,.rise x h b,[j],b,rfl,R2,s2 _ _ t1,⟨t2,qM R1 hp2⟩,by omega,by omega,by omega,nl,fun H' k R' _=>?_⟩;refine q _ _ ((Rm.Kp.of (s1.trans s2)).trans k) R' (G.add ⟨⟨⟨j.toNat,v,hx,by rw[Int.toNat_of_nonneg i0]⟩,h1,h2,b1,b2,rfl⟩,fun k hk=>?_,pairwise_singleton _ _,by omega,by omega⟩) Qw;have e:k=j:=by simpa using hk
 omega
theorem Ko(T:Txt K mg t):FnOk P w K mg base CX0 1 t.JX t.JY ["_law_room_here","_law_number_here"] (sp_there):=by
 refine T.zG.ok Z4 (fun vs H Q E h=>?_) (fun cdv A outer s H vs Q E hr h=>?_)
 ·cases h;subst_vars;rfl
 obtain⟨z,m,n,rfl,R,hm,n0,q⟩:=h;refine⟨_,(je (jq (i:=2) Z4.nd rfl (.inl rfl) (jt jB (by rfl) T.Jd jK (ja (jF (jM hr) (pv 0) jv) jd)))
  (je (jJ (jn JE (jp jI (pv 1) jc) jc (nomark _))
   (jf (jx (jp Yi (jp Yi (pv 2) jc) (jp jI (jp JJ (pv 1) jc) (jt (KK rfl) (by rfl) T.j3Y j1F (ja (pv 2) (ja jc jd)))))))
   jz)
  (jf (jx (jp jI (jp JJ (pv 1) jc) (pv 2)))))),?_⟩
 refine jy (σ':=[some _,some _,none]) rfl ?_;obtain⟨qs,eq,aq⟩:=R.p;have hq:=aq.1;exists⟨_,_,rfl,Jl R,?_⟩;exists⟨_,_,rfl,.inl ⟨_,SqL.of eq,rfl⟩,?_⟩;rw[length_map,hq];generalize m.parts.length=k at hm q|-;exists iteD (fun c1=>?_) (fun c1=>?_)
 ·exists⟨_,_,rfl,?_⟩;have e:0<(if(6:Int)<(k:Int)then(6:Int)else k)/\(if(6:Int)<(k:Int)then(6:Int)else k)<=k:=by split<;>omega
  generalize(if(6:Int)<(k:Int)then(6:Int)else k)=w at e|-;walk_at"g";have a0:=Int.emod_nonneg (n/2) (show w≠0 by omega);have a1:=Int.emod_lt_of_pos (n/2) (show 0<w by omega);exact X4 q (by omega) (by omega)
 ·walk_at"g";have a0:=Int.emod_nonneg (n/2) (show(k:Int)≠0 by omega);have a1:=Int.emod_lt_of_pos (n/2) (show 0<(k:Int) by omega);exact X4 q (by omega) (by omega)
theorem Km(T:Txt K mg t)(JV:FnOk P w K mg base CX0 1 t.JX t.JY ["_law_room_here","_law_number_here"] (sp_there)):FnOk P w K mg base CX0 2 t.qA t.qE ["_law_room_here","_law_some"] (sp_apart):=by
 refine T.yn.ok Ja (fun vs H Q E h=>?_) (fun cdv A outer s H vs Q E hr h=>?_)
 ·cases h;subst_vars;rfl
 obtain⟨z,m,p,ns,rfl,R,G,hm,ml,hl,hn,hb,q⟩:=h;refine⟨_,(je (jq (i:=2) Ja.nd rfl (.inl rfl) (jU jd))
  (je (jq (i:=3) Ja.nd rfl (.inr rfl) (jU jd))
  (je (Jf PassesOwn.never rfl (JZ (by rfl) T.qg (ja (jp Je jc (jp jI (jm ju (pv 1) jc) jc)) jd)) (jr (i:=4) Ja.nd rfl (.inl rfl))
   (je (jq (i:=5) Ja.nd rfl (.inl rfl) (jk (JV.mono (by decide)) hr (by rfl) T.yG T.zG.kp T.yj .nil pass0 (ja (pv 0) (ja (jm ju (pv 1) (jp Je jc (pv 4))) jd))))
   (jf (Jf PassesOwn.never rfl (JZ (by rfl) T.qg (ja (jt jB (by rfl) T.Jd jK (ja (jF (jM hr) (pv 0) jv) jd)) jd)) (jr (i:=6) Ja.nd rfl (.inl rfl))
    (je (jq (i:=7) Ja.nd rfl (.inl rfl) (jp jI (jp Je (pv 5) (pv 6)) (jt jB (by rfl) T.Jd jK (ja (jF (jM hr) (pv 0) jv) jd))))
    (je (jq (i:=8) Ja.nd rfl (.inl rfl) (jm ju (jF (jM hr) (pv 0) jv) (pv 7)))
    (jf (jJ (PW.pt (Wf (jn (kP hr.units) (pv 8) (jU jd) (nomark _)) (YX (jn (wZ hr.units) (j9 (ow:=["_law_hand"]) (ci:=[3]) rfl (CompScope.of (defScope QB) ["_law_room_here","_law_some","_law_there_here","_law_hands","_law_k","_law_first","_law_step","_law_one","_law_here"] rfl rfl (by decide +kernel)) (j4 (by decide)) (jL (pv 8)) (fun _ _ _ _ _=>⟨(jr (i:=0) (jS ["_law_room_here","_law_some","_law_there_here","_law_hands","_law_k","_law_first","_law_step","_law_one","_law_here"] rfl (by decide +kernel)) rfl (.inl rfl)),(kR (jn (kO (K:=K) rfl) (pv 0) (pv 1) (by with_unfolding_all rfl))),(pv 0)⟩)) (jU jd) (nomark _)))))
     (je (jD (JF PySem.F.plainAttrs_list PySem.F.slot_list_append PySem.F.type_list_append jR (pv 2) (ja (pv 7) jd)))
     (je (jq (i:=3) Ja.nd rfl (.inr rfl) (jp kN (pv 3) (pv 8)))
     (jf j2y)))
     jz))))))))
  (jf (jx (pv 2)))))),?_⟩
 refine jy (σ':=[some _,some _,none,none,none,none,none,none,none]) rfl ?_;have sz:(200:Nat)<sizeLine:=by decide
 have c1:=hb.cell (k:=1) (by omega) (by omega);obtain⟨ha,eha,aha⟩:=R.h;exists⟨Nat.zero_le _,fun p0 hp0=>?_⟩;have s0:=Pr.jw hp0 (.lst []);have t0:upd H p0 (.lst []) p0=some (.lst []):=jh;generalize upd H p0 (.lst [])=H0 at s0 t0|-;exists⟨Nat.zero_le _,fun p1 hp1=>?_⟩;have s1:=Pr.jw hp1 (.lst []);have t1:upd H0 p1 (.lst []) p1=some (.lst []):=jh;have t01:=s1 _ _ t0;generalize upd H0 p1 (.lst [])=H1 at s1 t1 t01|-;have s2:=s0.trans s1;exists ixLm (SqL.of (s2 _ _ hl)) (Pr.jQ (by omega) (by omega)) ?_;exists⟨_,rfl,by omega,by omega,?_⟩;refine qX (fun i σ H'=>∃(o4 o5 o6 o7 o8:Option V) (ph:Addr) (is:List Nat) (hs:List Int),σ=[some (.ref z.r),some (.ref p),some (.ref p0),some (.ref ph),o4,o5,o6,o7,o8]/\Same H H'/\H' p0=some (.lst (is.map vN))/\H' ph=some (.lst (hs.map V.int))/\p0≠ph/\is.length<=i/\hs.length<=8*i/\(∀j∈is,j<m.parts.length)/\Apart m is/\∀j∈is,∀k∈m.hd j,k∈hs)
  ⟨_,_,_,_,_,p1,[],[],rfl,s2,t01,t1,jg t0 hp1,Nat.le_refl _,Nat.le_refl _,(fun j h=>nomatch h),⟨(fun j h=>nomatch h),.nil⟩,(fun j h=>nomatch h)⟩ ?_ ?_
 ·rintro i σ H' hi ⟨o4,o5,o6,o7,o8,ph,is,hs,rfl,sm,e0,e1,n01,hil,hhl,hlt,hap,hin⟩;have hi':i<4:=by omega
  have Ri:=R.keeps sm;have ck:=hb.cell (k:=2+(0+(i:Int))) (by omega) (by omega);obtain⟨qs,eqs,aq⟩:=Ri.p;have hq:=aq.1;exists ixLm (SqL.of (sm _ _ hl)) (Pr.jQ (by omega) (by omega)) ?_;exists⟨z,m,_,rfl,Ri,hm,by omega,fun f hf=>?_⟩;exists⟨_,_,rfl,Jl Ri,?_⟩;exists⟨_,_,rfl,.inl ⟨_,SqL.of eqs,rfl⟩,?_⟩;rw[length_map,hq];exists⟨_,rfl,by omega,by omega,?_⟩;refine qX (fun _ σ H2=>∃(o6 o7 o8:Option V),σ=[some (.ref z.r),some (.ref p),some (.ref p0),some (.ref ph),some (.int (0+(i:Int))),some (.int (f:Int)),o6,o7,o8]/\Same H' H2) ⟨_,_,_,rfl,Same.refl _⟩ ?_ ?_
  ·rintro i2 σ H2 hi2 ⟨o6,o7,o8,rfl,sm2⟩;have R2:=Ri.keeps sm2;exists⟨_,_,rfl,Jl R2,?_⟩;exists⟨_,_,rfl,.inl ⟨_,SqL.of (sm2 _ _ eqs),rfl⟩,?_⟩;rw[length_map,hq];walk_at"g";have a0:=Int.emod_nonneg ((f:Int)+(0+(i2:Int))) (show(m.parts.length:Int)≠0 by omega);have a1:=Int.emod_lt_of_pos ((f:Int)+(0+(i2:Int))) (show 0<(m.parts.length:Int) by omega);obtain⟨j,ej⟩:∃j:Nat,((f:Int)+(0+(i2:Int)))%(m.parts.length:Int)=(j:Int):=⟨_,(Int.toNat_of_nonneg a0).symm⟩
   rw[ej]at a0 a1|-;have hj:j<m.parts.length:=by omega
   obtain⟨a,ha1,ha2,ha3⟩:=YS R G hj eha;have ha22:=sm2 _ _ (sm _ _ ha2);refine⟨_,_,rfl,ZN R2,?_⟩;exists ixLm (SqL.of (sm2 _ _ (sm _ _ eha))) (Qd (i:=(j:Int)) (by omega) ha1) ?_;exists⟨Nat.zero_le _,fun p3 hp3=>?_⟩;have s3:=Pr.jw hp3 (.lst []);have t3:upd H2 p3 (.lst []) p3=some (.lst []):=jh;generalize upd H2 p3 (.lst [])=H3 at s3 t3|-;refine⟨_,_,j43 (s3 _ _ ha22),j4r t3,shp _,shp0,?_⟩;rw[j44];exists iteN (fun d1=>?_) (fun d1=>?_)
   ·walk_at"g";have hj8:=xO G hj;have ha33:=s3 _ _ ha22;have e13:=s3 _ _ (sm2 _ _ e1);refine⟨a,rfl,⟨_,SqL.of ha33⟩,?_⟩;refine jN (xs:=(m.hd j).map V.int) (fun i ys H'=>ys=(((m.hd j).take i).filter fun k=>decide (k∈hs)).map V.int/\H3=H') ⟨rfl,rfl⟩ ?_ ?_ ?_
    ·rintro i ys H' _ ⟨rfl,rfl⟩;exact SqL.of ha33
    ·rintro i x ys H' hx ⟨rfl,rfl⟩;rw[List.getElem?_map]at hx;obtain⟨n,hn',rfl⟩:=Option.map_eq_some_iff.mp hx;have hi:=(List.getElem?_eq_some_iff.mp hn').1;refine j8 (σ':=[none,some _]) rfl ?_;exists⟨ph,_,rfl,.inl (SqL.of e13),rfl,flats hs,?_⟩;rw[inI];walk_at"g";have hle:(((m.hd j).take i).filter fun k=>decide (k∈hs)).length<=8:=Nat.le_trans (length_filter_le _ _) (Nat.le_trans (List.length_take_le' _ _) hj8);refine iteD (fun d2=>?_) (fun d2=>?_)
     ·exists⟨by rw[length_map];omega,?_,rfl⟩;rw[take_snoc hn',filter_append,map_append,filter_cons,if_pos (decide_eq_true d2)];rfl
     ·refine⟨?_,rfl⟩;rw[take_snoc hn',filter_append,map_append,filter_cons,if_neg (by simpa using d2)];exact(append_nil _).symm
    ·rintro ys H' ⟨rfl,rfl⟩;rw[show((m.hd j).map V.int).length=(m.hd j).length from length_map _,take_length];have hle:((m.hd j).filter fun k=>decide (k∈hs)).length<=8:=Nat.le_trans (length_filter_le _ _) hj8;refine⟨by rw[length_map];omega,fun p4 hp4=>?_⟩;have s4:=Pr.jw hp4 (.lst (((m.hd j).filter fun k=>decide (k∈hs)).map V.int));have t4:upd H3 p4 (.lst (((m.hd j).filter fun k=>decide (k∈hs)).map V.int)) p4=some (.lst (((m.hd j).filter fun k=>decide (k∈hs)).map V.int)):=jh;generalize upd H3 p4 (.lst (((m.hd j).filter fun k=>decide (k∈hs)).map V.int))=H4 at s4 t4|-;exists⟨Nat.zero_le _,fun p5 hp5=>?_⟩;have s5:=Pr.jw hp5 (.lst []);have t5:upd H4 p5 (.lst []) p5=some (.lst []):=jh;generalize upd H4 p5 (.lst [])=H5 at s5 t5|-;refine⟨_,_,j43 (s5 _ _ t4),j4r t5,shp _,shp0,?_⟩;rw[j44];walk_at"g";have s35:=s3.trans (s4.trans s5);have smm:=sm.trans (sm2.trans s35);refine iteD (fun d2=>?_) (fun d2=>?_)
     ·have e05:=s35 _ _ (sm2 _ _ e0);have e15:=s35 _ _ (sm2 _ _ e1);have ha5:=smm _ _ ha2;exists⟨.inl ⟨rfl,_,SqL.of e05⟩,?_⟩;exists⟨p0,_,_,rfl,rfl,e05,by rw[length_map];omega,?_⟩;have s6:Same H (upd H5 p0 (.lst (is.map vN++[.int (j:Int)]))):=Ws.yM smm hp0;have e06:upd H5 p0 (.lst (is.map vN++[.int (j:Int)])) p0=some (.lst ((is++[j]).map vN)):=by rw[jh,map_append];rfl
      have e16:upd H5 p0 (.lst (is.map vN++[.int (j:Int)])) ph=_:=(jo n01.symm).trans e15;have ha6:=s6 _ _ ha2;generalize upd H5 p0 (.lst (is.map vN++[.int (j:Int)]))=H6 at s6 e06 e16 ha6|-;exists⟨ph,a,_,_,rfl,rfl,e16,ha6,by rw[length_map,length_map];omega,fun p7 hp7=>?_⟩;have s7:=Pr.jw hp7 (.lst (hs.map V.int++(m.hd j).map V.int));have e17:upd H6 p7 (.lst (hs.map V.int++(m.hd j).map V.int)) p7=some (.lst ((hs++m.hd j).map V.int)):=by rw[jh,map_append]
      generalize upd H6 p7 (.lst (hs.map V.int++(m.hd j).map V.int))=H7 at s7 e17|-;exists⟨_,_,_,_,_,p7,is++[j],hs++m.hd j,rfl,s6.trans s7,s7 _ _ e06,e17,jg e06 hp7,by rw[List.length_append,length_singleton];omega,by rw[List.length_append];omega,fun x hx=>?_,hap.snoc hin d1 fun k hk hk'=>?_,fun x hx k hk=>?_⟩
      ·rcases mem_append.mp hx with e | e
       ·exact hlt x e
       ·have e':x=j:=by simpa using e
        omega
      ·have:k∈(m.hd j).filter fun k=>decide (k∈hs):=mem_filter.mpr ⟨hk,decide_eq_true hk'⟩
       rw[d2]at this;cases this
      ·rcases mem_append.mp hx with e | e
       ·exact mem_append_left _ (hin x e k hk)
       ·have e':x=j:=by simpa using e
        subst e';exact mem_append_right _ hk
     ·exact⟨_,_,_,rfl,sm2.trans s35⟩
   ·refine iteF ?_;exact⟨_,_,_,rfl,sm2.trans s3⟩
  ·rintro σ H2 ⟨o6,o7,o8,rfl,sm2⟩;walk_at"g";exact⟨_,_,_,_,_,ph,is,hs,rfl,sm.trans sm2,sm2 _ _ e0,sm2 _ _ e1,n01,by omega,by omega,hlt,hap,hin⟩
 ·rintro σ H' ⟨o4,o5,o6,o7,o8,ph,is,hs,rfl,sm,e0,e1,n01,hil,hhl,hlt,hap,hin⟩;walk_at"g";exact q p0 is H' sm hp0 e0 (by omega) hlt hap
theorem kI(T:Txt K mg t)(jH:FnOk P w K mg base CX0 1 t.Ji t.Jj ["_law_cell","_law_turn"] (zE))(jV:FnOk P w K mg base CX0 1 t.Jt t.Jv ["_law_cell","_law_mixed","_law_least"] (ZV))(j6:FnOk P w K mg base CX0 1 t.qm t.qo ["_law_room_here","_law_form","_law_hands","_law_long"] (sp_add))(Js:FnOk P w K mg base CX0 2 t.JL t.JM ["_law_room_here","_law_cell","_law_some"] (sp_simple))(JV:FnOk P w K mg base CX0 1 t.JX t.JY ["_law_room_here","_law_number_here"] (sp_there))(zH:FnOk P w K mg base CX0 2 t.qA t.qE ["_law_room_here","_law_some"] (sp_apart)):FnOk P w K mg base CX0 3 t.qb t.qe ["_law_room_here","_law_cell","_law_some"] (sp_naming):=by
 refine T.ZZ.ok jG (fun vs H Q E h=>?_) (fun cdv A outer s H vs Q E hr h=>?_)
 ·cases h;subst_vars;rfl
 obtain⟨z,m,c,p,ns,rfl,R,G,hm,ml,hl,op,hn,hb,q⟩:=h;refine⟨_,(je (yK (i:=3) (ow:=["_law_one"]) (ci:=[0]) rfl (CompScope.of (defScope Jz) ["_law_room_here","_law_cell","_law_some","_law_there_here","_law_long","_law_hands","_law_one","_law_names_here","_law_times"] rfl rfl (by decide +kernel)) (j4 (by decide)) jG.nd rfl (.inl rfl) (jL (Jm QG (pv 2) (j5 jc) (j5 (jp Je jc (jp jI (jm ju (pv 2) jc) jc))))) (fun _ _ _ _ _=>⟨(jr (i:=0) (jS ["_law_room_here","_law_cell","_law_some","_law_there_here","_law_long","_law_hands","_law_one","_law_names_here","_law_times"] rfl (by decide +kernel)) rfl (.inl rfl)),Jy,(jk (JV.mono (by decide)) hr (by rfl) T.yG T.zG.kp T.yj .nil pass0 (ja (pv 1) (ja (pv 0) jd)))⟩))
  (je (yd (jn JE (jp jI (jm ju (pv 2) jc) jc) jc (nomark _))
   (je (jq (i:=3) jG.nd rfl (.inl rfl) (jk (zH.mono (by decide)) hr (by rfl) T.wM T.yn.kp T.wd .nil pass0 (ja (pv 0) (ja (pv 2) jd))))
   (jf (jJ (jn W8 (jt jB (by rfl) T.Jd jK (ja (pv 3) jd)) jc (nomark _))
    (je (jD (jk (Js.mono (by decide)) hr (by rfl) T.Q8 T.Qb.kp T.Q5 .nil pass0 (ja (pv 0) (ja (pv 1) (ja (pv 2) jd)))))
    (jf j3I))
    jz)))
   jz)
  (je (yK (i:=4) (ow:=["_law_one"]) (ci:=[0]) rfl (CompScope.of (defScope Jz) ["_law_room_here","_law_cell","_law_some","_law_there_here","_law_long","_law_hands","_law_one","_law_names_here","_law_times"] rfl rfl (by decide +kernel)) (j4 (by decide)) jG.nd rfl (.inl rfl) (jL (pv 3)) (fun _ _ _ _ _=>⟨(jr (i:=0) (jS ["_law_room_here","_law_cell","_law_some","_law_there_here","_law_long","_law_hands","_law_one","_law_names_here","_law_times"] rfl (by decide +kernel)) rfl (.inl rfl)),Jy,(jm (Qq (K:=K) rfl) (jF (jM hr) (pv 1) jv) (pv 0))⟩))
  (je (yd (PW.pt (Wf (jn JE (jp jI (jm ju (pv 2) jc) jc) jc (nomark _)) (YX (jn yJ (jt (ZK rfl) (by rfl) T.XL ww (ja (pv 4) jd)) (jp qZ jc jc) (nomark _)))))
   (je (jq (i:=3) jG.nd rfl (.inl rfl) (Jm QG (pv 3) qi (j5 jc)))
   (jf (jq (i:=4) jG.nd rfl (.inl rfl) (Jm QG (pv 4) qi (j5 jc)))))
   jz)
  (je (jq (i:=5) jG.nd rfl (.inr rfl) (jU jd))
  (je (Jf PassesOwn.never rfl (jL (pv 3)) (jr (i:=6) jG.nd rfl (.inl rfl))
   (jf (jq (i:=5) jG.nd rfl (.inr rfl) (jp kN (pv 5) (j9 (ow:=["_law_hand"]) (ci:=[5]) rfl (CompScope.of (defScope Jz) ["_law_room_here","_law_cell","_law_some","_law_there_here","_law_long","_law_hands","_law_one","_law_names_here","_law_times"] rfl rfl (by decide +kernel)) (j4 (by decide)) (jL (jm ju (jF (jM hr) (pv 0) jv) (pv 6))) (fun _ _ _ _ _=>⟨(jr (i:=0) (jS ["_law_room_here","_law_cell","_law_some","_law_there_here","_law_long","_law_hands","_law_one","_law_names_here","_law_times"] rfl (by decide +kernel)) rfl (.inl rfl)),(kR (jn (Z1 (K:=K) rfl) (pv 0) (pv 1) (by with_unfolding_all rfl))),(pv 0)⟩))))))
  (je (jq (i:=7) jG.nd rfl (.inl rfl) (j7 qc (by rfl) T.yv Zl (ja (j9 (ow:=["_law_one"]) (ci:=[0]) rfl (CompScope.of (defScope Jz) ["_law_room_here","_law_cell","_law_some","_law_there_here","_law_long","_law_hands","_law_one","_law_names_here","_law_times"] rfl rfl (by decide +kernel)) (j4 (by decide)) (jL (pv 3)) (fun _ _ _ _ _=>⟨(jr (i:=0) (jS ["_law_room_here","_law_cell","_law_some","_law_there_here","_law_long","_law_hands","_law_one","_law_names_here","_law_times"] rfl (by decide +kernel)) rfl (.inl rfl)),Jy,(jm (X8 (K:=K) rfl) (jm (Qq (K:=K) rfl) (jF (jM hr) (pv 1) jv) (pv 0)) jc)⟩)) jd)))
  (jf (jJ (jn JE (jp jI (jm ju (pv 2) jc) jc) jc (nomark _))
   (jf (jD (jk (j6.mono (by decide)) hr (by rfl) T.qq T.JQ.kp T.qk .nil pass0 (ja (pv 0) (ja (Jg (ja jv (ja (pv 7) jd))) (ja (jt zN (by rfl) T.Zk zm (ja (pv 5) jd)) (ja (jt (ZK rfl) (by rfl) T.XL ww (ja (pv 4) jd)) jd)))))))
   (jf (jJ (jn JE (jp jI (jm ju (pv 2) jc) jc) jc (nomark _))
    (jf (jD (jk (j6.mono (by decide)) hr (by rfl) T.qq T.JQ.kp T.qk .nil pass0 (ja (pv 0) (ja (Jg (ja jv (ja (pv 7) jd))) (ja (jt zN (by rfl) T.Zk zm (ja (pv 5) jd)) (ja (jt (KJ rfl) (by rfl) T.j1D xD (ja (pv 4) jd)) jd)))))))
    (je (jq (i:=8) jG.nd rfl (.inl rfl) (jk (jV.mono (by decide)) hr (by rfl) T.Qf T.J2.kp T.q0 .nil pass0 (ja (jk (jH.mono (by decide)) hr (by rfl) T.qf T.JK.kp T.J1 .nil pass0 (ja (pv 1) (ja jc jd))) (ja (jm ju (pv 2) jc) (ja jc jd)))))
    (je (yd (jn yJ (jp qN (pv 8) (jm ju (pv 4) jc)) (jp qZ jc jc) (nomark _))
     (jf (jq (i:=8) jG.nd rfl (.inl rfl) jc))
     jz)
    (jf (jD (jk (j6.mono (by decide)) hr (by rfl) T.qq T.JQ.kp T.qk .nil pass0 (ja (pv 0) (ja (Jg (ja jv (ja (pv 8) (ja (jm jA (pv 7) jc) jd)))) (ja (jm ju (jF (jM hr) (pv 0) jv) (jm ju (pv 3) jc)) (ja (jp qN (pv 8) (jm ju (pv 4) jc)) jd)))))))))))))))))))),?_⟩
 refine jy (σ':=[some _,some _,some _,none,none,none,none,none,none]) rfl ?_;have sz:(200:Nat)<sizeLine:=by decide
 have nl:=G.nl;have c0:=hb.cell (k:=0) (by omega) (by omega);have c1:=hb.cell (k:=1) (by omega) (by omega);exists ixLm (SqL.of hl) (Pr.jQ (by omega) (by omega)) ?_;exists⟨p,_,rfl,SqL.of hl,fun p1 hp1=>?_⟩;rw[j38 (by omega) (by omega)];have hml:((ns.drop 2).take (3+Pr.cell ns 1%8-2).toNat).length=(1+Pr.cell ns 1%8).toNat:=by rw[length_take,length_drop];omega
 have hmb:∀n∈(ns.drop 2).take (3+Pr.cell ns 1%8-2).toNat,0<=n:=fun n h=>(hb n (mem_of_mem_drop (mem_of_mem_take h))).1
 generalize(ns.drop 2).take (3+Pr.cell ns 1%8-2).toNat=ms at hml hmb|-;have s1:=Pr.jw hp1 (.lst (ms.map V.int));have t1:upd H p1 (.lst (ms.map V.int)) p1=some (.lst (ms.map V.int)):=jh;generalize upd H p1 (.lst (ms.map V.int))=H1 at s1 t1|-;have R1:=R.keeps s1;refine⟨p1,rfl,⟨_,SqL.of t1⟩,?_⟩;refine jN (xs:=ms.map V.int) (fun i ys H'=>∃is:List Nat,ys=is.map vN/\is.length=i/\(∀j∈is,j<m.parts.length)/\H1=H') ⟨[],rfl,rfl,(fun z h=>nomatch h),rfl⟩ ?_ ?_ ?_
 ·rintro i ys H' _ ⟨is,rfl,hz,h1,rfl⟩;exact SqL.of t1
 ·rintro i x ys H' hx ⟨is,rfl,hz,h1,rfl⟩;obtain⟨n,hn',rfl⟩:=mem_map.mp (List.mem_of_getElem? hx);have hi:=(List.getElem?_eq_some_iff.mp hx).1;rw[length_map]at hi;refine j8 (σ':=[none,some _]) rfl ?_;exists iteT ?_;exists⟨z,m,n,rfl,R1,hm,hmb n hn',fun j hj=>?_⟩;refine⟨by rw[length_map];omega,is++[j],by rw[map_append];rfl,by simp[hz],fun y hy=>?_,rfl⟩;rcases mem_append.mp hy with w | w
  ·exact h1 y w
  ·have e:y=j:=by simpa using w
   omega
 rintro ys H' ⟨is,rfl,hil,hlt,rfl⟩;rw[length_map]at hil;refine⟨by rw[length_map];omega,fun p2 hp2=>?_⟩;have s2:=s1.trans (Pr.jw hp2 (.lst (is.map vN)));have t2:upd H1 p2 (.lst (is.map vN)) p2=some (.lst (is.map vN)):=jh;generalize upd H1 p2 (.lst (is.map vN))=H2 at s2 t2|-;have R2:=R.keeps s2;exists⟨fun σ' H'=>∃(l:Addr) (is:List Nat),σ'=[some (.ref z.r),some (.int c),some (.ref p),some (.ref l),none,none,none,none,none]/\Same H H'/\H' l=some (.lst (is.map vN))/\1<=is.length/\is.length<=8/\(∀j∈is,j<m.parts.length)/\(Pr.cell ns 0%8=6->Apart m is/\2<=is.length/\is.length<=4),?_,?_⟩
 rotate_left
 ·exists ixLm (SqL.of (s2 _ _ hl)) (Pr.jQ (by omega) (by omega)) ?_;exists iteD (fun d1=>?_) (fun d1=>?_)
  ·exists⟨z,m,p,ns,rfl,R2,G,hm,ml,s2 _ _ hl,by omega,hb,fun l js H3 s3 hl3 e3 h4 hj ap=>?_⟩;exists⟨_,_,rfl,.inl ⟨_,SqL.of e3,rfl⟩,?_⟩;rw[length_map];exists iteD (fun d2=>?_) (fun d2=>?_)
   ·exists⟨z,m,c,p,ns,rfl,R2.keeps s3,G,by omega,s3 _ _ (s2 _ _ hl),op,by omega,hb,fun m' H' k R' G' hl'=>?_⟩;walk_at"g";exact q m' H' ((Rm.Kp.of (s2.trans s3)).trans k) R' G' hl'
   ·walk_at"g";exact⟨l,js,rfl,s2.trans s3,e3,by omega,by omega,hj,fun _=>⟨ap,by omega,h4⟩⟩
  ·walk_at"g";exact⟨p2,is,rfl,s2,t2,by omega,by omega,hlt,fun e=>absurd e d1⟩
 rintro σ' H3 ⟨l,is,rfl,s3,e3,i1,i8,hj,ap⟩;clear hlt hil t2 s2 R2 hp2 p2 H2 t1 R1 s1;have R3:=R.keeps s3;exists⟨l,rfl,⟨_,SqL.of e3⟩,?_⟩;refine jN (xs:=is.map vN) (fun i ys H'=>ys=((is.take i).map m.lg).map V.int/\H3=H') ⟨rfl,rfl⟩ ?_ ?_ ?_
 ·rintro i ys H' _ ⟨rfl,rfl⟩;exact SqL.of e3
 ·rintro i x ys H' hx ⟨rfl,rfl⟩;obtain⟨j,hj1,rfl,hj2⟩:=Zz hx;have hi:=(List.getElem?_eq_some_iff.mp hj1).1;refine j8 (σ':=[none,some _]) rfl ?_;exists iteT ?_;exists⟨_,_,rfl,ko R3,?_⟩;exists ixLm (SqL.of R3.g) (wL G (hj j hj2)) ?_;refine⟨by rw[length_map,length_map,length_take];omega,?_,rfl⟩;rw[take_snoc hj1,map_append,map_append];rfl
 rintro ys H' ⟨rfl,rfl⟩;rw[show(is.map vN).length=is.length from length_map _,take_length];refine⟨by rw[length_map,length_map];omega,fun p4 hp4=>?_⟩;have s4:=s3.trans (Pr.jw hp4 (.lst ((is.map m.lg).map V.int)));have e34:=Pr.jw hp4 (.lst ((is.map m.lg).map V.int)) _ _ e3;have t4:upd H3 p4 (.lst ((is.map m.lg).map V.int)) p4=some (.lst ((is.map m.lg).map V.int)):=jh;generalize upd H3 p4 (.lst ((is.map m.lg).map V.int))=H4 at s4 e34 t4|-;exists⟨fun σ' H'=>∃(l g:Addr) (is:List Nat),σ'=[some (.ref z.r),some (.int c),some (.ref p),some (.ref l),some (.ref g),none,none,none,none]/\Same H H'/\H' l=some (.lst (is.map vN))/\H' g=some (.lst ((is.map m.lg).map V.int))/\1<=is.length/\is.length<=8/\(∀j∈is,j<m.parts.length)/\(Pr.cell ns 0%8=6->Apart m is/\2<=is.length/\is.length<=4)/\(Pr.cell ns 0%8=5->(is.map m.lg).sum<=10^60),?_,?_⟩
 rotate_left
 ·exists ixLm (SqL.of (s4 _ _ hl)) (Pr.jQ (by omega) (by omega)) ?_;exists iteD (fun d1=>?_) (fun d1=>?_)
  ·exists⟨_,_,rfl,SqL.of t4,?_⟩;exists iteD (fun d2=>?_) (fun d2=>?_)
   ·exists⟨l,_,rfl,SqL.of e34,fun p5 hp5=>?_⟩;rw[cut1];have s5:=Pr.jw hp5 (.lst ((is.map vN).take 1));have t5:upd H4 p5 (.lst ((is.map vN).take 1)) p5=some (.lst ((is.take 1).map vN)):=by rw[jh,map_take]
    generalize upd H4 p5 (.lst ((is.map vN).take 1))=H5 at s5 t5|-;exists⟨p4,_,rfl,SqL.of (s5 _ _ t4),fun p6 hp6=>?_⟩;rw[cut1];have s6:=Pr.jw hp6 (.lst (((is.map m.lg).map V.int).take 1));have t6:upd H5 p6 (.lst (((is.map m.lg).map V.int).take 1)) p6=some (.lst (((is.take 1).map m.lg).map V.int)):=by rw[jh,map_take,map_take]
    generalize upd H5 p6 (.lst (((is.map m.lg).map V.int).take 1))=H6 at s6 t6|-;walk_at"g";have e1:(is.take 1).length=1:=by rw[length_take];omega
    have hj':∀j∈is.take 1,j<m.parts.length:=fun j h=>hj j (mem_of_mem_take h)
    have e2:=(Wr G hj').2;rw[e1]at e2;exact⟨p5,p6,is.take 1,rfl,s4.trans (s5.trans s6),s6 _ _ t5,t6,by omega,by omega,hj',fun e=>by omega,fun _=>by omega⟩
   ·walk_at"g";exact⟨l,p4,is,rfl,s4,e34,t4,i1,i8,hj,ap,fun _=>by omega⟩
  ·refine iteF ?_;walk_at"g";exact⟨l,p4,is,rfl,s4,e34,t4,i1,i8,hj,ap,fun e=>absurd e d1⟩
 clear t4 e34 s4 hp4 p4 H4 R3 i1 i8 hj ap e3 s3 l is H3;rintro σ' H5 ⟨l,g,is,rfl,s5,e5,t5,i1,i8,hj,ap,sm⟩;have R5:=R.keeps s5;exists⟨Nat.zero_le _,fun p6 hp6=>?_⟩;have s6:=s5.trans (Pr.jw hp6 (.lst []));have e6:=Pr.jw hp6 (.lst []) _ _ e5;have g6:=Pr.jw hp6 (.lst []) _ _ t5;have t6:upd H5 p6 (.lst []) p6=some (.lst []):=jh;generalize upd H5 p6 (.lst [])=H6 at s6 e6 g6 t6|-;walk_at"g";obtain⟨ha,eha,aha⟩:=R.h;refine⟨l,rfl,⟨_,SqL.of e6⟩,?_⟩;refine qJ (xs:=is.map vN) (fun i σ H'=>∃(h:Addr) (hs:List Int) (o6:Option V),σ=[some (.ref z.r),some (.int c),some (.ref p),some (.ref l),some (.ref g),some (.ref h),o6,none,none]/\Same H6 H'/\H' h=some (.lst (hs.map V.int))/\hs.length<=8*i/\hs.Nodup/\∀k,k∈hs↔∃j∈is.take i,k∈m.hd j)
  ⟨p6,[],none,rfl,Same.refl _,t6,Nat.zero_le _,.nil,fun k=>⟨(fun h=>nomatch h),fun⟨j,h,_⟩=>by simp at h⟩⟩ ?_ ?_ ?_
 ·rintro i σ H' _ ⟨h,hs,o6,rfl,sm7,th,hl8,hnd,hmem⟩;exact SqL.of (sm7 _ _ e6)
 ·rintro i x σ H' hx ⟨h,hs,o6,rfl,sm7,th,hl8,hnd,hmem⟩;obtain⟨j,hj1,rfl,hj2⟩:=Zz hx;have hi:=(List.getElem?_eq_some_iff.mp hj1).1;have s7:=s6.trans sm7;have R7:=R.keeps s7;have hj8:=xO G (hj j hj2);obtain⟨a,ha1,ha2,ha3⟩:=YS R G (hj j hj2) eha;have ha7:=s7 _ _ ha2;exists⟨_,_,rfl,ZN R7,?_⟩;exists ixLm (SqL.of (s7 _ _ eha)) (Qd (i:=(j:Int)) (by omega) ha1) ?_;refine⟨a,rfl,⟨_,SqL.of ha7⟩,?_⟩;refine jN (xs:=(m.hd j).map V.int) (fun i ys H''=>ys=(((m.hd j).take i).filter fun k=>!decide (k∈hs)).map V.int/\H'=H'') ⟨rfl,rfl⟩ ?_ ?_ ?_
  ·rintro i ys H'' _ ⟨rfl,rfl⟩;exact SqL.of ha7
  ·rintro i x ys H'' hx ⟨rfl,rfl⟩;rw[List.getElem?_map]at hx;obtain⟨n,hn',rfl⟩:=Option.map_eq_some_iff.mp hx;refine j8 (σ':=[none,some _]) rfl ?_;exists⟨h,_,rfl,.inl (SqL.of th),rfl,flats hs,?_⟩;rw[notInI];walk_at"g";have hle:(((m.hd j).take i).filter fun k=>!decide (k∈hs)).length<=8:=Nat.le_trans (length_filter_le _ _) (Nat.le_trans (List.length_take_le' _ _) hj8);refine iteN (fun d2=>?_) (fun d2=>?_)
   ·exists⟨by rw[length_map];omega,?_,rfl⟩;rw[take_snoc hn',filter_append,map_append,filter_cons,if_pos (by simpa using d2)];rfl
   ·refine⟨?_,rfl⟩;rw[take_snoc hn',filter_append,map_append,filter_cons,if_neg (by simpa using d2)];exact(append_nil _).symm
  ·rintro ys H'' ⟨rfl,rfl⟩;rw[show((m.hd j).map V.int).length=(m.hd j).length from length_map _,take_length];have hle:((m.hd j).filter fun k=>!decide (k∈hs)).length<=8:=Nat.le_trans (length_filter_le _ _) hj8;obtain⟨nd8,mem8⟩:=kq hj1 hmem hnd (j46 G (hj j hj2));generalize(m.hd j).filter (fun k=>!decide (k∈hs))=fs at hle nd8 mem8|-;refine⟨by rw[length_map];omega,fun p8 hp8=>?_⟩;have s8:=Pr.jw hp8 (.lst (fs.map V.int));have t8:upd H' p8 (.lst (fs.map V.int)) p8=some (.lst (fs.map V.int)):=jh;generalize upd H' p8 (.lst (fs.map V.int))=H8 at s8 t8|-;refine⟨h,p8,_,_,rfl,rfl,s8 _ _ th,t8,by rw[length_map,length_map];omega,fun p9 hp9=>?_⟩;have s9:=Pr.jw hp9 (.lst (hs.map V.int++fs.map V.int));have t9:upd H8 p9 (.lst (hs.map V.int++fs.map V.int)) p9=some (.lst ((hs++fs).map V.int)):=by rw[jh,map_append]
   generalize upd H8 p9 (.lst (hs.map V.int++fs.map V.int))=H9 at s9 t9|-;walk_at"g";exact⟨p9,hs++fs,_,rfl,sm7.trans (s8.trans s9),t9,by rw[List.length_append];omega,nd8,mem8⟩
 rintro σ' H7 ⟨h,hs,o6,rfl,sm7,th,hl8,hnd,hmem⟩;rw[show(is.map vN).length=is.length from length_map _]at hl8 hmem;rw[take_length]at hmem;have s7:=s6.trans sm7;have R7:=R.keeps s7;have e7:=sm7 _ _ e6;have g7:=sm7 _ _ g6;walk_at"g";obtain⟨qs,eqs,aqs⟩:=R7.p;have part_at:∀j∈is,∃a b,qs[j]?=some a/\H7 a=some (.tup [.str (m.nm j),.ref b]):=fun j hjm=>by
  obtain⟨a,ha,b,hb,_⟩:=aqs.get (List.getElem?_eq_getElem (hj j hjm));rw[(G.ps j _ (List.getElem?_eq_getElem (hj j hjm))).1]at hb;exact⟨a,b,ha,hb⟩
 refine⟨l,rfl,⟨_,SqL.of e7⟩,?_⟩;refine jN (xs:=is.map vN) (fun i ys H'=>ys=((is.take i).map m.nm).map V.str/\H7=H') ⟨rfl,rfl⟩ ?_ ?_ ?_
 ·rintro i ys H' _ ⟨rfl,rfl⟩;exact SqL.of e7
 ·rintro i x ys H' hx ⟨rfl,rfl⟩;obtain⟨j,hj1,rfl,hj2⟩:=Zz hx;have hi:=(List.getElem?_eq_some_iff.mp hj1).1;obtain⟨a,b,ha,hb⟩:=part_at j hj2;refine j8 (σ':=[none,some _]) rfl ?_;exists iteT ?_;exists⟨_,_,rfl,Jl R7,?_⟩;exists ixLm (SqL.of eqs) (Qd (i:=(j:Int)) (by omega) ha) ?_;exists ixTm (SqT.of hb) rfl ?_;refine⟨by rw[length_map,length_map,length_take];omega,?_,rfl⟩;rw[take_snoc hj1,map_append,map_append];rfl
 rintro ys H' ⟨rfl,rfl⟩;rw[show(is.map vN).length=is.length from length_map _,take_length];refine⟨by rw[length_map,length_map];omega,fun p8 hp8=>?_⟩;have s8:=Pr.jw hp8 (.lst ((is.map m.nm).map V.str));have t8:upd H7 p8 (.lst ((is.map m.nm).map V.str)) p8=some (.lst ((is.map m.nm).map V.str)):=jh;generalize upd H7 p8 (.lst ((is.map m.nm).map V.str))=H8 at s8 t8|-;exists⟨p8,_,rfl,.inl ⟨SqL.of t8,fun p9 hp9=>?_⟩⟩;have s9:=Pr.jw hp9 (.tup ((is.map m.nm).map V.str));have t9:upd H8 p9 (.tup ((is.map m.nm).map V.str)) p9=some (.tup ((is.map m.nm).map V.str)):=jh;generalize upd H8 p9 (.tup ((is.map m.nm).map V.str))=H9 at s9 t9|-;have s79:=s8.trans s9;have e9:=s79 _ _ e7;have g9:=s79 _ _ g7;have h9:=s79 _ _ th;have R9:=R7.keeps s79;have s09:=s7.trans s79;clear t8 s8 s9 hp8 hp9 part_at aqs eqs qs;have hk:=WO G hj hmem;have hs8:hs.length<=8:=Nat.le_trans (QJ hnd hk) G.l8;have e1:=G.hl;have e2:=G.gl;have sl:=Wr G hj;exists ixLm (SqL.of (s09 _ _ hl)) (Pr.jQ (by omega) (by omega)) ?_;exists iteD (fun d1=>?_) (fun d1=>?_)
 ·exists⟨(by show 2<=sizeLine;omega),fun p10 hp10=>?_⟩;have s10:=Pr.jw hp10 (.tup [.str "row",.ref p9]);have t10:upd H9 p10 (.tup [.str "row",.ref p9]) p10=some (.tup [.str "row",.ref p9]):=jh;generalize upd H9 p10 (.tup [.str "row",.ref p9])=H10 at s10 t10|-;have R10:=R9.keeps s10;exists⟨h,hs,rfl,SqL.of (s10 _ _ h9),Nat.lt_of_le_of_lt hs8 (by decide),fun p11 ms hp11 perm ord=>?_⟩;have s11:=Pr.jw hp11 (.lst (ms.map V.int));have t11:upd H10 p11 (.lst (ms.map V.int)) p11=some (.lst (ms.map V.int)):=jh;generalize upd H10 p11 (.lst (ms.map V.int))=H11 at s11 t11|-;have R11:=R10.keeps s11;exists⟨_,_,rfl,SqL.of (s11 _ _ (s10 _ _ g9)),?_⟩;exists⟨z,m,p10,p11,.row (is.map m.nm),ms,_,rfl,R11,⟨p9,s11 _ _ t10,s11 _ _ (s10 _ _ t9)⟩,⟨t11,qM R10 hp11⟩,by omega,by omega,by omega,nl,fun H' k R' _=>?_⟩;exact q _ _ ((Rm.Kp.of (s09.trans (s10.trans s11))).trans k) R' (G.add ⟨⟨is,⟨rfl,hj⟩,i1,i8,fun k=>perm.mem_iff.trans (hmem k),rfl⟩,fun k h=>hk k (perm.mem_iff.mp h),ZU perm hnd ord,by omega,sm d1⟩) Qw
 exists ixLm (SqL.of (s09 _ _ hl)) (Pr.jQ (by omega) (by omega)) ?_;exists iteD (fun d2=>?_) (fun d2=>?_)
 ·exists⟨(by show 2<=sizeLine;omega),fun p10 hp10=>?_⟩;have s10:=Pr.jw hp10 (.tup [.str "side",.ref p9]);have t10:upd H9 p10 (.tup [.str "side",.ref p9]) p10=some (.tup [.str "side",.ref p9]):=jh;generalize upd H9 p10 (.tup [.str "side",.ref p9])=H10 at s10 t10|-;have R10:=R9.keeps s10;exists⟨h,hs,rfl,SqL.of (s10 _ _ h9),Nat.lt_of_le_of_lt hs8 (by decide),fun p11 ms hp11 perm ord=>?_⟩;have s11:=Pr.jw hp11 (.lst (ms.map V.int));have t11:upd H10 p11 (.lst (ms.map V.int)) p11=some (.lst (ms.map V.int)):=jh;generalize upd H10 p11 (.lst (ms.map V.int))=H11 at s11 t11|-;have R11:=R10.keeps s11;exists⟨_,_,rfl,SqL.of (s11 _ _ (s10 _ _ g9)),by rw[length_map];omega,fun gm hgm hall=>?_⟩;obtain⟨j1,hj1,rfl⟩:=mem_map.mp hgm;have lj:=WS G (hj j1 hj1);obtain⟨ap1,ap2,ap3⟩:=ap d2;exists⟨z,m,p10,p11,.side (is.map m.nm),ms,_,rfl,R11,⟨p9,s11 _ _ t10,s11 _ _ (s10 _ _ t9)⟩,⟨t11,qM R10 hp11⟩,by omega,by omega,by omega,nl,fun H' k R' _=>?_⟩;exact q _ _ ((Rm.Kp.of (s09.trans (s10.trans s11))).trans k) R' (G.add ⟨⟨is,⟨rfl,hj⟩,ap2,ap3,ap1,fun k=>perm.mem_iff.trans (hmem k),⟨j1,hj1,rfl⟩,fun j hj'=>hall _ (mem_map.mpr ⟨j,hj',rfl⟩)⟩,fun k h=>hk k (perm.mem_iff.mp h),ZU perm hnd ord,lj.1,lj.2⟩) Qw
 obtain⟨j0,r,rfl⟩:∃j0 r,is=j0::r:=by
  cases is with
  | nil=>exact absurd i1 (by decide)
  | cons j0 r=>exact⟨j0,r,rfl⟩
 have hj0:=hj j0 mem_cons_self;have lj:=WS G hj0;exists⟨_,_,rfl,by omega,by omega,fun wn=>?_⟩;have c10:=hb.cell (k:=10) (by omega) (by omega);exists ixLm (SqL.of (s09 _ _ hl)) (Pr.jQ (by omega) (by omega)) ?_;exists⟨_,_,_,rfl,by omega,by omega,by omega,by omega,fun tm tm1 tm2=>?_⟩;exists⟨fun σ' H'=>∃t:Int,σ'=[some (.ref z.r),some (.int c),some (.ref p),some (.ref l),some (.ref g),some (.ref h),o6,some (.ref p9),some (.int t)]/\1<=t/\t<=10^18/\t*m.lg j0<=10^60/\H9=H',?_,?_⟩
 rotate_left
 ·exists ixLm (SqL.of g9) (at0) ?_;exists iteD (fun d3=>?_) (fun d3=>?_)
  ·walk_at"g";exact⟨1,rfl,by omega,by omega,by rw[Int.one_mul];exact lj.2,rfl⟩
  ·walk_at"g";exact⟨tm,rfl,tm1,tm2,by omega,rfl⟩
 rintro σ' H' ⟨t,rfl,u1,u2,u3,rfl⟩;exists ixTm (SqT.of t9) (at0) ?_;exists⟨(by show 3<=sizeLine;omega),?_⟩;walk_at"f 10 t";have R10:=R9.keeps s10;obtain⟨a,ha1,ha2,ha3⟩:=YS R G hj0 eha;have s0A:=s09.trans s10;exists⟨_,_,rfl,ZN R10,?_⟩;exists ixLm (SqL.of (s10 _ _ e9)) (at0) ?_;refine ixLm (SqL.of (s0A _ _ eha)) (Qd (i:=(j0:Int)) (by omega) ha1) ?_;exists ixLm (SqL.of (s10 _ _ g9)) (at0) ?_;walk_at"g";have pos:=Int.mul_pos (show 0<t by omega) (show 0<m.lg j0 by omega);refine⟨z,m,p10,a,.again t (m.nm j0),m.hd j0,_,rfl,R10,t10,⟨s0A _ _ ha2,ha3⟩,by omega,by omega,by omega,nl,fun H' k R' _=>?_⟩;have oj:=(G.ps j0 _ (List.getElem?_eq_getElem hj0)).2;exact q _ _ ((Rm.Kp.of s0A).trans k) R' (G.add ⟨⟨u1,u2,j0,hj0,rfl,rfl,rfl⟩,oj.k,oj.o,by omega,u3⟩) Qw
theorem wU(T:Txt K mg t)(Jc:FnOk P w K mg base CX0 1 t.JA t.JB ["_law_script","_law_k"] (Pr.sp_cell_at K))(jH:FnOk P w K mg base CX0 1 t.Ji t.Jj ["_law_cell","_law_turn"] (zE))(jW:FnOk P w K mg base CX0 1 t.Ju t.Jw ["_law_cell","_law_many"] (Ws.ZW))(zI:FnOk P w K mg base CX0 2 t.qB t.qF ["_law_cell","_law_many"] (xi))(jV:FnOk P w K mg base CX0 1 t.Jt t.Jv ["_law_cell","_law_mixed","_law_least"] (ZV))(Js:FnOk P w K mg base CX0 2 t.JL t.JM ["_law_room_here","_law_cell","_law_some"] (sp_simple))(Q7:FnOk P w K mg base CX0 3 t.qb t.qe ["_law_room_here","_law_cell","_law_some"] (sp_naming)):FnOk P w K mg base CX0 4 t.Qj t.Qn ["_law_script"] (sp_roomB K):=by
 refine T.Yr.ok Jb (fun vs H Q E h=>?_) (fun cdv A outer s H vs Q E hr h=>?_)
 ·cases h;subst_vars;rfl
 obtain⟨a,ns,rfl,hS,h63,q⟩:=h;refine⟨_,(je (jq (i:=1) Jb.nd rfl (.inl rfl) (jk (jW.mono (by decide)) hr (by rfl) T.Qg T.J3.kp T.Qa .nil pass0 (ja (jk (Jc.mono (by decide)) hr (by rfl) T.qL T.JR.kp T.qy .nil pass0 (ja (pv 0) (ja jc jd))) (ja jc jd))))
  (je (jq (i:=2) Jb.nd rfl (.inl rfl) (jk (zI.mono (by decide)) hr (by rfl) T.wN T.yo.kp T.we .nil pass0 (ja (jk (Jc.mono (by decide)) hr (by rfl) T.qL T.JR.kp T.qy .nil pass0 (ja (pv 0) (ja jc jd))) (ja jc jd))))
  (je (jq (i:=3) Jb.nd rfl (.inl rfl) (jU jd))
  (je (Jf PassesOwn.never rfl (JZ (by rfl) T.qg (ja (jp Je jc (jp jI (jm ju (pv 1) jc) jc)) jd)) (jr (i:=4) Jb.nd rfl (.inl rfl))
   (je (jq (i:=5) Jb.nd rfl (.inl rfl) (jm ju (jU (ja (jp Je jc (pv 4)) (ja (jp Je jc (pv 4)) (ja (jp jI (jp Je (jp JJ (jm ju (pv 1) jc) jc) (jp qN jc (pv 4))) jc) jd)))) (jp jI (jm ju (pv 1) jc) jc)))
   (je (jq (i:=6) Jb.nd rfl (.inl rfl) (jk (jH.mono (by decide)) hr (by rfl) T.qf T.JK.kp T.J1 .nil pass0 (ja (jk (Jc.mono (by decide)) hr (by rfl) T.qL T.JR.kp T.qy .nil pass0 (ja (pv 0) (ja jc jd))) (ja (jp Je jc (pv 4)) jd))))
   (jf (jD (JF PySem.F.plainAttrs_list PySem.F.slot_list_append PySem.F.type_list_append jR (pv 3) (ja (Jg (ja (jm ju (pv 2) (pv 5)) (ja (jk (jV.mono (by decide)) hr (by rfl) T.Qf T.J2.kp T.q0 .nil pass0 (ja (pv 6) (ja (jm ju (pv 1) (jp Je jc (pv 4))) (ja jc jd)))) jd))) jd)))))))
  (je (jq (i:=7) Jb.nd rfl (.inl rfl) (j0e (zA jv (pv 2) (zA jv (pv 3) (zA jv (jU jd) (zA jv (jU jd) (zA jv (jU jd) j0h))))) rfl rfl (by simp) (by decide)))
  (je (Jf PassesOwn.never rfl (jL (Jm QG (pv 0) (j5 jc) (j5 jc))) (jr (i:=8) Jb.nd rfl (.inl rfl))
   (je (jq (i:=9) Jb.nd rfl (.inl rfl) (jk (jW.mono (by decide)) hr (by rfl) T.Qg T.J3.kp T.Qa .nil pass0 (ja (jp Je (pv 8) (jp qN jc (jt jB (by rfl) T.Jd jK (ja (jF (jM hr) (pv 7) jv) jd)))) (ja jc jd))))
   (jf (jJ (PW.pt (Wf (jn yJ (jp jI (jm ju (pv 9) jc) jc) jc (nomark _)) (YX (jn yJ (jt jB (by rfl) T.Jd jK (ja (jF (jM hr) (pv 7) jv) jd)) jc (nomark _)))))
    (jf (jD (jk (Q7.mono (by decide)) hr (by rfl) T.Kl T.ZZ.kp T.Ki .nil pass0 (ja (pv 7) (ja (pv 8) (ja (pv 9) jd))))))
    (jf (jD (jk (Js.mono (by decide)) hr (by rfl) T.Q8 T.Qb.kp T.Q5 .nil pass0 (ja (pv 7) (ja (pv 8) (ja (pv 9) jd))))))))))
  (je (yd (jn (wZ hr.units) (jF (jM hr) (pv 7) jv) (jU jd) (nomark _))
   (jf (jD (jk (Js.mono (by decide)) hr (by rfl) T.Q8 T.Qb.kp T.Q5 .nil pass0 (ja (pv 7) (ja jc (ja (pv 1) jd))))))
   jz)
  (jf (jx (pv 7)))))))))),?_⟩
 refine jy (σ':=[some _,none,none,none,none,none,none,none,none,none]) rfl ?_;have sz:(200:Nat)<sizeLine:=by decide
 exists⟨a,ns,_,rfl,hS,h63,by omega,?_⟩;exists⟨_,_,rfl,by omega,by omega,fun p1 fs H1 s1 hp1 t1 l1 b1=>?_⟩;have B1:Big fs:=b1;exists⟨a,ns,_,rfl,s1.seq hS,h63,by omega,?_⟩;exists⟨_,rfl,fun p2 ws H2 s2 hp2 t2 l2 nd nw=>?_⟩;have s12:=s1.trans s2;have t12:=s2 _ _ t1;exists⟨Nat.zero_le _,?_⟩;walk_at"f pl hpl H3 s3 t3";have c0:=B1.cell (k:=0) (by omega) (by omega);have c9:=B1.cell (k:=9) (by omega) (by omega);exists ixLm (SqL.of (s3 _ _ t12)) (Pr.jQ (by omega) (by omega)) ?_;exists⟨_,rfl,by omega,by omega,?_⟩;refine qX (fun i σ H'=>∃(ls:List Addr) (lbs:List (Str×Int)) (o4 o5 o6:Option V),σ=[some (.ref a),some (.ref p1),some (.ref p2),some (.ref pl),o4,o5,o6,none,none,none]/\Same H2 H'/\H' pl=some (.lst (ls.map V.ref))/\All2 (LimbAt H') ls lbs/\lbs.length=i/\lbs.map (·.1)=(List.range i).map (lnm ws (Pr.cell fs 9))/\∀p∈lbs,0<=p.2/\p.2<=10^18)
  ⟨[],[],_,_,_,rfl,s3,t3,.nil,rfl,rfl,(fun z h=>nomatch h)⟩ ?_ ?_
 ·rintro i σ H' hi ⟨ls,lbs,o4,o5,o6,rfl,sm,el,al,ll,ln,lb⟩;have all:=al.1;have ck:=B1.cell (k:=1+(0+(i:Int))) (by omega) (by omega);exists ixLm (SqL.of (sm _ _ t12)) (Pr.jQ (by omega) (by omega)) ?_;exists⟨(by show 3<=sizeLine;omega),?_⟩;walk_at"f 4 t";exists ixLm (SqL.of (s4 _ _ (sm _ _ t12))) (Pr.jQ (by omega) (by omega)) ?_;exists ixLm (SqL.of t4) (j1A (by omega) (by omega)) ?_;walk_at"g";have sm4:=sm.trans s4;refine⟨a,ns,_,rfl,sm4.seq (s12.seq hS),h63,by omega,?_⟩;exists⟨_,_,rfl,by omega,by omega,fun wn=>?_⟩;exists⟨.inl ⟨rfl,_,SqL.of (s4 _ _ el)⟩,?_⟩;walk_at"g";obtain⟨x0,x1,x2⟩:=j4G (ws:=ws) (c:=Pr.cell fs 9) (i:=i) l2 (by omega) (by omega);refine ixLm (SqL.of (sm4 _ _ t2)) (WA x0 x1) ?_;rw[x2];exists ixLm (SqL.of (sm4 _ _ t12)) (Pr.jQ (by omega) (by omega)) ?_;exists⟨_,_,_,rfl,by omega,by omega,by omega,by omega,fun r r1 r2=>?_⟩;exists⟨(by show 2<=sizeLine;omega),?_⟩;walk_at"f 5 t";have s45:=s4.trans s5;have el5:=s45 _ _ el;exists⟨pl,_,_,rfl,rfl,el5,by rw[length_map];omega,?_⟩;have hne:p5≠pl:=qw t5 el5 (fun z=>by cases z);refine⟨ls++[p5],lbs++[(lnm ws (Pr.cell fs 9) i,r)],_,_,_,rfl,fun b u h=>?_,?_,?_,by rw[List.length_append,ll];rfl,?_,fun p hp=>?_⟩
  ·rw[jo (jg h hpl)];exact s45 _ _ (sm _ _ h)
  ·rw[jh,map_append];rfl
  ·refine All2.snoc (al.mono fun b x h=>?_) ?_
   ·have h':H5 b=some (.tup [.str x.1,.int x.2]):=s45 _ _ h;exact(jo (qw h' el5 (fun z=>by cases z))).trans h'
   ·exact(jo hne).trans t5
  ·rw[map_append,ln,range_succ,map_append];rfl
  ·rcases mem_append.mp hp with e | e
   ·exact lb p e
   ·have e':p=(lnm ws (Pr.cell fs 9) i,r):=by simpa using e
    rw[e'];exact⟨r1,r2⟩
 rintro σ' H4 ⟨ls,lbs,o4,o5,o6,rfl,s4,el,al,ll,ln,lb⟩;exists j0j ?_;walk_at"f r hr5 H5 s5 t5";exists⟨Nat.zero_le _,?_⟩;walk_at"f pp hpp H6 s6 t6";exists⟨Nat.zero_le _,?_⟩;walk_at"f ph hph H7 s7 t7";exists⟨Nat.zero_le _,?_⟩;walk_at"f pg hpg H8 s8 t8";exists⟨s8 _ _ (s7 _ _ (s6 _ _ t5)),[(Sum.inr "names",.ref p2),(Sum.inr "limbs",.ref pl),(Sum.inr "parts",.ref pp),(Sum.inr "hands",.ref ph),(Sum.inr "long",.ref pg)],rfl,(by show 5<=15;decide),?_⟩;generalize eH:upd H8 r _=H9;have d9:=j1z eH;have k9:∀b u,b≠r->H8 b=some u->H9 b=some u:=fun b u hb h=>by rw[<-eH,jo hb];exact h
 clear eH;have n1:r≠pp:=jg t5 hpp;have n2:r≠ph:=jg (s6 _ _ t5) hph;have n3:r≠pg:=jg (s7 _ _ (s6 _ _ t5)) hpg;have n4:pp≠ph:=jg t6 hph;have n5:pp≠pg:=jg (s7 _ _ t6) hpg;have n6:ph≠pg:=jg t7 hpg;have s58:=s6.trans (s7.trans s8);have s48:=s5.trans s58;have s49:Same H4 H9:=fun b u h=>k9 b u (jg h hr5) (s48 _ _ h)
 have offo:∀b u,H4 b=some u->b≠pp/\b≠ph/\b≠pg:=fun b u h=>⟨jg (s5 _ _ h) hpp,jg (s6 _ _ (s5 _ _ h)) hph,jg (s7 _ _ (s6 _ _ (s5 _ _ h))) hpg⟩
 have e2:=s4 _ _ t2;obtain⟨z,hz⟩:∃z:Ra,z=⟨r,p2,pl,pp,ph,pg⟩:=⟨_,rfl⟩
 have R9:RoomAt H9 z ⟨ws,lbs,[],[],[]⟩:=by
  subst hz;exact⟨d9,s49 _ _ e2,⟨ls,s49 _ _ el,al.mono fun b x h=>s49 _ _ h⟩,⟨[],k9 _ _ n1.symm (s8 _ _ (s7 _ _ t6)),.nil⟩,⟨[],k9 _ _ n2.symm (s8 _ _ t7),.nil⟩,k9 _ _ n3.symm t8,offo _ _ e2,offo _ _ el,n4,n5,n6⟩
 have G9:Good ⟨ws,lbs,[],[],[]⟩:=by
  refine⟨l2,nd,nw,?_,?_,?_,fun p hp=>⟨?_,lb p hp⟩,rfl,rfl,fun i p hp=>by simp at hp⟩
  ·show 1<=lbs.length;omega
  ·show lbs.length<=8;omega
  ·show(lbs.map (·.1)).Nodup;rw[ln];exact j4I l2 nd (by omega)
  ·exact j4H (c:=Pr.cell fs 9) (n:=(1+Pr.cell fs 0%8).toNat) l2 (by omega) (by rw[<-ln];exact mem_map.mpr ⟨p,hp,rfl⟩)
 have zr:z.r=r:=by rw[hz]
 have zp:z.pp=pp:=by rw[hz]
 have zl:z.pl=pl:=by rw[hz]
 have off4:∀b u,H4 b=some u->z.off b:=fun b u h=>by subst hz;exact offo b u h
 have s04:=s12.trans s4;have t1':=s49 _ _ (s4 _ _ t12);have f1:z.off p1:=off4 _ _ (s4 _ _ t12);have npp:H pp=none:=none_of (s04.trans s5) hpp;have npl:H pl=none:=none_of s12 hpl;have s09:=s04.trans s49;have off0:∀b u,H b=some u->z.off b:=fun b u h=>off4 b u (s04 _ _ h)
 walk_at"g";rw[<-zr];refine⟨a,_,rfl,s09.seq hS,?_⟩;walk_at"f 10 t";have R10:=R9.keeps s10;have f10:=qM R9 hp10;have s010:=s09.trans s10;have t110:=s10 _ _ t1';clear t1' s49 off4 offo k9 d9 s48 s58 n1 n2 n3 n4 n5 n6 t5 t6 t7 t8 s5 s6 s7 s8;have hcl:=j4n (xs:=ns.map V.int);refine⟨p10,rfl,⟨_,SqL.of t10⟩,?_⟩;refine qJ (xs:=cutV (ns.map V.int) (some 2) (some 62)) (fun i σ H'=>∃(m:Rr) (o8 o9:Option V),σ=[some (.ref a),some (.ref p1),some (.ref p2),some (.ref pl),o4,o5,o6,some (.ref z.r),o8,o9]/\Rm.Kp z H10 H'/\RoomAt H' z m/\Good m/\m.parts.length=i)
  ⟨_,none,none,rfl,Rm.Kp.refl _ _,R10,G9,rfl⟩ ?_ ?_ ?_
 ·rintro i σ H' _ ⟨m,o8,o9,rfl,k,R,G,hm⟩;exact SqL.of (k _ _ f10 t10)
 ·rintro i x σ H' hx ⟨m,o8,o9,rfl,k,R,G,hm⟩;obtain⟨n,hn,rfl⟩:=Pr.j3r (List.mem_of_getElem? hx);have hi:=(List.getElem?_eq_some_iff.mp hx).1;obtain⟨qs,eq,aq⟩:=R.p;exists⟨_,_,rfl,Jl R,?_⟩;exists⟨_,_,rfl,.inl ⟨_,SqL.of eq,rfl⟩,?_⟩;rw[length_map,aq.1,hm];exists⟨_,_,rfl,by omega,by omega,fun p11 gs H11 s11 hp11 t11 l11 b11=>?_⟩;have B11:Big gs:=b11;have g0:=B11.cell (k:=0) (by omega) (by omega);have R11:=R.keeps s11;have o11:=qM R hp11;have k11:=k.trans (Rm.Kp.of s11);exists ixLm (SqL.of t11) (Pr.jQ (by omega) (by omega)) ?_;exists iteD (fun d1=>?_) (fun d1=>?_)
  ·exists⟨_,_,rfl,Jl R11,?_⟩;exists⟨_,_,rfl,.inl ⟨_,SqL.of (s11 _ _ eq),rfl⟩,?_⟩;rw[length_map,aq.1,hm];exists iteD (fun d2=>?_) (fun d2=>?_)
   ·exists⟨z,m,n,p11,gs,rfl,R11,G,by omega,by omega,t11,o11,by omega,B11,fun m' H' k' R' G' hl'=>?_⟩;exact⟨m',_,_,rfl,k11.trans k',R',G',by omega⟩
   ·exists⟨z,m,n,p11,gs,rfl,R11,G,by omega,t11,o11,by omega,B11,fun m' H' k' R' G' hl'=>?_⟩;exact⟨m',_,_,rfl,k11.trans k',R',G',by omega⟩
  ·refine iteF ?_;exists⟨z,m,n,p11,gs,rfl,R11,G,by omega,t11,o11,by omega,B11,fun m' H' k' R' G' hl'=>?_⟩;exact⟨m',_,_,rfl,k11.trans k',R',G',by omega⟩
 rintro σ' H' ⟨m,o8,o9,rfl,k,R,G,hm⟩;have m61:m.parts.length<=60:=by omega
 have m62:=j39 (xs:=ns.map V.int);rw[<-hm,length_map]at m62;exists⟨fun σ' H'=>∃(m:Rr) (o8 o9:Option V),σ'=[some (.ref a),some (.ref p1),some (.ref p2),some (.ref pl),o4,o5,o6,some (.ref z.r),o8,o9]/\Rm.Kp z H10 H'/\RoomAt H' z m/\Good m/\1<=m.parts.length/\(m.parts.length<=1\/m.parts.length+2<=ns.length),?_,?_⟩
 rotate_left
 ·obtain⟨qs,eq,aq⟩:=R.p;exists⟨_,_,rfl,Jl R,?_⟩;exists⟨Nat.zero_le _,?_⟩;walk_at"f p12 hp12 H12 s12' t12'";have R12:=R.keeps s12';have k12:=k.trans (Rm.Kp.of s12');refine⟨_,_,DV.lst (s12' _ _ eq) (qI (fun _ _ h=>XZ (PartAt.same s12' h)) aq),j4r t12',(K6 (G.bk (by omega))).ok (by decide),shp0,?_⟩;rw[j0O];exists iteD (fun d1=>?_) (fun d1=>?_)
  ·exists⟨z,m,0,p1,fs,rfl,R12,G,by omega,k12 _ _ f1 t110,f1,by omega,B1,fun m' H' k' R' G' hl'=>?_⟩;have l0:m.parts.length=0:=by rw[d1];rfl
   exact⟨m',_,_,rfl,k12.trans k',R',G',by omega,.inl (by omega)⟩
  ·exists⟨m,_,_,rfl,k12,R12,G,?_,by omega⟩;cases hq:m.parts with
   | nil=>exact absurd hq d1
   | cons x y=>exact Nat.succ_le_succ (Nat.zero_le _)
 rintro σ' H' ⟨m,o8,o9,rfl,k,R,G,m1,m61⟩;walk_at"g";exact q z m H' (fun b u h=>k b u (off0 b u h) (s010 _ _ h)) R G m1 m61 (by rw[zl];exact npl) (by rw[zp];exact npp) off0
theorem kH(T:Txt K mg t)(j6:FnOk P w K mg base CX0 1 t.qm t.qo ["_law_room_here","_law_form","_law_hands","_law_long"] (sp_add)):FnOk P w K mg base CX0 2 t.qa t.qd ["_law_room_here","_law_there_here"] (sp_joined):=by
 refine T.Q6.ok JU (fun vs H Q E h=>?_) (fun cdv A outer s H vs Q E hr h=>?_)
 ·cases h;subst_vars;rfl
 obtain⟨z,m,l,is,rfl,R,G,e5,i1,i8,hj,sm,ml,q⟩:=h;refine⟨_,(je (jq (i:=2) JU.nd rfl (.inr rfl) (jU jd))
  (je (Jf PassesOwn.never rfl (jL (pv 1)) (jr (i:=3) JU.nd rfl (.inl rfl))
   (jf (jq (i:=2) JU.nd rfl (.inr rfl) (jp kN (pv 2) (j9 (ow:=["_law_hand"]) (ci:=[2]) rfl (CompScope.of (defScope JN) ["_law_room_here","_law_there_here","_law_hands","_law_one","_law_names_here"] rfl rfl (by decide +kernel)) (j4 (by decide)) (jL (jm ju (jF (jM hr) (pv 0) jv) (pv 3))) (fun _ _ _ _ _=>⟨(jr (i:=0) (jS ["_law_room_here","_law_there_here","_law_hands","_law_one","_law_names_here"] rfl (by decide +kernel)) rfl (.inl rfl)),(kR (jn (Z1 (K:=K) rfl) (pv 0) (pv 1) (by with_unfolding_all rfl))),(pv 0)⟩))))))
  (je (jq (i:=4) JU.nd rfl (.inl rfl) (j7 qc (by rfl) T.yv Zl (ja (j9 (ow:=["_law_one"]) (ci:=[0]) rfl (CompScope.of (defScope JN) ["_law_room_here","_law_there_here","_law_hands","_law_one","_law_names_here"] rfl rfl (by decide +kernel)) (j4 (by decide)) (jL (pv 1)) (fun _ _ _ _ _=>⟨(jr (i:=0) (jS ["_law_room_here","_law_there_here","_law_hands","_law_one","_law_names_here"] rfl (by decide +kernel)) rfl (.inl rfl)),Jy,(jm (X8 (K:=K) rfl) (jm (Qq (K:=K) rfl) (jF (jM hr) (pv 1) jv) (pv 0)) jc)⟩)) jd)))
  (jf (jD (jk (j6.mono (by decide)) hr (by rfl) T.qq T.JQ.kp T.qk .nil pass0 (ja (pv 0) (ja (Jg (ja jv (ja (pv 4) jd))) (ja (jt zN (by rfl) T.Zk zm (ja (pv 2) jd)) (ja (jt (ZK rfl) (by rfl) T.XL ww (ja (j9 (ow:=["_law_one"]) (ci:=[0]) rfl (CompScope.of (defScope JN) ["_law_room_here","_law_there_here","_law_hands","_law_one","_law_names_here"] rfl rfl (by decide +kernel)) (j4 (by decide)) (jL (pv 1)) (fun _ _ _ _ _=>⟨(jr (i:=0) (jS ["_law_room_here","_law_there_here","_law_hands","_law_one","_law_names_here"] rfl (by decide +kernel)) rfl (.inl rfl)),Jy,(jm (Qq (K:=K) rfl) (jF (jM hr) (pv 1) jv) (pv 0))⟩)) jd)) jd)))))))))),?_⟩
 refine jy (σ':=[some _,some _,none,none,none]) rfl ?_;have sz:(200:Nat)<sizeLine:=by decide
 have nl:=G.nl;exists⟨Nat.zero_le _,fun p6 hp6=>?_⟩;have s6:=Pr.jw hp6 (.lst []);have e6:=Pr.jw hp6 (.lst []) _ _ e5;have t6:upd H p6 (.lst []) p6=some (.lst []):=jh;generalize upd H p6 (.lst [])=H6 at s6 e6 t6|-;walk_at"g";obtain⟨ha,eha,aha⟩:=R.h;refine⟨l,rfl,⟨_,SqL.of e6⟩,?_⟩;refine qJ (xs:=is.map vN) (fun i σ H'=>∃(h:Addr) (hs:List Int) (o6:Option V),σ=[some (.ref z.r),some (.ref l),some (.ref h),o6,none]/\Same H6 H'/\H' h=some (.lst (hs.map V.int))/\hs.length<=8*i/\hs.Nodup/\∀k,k∈hs↔∃j∈is.take i,k∈m.hd j)
  ⟨p6,[],none,rfl,Same.refl _,t6,Nat.zero_le _,.nil,fun k=>⟨(fun h=>nomatch h),fun⟨j,h,_⟩=>by simp at h⟩⟩ ?_ ?_ ?_
 ·rintro i σ H' _ ⟨h,hs,o6,rfl,sm7,th,hl8,hnd,hmem⟩;exact SqL.of (sm7 _ _ e6)
 ·rintro i x σ H' hx ⟨h,hs,o6,rfl,sm7,th,hl8,hnd,hmem⟩;obtain⟨j,hj1,rfl,hj2⟩:=Zz hx;have hi:=(List.getElem?_eq_some_iff.mp hj1).1;have s7:=s6.trans sm7;have R7:=R.keeps s7;have hj8:=xO G (hj j hj2);obtain⟨a,ha1,ha2,ha3⟩:=YS R G (hj j hj2) eha;have ha7:=s7 _ _ ha2;exists⟨_,_,rfl,ZN R7,?_⟩;exists ixLm (SqL.of (s7 _ _ eha)) (Qd (i:=(j:Int)) (by omega) ha1) ?_;refine⟨a,rfl,⟨_,SqL.of ha7⟩,?_⟩;refine jN (xs:=(m.hd j).map V.int) (fun i ys H''=>ys=(((m.hd j).take i).filter fun k=>!decide (k∈hs)).map V.int/\H'=H'') ⟨rfl,rfl⟩ ?_ ?_ ?_
  ·rintro i ys H'' _ ⟨rfl,rfl⟩;exact SqL.of ha7
  ·rintro i x ys H'' hx ⟨rfl,rfl⟩;rw[List.getElem?_map]at hx;obtain⟨n,hn',rfl⟩:=Option.map_eq_some_iff.mp hx;refine j8 (σ':=[none,some _]) rfl ?_;exists⟨h,_,rfl,.inl (SqL.of th),rfl,flats hs,?_⟩;rw[notInI];walk_at"g";have hle:(((m.hd j).take i).filter fun k=>!decide (k∈hs)).length<=8:=Nat.le_trans (length_filter_le _ _) (Nat.le_trans (List.length_take_le' _ _) hj8);refine iteN (fun d2=>?_) (fun d2=>?_)
   ·exists⟨by rw[length_map];omega,?_,rfl⟩;rw[take_snoc hn',filter_append,map_append,filter_cons,if_pos (by simpa using d2)];rfl
   ·refine⟨?_,rfl⟩;rw[take_snoc hn',filter_append,map_append,filter_cons,if_neg (by simpa using d2)];exact(append_nil _).symm
  ·rintro ys H'' ⟨rfl,rfl⟩;rw[show((m.hd j).map V.int).length=(m.hd j).length from length_map _,take_length];have hle:((m.hd j).filter fun k=>!decide (k∈hs)).length<=8:=Nat.le_trans (length_filter_le _ _) hj8;obtain⟨nd8,mem8⟩:=kq hj1 hmem hnd (j46 G (hj j hj2));generalize(m.hd j).filter (fun k=>!decide (k∈hs))=fs at hle nd8 mem8|-;refine⟨by rw[length_map];omega,fun p8 hp8=>?_⟩;have s8:=Pr.jw hp8 (.lst (fs.map V.int));have t8:upd H' p8 (.lst (fs.map V.int)) p8=some (.lst (fs.map V.int)):=jh;generalize upd H' p8 (.lst (fs.map V.int))=H8 at s8 t8|-;refine⟨h,p8,_,_,rfl,rfl,s8 _ _ th,t8,by rw[length_map,length_map];omega,fun p9 hp9=>?_⟩;have s9:=Pr.jw hp9 (.lst (hs.map V.int++fs.map V.int));have t9:upd H8 p9 (.lst (hs.map V.int++fs.map V.int)) p9=some (.lst ((hs++fs).map V.int)):=by rw[jh,map_append]
   generalize upd H8 p9 (.lst (hs.map V.int++fs.map V.int))=H9 at s9 t9|-;walk_at"g";exact⟨p9,hs++fs,_,rfl,sm7.trans (s8.trans s9),t9,by rw[List.length_append];omega,nd8,mem8⟩
 rintro σ' H7 ⟨h,hs,o6,rfl,sm7,th,hl8,hnd,hmem⟩;rw[show(is.map vN).length=is.length from length_map _]at hl8 hmem;rw[take_length]at hmem;have s7:=s6.trans sm7;have R7:=R.keeps s7;have e7:=sm7 _ _ e6;walk_at"g";obtain⟨qs,eqs,aqs⟩:=R7.p;have part_at:∀j∈is,∃a b,qs[j]?=some a/\H7 a=some (.tup [.str (m.nm j),.ref b]):=fun j hjm=>by
  obtain⟨a,ha,b,hb,_⟩:=aqs.get (List.getElem?_eq_getElem (hj j hjm));rw[(G.ps j _ (List.getElem?_eq_getElem (hj j hjm))).1]at hb;exact⟨a,b,ha,hb⟩
 refine⟨l,rfl,⟨_,SqL.of e7⟩,?_⟩;refine jN (xs:=is.map vN) (fun i ys H'=>ys=((is.take i).map m.nm).map V.str/\H7=H') ⟨rfl,rfl⟩ ?_ ?_ ?_
 ·rintro i ys H' _ ⟨rfl,rfl⟩;exact SqL.of e7
 ·rintro i x ys H' hx ⟨rfl,rfl⟩;obtain⟨j,hj1,rfl,hj2⟩:=Zz hx;have hi:=(List.getElem?_eq_some_iff.mp hj1).1;obtain⟨a,b,ha,hb⟩:=part_at j hj2;refine j8 (σ':=[none,some _]) rfl ?_;exists iteT ?_;exists⟨_,_,rfl,Jl R7,?_⟩;exists ixLm (SqL.of eqs) (Qd (i:=(j:Int)) (by omega) ha) ?_;exists ixTm (SqT.of hb) rfl ?_;refine⟨by rw[length_map,length_map,length_take];omega,?_,rfl⟩;rw[take_snoc hj1,map_append,map_append];rfl
 rintro ys H' ⟨rfl,rfl⟩;rw[show(is.map vN).length=is.length from length_map _,take_length];refine⟨by rw[length_map,length_map];omega,fun p8 hp8=>?_⟩;have s8:=Pr.jw hp8 (.lst ((is.map m.nm).map V.str));have t8:upd H7 p8 (.lst ((is.map m.nm).map V.str)) p8=some (.lst ((is.map m.nm).map V.str)):=jh;generalize upd H7 p8 (.lst ((is.map m.nm).map V.str))=H8 at s8 t8|-;exists⟨p8,_,rfl,.inl ⟨SqL.of t8,fun p9 hp9=>?_⟩⟩;have s9:=Pr.jw hp9 (.tup ((is.map m.nm).map V.str));have t9:upd H8 p9 (.tup ((is.map m.nm).map V.str)) p9=some (.tup ((is.map m.nm).map V.str)):=jh;generalize upd H8 p9 (.tup ((is.map m.nm).map V.str))=H9 at s9 t9|-;have s79:=s8.trans s9;have e9:=s79 _ _ e7;have h9:=s79 _ _ th;have R9:=R7.keeps s79;have s09:=s7.trans s79;clear t8 s8 s9 hp8 hp9 part_at aqs eqs qs;have hk:=WO G hj hmem;have hs8:hs.length<=8:=Nat.le_trans (QJ hnd hk) G.l8;have e1:=G.hl;have e2:=G.gl;have sl:=Wr G hj;exists⟨(by show 2<=sizeLine;omega),fun p10 hp10=>?_⟩;have s10:=Pr.jw hp10 (.tup [.str "row",.ref p9]);have t10:upd H9 p10 (.tup [.str "row",.ref p9]) p10=some (.tup [.str "row",.ref p9]):=jh;generalize upd H9 p10 (.tup [.str "row",.ref p9])=H10 at s10 t10|-;have R10:=R9.keeps s10;exists⟨h,hs,rfl,SqL.of (s10 _ _ h9),Nat.lt_of_le_of_lt hs8 (by decide),fun p11 ms hp11 perm ord=>?_⟩;have s11:=Pr.jw hp11 (.lst (ms.map V.int));have t11:upd H10 p11 (.lst (ms.map V.int)) p11=some (.lst (ms.map V.int)):=jh;generalize upd H10 p11 (.lst (ms.map V.int))=H11 at s11 t11|-;have R11:=R10.keeps s11;have e11:=s11 _ _ (s10 _ _ e9);exists⟨l,rfl,⟨_,SqL.of e11⟩,?_⟩;refine jN (xs:=is.map vN) (fun i ys H'=>ys=((is.take i).map m.lg).map V.int/\H11=H') ⟨rfl,rfl⟩ ?_ ?_ ?_
 ·rintro i ys H' _ ⟨rfl,rfl⟩;exact SqL.of e11
 ·rintro i x ys H' hx ⟨rfl,rfl⟩;obtain⟨j,hj1,rfl,hj2⟩:=Zz hx;have hi:=(List.getElem?_eq_some_iff.mp hj1).1;refine j8 (σ':=[none,some _]) rfl ?_;exists iteT ?_;exists⟨_,_,rfl,ko R11,?_⟩;exists ixLm (SqL.of R11.g) (wL G (hj j hj2)) ?_;refine⟨by rw[length_map,length_map,length_take];omega,?_,rfl⟩;rw[take_snoc hj1,map_append,map_append];rfl
 rintro ys H' ⟨rfl,rfl⟩;rw[show(is.map vN).length=is.length from length_map _,take_length];refine⟨by rw[length_map,length_map];omega,?_⟩;walk_at"f 12 t";have R12:=R11.keeps s12;exists⟨_,_,rfl,SqL.of t12,?_⟩;exists⟨z,m,p10,p11,.row (is.map m.nm),ms,_,rfl,R12,⟨p9,s12 _ _ (s11 _ _ t10),s12 _ _ (s11 _ _ (s10 _ _ t9))⟩,⟨s12 _ _ t11,qM R10 hp11⟩,by omega,by omega,by omega,nl,fun H' k R' eh'=>?_⟩;walk_at"g";exact q ms _ ((Rm.Kp.of (s09.trans (s10.trans (s11.trans s12)))).trans k) R' (G.add ⟨⟨is,⟨rfl,hj⟩,i1,i8,fun k=>perm.mem_iff.trans (hmem k),rfl⟩,fun k h=>hk k (perm.mem_iff.mp h),ZU perm hnd ord,by omega,sm⟩) fun p u hp aw hs' e hm=>by
  have sA:=s09.trans (s10.trans (s11.trans s12));rw[eh' ha (sA _ _ eha)]at e;injection e with e;injection e with e;have e2:hs'=ha++[p11]:=(kU e).symm;rw[e2]at hm;rcases mem_append.mp hm with hm | hm
  ·exact aw ha eha hm
  ·rw[mem_singleton.mp hm,none_of (s09.trans s10) hp11]at hp;cases hp
theorem Yh(T:Txt K mg t)(Jc:FnOk P w K mg base CX0 1 t.JA t.JB ["_law_script","_law_k"] (Pr.sp_cell_at K))(jH:FnOk P w K mg base CX0 1 t.Ji t.Jj ["_law_cell","_law_turn"] (zE))(jW:FnOk P w K mg base CX0 1 t.Ju t.Jw ["_law_cell","_law_many"] (Ws.ZW))(Zh:FnOk P w K mg base CX0 4 t.Qj t.Qn ["_law_script"] (sp_roomB K))(Qc:FnOk P w K mg base CX0 2 t.qa t.qd ["_law_room_here","_law_there_here"] (sp_joined)):FnOk P w K mg base CX0 5 t.JH t.JI ["_law_script"] (sp_roomT K):=by
 refine T.zZ.ok JC (fun vs H Q E h=>?_) (fun cdv A outer s H vs Q E hr h=>?_)
 ·cases h;subst_vars;rfl
 obtain⟨a,ns,rfl,hS,h63,q⟩:=h;refine⟨_,(je (jq (i:=1) JC.nd rfl (.inr rfl) (jk (Zh.mono (by decide)) hr (by rfl) T.WT T.Yr.kp T.Wx .nil pass0 (ja (Jm QG (pv 0) qi (j5 jc)) jd)))
  (je (yK (i:=2) (ow:=["_law_k"]) (ci:=[1]) rfl (CompScope.of (defScope qj) ["_law_script","_law_room_here","_law_there_here","_law_rows","_law_first"] rfl rfl (by decide +kernel)) (j4 (by decide)) JC.nd rfl (.inl rfl) (JZ (by rfl) T.qg (ja (jt jB (by rfl) T.Jd jK (ja (jF (jM hr) (pv 1) jv) jd)) jd)) (fun _ _ _ _ _=>⟨(jr (i:=0) (jS ["_law_script","_law_room_here","_law_there_here","_law_rows","_law_first"] rfl (by decide +kernel)) rfl (.inl rfl)),(kR (jn Zq (jm (Qq (K:=K) rfl) (jF (jM hr) (pv 1) jv) (pv 0)) (jp qZ jc jc) (nomark _))),(pv 0)⟩))
  (je (jJ (PW.pt (Qu (jn JE (jp jI (jm ju (jk (jW.mono (by decide)) hr (by rfl) T.Qg T.J3.kp T.Qa .nil pass0 (ja (jp Je (jk (jH.mono (by decide)) hr (by rfl) T.qf T.JK.kp T.J1 .nil pass0 (ja (jk (Jc.mono (by decide)) hr (by rfl) T.qL T.JR.kp T.qy .nil pass0 (ja (pv 0) (ja jc jd))) (ja jc jd))) jc) (ja jc jd))) jc) jc) jc (nomark _)) (QU (jn (wZ hr.units) (pv 2) (jU jd) (nomark _)))))
   (jf (jx (pv 1)))
   jz)
  (je (jq (i:=3) JC.nd rfl (.inl rfl) (jU jd))
  (je (Jf PassesOwn.never rfl (j1b (by rfl) T.qg (ja jc (ja (jt jB (by rfl) T.Jd jK (ja (pv 2) jd)) (ja jc jd)))) (jr (i:=4) JC.nd rfl (.inl rfl))
   (je (jD (JF PySem.F.plainAttrs_list PySem.F.slot_list_append PySem.F.type_list_append jR (pv 3) (ja (jt jB (by rfl) T.Jd jK (ja (jF (jM hr) (pv 1) jv) jd)) jd)))
   (jf (jD (jk (Qc.mono (by decide)) hr (by rfl) T.Z0 T.Q6.kp T.ZY .nil pass0 (ja (pv 1) (ja (Jm QG (pv 2) (j5 (pv 4)) (j5 (jp Je (pv 4) jc))) jd)))))))
  (je (yd (jn yJ (jt jB (by rfl) T.Jd jK (ja (pv 3) jd)) jc (nomark _))
   (jf (jD (jk (Qc.mono (by decide)) hr (by rfl) T.Z0 T.Q6.kp T.ZY .nil pass0 (ja (pv 1) (ja (pv 3) jd)))))
   jz)
  (jf (jx (pv 1))))))))),?_⟩
 refine jy (σ':=[some _,none,none,none,none]) rfl ?_;have sz:(200:Nat)<sizeLine:=by decide
 exists⟨a,_,rfl,hS,fun p1 hp1=>?_⟩;rw[show(48:Int)=((48:Nat):Int)from rfl,j4o,<-map_take];have s1:=Pr.jw hp1 (.lst ((ns.take 48).map V.int));have t1:upd H p1 (.lst ((ns.take 48).map V.int)) p1=some (.lst ((ns.take 48).map V.int)):=jh;generalize upd H p1 (.lst ((ns.take 48).map V.int))=H1 at s1 t1|-;have l48:(ns.take 48).length<=48:=by rw[length_take];omega
 exists⟨p1,ns.take 48,rfl,SqL.of t1,by omega,fun z m H2 s2 R G m1 mB npl npp off=>?_⟩;have n46:m.parts.length<=46:=by omega
 have s12:=s1.trans s2;obtain⟨qs,eq,aq⟩:=R.p;exists⟨_,_,rfl,Jl R,?_⟩;exists⟨_,_,rfl,.inl ⟨_,SqL.of eq,rfl⟩,?_⟩;rw[length_map,aq.1];exists⟨_,rfl,by omega,by omega,?_⟩;refine ke (fun i ys H'=>∃is:List Nat,ys=is.map vN/\is.length<=i/\(∀j∈is,j<m.parts.length/\m.lg j<=10^55)/\H2=H') ⟨[],rfl,Nat.zero_le _,(fun j h=>nomatch h),rfl⟩ ?_ ?_
 ·rintro i ys H' hi ⟨is,rfl,il,hj,rfl⟩;have e0:(0:Int)+(i:Nat)=(i:Nat):=Int.zero_add _;rw[e0];refine j8 (σ':=[none,some _]) rfl ?_;exists⟨_,_,rfl,ko R,?_⟩;exists ixLm (SqL.of R.g) (wL G (by omega)) ?_;exists pow55 ?_;exists iteD (fun d1=>?_) (fun d1=>?_)
  ·exists⟨by rw[length_map];omega,is++[i],by rw[map_append];rfl,by rw[List.length_append,length_singleton];omega,fun j h=>?_,rfl⟩;rcases mem_append.mp h with h | h
   ·exact hj j h
   ·rw[mem_singleton.mp h];exact⟨by omega,d1⟩
  ·exact⟨is,rfl,by omega,hj,rfl⟩
 rintro ys H' ⟨is,rfl,il,hj,rfl⟩;refine⟨by rw[length_map];omega,?_⟩;walk_at"f 3 t";have R3:=R.keeps s3;exists⟨a,ns,_,rfl,(s12.trans s3).seq hS,h63,by omega,?_⟩;exists⟨_,_,rfl,by omega,by omega,fun wn=>?_⟩;exists⟨_,_,rfl,by omega,by omega,fun p4 fs H4 s4 hp4 t4 l4 b4=>?_⟩;have B4:Big fs:=b4;have c0:=B4.cell (k:=0) (by omega) (by omega);exists ixLm (SqL.of t4) (Pr.jQ (by omega) (by omega)) ?_;walk_at"g";have s34:=s3.trans s4;have s24:=s12.trans s34;have R4:=R.keeps s34;refine iteD (fun d1=>?_) (fun d1=>?_)
 ·refine iteT ?_;walk_at"g";exact q z m H4 s24 R4 G m1 (by omega) (none_of s1 npl) (none_of s1 npp)
 exists⟨Nat.zero_le _,?_⟩;walk_at"f 5 t";have t35:=s5 _ _ (s4 _ _ t3);refine⟨_,_,.lst (by rw[j3U]at t35;exact t35) (yC _),.lst t5 .nil,?_,?_,?_⟩
 ·exact(Shp.lst (n:=0) fun d hd=>by obtain⟨k,_,rfl⟩:=mem_map.mp hd;exact Shp.int).ok (by decide)
 ·exact shp0
 rw[X0];have R5:=R4.keeps s5;have s05:=s24.trans s5;exists iteD (fun d2=>?_) (fun d2=>?_)
 ·walk_at"g";exact q z m H5 s05 R5 G m1 (by omega) (none_of s1 npl) (none_of s1 npp)
 have i1:1<=is.length:=by
  cases is with
  | nil=>exact absurd rfl d2
  | cons x r=>exact Nat.succ_le_succ (Nat.zero_le _)
 exists⟨Nat.zero_le _,?_⟩;walk_at"f 6 t";have R6:=R5.keeps s6;have o6:=qM R5 hp6;have o3:=qM R hp3;have t36:=s6 _ _ t35;have n36:p3≠p6:=jg t35 hp6;exists j3M ?_;exists⟨_,_,rfl,.inl ⟨_,SqL.of t36,rfl⟩,?_⟩;rw[length_map];exists⟨is.length,rfl,by omega,?_⟩;have aw6:Away H6 z p6:=fun hs e hm=>by
  obtain⟨hs',e',a'⟩:=R5.h;rw[s6 _ _ e']at e;injection e with e;injection e with e;rw[<-kU e]at hm;obtain⟨k,hk,ek⟩:=mem_iff_getElem.mp hm;have:=a'.1;have h:=(a'.2 k _ _ (List.getElem?_eq_getElem hk) (List.getElem?_eq_getElem (by omega))).1;rw[ek,hp6]at h;cases h
 have n6n:p6≠z.pn:=fun e=>by rw[e,R5.n]at hp6;cases hp6
 have n6l:p6≠z.pl:=fun e=>by obtain⟨ls,e1,_⟩:=R5.l;rw[e,e1]at hp6;cases hp6
 refine j4u (fun i σ H'=>∃(o4:Option V) (m':Rr),σ=[some (.ref a),some (.ref z.r),some (.ref p3),some (.ref p6),o4]/\(∀b u,z.off b->b≠p6->H6 b=some u->H' b=some u)/\RoomAt H' z m'/\Away H' z p6/\Good m'/\Jo m m.parts.length i m'/\H' p6=some (.lst (((List.range i).map fun k=>m.parts.length+k).map vN)))
  ⟨_,m,rfl,fun b u _ _ h=>h,R6,aw6,G,⟨rfl,fun j _=>rfl,fun j h1 h2=>absurd h2 (by omega)⟩,t6⟩ ?_ ?_
 ·rintro i σ H' hi ⟨o4,m',rfl,kp,R',aw',G',J,e6⟩;have i8:8*i<is.length:=by omega
  have ln:=J.ln;obtain⟨qs',eq',aq'⟩:=R'.p;have ql:=aq'.1;exists⟨.inl ⟨rfl,_,SqL.of e6⟩,?_⟩;exists⟨_,_,rfl,Jl R',?_⟩;exists⟨_,_,rfl,.inl ⟨_,SqL.of eq',rfl⟩,?_⟩;rw[length_map,ql,ln];exists⟨p6,_,_,rfl,rfl,e6,by rw[length_map,length_map,length_range];omega,?_⟩;generalize e7:upd H' p6 _=H7;have t7:H7 p6=some (.lst (((List.range (i+1)).map fun k=>m.parts.length+k).map vN)):=by
   rw[<-e7,jh,range_succ,map_append,map_append];rfl
  have k7:∀b u,b≠p6->H' b=some u->H7 b=some u:=fun b u n h=>e7▸(jo n).trans h
  have h7:H7 z.ph=H' z.ph:=e7▸jo (Ne.symm o6.2.1);clear e7;have R7:=R'.but aw' e6 o6 n6n n6l k7;have aw7:Away H7 z p6:=fun hs e=>aw' hs (h7▸e)
  have t37:=k7 _ _ n36 (kp _ _ o3 n36 t36);exists⟨p3,_,rfl,SqL.of t37,fun p8 hp8=>?_⟩;rw[j57 i8];have s8:=Pr.jw hp8 (.lst (((is.drop (8*i)).take 8).map vN));have t8:upd H7 p8 (.lst (((is.drop (8*i)).take 8).map vN)) p8=some (.lst (((is.drop (8*i)).take 8).map vN)):=jh;have h8:upd H7 p8 (.lst (((is.drop (8*i)).take 8).map vN)) z.ph=H7 z.ph:=jo (Ne.symm (qM R7 hp8).2.1);generalize upd H7 p8 (.lst (((is.drop (8*i)).take 8).map vN))=H8 at s8 t8 h8|-;have hsub:∀j∈(is.drop (8*i)).take 8,j<m.parts.length/\m.lg j<=10^55:=fun j h=>hj j (mem_of_mem_drop (mem_of_mem_take h))
  have hlen:((is.drop (8*i)).take 8).length<=8:=by rw[length_take];omega
  have hpos:1<=((is.drop (8*i)).take 8).length:=by rw[length_take,length_drop];omega
  generalize(is.drop (8*i)).take 8=js at t8 hsub hlen hpos;have sum8:=Wp (m:=m') (c:=10^55) (is:=js) fun x hx=>by rw[J.lo x (hsub x hx).1];exact(hsub x hx).2
  have aw8:Away H8 z p6:=fun hs e=>aw7 hs (h8▸e)
  exists⟨z,m',p8,js,rfl,R7.keeps s8,G',t8,hpos,hlen,fun j h=>by have:=(hsub j h).1;omega,by omega,by omega,fun ks H9 k9 R9 G9 aw9=>?_⟩;have p68:H8 p6=some _:=s8 _ _ t7;exact⟨_,_,rfl,fun b u o n h=>k9 _ _ o (s8 _ _ (k7 _ _ n (kp _ _ o n h))),R9,aw9 _ _ p68 aw8,G9,J.add G' hlen hsub,k9 _ _ o6 p68⟩
 rintro σ H' ⟨o4,m',rfl,kp,R',aw',G',J,e6⟩;have ln:=J.ln;have offH:∀b u,H b=some u->z.off b/\b≠p6:=fun b u h=>⟨off b u (s1 _ _ h),jg (s05 _ _ h) hp6⟩
 have sH:Same H H':=fun b u h=>kp _ _ (offH b u h).1 (offH b u h).2 (s6 _ _ (s05 _ _ h))
 have rl:((List.range ((is.length+7)/8)).map fun k=>m.parts.length+k).length=(is.length+7)/8:=by rw[length_map,length_range]
 have r6:(is.length+7)/8<=6:=by omega
 refine⟨fun σ' H'=>∃(m':Rr),σ'=[some (.ref a),some (.ref z.r),some (.ref p3),some (.ref p6),o4]/\Same H H'/\RoomAt H' z m'/\Good m'/\1<=m'.parts.length/\m'.parts.length<=60,?_,?_⟩
 rotate_left
 ·exists⟨_,_,rfl,.inl ⟨_,SqL.of e6,rfl⟩,?_⟩;rw[length_map,rl];exists iteD (fun d3=>?_) (fun d3=>?_)
  ·have hk:∀j∈(List.range ((is.length+7)/8)).map (fun k=>m.parts.length+k),j<m'.parts.length/\m'.lg j<=8*10^55:=fun j h=>by
    obtain⟨k,hk,rfl⟩:=mem_map.mp h;have:=mem_range.mp hk;exact⟨by omega,J.hi _ (by omega) (by omega)⟩
   have sm:=Wp (m:=m') (c:=8*10^55) (is:=(List.range ((is.length+7)/8)).map fun k=>m.parts.length+k) fun x hx=>(hk x hx).2
   rw[rl]at sm;exists⟨z,m',p6,_,rfl,R',G',e6,by rw[rl];omega,by rw[rl];omega,fun j h=>(hk j h).1,by omega,by omega,fun ks H9 k9 R9 G9 _=>?_⟩;exact⟨_,rfl,fun b u h=>k9 _ _ (offH b u h).1 (sH _ _ h),R9,G9,by unfold addJ;rw[Qw];omega,by unfold addJ;rw[Qw];omega⟩
  ·walk_at"g";exact⟨m',rfl,sH,R',G',by omega,by omega⟩
 rintro σ' H9 ⟨m9,rfl,s9,R9,G9,l1,l60⟩;walk_at"g";exact q z m9 H9 s9 R9 G9 l1 l60 (none_of s1 npl) (none_of s1 npp)
theorem j4N(T:Txt K mg t)(xy:FnOk P w K mg base CX0 7 t.Y6 t.kg ["text"] (sp_read))(wp:FnOk P w K mg base CX0 2 t.yt t.yA ["book"] (sp_shown))(YO:FnOk P w K mg base CX0 3 t.yr t.yz ["book"] (sp_drums))(yT:FnOk P w K mg base CX0 2 t.zf t.zn ["box"] (sp_bookof))(Z6:FnOk P w K mg base CX0 3 t.yY t.y8 ["book"] (sp_ends))(zK:FnOk P w K mg base CX0 4 t.ZI t.ZM ["book"] (sp_moved))(ZG:FnOk P w K mg base CX0 5 t.zi t.zt ["book"] (sp_lengths))(Qs:FnOk P w K mg base CX0 5 t.JH t.JI ["_law_script"] (sp_roomT K)):FnOk P w K mg base CX0 8 t.XH t.WF ["_law_script"] (Pr.sp_law K):=by
 refine T.j3X.ok kZ (fun vs H Q E h=>?_) (fun cdv A outer s H vs Q E hr h=>?_)
 ·cases h;subst_vars;rfl
 obtain⟨a,ns,rfl,hS,h63,hB,q⟩:=h;refine⟨_,(je (jq (i:=1) kZ.nd rfl (.inl rfl) (jk (Qs.mono (by decide)) hr (by rfl) T.YG T.zZ.kp T.YD .nil pass0 (ja (pv 0) jd)))
  (je (jq (i:=2) kZ.nd rfl (.inl rfl) (Jg (ja (jF (jM hr) (pv 1) jv) (ja (jF (jM hr) (pv 1) jv) jd))))
  (je (jq (i:=3) kZ.nd rfl (.inl rfl) (jk (YO.mono (by decide)) hr (by rfl) T.j02 T.wl.kp T.XE .nil pass0 (ja (pv 2) jd)))
  (je (jq (i:=4) kZ.nd rfl (.inl rfl) (jk (yT.mono (by decide)) hr (by rfl) T.j0U T.Ky.kp T.j0x .nil pass0 (ja (pv 3) jd)))
  (je (jJ (PW.pt (Qu (jn (kP hr.units) (jk (YO.mono (by decide)) hr (by rfl) T.j02 T.wl.kp T.XE .nil pass0 (ja (pv 4) jd)) (pv 3) (nomark _)) (Qu (jn (kP hr.units) (jk (xy.mono (by decide)) hr (by rfl) T.j4K T.j1w.kp T.j4e .nil pass0 (ja (jk (wp.mono (by decide)) hr (by rfl) T.j3q T.XG.kp T.j31 .nil pass0 (ja (pv 4) jd)) jd)) (pv 4) (nomark _)) (QU (jn (kP hr.units) (jm jA (pv 4) jc) (jF (jM hr) (pv 1) jv) (nomark _))))))
   (jf (jx kQ))
   jz)
  (je (jJ (PW.pt (Qu (jn yJ (jt jB (by rfl) T.Jd jK (ja (jm jA (pv 4) jc) jd)) (jt jB (by rfl) T.Jd jK (ja (jm jA (pv 2) jc) jd)) (nomark _)) (QU (jn YB (jt jB (by rfl) T.Jd jK (ja (jm jA (pv 4) jc) jd)) (jt jB (by rfl) T.Jd jK (ja (jm jA (pv 3) jc) jd)) (nomark _)))))
   (jf (jx kQ))
   jz)
  (je (jJ (PW.pt (Qu (jn YB (jm ju (jk (ZG.mono (by decide)) hr (by rfl) T.KZ T.yS.kp T.Kx .nil pass0 (ja (pv 4) jd)) (Z2 ze jc)) (jm ju (jk (ZG.mono (by decide)) hr (by rfl) T.KZ T.yS.kp T.Kx .nil pass0 (ja (pv 2) jd)) (Z2 ze jc)) (nomark _)) (QU (jn (kP hr.units) (jm ju (jk (zK.mono (by decide)) hr (by rfl) T.wP T.YM.kp T.wj .nil pass0 (ja (pv 4) jd)) (Z2 ze jc)) (jm ju (jk (zK.mono (by decide)) hr (by rfl) T.wP T.YM.kp T.wj .nil pass0 (ja (pv 2) jd)) (Z2 ze jc)) (nomark _)))))
   (jf (jx kQ))
   jz)
  (jf (jx (Wb (wZ hr.units) (jm ju (jk (Z6.mono (by decide)) hr (by rfl) T.xW T.wm.kp T.xt .nil pass0 (ja (pv 4) jd)) (Z2 ze jc)) (jm ju (jk (Z6.mono (by decide)) hr (by rfl) T.xW T.wm.kp T.xt .nil pass0 (ja (pv 2) jd)) (Z2 ze jc)) (nomark _))))))))))),?_⟩
 refine jy (σ':=[some _,none,none,none,none]) rfl ?_;have sz:(200:Nat)<sizeLine:=by decide
 exists⟨a,ns,rfl,hS,h63,fun z m H1 s1 R G m1 m60 npl npp=>?_⟩;obtain⟨ls,el,al⟩:=R.l;obtain⟨qs,eq,aq⟩:=R.p;have Ob:=G.bk (by omega);have W:=G.wf (by omega);have O:=wR W m1;exists⟨_,_,rfl,ZO R,?_⟩;exists⟨_,_,rfl,Jl R,?_⟩;exists⟨(by show 2<=sizeLine;omega),?_⟩;walk_at"f p1 hp1 H2 s2 t1";have B1:BookAt H2 p1 z.pl z.pp ls qs m.limbs m.parts:=⟨t1,s2 _ _ el,al.mono fun b x h=>s2 _ _ h,s2 _ _ eq,aq.mono fun b x h=>PartAt.same s2 h⟩
 exists⟨p1,z.pl,z.pp,ls,qs,m.limbs,m.parts,rfl,B1,W,m1,fun tf l f df ms H3 s3 et el3 ef3 nl nf nlf dr Kd=>?_⟩;have B3:=B1.same s3;have R3:=(R.keeps s2).keeps s3;have Bx:=X9 O G.l8 Kd;have sh:=j3P (ms:=ms) Ob;have v1:=j1P et el3 B3.la ef3 dr;have Cr:=j4m W m1 Kd;have knd:=Kd.nd O;have kl:(keptD (drsM m.limbs m.parts) ms).length=ms.length:=kx _ _;have mle:ms.length<=m.parts.length:=by
  have h1:=YV (n:=topM m.limbs m.parts+1) (j08 Kd.1) fun x hx=>by have:=Kd.lt O hx;omega
  have h2:=O.tp;have h3:=(yH (nmsOf m.limbs) (nmsOf m.parts) m.parts.length m.parts rfl).lk;have h4:(drsM m.limbs m.parts).length<=m.parts.length:=h3;omega
 obtain⟨⟨c,hc1,hc2⟩,knm⟩:=Kd.named O;rw[<-kl]at knm;have Wq:=j5h Bx W.ln;have ql:(bkP m.limbs (keptD (drsM m.limbs m.parts) ms)).length=ms.length:=(Qx _ _).trans kl;have Rd:=j33 Cr (G.rd m1 m60) Wq (by omega) (by omega) (fun x hx=>by
  rw[Xb]at hx;obtain⟨i,hi,rfl⟩:=mem_map.mp hx;exact j5e (by have:=mem_range.mp hi;omega))
 have back:=fun mt=>j1E (mt:=mt) Bx W.ln knd (by omega) knm
 have Sn:=j37 (G.snd (by omega)) G.hl (Good.mov G W) Cr (by omega) Wq;have bsh:=j2K Rd.b;have dl:=dr.1;generalize ekk:keptD (drsM m.limbs m.parts) ms=kk at *;exists⟨tf,l,f,ls,df,m.limbs,kk,rfl,et,el3,B3.la,ef3,dr,Bx,fun bb pl' pp' pas H4 s4 Bb npl' npp' nlp=>?_⟩;have pal:=Bb.pa.1;exists⟨bb,pl',pp',ls,pas,m.limbs,bkP m.limbs kk,rfl,Bb,Wq,by omega,fun tg lg fg dg mt H5 s5 etg elg efg _ _ _ drg Kg=>?_⟩;have v2:=j1P etg elg (Bb.same s5).la efg drg;rw[back mt Kg]at v2;exists⟨_,_,v2,(v1.mono s4).mono s5,sh.ok (by decide),sh.ok (by decide),?_⟩;rw[SeqAt.eqv_refl _ sh.1];exists iteF ?_;have B5:=Bb.same s5;exists⟨bb,pl',pp',ls,pas,m.limbs,_,rfl,B5,Rd.b,fun H6 s6=>?_⟩;exists⟨m.limbs,_,rfl,Rd,fun b7 l7 q7 las7 pas7 H7 s7 _ _ _ B7=>?_⟩;have s47:=s5.trans (s6.trans s7);have Bb7:=Bb.same s47;exists⟨_,_,B7.dv,Bb7.dv,bsh.ok (by decide),bsh.ok (by decide),?_⟩;rw[SeqAt.eqv_refl _ bsh.1];exists iteF ?_;have s37:=s4.trans s47;have R7:=R3.keeps s37;have B37:=B3.same s37;have dv1:=DV.lst Bb7.l (qI (fun _ _ h=>YQ h) Bb7.la);have dv2:=DV.lst B37.l (qI (fun _ _ h=>YQ h) B37.la);exists ixTm (SqT.of Bb7.t) rfl ?_;exists⟨_,_,rfl,ZO R7,?_⟩;exists⟨_,_,dv1,dv2,(zD Ob).ok (by decide),(zD Ob).ok (by decide),?_⟩;rw[SeqAt.eqv_refl _ (zD Ob).1];exists iteF ?_;exists ixTm (SqT.of Bb7.t) rfl ?_;exists⟨_,_,rfl,.inl ⟨_,SqL.of Bb7.p,rfl⟩,?_⟩;exists ixTm (SqT.of B37.t) rfl ?_;exists⟨_,_,rfl,.inl ⟨_,SqL.of B37.p,rfl⟩,?_⟩;walk_at"g";have ql7:(qs.map V.ref).length=m.parts.length:=(length_map _).trans B37.pa.1;have pl7:(pas.map V.ref).length=ms.length:=(length_map _).trans (pal.trans ql);rw[ql7,pl7];refine iteD (fun z=>by omega) (fun _=>?_);exists ixTm (SqT.of Bb7.t) rfl ?_;exists⟨_,_,rfl,.inl ⟨_,SqL.of Bb7.p,rfl⟩,?_⟩;exists ixTm (SqT.of (s37 _ _ et)) rfl ?_;exists⟨_,_,rfl,.inl ⟨_,SqL.of (s37 _ _ ef3),rfl⟩,?_⟩;walk_at"g";rw[pl7,length_map,dl,kl];refine iteN (fun z=>absurd rfl z) (fun _=>?_);obtain⟨gs',hs',S',gtop⟩:=Sn;have gl':=S'.gl;have gl:=G.gl;exists⟨bb,pl',pp',ls,pas,m.limbs,_,gs',hs',rfl,Bb7,S',fun l8 H8 s8 _ e8=>?_⟩;exists ixLm (SqL.of e8) (yb (n:=ms.length) (v:=.int (gs'.getD (ms.length-1) 0)) (by omega) (by rw[length_map];omega) (by rw[List.getElem?_map,getD_eq_getElem?_getD,List.getElem?_eq_getElem (by omega)];rfl)) ?_;have B8:=B37.same s8;exists⟨p1,z.pl,z.pp,ls,qs,m.limbs,m.parts,m.longs,m.hands,rfl,B8,G.snd (by omega),fun l9 H9 s9 _ e9=>?_⟩;exists ixLm (SqL.of e9) (yb (n:=m.parts.length) (v:=.int (m.longs.getD (m.parts.length-1) 0)) (by omega) (by rw[length_map];omega) (by rw[List.getElem?_map,getD_eq_getElem?_getD,List.getElem?_eq_getElem (by omega)];rfl)) ?_;rw[ql]at gtop;rw[gtop];exists iteN (fun z=>absurd rfl z) (fun _=>?_);have Bb9:=Bb7.same (s8.trans s9);have B9:=B8.same s9;exists⟨bb,pl',pp',ls,pas,m.limbs,_,rfl,Bb9,Wq,fun la as M HA sA _ eA _ mlA aA okA=>?_⟩;have asl:=aA.1;obtain⟨x,ex,hx⟩:=aA.get (i:=ms.length-1) (x:=M.getD (ms.length-1) []) (by rw[getD_eq_getElem?_getD,List.getElem?_eq_getElem (by omega)];rfl);exists ixLm (SqL.of eA) (yb (n:=ms.length) (v:=.ref x) (by omega) (by rw[length_map];omega) (by rw[List.getElem?_map,ex];rfl)) ?_;exists⟨p1,z.pl,z.pp,ls,qs,m.limbs,m.parts,rfl,B9.same sA,W,fun lb bs N HB sB _ eB _ nlB aB okB=>?_⟩;have bsl:=aB.1;obtain⟨y,ey,hy⟩:=aB.get (i:=m.parts.length-1) (x:=N.getD (m.parts.length-1) []) (by rw[getD_eq_getElem?_getD,List.getElem?_eq_getElem (by omega)];rfl);exists ixLm (SqL.of eB) (yb (n:=m.parts.length) (v:=.ref y) (by omega) (by rw[length_map];omega) (by rw[List.getElem?_map,ey];rfl)) ?_;have cm:=XO Cr nlB mlA okB okA _ _ Cr.top;rw[ql]at cm;rw[cm]at hx;have ish:∀ks:List Int,PyData.canLay0 (.list (ks.map PyData.int))=true:=fun ks=>(Shp.lst (n:=0) fun d hd=>by
  obtain⟨n,_,rfl⟩:=mem_map.mp hd;exact Shp.int).1
 exists⟨_,_,DV.lst (sB _ _ hx) (yC _),DV.lst hy (yC _),shp _,shp _,?_⟩;rw[SeqAt.eqv_refl _ (ish _)];exists iteF ?_;have s9B:=sA.trans sB;exists⟨bb,pl',pp',ls,pas,m.limbs,_,rfl,Bb9.same s9B,Wq,fun lc cs E' HC sC _ eC _ elC aC okC=>?_⟩;have csl:=aC.1;obtain⟨u,eu,us,hu1,hu2⟩:=aC.get (i:=ms.length-1) (x:=E'.getD (ms.length-1) []) (by rw[getD_eq_getElem?_getD,List.getElem?_eq_getElem (by omega)];rfl);exists ixLm (SqL.of eC) (yb (n:=ms.length) (v:=.ref u) (by omega) (by rw[length_map];omega) (by rw[List.getElem?_map,eu];rfl)) ?_;exists⟨p1,z.pl,z.pp,ls,qs,m.limbs,m.parts,rfl,(B9.same s9B).same sC,W,fun ld ds F HD sD _ eD _ flD aD okD=>?_⟩;have dsl:=aD.1;obtain⟨w',ew,ws,hw1,hw2⟩:=aD.get (i:=m.parts.length-1) (x:=F.getD (m.parts.length-1) []) (by rw[getD_eq_getElem?_getD,List.getElem?_eq_getElem (by omega)];rfl);exists ixLm (SqL.of eD) (yb (n:=m.parts.length) (v:=.ref w') (by omega) (by rw[length_map];omega) (by rw[List.getElem?_map,ew];rfl)) ?_;have ce:=j36 Cr flD elC okD okC _ _ Cr.top;rw[ql]at ce;rw[ce]at hu2;have psh:∀e:List (Int×Int),Shp 2 (.list (e.map fun q=>PyData.tuple [.int q.1,.int q.2])):=fun e=>Shp.lst (n:=1) fun d hd=>by
  obtain⟨n,_,rfl⟩:=mem_map.mp hd;exact Shp.tup (n:=0) (forall_mem_cons.mpr ⟨Shp.int,forall_mem_cons.mpr ⟨Shp.int,fun _ h=>nomatch h⟩⟩)
 have prd:∀{Hh:Hp} {bs:List Addr} {e:List (Int×Int)},PrsAt Hh bs e->DVs Hh (bs.map V.ref) (e.map fun q=>PyData.tuple [.int q.1,.int q.2]):=fun {Hh bs e} h=>qI (R:=fun(b:Addr) (q:Int×Int)=>Hh b=some (HO.tup [V.int q.1,V.int q.2])) (D:=fun q:Int×Int=>PyData.tuple [.int q.1,.int q.2]) (fun _ q h=>DV.tup h (.cons (.int q.1) (.cons (.int q.2) .nil))) h
 refine⟨_,_,DV.lst (sD _ _ hu1) (prd (hu2.mono fun b x h=>sD _ _ h)),DV.lst hw1 (prd hw2),(psh _).ok (by decide),(psh _).ok (by decide),?_⟩;rw[SeqAt.eqv_refl _ (psh _).1];exact q _
theorem j32(T:Txt K mg t):FnOk P w K mg base CX0 8 t.XH t.WF ["_law_script"] (Pr.sp_law K):=by
 have jP:FnOk P w K mg base CX0 1 t.Jq t.Jr _ _:=Ks T;have qt:FnOk P w K mg base CX0 1 t.qu t.qv _ _:=wV T;have JW:FnOk P w K mg base CX0 2 t.qT t.qV _ _:=Xh T qt;have Zj:FnOk P w K mg base CX0 2 t.Ql t.Qp _ _:=wY T qt;have qR:FnOk P w K mg base CX0 3 t.QH t.QI _ _:=Xe T Zj;have Z8:FnOk P w K mg base CX0 4 t.QM t.QP _ _:=W6 T JW qR;have zL:FnOk P w K mg base CX0 1 t.qD t.qH _ _:=Kr T;have yV:FnOk P w K mg base CX0 5 t.zh t.zq _ _:=Xg T Z8 zL;have yX:FnOk P w K mg base CX0 6 t.zk t.zv _ _:=Xk T JW yV;have Z7:FnOk P w K mg base CX0 4 t.QL t.QO _ _:=W4 T JW qR;have xy:FnOk P w K mg base CX0 7 t.Y6 t.kg _ _:=j3E T jP yX Z7;have Z9:FnOk P w K mg base CX0 1 t.QN t.QQ _ _:=W7 T;have wp:FnOk P w K mg base CX0 2 t.yt t.yA _ _:=j2r T Z9;have Jp:FnOk P w K mg base CX0 1 t.JS t.JT _ _:=wW T;have xx:FnOk P w K mg base CX0 2 t.Y5 t.kf _ _:=j3D T jP Jp;have qS:FnOk P w K mg base CX0 1 t.qU t.qW _ _:=W5 T;have yU:FnOk P w K mg base CX0 2 t.zg t.zo _ _:=Xf T qS;have YO:FnOk P w K mg base CX0 3 t.yr t.yz _ _:=j2o T Jp xx yU;have yW:FnOk P w K mg base CX0 1 t.zj t.zu _ _:=Xj T;have yT:FnOk P w K mg base CX0 2 t.zf t.zn _ _:=Xd T Jp yW;have ZF:FnOk P w K mg base CX0 2 t.ZH t.ZL _ _:=j2p T jP qS;have Z6:FnOk P w K mg base CX0 3 t.yY t.y8 _ _:=j3C T jP ZF;have zK:FnOk P w K mg base CX0 4 t.ZI t.ZM _ _:=j2q T Z6;have zJ:FnOk P w K mg base CX0 1 t.qC t.qG _ _:=Kq T;have Zi:FnOk P w K mg base CX0 1 t.Qk t.Qo _ _:=wX T;have ZG:FnOk P w K mg base CX0 5 t.zi t.zt _ _:=Xi T ZF zK zJ Zi;have Jc:FnOk P w K mg base CX0 1 t.JA t.JB _ _:=YI T;have jH:FnOk P w K mg base CX0 1 t.Ji t.Jj _ _:=kM T;have jW:FnOk P w K mg base CX0 1 t.Ju t.Jw _ _:=kL T;have zI:FnOk P w K mg base CX0 2 t.qB t.qF _ _:=Kn T jW;have jV:FnOk P w K mg base CX0 1 t.Jt t.Jv _ _:=kJ T;have j6:FnOk P w K mg base CX0 1 t.qm t.qo _ _:=W3 T;have Js:FnOk P w K mg base CX0 2 t.JL t.JM _ _:=kK T jH jV j6;have JV:FnOk P w K mg base CX0 1 t.JX t.JY _ _:=Ko T;have zH:FnOk P w K mg base CX0 2 t.qA t.qE _ _:=Km T JV;have Q7:FnOk P w K mg base CX0 3 t.qb t.qe _ _:=kI T jH jV j6 Js JV zH;have Zh:FnOk P w K mg base CX0 4 t.Qj t.Qn _ _:=wU T Jc jH jW zI jV Js Q7;have Qc:FnOk P w K mg base CX0 2 t.qa t.qd _ _:=kH T j6;have Qs:FnOk P w K mg base CX0 5 t.JH t.JI _ _:=Yh T Jc jH jW Zh Qc;exact j4N T xy wp YO yT Z6 zK ZG Qs
end
@[elab_as_elim] theorem uu1{P:List Value->Prop}(us:List Value)(hl:us.length=1)(h:∀a0,P [a0]):P us:=match us,hl with | [a0],_=>h a0
theorem bb1{K:Frg}{x q:Str}{st:Stmt}{f:Addr}{fd:FuncData}{x0:Str}(F:Fun K x q st f fd)(h:∀(kV doc pm:Value) (an:Option Addr) (cdv ct:Value) (a0:Value),bindArgs (W.fnOf x q (defArgs st) (defBody st) (defScope st) .none kV doc pm an cdv ct) ⟨[a0],[]⟩=pure ([x0].zip [a0])):Binds K fd [x0] []:=F.binds fun a b c d e g us hl=>uu1 us hl (h a b c d e g)
@[elab_as_elim] theorem uu2{P:List Value->Prop}(us:List Value)(hl:us.length=2)(h:∀a0 a1,P [a0,a1]):P us:=match us,hl with | [a0,a1],_=>h a0 a1
theorem bb2{K:Frg}{x q:Str}{st:Stmt}{f:Addr}{fd:FuncData}{x0 x1:Str}(F:Fun K x q st f fd)(h:∀(kV doc pm:Value) (an:Option Addr) (cdv ct:Value) (a0 a1:Value),bindArgs (W.fnOf x q (defArgs st) (defBody st) (defScope st) .none kV doc pm an cdv ct) ⟨[a0,a1],[]⟩=pure ([x0,x1].zip [a0,a1])):Binds K fd [x0,x1] []:=F.binds fun a b c d e g us hl=>uu2 us hl (h a b c d e g)
@[elab_as_elim] theorem uu3{P:List Value->Prop}(us:List Value)(hl:us.length=3)(h:∀a0 a1 a2,P [a0,a1,a2]):P us:=match us,hl with | [a0,a1,a2],_=>h a0 a1 a2
theorem bb3{K:Frg}{x q:Str}{st:Stmt}{f:Addr}{fd:FuncData}{x0 x1 x2:Str}(F:Fun K x q st f fd)(h:∀(kV doc pm:Value) (an:Option Addr) (cdv ct:Value) (a0 a1 a2:Value),bindArgs (W.fnOf x q (defArgs st) (defBody st) (defScope st) .none kV doc pm an cdv ct) ⟨[a0,a1,a2],[]⟩=pure ([x0,x1,x2].zip [a0,a1,a2])):Binds K fd [x0,x1,x2] []:=F.binds fun a b c d e g us hl=>uu3 us hl (h a b c d e g)
@[elab_as_elim] theorem uu4{P:List Value->Prop}(us:List Value)(hl:us.length=4)(h:∀a0 a1 a2 a3,P [a0,a1,a2,a3]):P us:=match us,hl with | [a0,a1,a2,a3],_=>h a0 a1 a2 a3
theorem bb4{K:Frg}{x q:Str}{st:Stmt}{f:Addr}{fd:FuncData}{x0 x1 x2 x3:Str}(F:Fun K x q st f fd)(h:∀(kV doc pm:Value) (an:Option Addr) (cdv ct:Value) (a0 a1 a2 a3:Value),bindArgs (W.fnOf x q (defArgs st) (defBody st) (defScope st) .none kV doc pm an cdv ct) ⟨[a0,a1,a2,a3],[]⟩=pure ([x0,x1,x2,x3].zip [a0,a1,a2,a3])):Binds K fd [x0,x1,x2,x3] []:=F.binds fun a b c d e g us hl=>uu4 us hl (h a b c d e g)
theorem j54{K:Frg}{h:Heap}{mg:Str->Option Value}(X:K.In h)(G:h.Ns mainGlobals mg)
  {f1:Addr} {d1:FuncData}
  (a1:W.nsIn K mainGlobals "all_among"= some (some (.ref f1))) (F1:Fun K "all_among" "all_among" Q1 f1 d1)
  {f2:Addr} {d2:FuncData}
  (a2:W.nsIn K mainGlobals "is_word"= some (some (.ref f2))) (F2:Fun K "is_word" "is_word" Yl f2 d2)
  {od3 an3:Option Addr} {sl3:Array (Option Value)} {oc3 kV3 dc3 pm3 cd3 ct3:Value} {f3:Addr} {T3:Addr} {ot3:Value} {otd3:Option Addr} {ost3:Array (Option Value)} {n3:Nat} {tk0_3:Tok}
  (a3:W.nsIn K mainGlobals "number_of"= some (some (.ref f3))) (l3:K.lookup f3=some ⟨oc3,od3,.func (W.fnOf "number_of" "number_of" (defArgs qx) (defBody qx) (defScope qx) (.ref T3) kV3 dc3 pm3 an3 cd3 ct3),sl3⟩) (c3:W.codeIn K cd3 "number_of"= true) (k3:W.keepIn K (.ref f3)=true) (t3:K.lookup T3=some ⟨ot3,otd3,.seq #[.int 80 tk0_3] n3,ost3⟩)
  {f4:Addr} {d4:FuncData}
  (a4:W.nsIn K mainGlobals "numbers_of"= some (some (.ref f4))) (F4:Fun K "numbers_of" "numbers_of" zR f4 d4)
  {f5:Addr} {d5:FuncData}
  (a5:W.nsIn K mainGlobals "names_in"= some (some (.ref f5))) (F5:Fun K "names_in" "names_in" yf f5 d5)
  {f6:Addr} {d6:FuncData}
  (a6:W.nsIn K mainGlobals "bounded"= some (some (.ref f6))) (F6:Fun K "bounded" "bounded" Yj f6 d6)
  {f7:Addr} {d7:FuncData}
  (a7:W.nsIn K mainGlobals "value_of"= some (some (.ref f7))) (F7:Fun K "value_of" "value_of" yg f7 d7)
  {f8:Addr} {d8:FuncData}
  (a8:W.nsIn K mainGlobals "names_form"= some (some (.ref f8))) (F8:Fun K "names_form" "names_form" QE f8 d8)
  {f9:Addr} {d9:FuncData}
  (a9:W.nsIn K mainGlobals "form_of"= some (some (.ref f9))) (F9:Fun K "form_of" "form_of" ZS f9 d9)
  {f10:Addr} {d10:FuncData}
  (a10:W.nsIn K mainGlobals "part_of"= some (some (.ref f10))) (F10:Fun K "part_of" "part_of" Yn f10 d10)
  {f11:Addr} {d11:FuncData}
  (a11:W.nsIn K mainGlobals "limbs_of"= some (some (.ref f11))) (F11:Fun K "limbs_of" "limbs_of" QW f11 d11)
  {f12:Addr} {d12:FuncData}
  (a12:W.nsIn K mainGlobals "read"= some (some (.ref f12))) (F12:Fun K "read" "read" Xs f12 d12)
  {f13:Addr} {d13:FuncData}
  (a13:W.nsIn K mainGlobals "words_of"= some (some (.ref f13))) (F13:Fun K "words_of" "words_of" zT f13 d13)
  {f14:Addr} {d14:FuncData}
  (a14:W.nsIn K mainGlobals "shown"= some (some (.ref f14))) (F14:Fun K "shown" "shown" Wh f14 d14)
  {f15:Addr} {d15:FuncData}
  (a15:W.nsIn K mainGlobals "form_with"= some (some (.ref f15))) (F15:Fun K "form_with" "form_with" Q2 f15 d15)
  {f16:Addr} {d16:FuncData}
  (a16:W.nsIn K mainGlobals "made"= some (some (.ref f16))) (F16:Fun K "made" "made" Xr f16 d16)
  {f17:Addr} {d17:FuncData}
  (a17:W.nsIn K mainGlobals "come_to"= some (some (.ref f17))) (F17:Fun K "come_to" "come_to" Yk f17 d17)
  {f18:Addr} {d18:FuncData}
  (a18:W.nsIn K mainGlobals "drums"= some (some (.ref f18))) (F18:Fun K "drums" "drums" YY f18 d18)
  {f19:Addr} {d19:FuncData}
  (a19:W.nsIn K mainGlobals "name_of"= some (some (.ref f19))) (F19:Fun K "name_of" "name_of" Ym f19 d19)
  {f20:Addr} {d20:FuncData}
  (a20:W.nsIn K mainGlobals "book_of"= some (some (.ref f20))) (F20:Fun K "book_of" "book_of" QK f20 d20)
  {f21:Addr} {d21:FuncData}
  (a21:W.nsIn K mainGlobals "inner"= some (some (.ref f21))) (F21:Fun K "inner" "inner" YZ f21 d21)
  {f22:Addr} {d22:FuncData}
  (a22:W.nsIn K mainGlobals "ends"= some (some (.ref f22))) (F22:Fun K "ends" "ends" Xq f22 d22)
  {f23:Addr} {d23:FuncData}
  (a23:W.nsIn K mainGlobals "moved"= some (some (.ref f23))) (F23:Fun K "moved" "moved" Y0 f23 d23)
  {f24:Addr} {d24:FuncData}
  (a24:W.nsIn K mainGlobals "check_side"= some (some (.ref f24))) (F24:Fun K "check_side" "check_side" QD f24 d24)
  {f25:Addr} {d25:FuncData}
  (a25:W.nsIn K mainGlobals "length_of"= some (some (.ref f25))) (F25:Fun K "length_of" "length_of" Zv f25 d25)
  {f26:Addr} {d26:FuncData}
  (a26:W.nsIn K mainGlobals "lengths"= some (some (.ref f26))) (F26:Fun K "lengths" "lengths" zC f26 d26)
  {f27:Addr} {d27:FuncData}
  (a27:W.nsIn K mainGlobals "_law_cell_at"= some (some (.ref f27))) (F27:Fun K "_law_cell_at" "_law_cell_at" QV f27 d27)
  {f28:Addr} {d28:FuncData}
  (a28:W.nsIn K mainGlobals "_law_window"= some (some (.ref f28))) (F28:Fun K "_law_window" "_law_window" zc f28 d28)
  {f29:Addr} {d29:FuncData}
  (a29:W.nsIn K mainGlobals "_law_stream"= some (some (.ref f29))) (F29:Fun K "_law_stream" "_law_stream" zb f29 d29)
  {f30:Addr} {d30:FuncData}
  (a30:W.nsIn K mainGlobals "_law_names"= some (some (.ref f30))) (F30:Fun K "_law_names" "_law_names" QC f30 d30)
  {f31:Addr} {d31:FuncData}
  (a31:W.nsIn K mainGlobals "_law_number"= some (some (.ref f31))) (F31:Fun K "_law_number" "_law_number" Q9 f31 d31)
  {f32:Addr} {d32:FuncData}
  (a32:W.nsIn K mainGlobals "_law_add"= some (some (.ref f32))) (F32:Fun K "_law_add" "_law_add" ye f32 d32)
  {f33:Addr} {d33:FuncData}
  (a33:W.nsIn K mainGlobals "_law_simple"= some (some (.ref f33))) (F33:Fun K "_law_simple" "_law_simple" za f33 d33)
  {f34:Addr} {d34:FuncData}
  (a34:W.nsIn K mainGlobals "_law_there"= some (some (.ref f34))) (F34:Fun K "_law_there" "_law_there" zQ f34 d34)
  {f35:Addr} {d35:FuncData}
  (a35:W.nsIn K mainGlobals "_law_apart"= some (some (.ref f35))) (F35:Fun K "_law_apart" "_law_apart" QB f35 d35)
  {f36:Addr} {d36:FuncData}
  (a36:W.nsIn K mainGlobals "_law_naming"= some (some (.ref f36))) (F36:Fun K "_law_naming" "_law_naming" Jz f36 d36)
  {f37:Addr} {d37:FuncData}
  (a37:W.nsIn K mainGlobals "_law_room"= some (some (.ref f37))) (F37:Fun K "_law_room" "_law_room" Zu f37 d37)
  {f38:Addr} {d38:FuncData}
  (a38:W.nsIn K mainGlobals "_law_joined"= some (some (.ref f38))) (F38:Fun K "_law_joined" "_law_joined" JN f38 d38)
  {f39:Addr} {d39:FuncData}
  (a39:W.nsIn K mainGlobals "_law_gathered"= some (some (.ref f39))) (F39:Fun K "_law_gathered" "_law_gathered" qj f39 d39)
  {f40:Addr} {d40:FuncData}
  (a40:W.nsIn K mainGlobals "law"= some (some (.ref f40))) (F40:Fun K "law" "law" j2J f40 d40)
  {JD:Addr}
  (g_FEWEST_NAMES:W.nsIn K mainGlobals "FEWEST_NAMES"= some (some (.ref JD))) (kk_FEWEST_NAMES:TabK K JD [("row",.flat (.int 1)),("side",.flat (.int 2))])
  {tkc_FIGURES_drums:Tok}
  (g_FIGURES_drums:W.nsIn K mainGlobals "FIGURES_drums"= some (some (.str "abcdefghijklmnopqrstuvwxyz" tkc_FIGURES_drums)))
  {tkc_FIGURES_words:Tok}
  (g_FIGURES_words:W.nsIn K mainGlobals "FIGURES_words"= some (some (.str "0123456789" tkc_FIGURES_words)))
  {Q4:Addr}
  (g_FORMS:W.nsIn K mainGlobals "FORMS"= some (some (.ref Q4))) (kk_FORMS:TabK K Q4 [("raise",.tup [.str "limb",.str "height",.str "beats"]),("hold",.tup [.str "beats"]),("ring",.tup [.str "word",.str "beats"]),("again",.tup [.str "times",.str "part"])])
  {tkc_LETTERS:Tok}
  (g_LETTERS:W.nsIn K mainGlobals "LETTERS"= some (some (.str "abcdefghijklmnopqrstuvwxyz" tkc_LETTERS)))
  {Jh:Addr}
  (g_MOST_NAMES:W.nsIn K mainGlobals "MOST_NAMES"= some (some (.ref Jh))) (kk_MOST_NAMES:TabK K Jh [("row",.flat (.int 8)),("side",.flat (.int 4))])
  (z0:W.nsIn K mainGlobals "all"= some none) (z1:W.nsIn K mainGlobals "dict"= some none) (z2:W.nsIn K mainGlobals "enumerate"= some none) (z3:W.nsIn K mainGlobals "int"= some none) (z4:W.nsIn K mainGlobals "len"= some none) (z5:W.nsIn K mainGlobals "list"= some none) (z6:W.nsIn K mainGlobals "max"= some none) (z7:W.nsIn K mainGlobals "min"= some none) (z8:W.nsIn K mainGlobals "range"= some none) (z9:W.nsIn K mainGlobals "set"= some none) (z10:W.nsIn K mainGlobals "sorted"= some none) (z11:W.nsIn K mainGlobals "str"= some none) (z12:W.nsIn K mainGlobals "sum"= some none) (z13:W.nsIn K mainGlobals "tuple"= some none) (z14:W.nsIn K mainGlobals "zip"= some none) :
  ∃t:Ad,Txt K mg t:=by
 have F3:=j3h (st:=qx) l3 c3 k3;exact⟨⟨f1,_,f2,_,f3,_,T3,f4,_,f5,_,f6,_,f7,_,f8,_,f9,_,f10,_,f11,_,f12,_,f13,_,f14,_,f15,_,f16,_,f17,_,f18,_,f19,_,f20,_,f21,_,f22,_,f23,_,f24,_,f25,_,f26,_,f27,_,f28,_,f29,_,f30,_,f31,_,f32,_,f33,_,f34,_,f35,_,f36,_,f37,_,f38,_,f39,_,f40,_,_,_,_,_,_,_⟩,⟨F1,W.mg_of X G a1,bb2 F1 fun _ _ _ _ _ _ _ _=>rfl,
  F2,W.mg_of X G a2,bb1 F2 fun _ _ _ _ _ _ _=>rfl,
  F3,W.mg_of X G a3,(FunD.binds (ps:=["text","most"]) (ds:=[]) 2 F3 t3 rfl rfl fun _ _ _ _ _ _ us hl=>match us,hl with | [_,_],_=>⟨_,rfl,rfl⟩),
  F4,W.mg_of X G a4,bb1 F4 fun _ _ _ _ _ _ _=>rfl,
  F5,W.mg_of X G a5,bb1 F5 fun _ _ _ _ _ _ _=>rfl,
  F6,W.mg_of X G a6,bb2 F6 fun _ _ _ _ _ _ _ _=>rfl,
  F7,W.mg_of X G a7,bb4 F7 fun _ _ _ _ _ _ _ _ _ _=>rfl,
  F8,W.mg_of X G a8,bb3 F8 fun _ _ _ _ _ _ _ _ _=>rfl,
  F9,W.mg_of X G a9,bb4 F9 fun _ _ _ _ _ _ _ _ _ _=>rfl,
  F10,W.mg_of X G a10,bb3 F10 fun _ _ _ _ _ _ _ _ _=>rfl,
  F11,W.mg_of X G a11,bb1 F11 fun _ _ _ _ _ _ _=>rfl,
  F12,W.mg_of X G a12,bb1 F12 fun _ _ _ _ _ _ _=>rfl,
  F13,W.mg_of X G a13,bb1 F13 fun _ _ _ _ _ _ _=>rfl,
  F14,W.mg_of X G a14,bb1 F14 fun _ _ _ _ _ _ _=>rfl,
  F15,W.mg_of X G a15,bb3 F15 fun _ _ _ _ _ _ _ _ _=>rfl,
  F16,W.mg_of X G a16,bb1 F16 fun _ _ _ _ _ _ _=>rfl,
  F17,W.mg_of X G a17,bb2 F17 fun _ _ _ _ _ _ _ _=>rfl,
  F18,W.mg_of X G a18,bb1 F18 fun _ _ _ _ _ _ _=>rfl,
  F19,W.mg_of X G a19,bb1 F19 fun _ _ _ _ _ _ _=>rfl,
  F20,W.mg_of X G a20,bb1 F20 fun _ _ _ _ _ _ _=>rfl,
  F21,W.mg_of X G a21,bb1 F21 fun _ _ _ _ _ _ _=>rfl,
  F22,W.mg_of X G a22,bb1 F22 fun _ _ _ _ _ _ _=>rfl,
  F23,W.mg_of X G a23,bb1 F23 fun _ _ _ _ _ _ _=>rfl,
  F24,W.mg_of X G a24,bb3 F24 fun _ _ _ _ _ _ _ _ _=>rfl,
  F25,W.mg_of X G a25,bb2 F25 fun _ _ _ _ _ _ _ _=>rfl,
  F26,W.mg_of X G a26,bb1 F26 fun _ _ _ _ _ _ _=>rfl,
  F27,W.mg_of X G a27,bb2 F27 fun _ _ _ _ _ _ _ _=>rfl,
  F28,W.mg_of X G a28,bb2 F28 fun _ _ _ _ _ _ _ _=>rfl,
  F29,W.mg_of X G a29,bb2 F29 fun _ _ _ _ _ _ _ _=>rfl,
  F30,W.mg_of X G a30,bb2 F30 fun _ _ _ _ _ _ _ _=>rfl,
  F31,W.mg_of X G a31,bb3 F31 fun _ _ _ _ _ _ _ _ _=>rfl,
  F32,W.mg_of X G a32,bb4 F32 fun _ _ _ _ _ _ _ _ _ _=>rfl,
  F33,W.mg_of X G a33,bb3 F33 fun _ _ _ _ _ _ _ _ _=>rfl,
  F34,W.mg_of X G a34,bb2 F34 fun _ _ _ _ _ _ _ _=>rfl,
  F35,W.mg_of X G a35,bb2 F35 fun _ _ _ _ _ _ _ _=>rfl,
  F36,W.mg_of X G a36,bb3 F36 fun _ _ _ _ _ _ _ _ _=>rfl,
  F37,W.mg_of X G a37,bb1 F37 fun _ _ _ _ _ _ _=>rfl,
  F38,W.mg_of X G a38,bb2 F38 fun _ _ _ _ _ _ _ _=>rfl,
  F39,W.mg_of X G a39,bb1 F39 fun _ _ _ _ _ _ _=>rfl,
  F40,W.mg_of X G a40,bb1 F40 fun _ _ _ _ _ _ _=>rfl,
  W.mg_none_of X G z0,
  W.mg_none_of X G z1,
  W.mg_none_of X G z2,
  W.mg_none_of X G z3,
  W.mg_none_of X G z4,
  W.mg_none_of X G z5,
  W.mg_none_of X G z6,
  W.mg_none_of X G z7,
  W.mg_none_of X G z8,
  W.mg_none_of X G z9,
  W.mg_none_of X G z10,
  W.mg_none_of X G z11,
  W.mg_none_of X G z12,
  W.mg_none_of X G z13,
  W.mg_none_of X G z14,
  W.mg_of X G g_FEWEST_NAMES,kk_FEWEST_NAMES,
  W.mg_of X G g_FIGURES_drums,⟨_,rfl⟩,
  W.mg_of X G g_FIGURES_words,⟨_,rfl⟩,
  W.mg_of X G g_FORMS,kk_FORMS,
  W.mg_of X G g_LETTERS,⟨_,rfl⟩,
  W.mg_of X G g_MOST_NAMES,kk_MOST_NAMES⟩⟩
end K35
open PySem PySem.W PyProof.Rows
set_option maxRecDepth 100000 in
set_option maxHeartbeats 0 in
theorem PySem.Challenge.cw_camplay_k35_whole_there_and_back_holds : PySem.Challenge.rw_camplay_k35_whole_there_and_back.Holds := by
 w_on;o_law;k_head;(case hw=>w_witness2)
 k_fill
 refine L2.j2Y (l:=PySem.Challenge.rw_camplay_k35_whole_there_and_back) (n:=63) (k:=8) (x:="_law_script") (CX:=L2.CX0) (sp:=Pr.sp_law) rfl (by decide) rfl ⟨rfl,by decide,by decide⟩ (fun w h Y=>PySem.W.kIn_of Y) ?F (fun K H a ns hl hb hO hS=>⟨a,ns,rfl,hS,hl,hb,fun _=>rfl⟩) (fun _ _ _ _ z=>z)
 case F=>
  intro w mg fa h KX G hmg;have TT:∃t:K35.Ad,K35.Txt (L2.KOf KX) mg t:=by
   dsimp only[L2.KOf];refine' K35.j54 KX G ?a1 (L2.jE ?l1 ?c1 ?k1) ?a2 (L2.jE ?l2 ?c2 ?k2) ?a3 ?l3 ?c3 ?k3 ?t3 ?a4 (L2.jE ?l4 ?c4 ?k4) ?a5 (L2.jE ?l5 ?c5 ?k5) ?a6 (L2.jE ?l6 ?c6 ?k6) ?a7 (L2.jE ?l7 ?c7 ?k7) ?a8 (L2.jE ?l8 ?c8 ?k8) ?a9 (L2.jE ?l9 ?c9 ?k9) ?a10 (L2.jE ?l10 ?c10 ?k10) ?a11 (L2.jE ?l11 ?c11 ?k11) ?a12 (L2.jE ?l12 ?c12 ?k12) ?a13 (L2.jE ?l13 ?c13 ?k13) ?a14 (L2.jE ?l14 ?c14 ?k14) ?a15 (L2.jE ?l15 ?c15 ?k15) ?a16 (L2.jE ?l16 ?c16 ?k16) ?a17 (L2.jE ?l17 ?c17 ?k17) ?a18 (L2.jE ?l18 ?c18 ?k18) ?a19 (L2.jE ?l19 ?c19 ?k19) ?a20 (L2.jE ?l20 ?c20 ?k20) ?a21 (L2.jE ?l21 ?c21 ?k21) ?a22 (L2.jE ?l22 ?c22 ?k22) ?a23 (L2.jE ?l23 ?c23 ?k23) ?a24 (L2.jE ?l24 ?c24 ?k24) ?a25 (L2.jE ?l25 ?c25 ?k25) ?a26 (L2.jE ?l26 ?c26 ?k26) ?a27 (L2.jE ?l27 ?c27 ?k27) ?a28 (L2.jE ?l28 ?c28 ?k28) ?a29 (L2.jE ?l29 ?c29 ?k29) ?a30 (L2.jE ?l30 ?c30 ?k30) ?a31 (L2.jE ?l31 ?c31 ?k31) ?a32 (L2.jE ?l32 ?c32 ?k32) ?a33 (L2.jE ?l33 ?c33 ?k33) ?a34 (L2.jE ?l34 ?c34 ?k34) ?a35 (L2.jE ?l35 ?c35 ?k35) ?a36 (L2.jE ?l36 ?c36 ?k36) ?a37 (L2.jE ?l37 ?c37 ?k37) ?a38 (L2.jE ?l38 ?c38 ?k38) ?a39 (L2.jE ?l39 ?c39 ?k39) ?a40 (L2.jE ?l40 ?c40 ?k40) ?g_FEWEST_NAMES ?kk_FEWEST_NAMES ?g_FIGURES_drums ?g_FIGURES_words ?g_FORMS ?kk_FORMS ?g_LETTERS ?g_MOST_NAMES ?kk_MOST_NAMES ?z0 ?z1 ?z2 ?z3 ?z4 ?z5 ?z6 ?z7 ?z8 ?z9 ?z10 ?z11 ?z12 ?z13 ?z14
   (case a1=>k_is);(case l1=>k_is);(case c1=>k_is);(case k1=>k_is)
   (case a2=>k_is);(case l2=>k_is);(case c2=>k_is);(case k2=>k_is)
   (case a3=>k_is);(case l3=>k_is);(case c3=>k_is);(case k3=>k_is);(case t3=>k_is)
   (case a4=>k_is);(case l4=>k_is);(case c4=>k_is);(case k4=>k_is)
   (case a5=>k_is);(case l5=>k_is);(case c5=>k_is);(case k5=>k_is)
   (case a6=>k_is);(case l6=>k_is);(case c6=>k_is);(case k6=>k_is)
   (case a7=>k_is);(case l7=>k_is);(case c7=>k_is);(case k7=>k_is)
   (case a8=>k_is);(case l8=>k_is);(case c8=>k_is);(case k8=>k_is)
   (case a9=>k_is);(case l9=>k_is);(case c9=>k_is);(case k9=>k_is)
   (case a10=>k_is);(case l10=>k_is);(case c10=>k_is);(case k10=>k_is)
   (case a11=>k_is);(case l11=>k_is);(case c11=>k_is);(case k11=>k_is)
   (case a12=>k_is);(case l12=>k_is);(case c12=>k_is);(case k12=>k_is)
   (case a13=>k_is);(case l13=>k_is);(case c13=>k_is);(case k13=>k_is)
   (case a14=>k_is);(case l14=>k_is);(case c14=>k_is);(case k14=>k_is)
   (case a15=>k_is);(case l15=>k_is);(case c15=>k_is);(case k15=>k_is)
   (case a16=>k_is);(case l16=>k_is);(case c16=>k_is);(case k16=>k_is)
   (case a17=>k_is);(case l17=>k_is);(case c17=>k_is);(case k17=>k_is)
   (case a18=>k_is);(case l18=>k_is);(case c18=>k_is);(case k18=>k_is)
   (case a19=>k_is);(case l19=>k_is);(case c19=>k_is);(case k19=>k_is)
   (case a20=>k_is);(case l20=>k_is);(case c20=>k_is);(case k20=>k_is)
   (case a21=>k_is);(case l21=>k_is);(case c21=>k_is);(case k21=>k_is)
   (case a22=>k_is);(case l22=>k_is);(case c22=>k_is);(case k22=>k_is)
   (case a23=>k_is);(case l23=>k_is);(case c23=>k_is);(case k23=>k_is)
   (case a24=>k_is);(case l24=>k_is);(case c24=>k_is);(case k24=>k_is)
   (case a25=>k_is);(case l25=>k_is);(case c25=>k_is);(case k25=>k_is)
   (case a26=>k_is);(case l26=>k_is);(case c26=>k_is);(case k26=>k_is)
   (case a27=>k_is);(case l27=>k_is);(case c27=>k_is);(case k27=>k_is)
   (case a28=>k_is);(case l28=>k_is);(case c28=>k_is);(case k28=>k_is)
   (case a29=>k_is);(case l29=>k_is);(case c29=>k_is);(case k29=>k_is)
   (case a30=>k_is);(case l30=>k_is);(case c30=>k_is);(case k30=>k_is)
   (case a31=>k_is);(case l31=>k_is);(case c31=>k_is);(case k31=>k_is)
   (case a32=>k_is);(case l32=>k_is);(case c32=>k_is);(case k32=>k_is)
   (case a33=>k_is);(case l33=>k_is);(case c33=>k_is);(case k33=>k_is)
   (case a34=>k_is);(case l34=>k_is);(case c34=>k_is);(case k34=>k_is)
   (case a35=>k_is);(case l35=>k_is);(case c35=>k_is);(case k35=>k_is)
   (case a36=>k_is);(case l36=>k_is);(case c36=>k_is);(case k36=>k_is)
   (case a37=>k_is);(case l37=>k_is);(case c37=>k_is);(case k37=>k_is)
   (case a38=>k_is);(case l38=>k_is);(case c38=>k_is);(case k38=>k_is)
   (case a39=>k_is);(case l39=>k_is);(case c39=>k_is);(case k39=>k_is)
   (case a40=>k_is);(case l40=>k_is);(case c40=>k_is);(case k40=>k_is)
   (case g_FEWEST_NAMES=>k_is);(case kk_FEWEST_NAMES=>(show PyProof.Rows.KTD.tabLook _ _ _ _=true);kernel_rfl)
   (case g_FIGURES_drums=>k_is)
   (case g_FIGURES_words=>k_is)
   (case g_FORMS=>k_is);(case kk_FORMS=>(show PyProof.Rows.KTD.tabLook _ _ _ _=true);kernel_rfl)
   (case g_LETTERS=>k_is)
   (case g_MOST_NAMES=>k_is);(case kk_MOST_NAMES=>(show PyProof.Rows.KTD.tabLook _ _ _ _=true);kernel_rfl)
   (case z0=>k_is)
   (case z1=>k_is)
   (case z2=>k_is)
   (case z3=>k_is)
   (case z4=>k_is)
   (case z5=>k_is)
   (case z6=>k_is)
   (case z7=>k_is)
   (case z8=>k_is)
   (case z9=>k_is)
   (case z10=>k_is)
   (case z11=>k_is)
   (case z12=>k_is)
   (case z13=>k_is)
   (case z14=>k_is)
  obtain⟨t,T⟩:=TT;obtain⟨_,_,kV,dc,pm,an,cd,ct,_,e,_⟩:=T.j3X.ex;have e0:=hmg.symm.trans T.j5d;cases e0;refine⟨t.WF,fun s v=>?_,fun base _ _=>K35.j32 T⟩;rw[e];exact .of_eq rfl
#print axioms PySem.Challenge.cw_camplay_k35_whole_there_and_back_holds
