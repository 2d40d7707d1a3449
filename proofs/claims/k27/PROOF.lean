import PyProof.Rows.All
import Wide.All
import OpenK.AllK
import Wide.FinOn
import Lean
import PyProof.EqAt
import PyProof.EqKinds
import PyProof.TupleCall
import PySem.Challenge.RW_camplay_k27_whole_first_stands
set_option Elab.async false
set_option linter.all false
set_option maxRecDepth 100000
set_option maxHeartbeats 4000000
open List (all_cons all_eq_true any_cons any_eq_true append_nil cons_ne_nil ext_getElem filterMap_cons filter_append filter_cons filter_cons_of_pos filter_nil flatMap_cons foldl_append foldl_cons getD_eq_getElem?_getD getElem_map getElem_range getElem_take isEmpty_iff length_cons length_filter_le length_map length_nil length_pos_iff length_pos_of_mem length_range length_replicate length_set length_singleton length_take lookup_cons map_append map_congr_left map_cons map_map map_nil mem_append mem_append_left mem_append_right mem_cons mem_cons_of_mem mem_cons_self mem_filter mem_filterMap mem_flatMap mem_iff_getElem mem_map mem_range mem_singleton nodup_append nodup_cons nodup_nil of_mem_zip pairwise_cons pairwise_map pairwise_singleton reverse_cons size_toArray sum_append sum_cons take_length take_sublist)
abbrev vz:=@List.getElem?_eq_getElem
abbrev vy:=@List.getD_eq_getElem?_getD
abbrev vx:=@List.getElem?_eq_some_iff
abbrev vv:=@List.getElem?_map
abbrev vt:=@List.length_map
abbrev vq:=@List.mem_cons_self
abbrev vp:=@List.mem_cons_of_mem
abbrev vo:=@List.mem_singleton
abbrev vn:=@List.length_append
abbrev vm:=@List.mem_of_getElem?
abbrev vj:=@List.map_append
abbrev vi:=@List.length_take
abbrev vh:=@List.mem_append
abbrev vg:=@Option.map_eq_some_iff
abbrev vf:=@Int.emod_lt_of_pos
abbrev ve:=@Int.emod_nonneg
abbrev vd:=@if_pos
abbrev vc:=@if_neg
abbrev vb:=@Nat.le_refl
abbrev va:=@Nat.zero_le
abbrev vA:=@Int.le_refl
abbrev vB:=@List.getElem?_append_left
abbrev vC:=@List.getElem?_append_right
abbrev vD:=@Nat.lt_of_le_of_lt
abbrev vE:=@Nat.ne_of_lt
abbrev vF:=@Bool.false_ne_true
abbrev vG:=@decide_eq_true
abbrev vH:=@decide_eq_false
abbrev vI:=@PySem.Heap.lt_size
abbrev vJ:=@PySem.Heap.get?_push_of_some
abbrev vK:=@List.mem_map
abbrev vL:=@Option.some.inj
abbrev vM:=@Int.mul_nonneg
abbrev vN:=@Nat.ne_of_gt
abbrev vO:=@List.mem_filter
abbrev vP:=@List.length_cons
abbrev vT:=@Int.mul_le_mul_of_nonneg_right
abbrev vU:=@List.pairwise_cons
abbrev vV:=@Nat.le_trans
abbrev vX:=@Nat.le_of_lt
abbrev vY:=@Nat.lt_trans
abbrev vZ:=@Int.emod_eq_of_lt
abbrev v2:=@List.mem_range
abbrev v3:=@List.take_length
abbrev v5:=@List.foldl_cons
abbrev v6:=@List.filter_cons
abbrev v7:=@List.map_cons
abbrev uz:=@Int.zero_add
abbrev uw:=@Int.one_mul
abbrev ur:=@List.nodup_cons
abbrev uk:=@PySem.wpAny_bind
abbrev uh:=@PySem.wpAny_pure
abbrev ug:=@absurd
theorem uf:1<=PySem.sizeLine:=by decide
theorem ue:2<=PySem.sizeLine:=by decide
theorem ud:3<=PySem.sizeLine:=by decide
theorem uc:4<=PySem.sizeLine:=by decide
abbrev Frg := PySem.W.Frag
namespace L2
open PySem PySem.Spec PyProof.Rows
noncomputable abbrev Key:=Sum Int Str
noncomputable def keyIs:Key->Value->Bool
 | .inl k,v=>Value.isInt k v
 | .inr x,v=>Value.isStrOf x v
noncomputable def keyH(w:World):Key->Int
 | .inl k=>hashInt k
 | .inr x=>hashStr w x
theorem JO:∀{k:Key} {v:Value},keyIs k v=true->(∃i t,k=Sum.inl i/\v=Value.int i t)\/(∃x t,k=Sum.inr x/\v=Value.str x t)
 | .inl i,v,h=>by
  obtain⟨t,e⟩:=Value.isInt_shape (k:=i) (v:=v) h;exact .inl ⟨i,t,rfl,e⟩
 | .inr x,v,h=>by
  obtain⟨t,e⟩:=Value.isStrOf_shape (x:=x) (v:=v) h;exact .inr ⟨x,t,rfl,e⟩
theorem KE(i:Int)(t:Tok):keyIs (.inl i) (.int i t)=true:=by simp[keyIs,Value.isInt]
theorem j3f(x:Str)(t:Tok):keyIs (.inr x) (.str x t)=true:=by simp[keyIs,Value.isStrOf]
theorem j6j(a b:Int):decide ((Sum.inl a:Key)=Sum.inl b)=(a==b):=by
 by_cases e:a=b
 ·subst e;simp
 ·have h:¬(Sum.inl a:Key)=Sum.inl b:=fun q=>e (Sum.inl.inj q)
  rw[vH h];exact(beq_eq_false_iff_ne.mpr e).symm
theorem j6m(a b:Str):decide ((Sum.inr a:Key)=Sum.inr b)=decide (a=b):=by
 by_cases e:a=b
 ·subst e;simp
 ·have h:¬(Sum.inr a:Key)=Sum.inr b:=fun q=>e (Sum.inr.inj q)
  rw[vH h,vH e]
theorem j6k(a:Int)(b:Str):decide ((Sum.inl a:Key)=Sum.inr b)=false:=vH (fun q=>nomatch q)
theorem j6l(a:Str)(b:Int):decide ((Sum.inr a:Key)=Sum.inl b)=false:=vH (fun q=>nomatch q)
noncomputable def mixKind(prog:Program)(w:World):PySem.KeyKind prog w Key where
 is:=keyIs
 hash:=keyH w
 inj:=fun v a b ha hb=>by
  rcases JO ha with⟨i,t,rfl,rfl⟩ | ⟨x,t,rfl,rfl⟩
  ·rcases JO hb with⟨j,u,rfl,e⟩ | ⟨y,u,rfl,e⟩
   ·injection e with e1 _;rw[e1]
   ·exact nomatch e
  ·rcases JO hb with⟨j,u,rfl,e⟩ | ⟨y,u,rfl,e⟩
   ·exact nomatch e
   ·injection e with e1 _;rw[e1]
 byValue:=fun k v h=>by
  rcases JO h with⟨i,t,rfl,rfl⟩ | ⟨x,t,rfl,rfl⟩<;>rfl
 pyHash:=fun hv h=>by
  rcases JO hv with⟨i,t,rfl,rfl⟩ | ⟨x,t,rfl,rfl⟩
  ·exact wpAny_pyHash_int h
  ·exact wpAny_pyHash_str h
 eqBool:=fun hu hv h=>by
  rcases JO hu with⟨i,t,rfl,rfl⟩ | ⟨x,t,rfl,rfl⟩
  ·rcases JO hv with⟨j,u,rfl,rfl⟩ | ⟨y,u,rfl,rfl⟩
   ·rw[j6j]at h;exact wpAny_eqBool_int h
   ·rw[j6k]at h;exact SeqAt.EqAt.int_str i t y u _ _ _ _ h
  ·rcases JO hv with⟨j,u,rfl,rfl⟩ | ⟨y,u,rfl,rfl⟩
   ·rw[j6l]at h;exact SeqAt.EqAt.str_int x t j u _ _ _ _ h
   ·rw[j6m]at h;exact wpAny_eqBool_str h
 «strs»:=fun k x t v h=>by
  rcases JO h with⟨i,u,rfl,e⟩ | ⟨y,u,rfl,e⟩
  ·exact nomatch e
  ·injection e with e1 _;subst e1;cases v<;>rfl
theorem j0C(prog:Program)(w:World)(i:Int)(t:Tok):(mixKind prog w).is (.inl i) (.int i t)=true:=KE i t
theorem j0D(prog:Program)(w:World)(x:Str)(t:Tok):(mixKind prog w).is (.inr x) (.str x t)=true:=j3f x t
inductive V where
 | non | bl (b:Bool) | int (i:Int) | str (x:Str) | byt (b:Array UInt8) | flt (b:UInt64) | ref (a:Addr) | ty (n:String)
 deriving DecidableEq
noncomputable def RelV:V->Value->Prop
 | .non,u=>u=Value.none
 | .bl b,u=>u=Value.bool b
 | .int i,u=>∃t,u=Value.int i t
 | .str x,u=>∃t,u=Value.str x t
 | .byt b,u=>∃t,u=Value.bytes b t
 | .flt b,u=>∃t,u=Value.float b t
 | .ref a,u=>u=Value.ref a
 | .ty n,u=>u=Value.type n
noncomputable abbrev Vals:List V->List Value->Prop:=Paired RelV
theorem Vals.length{xs:List V}{us:List Value}(r:Vals xs us):xs.length=us.length:=Paired.length r
theorem Vals.get:∀{xs:List V} {us:List Value} {i:Nat} {x:V},Vals xs us->xs[i]?=some x->∃u,us[i]?=some u/\RelV x u
 | _,_,_,_,.nil,e=>by simp at e
 | _,_,0,_,.cons r _,e=>by simp at e;subst e;exact⟨_,rfl,r⟩
 | _,_,i+1,x,.cons _ t,e=>by
  obtain⟨u,h1,h2⟩:=Vals.get (i:=i) (x:=x) t (by simpa using e);exact⟨u,by simpa using h1,h2⟩
theorem Vals.set{x:V}{u:Value}(r:RelV x u):∀{xs:List V} {us:List Value} (i:Nat),Vals xs us->Vals (xs.set i x) (us.set i u)
 | _,_,_,.nil=>.nil
 | _,_,0,.cons _ t=>.cons r t
 | _,_,i+1,.cons q t=>.cons q (Vals.set r i t)
theorem Vals.append:∀{xs ys:List V} {us ws:List Value},Vals xs us->Vals ys ws->Vals (xs++ys) (us++ws)
 | _,_,_,_,.nil,s=>s
 | _,_,_,_,.cons r t,s=>.cons r (Vals.append t s)
theorem Vals.take:∀{xs:List V} {us:List Value} (n:Nat),Vals xs us->Vals (xs.take n) (us.take n)
 | _,_,0,_=>.nil
 | _,_,_+1,.nil=>.nil
 | _,_,n+1,.cons r t=>.cons r (Vals.take n t)
theorem Vals.drop:∀{xs:List V} {us:List Value} (n:Nat),Vals xs us->Vals (xs.drop n) (us.drop n)
 | _,_,0,r=>r
 | _,_,_+1,.nil=>.nil
 | _,_,n+1,.cons _ t=>Vals.drop n t
noncomputable def RelO:Option V->Option Value->Prop
 | some v,some u=>RelV v u
 | none,none=>True
 | _,_=>False
noncomputable def KV{κ:Type}:List (κ×V)->List (κ×Value)->Prop:=Paired fun(p:κ×V) (q:κ×Value)=>p.1=q.1/\RelV p.2 q.2
noncomputable def kV:Key->V
 | .inl i=>.int i
 | .inr x=>.str x
inductive HO where
 | lst (xs:List V)
 | tup (xs:List V)
 | dK (kvs:List (Key×V)) | dT (kvs:List (List Key×V))
 | set (S:Int->Bool) (n:Nat)
 | ins (C dx:Addr) (fs:List (Str×V))
 | own (x:Addr)
 | xd (fs:List (Str×V))
 | met (f x:Addr)
 | rng (lo hi:Int)
 | frz (o:Obj) (u:HO)
 | tbl (ps:Array Value)
 | ext (φ:Heap->Prop)
noncomputable abbrev Hp:=Addr->Option HO
noncomputable def upd(H:Hp)(a:Addr)(o:HO):Hp:=fun b=>if b=a then some o else H b
theorem jC{H:Hp}{a:Addr}{o:HO}:upd H a o a=some o:=by unfold upd;rw[vd rfl]
theorem jg{H:Hp}{a b:Addr}{o:HO}(h:b≠a):upd H a o b=H b:=by unfold upd;rw[vc h]
theorem JG{H:Hp}{a b:Addr}{o u:HO}(h:H a=some o)(h':H b=some u)(d:o≠u):a≠b:=by
 intro e;subst e;rw[h]at h';exact d (vL h')
theorem je{H:Hp}{a b:Addr}{o:HO}(h:H a=some o)(h':H b=none):a≠b:=by
 intro e;subst e;rw[h]at h';cases h'
section
variable(P:Program)(w:World)
noncomputable def ObjOk(H:Hp)(h:Heap)(a:Addr):HO->Prop
 | .lst xs=>xs.length<=sizeLine/\∃(its:List Value) (n:Nat),Vals xs its/\h.get? a=some {cls:=.type "list",data:=.seq its.toArray n}
 | .tup xs=>xs.length<=sizeLine/\∃its:List Value,Vals xs its/\IsTup h a its.toArray
 | .dK kvs=>kvs.length<=sizeLine/\(a==sysModules)=false/\∃vs,KV kvs vs/\h.DictOf (mixKind P w) a vs
 | .dT kvs=>kvs.length<=sizeLine/\(a==sysModules)=false/\∃xs:List (List Key×Addr×Value),
   Paired (fun(p:List Key×V) (q:List Key×Addr×Value)=>p.1=q.1/\H q.2.1=some (.tup (p.1.map kV))/\RelV p.2 q.2.2) kvs xs/\
   ∃o es ep,h.get? a=some o/\o.ExactDict/\o.data = .dict es ep/\es.toList=xs.map (entryOfKey (tupleKind (mixKind P w)))/\(xs.map (·.1)).Nodup
 | .set S n=>h.SetOf (intKind P w) a S n
 | .ins C dx fs=>H dx=some (.own a)/\fs.length<=1000/\dx≠a/\h.get? a=some (PySem.W.instObj C dx)/\
   ∃mA,h.Ns1 dx mA/\(∀f,RelO (fs.lookup f) (mA f))/\PySem.Within mA (fs.map (·.1))
 | .own _=>∃o,h.get? a=some o
 | .xd fs=>∃mA,h.Ns1 a mA/\∀f,RelO (fs.lookup f) (mA f)
 | .rng lo hi=>∃t u v,h.get? a=some {cls:=.type "range",data:=.fields #[.int lo t,.int hi u,.int 1 v]}
 | .frz o u=>h.get? a=some o/\ObjOk H h a u
 | .tbl ps=>h.get? a=some {cls:=.none,data:=.fields ps}
 | .met f x=>h.get? a=some (PySem.W.methodObj (.ref f) (.ref x))
 | .ext φ=>φ h/\(∃o,h.get? a=some o)/\∀h1 h2:Heap,φ h1->(∀o,h1.get? a=some o->h2.get? a=some o)->φ h2
def HOk(H:Hp)(h:Heap):Prop:=∀a o,H a=some o->ObjOk P w H h a o
end
section
variable{P:Program}{w:World}{H H':Hp}{h h':Heap}{a:Addr}{o:HO}
theorem ObjOk.lt(x:ObjOk P w H h a o):a<h.objs.size:=by
 cases o with
 | lst xs=>obtain⟨_,_,_,_,e⟩:=x;exact vI e
 | tup xs=>obtain⟨_,_,_,p⟩:=x;exact p.lt
 | dK kvs=>obtain⟨_,_,_,_,o,_,_,e,_⟩:=x;exact vI e
 | dT kvs=>obtain⟨_,_,_,_,o,_,_,e,_⟩:=x;exact vI e
 | set S n=>obtain⟨o,_,_,_,e,_⟩:=x;exact vI e
 | ins C dx fs=>obtain⟨_,_,_,e,_⟩:=x;exact vI e
 | own y=>obtain⟨_,e⟩:=x;exact vI e
 | xd fs=>obtain⟨_,⟨_,_,_,e,_⟩,_⟩:=x;exact vI e
 | rng lo hi=>obtain⟨_,_,_,e⟩:=x;exact vI e
 | frz ob u=>obtain⟨e,_⟩:=x;exact vI e
 | tbl ps=>exact vI (show h.get? a=some _ from x)
 | met f y=>exact vI (show h.get? a=some _ from x)
 | ext φ=>obtain⟨_,⟨_,e⟩,_⟩:=x;exact vI e
theorem Paired.mapP{α β:Type}{F G:α->β->Prop}:∀{l₁:List α} {l₂:List β},Paired F l₁ l₂->(∀a b,F a b->G a b)->Paired G l₁ l₂
 | _,_,.nil,_=>.nil
 | _,_,.cons r t,f=>.cons (f _ _ r) (Paired.mapP t f)
theorem ObjOk.stay(x:ObjOk P w H h a o)(k:∀b u,(b=a\/H b=some (.own a))->h.get? b=some u->h'.get? b=some u)
  (ho:∀b,H b=some (.own a)->H' b=some (.own a)) (ht:∀b xs,H b=some (.tup xs)->H' b=some (.tup xs)):ObjOk P w H' h' a o:=by
 induction o with
 | lst xs=>obtain⟨z,its,n,r,e⟩:=x;exact⟨z,its,n,r,k _ _ (.inl rfl) e⟩
 | tup xs=>obtain⟨z,its,r,ob,e,c⟩:=x;exact⟨z,its,r,ob,k _ _ (.inl rfl) e,c⟩
 | dK kvs=>obtain⟨z,y,vs,r,ob,es,ep,e,c⟩:=x;exact⟨z,y,vs,r,ob,es,ep,k _ _ (.inl rfl) e,c⟩
 | dT kvs=>
  obtain⟨z,y,xs,r,ob,es,ep,e,c⟩:=x;exact⟨z,y,xs,Paired.mapP r fun p q z=>⟨z.1,ht _ _ z.2.1,z.2.2⟩,ob,es,ep,k _ _ (.inl rfl) e,c⟩
 | set S n=>obtain⟨ob,es,ep,t,e,c⟩:=x;exact⟨ob,es,ep,t,k _ _ (.inl rfl) e,c⟩
 | ins C dx fs=>
  obtain⟨d,z,ne,e,mA,⟨od,es,ep,e2,c⟩,r⟩:=x;exact⟨ho _ d,z,ne,k _ _ (.inl rfl) e,mA,⟨od,es,ep,k _ _ (.inr d) e2,c⟩,r⟩
 | own y=>obtain⟨ob,e⟩:=x;exact⟨ob,k _ _ (.inl rfl) e⟩
 | xd fs=>obtain⟨mA,⟨od,es,ep,e,c⟩,r⟩:=x;exact⟨mA,⟨od,es,ep,k _ _ (.inl rfl) e,c⟩,r⟩
 | rng lo hi=>obtain⟨t,u,v,e⟩:=x;exact⟨t,u,v,k _ _ (.inl rfl) e⟩
 | frz ob u ih=>obtain⟨e,q⟩:=x;exact⟨k _ _ (.inl rfl) e,ih q⟩
 | tbl ps=>
  have e:h.get? a=some {cls:=.none,data:=.fields ps}:=x;show h'.get? a=some {cls:=.none,data:=.fields ps};exact k a _ (.inl rfl) e
 | met f y=>
  have e:h.get? a=some (PySem.W.methodObj (.ref f) (.ref y)):=x;show h'.get? a=some (PySem.W.methodObj (.ref f) (.ref y));exact k a _ (.inl rfl) e
 | ext φ=>obtain⟨p,⟨o,e⟩,st⟩:=x;exact⟨st _ _ p fun o q=>k _ _ (.inl rfl) q,⟨o,k _ _ (.inl rfl) e⟩,st⟩
theorem HOk.lt(x:HOk P w H h)(e:H a=some o):a<h.objs.size:=(x a o e).lt
theorem HOk.fresh(x:HOk P w H h)(e:h.objs.size<=a):H a=none:=by
 cases q:H a with
 | none=>rfl
 | some u=>exact ug (Nat.lt_of_lt_of_le (x.lt q) e) (Nat.lt_irrefl _)
theorem HOk.kept(x:HOk P w H h)(k:∀b u,h.get? b=some u->h'.get? b=some u):HOk P w H h':=fun a o e=>
 (x a o e).stay (fun b u _ q=>k b u q) (fun _ q=>q) fun _ _ q=>q
theorem HOk.laid(x:HOk P w H h)(k:∀b u,h.get? b=some u->h'.get? b=some u)(hp:h.objs.size<=a)(new:ObjOk P w (upd H a o) h' a o):HOk P w (upd H a o) h':=fun b u e=>by
 have hn:=x.fresh hp;by_cases hb:b=a
 ·subst hb;rw[jC]at e;cases e;exact new
 ·rw[jg hb]at e;exact(x b u e).stay (fun c v _ q=>k c v q) (fun c q=>by rw[jg (je q hn)];exact q) fun c xs q=>by rw[jg (je q hn)];exact q
end
def Rd(H:Hp)(a:Addr)(u:HO):Prop:=H a=some u\/∃o,H a=some (.frz o u)
theorem Rd.ok{P:Program}{w:World}{H:Hp}{h:Heap}{a:Addr}{u:HO}(r:Rd H a u)(x:HOk P w H h):ObjOk P w H h a u:=by
 rcases r with r | ⟨o,r⟩
 ·exact x a u r
 ·obtain⟨_,q⟩:=x a _ r;exact q
noncomputable def Mut:Option HO->Prop
 | some (.lst _)=>True
 | some (.dK _)=>True
 | some (.dT _)=>True
 | some (.set _ _)=>True
 | some (.ins _ _ _)=>True
 | some (.ext _)=>True
 | _=>False
section
variable{P:Program}{w:World}{H:Hp}{h h':Heap}{x e:Addr}{o':HO}
theorem HOk.write(ok:HOk P w H h)(mu:Mut (H x))(he:e=x\/H e=some (.own x))(k:∀b u,b≠e->h.get? b=some u->h'.get? b=some u)(heo:∃u,h'.get? e=some u)
  (new:ObjOk P w (upd H x o') h' x o'):HOk P w (upd H x o') h':=fun b u q=>by
 have nown:∀c y,H c=some (.own y)->c≠x:=fun c y r z=>by subst z;rw[r]at mu;exact mu
 have ntup:∀c xs,H c=some (.tup xs)->c≠x:=fun c xs r z=>by subst z;rw[r]at mu;exact mu
 by_cases hb:b=x
 ·subst hb;rw[jC]at q;cases q;exact new
 ·rw[jg hb]at q;by_cases hbe:b=e
  ·have q':H b=some (.own x):=by
    rcases he with z | z
    ·exact ug (hbe.trans z) hb
    ·rw[hbe];exact z
   rw[q]at q';cases q';obtain⟨v,hv⟩:=heo;exact⟨v,by rw[hbe];exact hv⟩
  ·refine(ok b u q).stay (fun c v hc r=>k c v ?_ r) (fun c r=>by rw[jg (nown c b r)];exact r) fun c xs r=>by rw[jg (ntup c xs r)];exact r
   rcases hc with rfl | hc
   ·exact hbe
   ·rintro rfl;rcases he with z | z
    ·exact nown c b hc z
    ·rw[hc]at z;cases z;exact hb rfl
end
structure Un(fs ex:List Addr)(H H':Hp)(h h':Heap):Prop where
 keep:∀b o,h.get? b=some o->H b=none->b∉fs->b∉ex->h'.get? b=some o
 slot:∀b o,h.get? b=some o->H b=none->b∈fs->b∉ex->∃sl,h'.get? b=some {o with slots:=sl}
 free:∀b o,h.get? b=some o->H b=none->b∉ex->H' b=none
 there:∀b o,h.get? b=some o->b∉ex->∃o',h'.get? b=some o'
 tups:∀b xs,H b=some (.tup xs)->H' b=some (.tup xs)
 frzs:∀b o u,H b=some (.frz o u)->H' b=some (.frz o u)
 tbls:∀b ps,H b=some (.tbl ps)->∃more,H' b=some (.tbl (ps++more))
section
variable{fs fs' ex ex':List Addr}{H H1 H2:Hp}{h h1 h2 h':Heap}{a x e:Addr}{o:HO}
theorem Un.any(u:Un fs ex H H1 h h1){b:Addr}{ob:Obj}(q:h.get? b=some ob)(n:H b=none)(hx:b∉ex):∃sl,h1.get? b=some {ob with slots:=sl}:=by
 by_cases hb:b∈fs
 ·exact u.slot b ob q n hb hx
 ·exact⟨ob.slots,u.keep b ob q n hb hx⟩
theorem Un.kept(k:∀b u,h.get? b=some u->h'.get? b=some u):Un fs ex H H h h':=
 ⟨fun b ob q _ _ _=>k b ob q,fun b ob q _ _ _=>⟨ob.slots,k b ob q⟩,fun _ _ _ n _=>n,fun b ob q _=>⟨ob,k b ob q⟩,fun _ _ q=>q,fun _ _ _ q=>q,fun _ ps q=>⟨#[],by rw[q];simp⟩⟩
theorem Un.refl:Un fs ex H H h h:=Un.kept fun _ _ q=>q
theorem Un.laid(k:∀b u,h.get? b=some u->h'.get? b=some u)(hp:h.objs.size<=a)(hn:H a=none):Un fs ex H (upd H a o) h h' where
 keep:=fun b u q _ _ _=>k b u q
 slot:=fun b u q _ _ _=>⟨u.slots,k b u q⟩
 free:=fun b u q n _=>by rw[jg (vE (Nat.lt_of_lt_of_le (vI q) hp))];exact n
 there:=fun b u q _=>⟨u,k b u q⟩
 tups:=fun b xs q=>by rw[jg (je q hn)];exact q
 frzs:=fun b u xs q=>by rw[jg (je q hn)];exact q
 tbls:=fun b ps q=>⟨#[],by rw[jg (je q hn),q];simp⟩
theorem Un.write(mu:Mut (H x))(he:e=x\/H e=some (.own x))(k:∀b u,b≠e->h.get? b=some u->h'.get? b=some u)(heo:∃u,h'.get? e=some u):Un fs ex H (upd H x o) h h':=by
 have hx:∀b,H b=none->b≠x:=fun b n z=>by subst z;rw[n]at mu;exact mu
 have hb:∀b,H b=none->b≠e:=fun b n z=>by
  subst z;rcases he with r | r
  ·exact hx b n r
  ·rw[n]at r;cases r
 have hm:∀b u,H b=some u->¬Mut (some u)->b≠x:=fun b u q nm z=>by subst z;rw[q]at mu;exact nm mu
 refine⟨fun b u q n _ _=>k b u (hb b n) q,fun b u q n _ _=>⟨u.slots,k b u (hb b n) q⟩,fun b u q n _=>by rw[jg (hx b n)];exact n,fun b u q _=>?_,
  fun b xs q=>by rw[jg (hm b _ q fun z=>z)];exact q,fun b u xs q=>by rw[jg (hm b _ q fun z=>z)];exact q,fun b ps q=>⟨#[],by rw[jg (hm b _ q fun z=>z),q];simp⟩⟩
 by_cases hbe:b=e
 ·subst hbe;exact heo
 ·exact⟨u,k b u hbe q⟩
end
noncomputable def trk(h:Heap)(H:Hp):List Addr:=(List.range h.objs.size).filter fun a=>(H a).isSome
noncomputable def hidT(h:Heap)(H:Hp):Heap:=PySem.W.hideAll h (trk h H)
theorem j3b(h:Heap)(H:Hp):(hidT h H).objs.size=h.objs.size:=PySem.W.hideAll_size _ _
theorem j46{h:Heap}{H:Hp}{b:Addr}{o:Obj}(e:h.get? b=some o)(n:H b=none):(hidT h H).get? b=some o:=
 PySem.W.hideAll_get _ e fun hm=>by
  have q:(H b).isSome=true:=(vO.mp hm).2;rw[n]at q;simp at q
theorem j5F{h:Heap}{H:Hp}{b:Addr}{o:Obj}(e:(hidT h H).get? b=some o):h.get? b=some o/\H b=none:=by
 have e':h.get? b=some o:=PySem.W.of_hideAll (trk h H) e;refine⟨e',?_⟩;cases q:H b with
 | none=>rfl
 | some x=>
  have hm:b∈trk h H:=vO.mpr ⟨v2.mpr (vI e'),by simp[q]⟩;have z:(hidT h H).get? b=none:=PySem.W.hideAll_none (trk h H) hm;rw[z]at e;cases e
structure Mod(K:Frg)(mg:Str->Option Value)(base:Heap):Prop where
 kin:K.In base
 glob:base.Ns mainGlobals mg
 blt:∃mb,base.Ns builtinsNs mb/\∀x:Str,x≠"__name__"->mb x=bootBuiltins x
 nolimit:base.NoLimit
structure Cx where
 prog:Program
 w:World
 K:Frg
 mg:Str->Option Value
 base:Heap
 A:Around
 N:List Str
 s₀:Shared
 H₀:Hp
 env:Env
 outer:List Env
 stack:List Env
 ex:List Addr
 fn:Str->Bool
 calm:Bool
 pn:List (Addr×Obj)
 xe:Value->Shared->Prop
noncomputable def frs(l:List Env):List Addr:=l.filterMap (·.frame)
noncomputable abbrev Cx.fs(X:Cx):List Addr:=frs X.outer
def Vis(sc:Scope)(x:Str):Prop:=sc.names.lookup x=some .local\/sc.names.lookup x=some .cell\/sc.names.lookup x=some .free
def Loc(sc:Scope)(x:Str):Prop:=sc.names.lookup x=some .local\/sc.names.lookup x=some .cell
def Look(env:Env)(h:Heap)(m:Str->Option Value)(x:Str)(u:Value):Prop:=
 (env.kindOf x=some .local/\m x=some u)\/((env.kindOf x=some .cell\/env.kindOf x=some .free)/\∃c,env.cells.lookup x=some c/\h.IsCell c (some u))
structure Cx.Ok(X:Cx):Prop where
 mod:Mod X.K X.mg X.base
 kind:X.env.scope.kind = .function
 glob:X.env.globals=mainGlobals
 blt:X.env.builtins=builtinsNs
 above:X.s₀.heap.objs.size<=X.env.locals
 inj:∀x y c,X.env.cells.lookup x=some c->X.env.cells.lookup y=some c->x=y
 has:∀x,(X.env.kindOf x=some .cell\/X.env.kindOf x=some .free)->∃c,X.env.cells.lookup x=some c
 cab:∀x c,X.fn x=true->X.env.cells.lookup x=some c->X.s₀.heap.objs.size<=c
 hd:X.calm=true->X.A.handled=none
 frames:X.A.frames=some X.stack
 stk:X.stack=X.outer\/(X.stack=X.env::X.outer/\X.env.frame=some X.env.locals)
 exf:∀b∈X.ex,b≠X.env.locals/\∀x c,X.env.cells.lookup x=some c->c≠b
 bs:∀b o,X.base.get? b=some o->X.s₀.heap.get? b=some o/\X.H₀ b=none
 bsz:X.base.objs.size<=X.s₀.heap.objs.size
 noex:∀b o,X.base.get? b=some o->b∉X.ex
 exfs:∀b∈X.ex,b∉X.fs
 funs:X.s₀.heap.FunFrames X.base X.outer
 frf:∀b∈X.fs,X.H₀ b=none
structure Inv(X:Cx)(pins:List (Addr×Obj))(σ:List (Option V))(H:Hp)(s:Shared):Prop where
 ok:X.Ok
 os:s.os=X.s₀.os
 bare:AllBare s.gens
 base:Un X.fs X.ex X.H₀ H X.s₀.heap s.heap
 loc:∃m,s.heap.Ns X.env.locals m/\∀(i:Nat) (x:Str) (v:V),X.N[i]?=some x->σ[i]?=some (some v)->Vis X.env.scope x->∃u,RelV v u/\Look X.env s.heap m x u
 cell:∀x c,X.env.cells.lookup x=some c->∃v,s.heap.IsCell c v
 free:H X.env.locals=none
 freeC:∀x c,X.env.cells.lookup x=some c->H c=none
 pin:∀p∈X.pn++pins,s.heap.get? p.1=some p.2/\H p.1=none/\p.1≠X.env.locals/\p.1∉X.fs/\∀v,p.2.data≠.cell v
 hok:HOk X.prog X.w H s.heap
 len:σ.length=X.N.length
section
variable{X:Cx}{pins:List (Addr×Obj)}{σ:List (Option V)}{H H':Hp}{s:Shared}{h':Heap}
theorem Cx.Ok.nofr(ok:X.Ok){b:Addr}{o:Obj}(e:X.base.get? b=some o):b∉X.fs:=fun hb=>by
 have:=(ok.funs.mem hb).1;rw[e]at this;cases this
theorem Inv.bs(I:Inv X pins σ H s):∀b o,X.base.get? b=some o->s.heap.get? b=some o/\H b=none:=fun b o e=>
 ⟨I.base.keep b o (I.ok.bs b o e).1 (I.ok.bs b o e).2 (I.ok.nofr e) (I.ok.noex b o e),I.base.free b o (I.ok.bs b o e).1 (I.ok.bs b o e).2 (I.ok.noex b o e)⟩
theorem Inv.bk(I:Inv X pins σ H s):∀b o,X.base.get? b=some o->s.heap.get? b=some o:=fun b o e=>(I.bs b o e).1
theorem Inv.mod(I:Inv X pins σ H s):Mod X.K X.mg X.base:=I.ok.mod
theorem Inv.kIn(I:Inv X pins σ H s):X.K.In s.heap:=I.ok.mod.kin.keeps I.bk
theorem Inv.lt(I:Inv X pins σ H s):X.env.locals<s.heap.objs.size:=let ⟨_,hn,_⟩:=I.loc;hn.lt
theorem Inv.sz(I:Inv X pins σ H s):X.s₀.heap.objs.size<=s.heap.objs.size:=vV I.ok.above (vX I.lt)
theorem Inv.nofs(I:Inv X pins σ H s){a:Addr}(h:s.heap.objs.size<=a):a∉X.fs:=fun hb=>by
 obtain⟨_,o,ho,_⟩:=I.ok.funs.mem hb;exact ug (Nat.lt_of_lt_of_le (vI ho) (vV I.sz h)) (Nat.lt_irrefl _)
theorem Inv.cne(I:Inv X pins σ H s):∀x c,X.env.cells.lookup x=some c->c≠X.env.locals:=fun x c e z=>by
 obtain⟨v,o,ho,hd⟩:=I.cell x c e;obtain⟨m,⟨o',es,ep,ho',hd',_⟩,_⟩:=I.loc;rw[z,ho']at ho;cases ho;rw[hd']at hd;cases hd
theorem Inv.funs(I:Inv X pins σ H s):s.heap.FunFrames X.base X.outer:=by
 have all:∀(l:List Env),(∀b∈frs l,b∈X.fs)->X.s₀.heap.FunFrames X.base l->s.heap.FunFrames X.base l:=by
  intro l
  induction l with
  | nil=>intro _ _;trivial
  | cons env r ih=>
   intro hs hl;obtain⟨hk,⟨L,o,hf,hn,ho,hd⟩,hr⟩:=hl;have hL:L∈X.fs:=hs L (by unfold frs;rw[filterMap_cons,hf];exact vq);obtain⟨sl,e⟩:=I.base.slot L o ho (I.ok.frf L hL) hL fun z=>I.ok.exfs L z hL
   exact⟨hk,⟨L,_,hf,hn,e,hd⟩,ih (fun b hb=>hs b (by unfold frs;rw[filterMap_cons,hf];exact vp _ hb)) hr⟩
 exact all X.outer (fun _ hb=>hb) I.ok.funs
theorem Inv.stack(I:Inv X pins σ H s):s.heap.FunFrames X.base X.stack:=by
 rcases I.ok.stk with e | ⟨e,hf⟩
 ·rw[e];exact I.funs
 ·rw[e];obtain⟨m,hn,_⟩:=I.loc;refine .cons (by rw[I.ok.kind];decide) hf hn ?_ I.funs;exact Heap.get?_none_of_le (vV I.ok.bsz I.ok.above)
theorem Inv.stkSub(I:Inv X pins σ H s):∀b∈frs X.stack,b∈X.env.locals::X.fs:=fun b hb=>by
 rcases I.ok.stk with e | ⟨e,hf⟩
 ·rw[e]at hb;exact vp _ hb
 ·rw[e]at hb;unfold frs at hb;rw[filterMap_cons,hf]at hb;exact hb
theorem Inv.stkFree(I:Inv X pins σ H s):∀b∈frs X.stack,H b=none:=fun b hb=>by
 rcases mem_cons.mp (I.stkSub b hb)with e | hb
 ·rw[e];exact I.free
 ·obtain⟨_,o,ho,_⟩:=I.ok.funs.mem hb;exact I.base.free b o ho (I.ok.frf b hb) fun z=>I.ok.exfs b z hb
theorem Inv.step{g':Array GenState}{t':Nat}{d':Drawn}{ch:List Addr}(I:Inv X pins σ H s)
  (hch:∀b∈ch,(b∈X.ex\/X.s₀.heap.objs.size<=b)/\b≠X.env.locals/\(∀x c,X.env.cells.lookup x=some c->c≠b)/\∀p∈X.pn++pins,p.1≠b)
  (keep:∀b o,b≠X.env.locals->b∉X.fs->b∉ch->s.heap.get? b=some o->H b=none->h'.get? b=some o)
  (slot:∀b o,b≠X.env.locals->b∈X.fs->b∉ch->s.heap.get? b=some o->H b=none->∃sl,h'.get? b=some {o with slots:=sl}) (free:∀b o,b∉ch->s.heap.get? b=some o->H b=none->H' b=none)
  (there:∀b o,b∉ch->s.heap.get? b=some o->∃o',h'.get? b=some o')
  (tups:∀b xs,H b=some (.tup xs)->H' b=some (.tup xs)) (frzs:∀b o u,H b=some (.frz o u)->H' b=some (.frz o u)) (tbls:∀b ps,H b=some (.tbl ps)->∃more,H' b=some (.tbl (ps++more)))
  (ns:∀m,s.heap.Ns X.env.locals m->h'.Ns X.env.locals m) (hok:HOk X.prog X.w H' h') (hg:AllBare g') :
  Inv X pins σ H' {s with heap:=h',gens:=g',drawn:=d',toks:=t'}:=by
 have neL:∀b o,X.s₀.heap.get? b=some o->b≠X.env.locals:=fun b o e=>vE (Nat.lt_of_lt_of_le (vI e) I.ok.above)
 have neC:∀b o,X.s₀.heap.get? b=some o->b∉X.ex->b∉ch:=fun b o e hx hb=>by
  rcases(hch b hb).1 with z | z
  ·exact hx z
  ·exact ug (Nat.lt_of_lt_of_le (vI e) z) (Nat.lt_irrefl _)
 have cellK:∀x c,X.env.cells.lookup x=some c->∀v,s.heap.IsCell c v->h'.IsCell c v:=fun x c e v ⟨o,ho,hd⟩=>by
  have nch:c∉ch:=fun z=>(hch c z).2.2.1 x c e rfl
  by_cases hc:c∈X.fs
  ·obtain⟨sl,q⟩:=slot c o (I.cne x c e) hc nch ho (I.freeC x c e);exact⟨_,q,hd⟩
  ·exact⟨o,keep c o (I.cne x c e) hc nch ho (I.freeC x c e),hd⟩
 refine⟨I.ok,I.os,hg,⟨fun b o e n hb hx=>?_,fun b o e n hb hx=>?_,fun b o e n hx=>?_,fun b o e hx=>?_,fun b xs e=>tups b xs (I.base.tups b xs e),fun b o xs e=>frzs b o xs (I.base.frzs b o xs e),fun b ps e=>?_⟩,?_,fun x c e=>?_,?_,fun x c e=>?_,fun p hp=>?_,hok,I.len⟩
 ·exact keep b o (neL b o e) hb (neC b o e hx) (I.base.keep b o e n hb hx) (I.base.free b o e n hx)
 ·obtain⟨sl,e1⟩:=I.base.slot b o e n hb hx;obtain⟨sl',e2⟩:=slot b _ (neL b o e) hb (neC b o e hx) e1 (I.base.free b o e n hx);exact⟨sl',e2⟩
 ·obtain⟨o',e1⟩:=I.base.there b o e hx;exact free b o' (neC b o e hx) e1 (I.base.free b o e n hx)
 ·obtain⟨o',e1⟩:=I.base.there b o e hx;exact there b o' (neC b o e hx) e1
 ·obtain⟨m1,e1⟩:=I.base.tbls b ps e;obtain⟨m2,e2⟩:=tbls b _ e1;exact⟨m1++m2,by rw[e2,Array.append_assoc]⟩
 ·obtain⟨m,hn,hl⟩:=I.loc;refine⟨m,ns m hn,fun i x v e1 e2 e3=>?_⟩;obtain⟨u,r,l⟩:=hl i x v e1 e2 e3;refine⟨u,r,?_⟩;rcases l with l | ⟨k,c,e,z⟩
  ·exact .inl l
  ·exact .inr ⟨k,c,e,cellK x c e _ z⟩
 ·obtain⟨v,z⟩:=I.cell x c e;exact⟨v,cellK x c e v z⟩
 ·obtain⟨m,⟨o,_,_,ho,_⟩,_⟩:=I.loc;exact free _ o (fun z=>(hch _ z).2.1 rfl) ho I.free
 ·obtain⟨v,o,ho,hd⟩:=I.cell x c e;exact free c o (fun z=>(hch c z).2.2.1 x c e rfl) ho (I.freeC x c e)
 ·obtain⟨e,n,ne,nf,d⟩:=I.pin p hp;have nch:p.1∉ch:=fun z=>(hch p.1 z).2.2.2 p hp rfl
  exact⟨keep p.1 p.2 ne nf nch e n,free p.1 p.2 nch e n,ne,nf,d⟩
theorem Inv.un{t':Nat}(I:Inv X pins σ H s)(u:Un X.fs [] H H' s.heap h')(hok:HOk X.prog X.w H' h'):Inv X pins σ H' {s with heap:=h',toks:=t'}:=by
 obtain⟨m,⟨o,es,ep,ho,r⟩,_⟩:=id I.loc;obtain⟨sl,hL⟩:=u.any ho I.free (by simp);exact I.step (g':=s.gens) (d':=s.drawn) (ch:=[]) (fun _ z=>nomatch z) (fun b o _ hb _ e n=>u.keep b o e n hb (by simp)) (fun b o _ hb _ e n=>u.slot b o e n hb (by simp)) (fun b o _ e n=>u.free b o e n (by simp)) (fun b o _ e=>u.there b o e (by simp)) u.tups u.frzs u.tbls (fun m' hm=>by
  obtain⟨o',es',ep',ho',r'⟩:=hm;rw[ho]at ho';cases ho';exact⟨_,es',ep',hL,r'⟩) hok I.bare
theorem Inv.call{g':Array GenState}{t':Nat}{d':Drawn}{ch:List Addr}(I:Inv X pins σ H s)(u:Un (frs X.stack) ch H H' s.heap h')(hok:HOk X.prog X.w H' h')(hg:AllBare g')
  (hch:∀b∈ch,(b∈X.ex\/X.s₀.heap.objs.size<=b)/\b≠X.env.locals/\(∀x c,X.env.cells.lookup x=some c->c≠b)/\∀p∈X.pn++pins,p.1≠b) :
  Inv X pins σ H' {s with heap:=h',gens:=g',drawn:=d',toks:=t'}:=by
 obtain⟨m,⟨o,es,ep,ho,r⟩,_⟩:=id I.loc;obtain⟨sl,hL⟩:=u.any ho I.free fun z=>(hch _ z).2.1 rfl
 exact I.step (ch:=ch) hch (fun b o hL hb hc e n=>u.keep b o e n (fun z=>(mem_cons.mp (I.stkSub b z)).elim hL hb) hc) (fun b o _ _ hc e n=>u.any e n hc) (fun b o hc e n=>u.free b o e n hc) (fun b o hc e=>u.there b o e hc) u.tups u.frzs u.tbls (fun m' hm=>by
  obtain⟨o',es',ep',ho',r'⟩:=hm;rw[ho]at ho';cases ho';exact⟨_,es',ep',hL,r'⟩) hok hg
theorem Inv.turned{t':Nat}{it:Addr}(I:Inv X pins σ H s)(k:∀b o,b≠it->s.heap.get? b=some o->h'.get? b=some o)(hn:H it=none)(hL:it≠X.env.locals)
  (h1:it∈X.ex\/X.s₀.heap.objs.size<=it) (h2:∀x c,X.env.cells.lookup x=some c->c≠it) (h3:∀p∈X.pn++pins,p.1≠it):Inv X pins σ H {s with heap:=h',toks:=t'}:=by
 have nit:∀b u,H b=some u->b≠it:=fun b u e z=>by rw[z,hn]at e;cases e
 refine I.step (g':=s.gens) (d':=s.drawn) (ch:=[it]) (fun b hb=>?_) (fun b o _ _ hc e _=>k b o (fun z=>hc (by simp[z])) e) (fun b o _ _ hc e _=>⟨o.slots,k b o (fun z=>hc (by simp[z])) e⟩) (fun _ _ _ _ n=>n)
  (fun b o hc e=>⟨o,k b o (fun z=>hc (by simp[z])) e⟩) (fun _ _ e=>e) (fun _ _ _ e=>e) (fun b ps e=>⟨#[],by rw[e];simp⟩) (fun m hm=>?_) (fun b u e=>?_) I.bare
 ·have e:b=it:=by simpa using hb
  subst e;exact⟨h1,hL,h2,h3⟩
 ·obtain⟨o,es,ep,ho,r⟩:=hm;exact⟨o,es,ep,k _ o (Ne.symm hL) ho,r⟩
 ·refine(I.hok b u e).stay (fun c v hc q=>k c v ?_ q) (fun _ q=>q) fun _ _ q=>q
  rcases hc with z | z
  ·rw[z];exact nit b u e
  ·exact nit c _ z
theorem Inv.tok(I:Inv X pins σ H s)(t:Nat):Inv X pins σ H {s with toks:=t}:=I.un (h':=s.heap) (t':=t) Un.refl I.hok
theorem Inv.kept{t':Nat}(I:Inv X pins σ H s)(k:∀b u,s.heap.get? b=some u->h'.get? b=some u):Inv X pins σ H {s with heap:=h',toks:=t'}:=I.un (Un.kept k) (I.hok.kept k)
theorem Inv.laid{a:Addr}{o:HO}{t':Nat}(I:Inv X pins σ H s)(k:∀b u,s.heap.get? b=some u->h'.get? b=some u)(hp:s.heap.objs.size<=a)(new:ObjOk X.prog X.w (upd H a o) h' a o) :
  Inv X pins σ (upd H a o) {s with heap:=h',toks:=t'}:=I.un (Un.laid k hp (I.hok.fresh hp)) (I.hok.laid k hp new)
theorem Inv.write{x e:Addr}{o:HO}{t':Nat}(I:Inv X pins σ H s)(mu:Mut (H x))(he:e=x\/H e=some (.own x))(k:∀b u,b≠e->s.heap.get? b=some u->h'.get? b=some u)(heo:∃u,h'.get? e=some u)
  (new:ObjOk X.prog X.w (upd H x o) h' x o):Inv X pins σ (upd H x o) {s with heap:=h',toks:=t'}:=I.un (Un.write mu he k heo) (I.hok.write mu he k heo new)
theorem Inv.weak{σ':List (Option V)}(I:Inv X pins σ H s)(hl:σ'.length=σ.length)(w:∀(i:Nat) v,σ'[i]?=some (some v)->σ[i]?=some (some v)):Inv X pins σ' H s:=
 ⟨I.ok,I.os,I.bare,I.base,let ⟨m,hn,hl'⟩:=I.loc;⟨m,hn,fun i x v e1 e2 e3=>hl' i x v e1 (w i v e2) e3⟩,I.cell,I.free,I.freeC,I.pin,I.hok,hl.trans I.len⟩
theorem Inv.pins_of{pins':List (Addr×Obj)}(I:Inv X pins σ H s)(h:∀p∈pins',s.heap.get? p.1=some p.2/\H p.1=none/\p.1≠X.env.locals/\p.1∉X.fs/\∀v,p.2.data≠.cell v):Inv X pins' σ H s:=
 ⟨I.ok,I.os,I.bare,I.base,I.loc,I.cell,I.free,I.freeC,fun p hp=>(vh.mp hp).elim (fun z=>I.pin p (mem_append_left _ z)) (h p),I.hok,I.len⟩
theorem j0E{N:List Str}(hN:N.Nodup){i j:Nat}{x:Str}(a:N[i]?=some x)(b:N[j]?=some x):i=j:=by
 obtain⟨h1,e1⟩:=vx.mp a;obtain⟨h2,e2⟩:=vx.mp b;exact(List.getElem_inj hN).mp (e1.trans e2.symm)
theorem xL{M:Model}{A:Around}{E:Value->Shared->Prop}{i:Nat}{x:Str}{v:V}{u:Value}{Q:Unit->Shared->Prop}(I:Inv X pins σ H s)(hN:X.N.Nodup)(hi:X.N[i]?=some x)(hx:Loc X.env.scope x)(r:RelV v u)
  (h:∀s',Inv X pins (σ.set i (some v)) H s'->(∃a,Heap.SameBut a s.heap s'.heap/\(a=X.env.locals\/X.env.cells.lookup x=some a))->Q () s') (hf:X.fn x=true\/X.env.scope.names.lookup x=some .local:=by first | exact .inl rfl | exact .inr rfl | assumption):wpAny M A (storeName X.env x u) Q E s:=by
 obtain⟨m,hn,hl⟩:=id I.loc;have hcls:(X.env.scope.kind == .class||(X.env.scope.kind == .module&&X.env.locals != X.env.globals))=false:=by rw[I.ok.kind];rfl
 have hiσ:i<σ.length:=by rw[I.len];exact(vx.mp hi).1
 have cne:=I.cne;have tracked:∀{a:Addr} {h':Heap},(∃o,s.heap.get? a=some o/\H a=none)->Heap.SameBut a s.heap h'->HOk X.prog X.w H h':=fun {a h'} ha hs b ob e=>by
  obtain⟨_,_,hfree⟩:=ha;refine(I.hok b ob e).stay (fun c w' hc q=>(hs.2 c ?_).trans q) (fun _ q=>q) fun _ _ q=>q
  rintro rfl;rcases hc with rfl | hc
  ·rw[hfree]at e;cases e
  ·rw[hfree]at hc;cases hc
 rcases hx with hk | hk
 ·refine wpAny_storeName_local hk hn (fun h' hn' hs=>?_) hcls;obtain⟨oL,_,_,hoL,_⟩:=id hn;refine h _ ⟨I.ok,I.os,I.bare,⟨fun b o e n hb hx=>?_,fun b o e n hb hx=>?_,I.base.free,fun b o e hx=>?_,I.base.tups,I.base.frzs,I.base.tbls⟩,⟨_,hn',fun j y v' e1 e2 e3=>?_⟩,fun y c e=>?_,I.free,I.freeC,fun p hp=>?_,tracked ⟨oL,hoL,I.free⟩ hs,by simpa using I.len⟩ ⟨_,hs,.inl rfl⟩
  ·exact(hs.2 b (vE (Nat.lt_of_lt_of_le (vI e) I.ok.above))).trans (I.base.keep b o e n hb hx)
  ·obtain⟨sl,e1⟩:=I.base.slot b o e n hb hx;exact⟨sl,(hs.2 b (vE (Nat.lt_of_lt_of_le (vI e) I.ok.above))).trans e1⟩
  ·obtain⟨o',e1⟩:=I.base.there b o e hx;exact⟨o',(hs.2 b (vE (Nat.lt_of_lt_of_le (vI e) I.ok.above))).trans e1⟩
  ·by_cases hj:j=i
   ·subst hj;rw[hi]at e1;cases e1;rw[List.getElem?_set_self hiσ]at e2;cases e2;exact⟨u,r,.inl ⟨hk,by simp⟩⟩
   ·rw[List.getElem?_set_ne (Ne.symm hj)]at e2;obtain⟨u',r',q⟩:=hl j y v' e1 e2 e3;refine⟨u',r',?_⟩;rcases q with⟨k,e⟩ | ⟨k,c,e,z⟩
    ·refine .inl ⟨k,?_⟩;have:y≠x:=fun e=>hj (j0E hN e1 (e▸hi))
     simp[this,e]
    ·exact .inr ⟨k,c,e,z.sameBut hs (cne y c e)⟩
  ·obtain⟨w',z⟩:=I.cell y c e;exact⟨w',z.sameBut hs (cne y c e)⟩
  ·obtain⟨e,n,ne,nf,d⟩:=I.pin p hp;exact⟨(hs.2 p.1 ne).trans e,n,ne,nf,d⟩
 ·have hfn:X.fn x=true:=by
   rcases hf with z | z
   ·exact z
   ·rw[z]at hk;cases hk
  obtain⟨c,hc⟩:=I.ok.has x (.inl hk);obtain⟨w',z⟩:=I.cell x c hc;refine wpAny_storeName_cell I.ok.kind hk hc z (fun h' hc' hs=>?_);obtain⟨oc,hoc,hocd⟩:=id z;refine h {s with heap:=h'} ⟨I.ok,I.os,I.bare,⟨fun b o e n hb hx=>?_,fun b o e n hb hx=>?_,I.base.free,fun b o e hx=>?_,I.base.tups,I.base.frzs,I.base.tbls⟩,⟨m,hn.sameBut hs (Ne.symm (cne x c hc)),fun j y v' e1 e2 e3=>?_⟩,fun y c' e=>?_,I.free,I.freeC,fun p hp=>?_,tracked ⟨oc,hoc,I.freeC x c hc⟩ hs,by simpa using I.len⟩ ⟨c,hs,.inr hc⟩
  ·exact(hs.2 b (vE (Nat.lt_of_lt_of_le (vI e) (I.ok.cab x c hfn hc)))).trans (I.base.keep b o e n hb hx)
  ·obtain⟨sl,e1⟩:=I.base.slot b o e n hb hx;exact⟨sl,(hs.2 b (vE (Nat.lt_of_lt_of_le (vI e) (I.ok.cab x c hfn hc)))).trans e1⟩
  ·obtain⟨o',e1⟩:=I.base.there b o e hx;exact⟨o',(hs.2 b (vE (Nat.lt_of_lt_of_le (vI e) (I.ok.cab x c hfn hc)))).trans e1⟩
  ·by_cases hj:j=i
   ·subst hj;rw[hi]at e1;cases e1;rw[List.getElem?_set_self hiσ]at e2;cases e2;exact⟨u,r,.inr ⟨.inl hk,c,hc,hc'⟩⟩
   ·rw[List.getElem?_set_ne (Ne.symm hj)]at e2;obtain⟨u',r',q⟩:=hl j y v' e1 e2 e3;refine⟨u',r',?_⟩;rcases q with q | ⟨k,c',e,z'⟩
    ·exact .inl q
    ·refine .inr ⟨k,c',e,z'.sameBut hs ?_⟩;rintro rfl;exact hj (j0E hN e1 (I.ok.inj _ _ _ e hc▸hi))
  ·by_cases hcc:c'=c
   ·subst hcc;exact⟨_,hc'⟩
   ·obtain⟨w2,z2⟩:=I.cell y c' e;exact⟨w2,z2.sameBut hs hcc⟩
  ·obtain⟨e,n,ne,nf,d⟩:=I.pin p hp;refine⟨(hs.2 p.1 ?_).trans e,n,ne,nf,d⟩;intro q;rw[q,hoc]at e;have q':oc=p.2:=vL e;exact d w' (by rw[<-q'];exact hocd)
theorem WM{M:Model}{A:Around}{E:Value->Shared->Prop}{i:Nat}{x:Str}{v:V}{u:Value}{Q:Unit->Shared->Prop}(I:Inv X pins σ H s)(hN:X.N.Nodup)(hi:X.N[i]?=some x)(hx:Loc X.env.scope x)(r:RelV v u)
  (h:∀s',Inv X pins (σ.set i (some v)) H s'->Q () s') (hf:X.fn x=true\/X.env.scope.names.lookup x=some .local:=by first | exact .inl rfl | exact .inr rfl | assumption):wpAny M A (storeName X.env x u) Q E s:=
 xL I hN hi hx r (fun s' I' _=>h s' I') hf
theorem Inv.call'{s':Shared}{ch:List Addr}(I:Inv X pins σ H s)(ho:s'.os=s.os)(u:Un (frs X.stack) ch H H' s.heap s'.heap)(hok:HOk X.prog X.w H' s'.heap)(hg:AllBare s'.gens)
  (hch:∀b∈ch,(b∈X.ex\/X.s₀.heap.objs.size<=b)/\b≠X.env.locals/\(∀x c,X.env.cells.lookup x=some c->c≠b)/\∀p∈X.pn++pins,p.1≠b):Inv X pins σ H' s':=by
 obtain⟨h',g',d',t',o'⟩:=s';have e:o'=s.os:=ho;subst e;exact I.call (g':=g') (t':=t') (d':=d') u hok hg hch
end
noncomputable abbrev XK:=Value->Option Addr->Hp->Prop
noncomputable abbrev St:=List (Option V)
noncomputable abbrev VK:=V->Hp->Prop
noncomputable abbrev TE:=St->Hp->VK->Prop
noncomputable abbrev TT:=St->Hp->(Bool->Hp->Prop)->Prop
noncomputable abbrev TA:=St->Hp->(List V->Hp->Prop)->Prop
structure Ends where
 nx:St->Hp->Prop
 rt:VK
 bk:St->Hp->Prop:=fun _ _=>False
 ct:St->Hp->Prop:=fun _ _=>False
noncomputable abbrev TS:=Ends->St->Hp->Prop
def EP(X:Cx)(pins:List (Addr×Obj))(σ:St)(Q:VK)(u:Value)(s':Shared):Prop:=∃v H',Inv X pins σ H' s'/\RelV v u/\Q v H'
def TP(X:Cx)(pins:List (Addr×Obj))(σ:St)(Q:Bool->Hp->Prop)(b:Bool)(s':Shared):Prop:=∃H',Inv X pins σ H' s'/\Q b H'
def AP(X:Cx)(pins:List (Addr×Obj))(σ:St)(Q:List V->Hp->Prop)(us:List Value)(s':Shared):Prop:=∃vs H',Inv X pins σ H' s'/\Vals vs us/\Q vs H'
def SP(X:Cx)(pins:List (Addr×Obj))(D:Ends)(f:Flow)(s':Shared):Prop:=
 match f with
 | .next=>∃σ' H',Inv X pins σ' H' s'/\D.nx σ' H'
 | .brk=>∃σ' H',Inv X pins σ' H' s'/\D.bk σ' H'
 | .cont=>∃σ' H',Inv X pins σ' H' s'/\D.ct σ' H'
 | .ret u=>∃v σ' H',Inv X pins σ' H' s'/\RelV v u/\D.rt v H'
def PE(X:Cx)(e:Expr)(t:TE):Prop:=
 ∀(pins:List (Addr×Obj)) (s:Shared) (σ:St) (H:Hp) (Q:VK),Inv X pins σ H s->t σ H Q->wpAny (model X.prog X.w) X.A (eval e X.env) (EP X pins σ Q) X.xe s
def PT(X:Cx)(e:Expr)(t:TT):Prop:=
 ∀(pins:List (Addr×Obj)) (s:Shared) (σ:St) (H:Hp) (Q:Bool->Hp->Prop),Inv X pins σ H s->t σ H Q->wpAny (model X.prog X.w) X.A (isTrue e X.env (eval e X.env)) (TP X pins σ Q) X.xe s
def PW(X:Cx)(e:Expr)(t:TT):Prop:=
 ∀(whole:Sem Value) (pins:List (Addr×Obj)) (s:Shared) (σ:St) (H:Hp) (Q:Bool->Hp->Prop),Inv X pins σ H s->t σ H Q->wpAny (model X.prog X.w) X.A (isTrue e X.env whole) (TP X pins σ Q) X.xe s
theorem PW.pt{X:Cx}{e:Expr}{t:TT}(h:PW X e t):PT X e t:=h _
def PA(X:Cx)(es:List Expr)(t:TA):Prop:=
 ∀(pos:Pos) (pins:List (Addr×Obj)) (s:Shared) (σ:St) (H:Hp) (Q:List V->Hp->Prop),Inv X pins σ H s->t σ H Q->wpAny (model X.prog X.w) X.A (spliced (backTo pos (starEach es X.env))) (AP X pins σ Q) X.xe s
def PS(X:Cx)(st:Stmt)(t:TS):Prop:=
 ∀(pins:List (Addr×Obj)) (s:Shared) (σ:St) (H:Hp) (D:Ends),Inv X pins σ H s->t D σ H->wpAny (model X.prog X.w) X.A (exec st X.env) (SP X pins D) X.xe s
def PSs(X:Cx)(st:List Stmt)(t:TS):Prop:=
 ∀(pins:List (Addr×Obj)) (s:Shared) (σ:St) (H:Hp) (D:Ends),Inv X pins σ H s->t D σ H->wpAny (model X.prog X.w) X.A (execs st X.env) (SP X pins D) X.xe s
theorem thn{α:Type}{t:Sem α}{Q Q':α->Shared->Prop}{M:Model}{A:Around}{E:Value->Shared->Prop}{s:Shared}(h:wpAny M A t Q E s)(hQ:∀a s,Q a s->Q' a s):wpAny M A t Q' E s:=wpAny_mono h hQ fun _ _ x=>x
section
variable{X:Cx}
def tVar(i:Nat):TE:=fun σ H Q=>∃v,σ[i]?=some (some v)/\Q v H
def tC(v:V):TE:=fun _ H Q=>Q v H
theorem j6B{i:Nat}{x:Str}{pos:Pos}(hN:X.N[i]?=some x)(hv:Vis X.env.scope x)(hd:(x==("__debug__" : Str))=false:=by decide)(hcd:(x==("__classdict__" : Str))=false:=by decide):PE X (.Name x pos) (tVar i):=by
 intro pins s σ H Q I h;obtain⟨v,e,h⟩:=h;obtain⟨m,hn,hl⟩:=I.loc;obtain⟨u,r,l⟩:=hl i x v hN e hv;have fin:EP X pins σ Q u s:=⟨v,H,I,r,h⟩
 rcases l with⟨hk,hm⟩ | ⟨hk,c,hc,hcell⟩
 ·exact wpAny_Name (wpAny_loadName_local I.ok.kind hk hn hm fin) hd
 ·rcases hk with hk | hk
  ·exact wpAny_Name (wpAny_loadName_cell I.ok.kind hk hc hcell fin) hd
  ·exact wpAny_Name (wpAny_loadName_free I.ok.kind hk hc hcell fin hcd) hd
theorem jd{i j pos}:PE X (.Constant (.int i) j pos) (tC (.int i)):=fun _ _ _ H _ I h=>wpAny_Constant_int ⟨.int i,H,I.tok _,⟨_,rfl⟩,h⟩
theorem kS{b j pos}:PE X (.Constant (.bool b) j pos) (tC (.bl b)):=fun _ _ _ H _ I h=>Constant_bool ⟨.bl b,H,I,rfl,h⟩
theorem Q0{j pos}:PE X (.Constant .none j pos) (tC .non):=fun _ _ _ H _ I h=>Constant_none ⟨.non,H,I,rfl,h⟩
theorem jO{x j pos}:PE X (.Constant (.str x) j pos) (tC (.str x)):=fun _ _ _ H _ I h=>Calls.Constant_str ⟨.str x,H,I.tok _,⟨_,rfl⟩,h⟩
def Gl(X:Cx)(x:Str):Prop:=X.env.kindOf x=some .globalImplicit
theorem Xs{E:Value->Shared->Prop}{pins:List (Addr×Obj)}{s:Shared}{σ:St}{H:Hp}{x:Str}{u:Value}{pos:Pos}{Q:Value->Shared->Prop}(I:Inv X pins σ H s)(hg:Gl X x)(hm:X.mg x=some u)(h:Q u s)
  (hd:(x==("__debug__" : Str))=false:=by decide):wpAny (model X.prog X.w) X.A (eval (.Name x pos) X.env) Q E s:=
 Calls.Name_function_global I.ok.kind hg (Calls.loadGlobal_global (by rw[I.ok.glob];exact I.mod.glob.keeps I.bk) hm h) hd
theorem yX{E:Value->Shared->Prop}{pins:List (Addr×Obj)}{s:Shared}{σ:St}{H:Hp}{x:Str}{u:Value}{pos:Pos}{Q:Value->Shared->Prop}(I:Inv X pins σ H s)(hg:Gl X x)(hm:X.mg x=none)(hv:bootBuiltins x=some u)(h:Q u s)
  (hn:x≠"__name__":=by decide) (hd:(x==("__debug__" : Str))=false:=by decide):wpAny (model X.prog X.w) X.A (eval (.Name x pos) X.env) Q E s:=by
 obtain⟨mb,h1,h2⟩:=I.mod.blt;exact Calls.Name_function_global I.ok.kind hg (Calls.loadGlobal_builtin (by rw[I.ok.glob];exact I.mod.glob.keeps I.bk) hm (by rw[I.ok.blt];exact h1.keeps I.bk) ((h2 x hn).trans hv) h) hd
theorem j5J{x:Str}{v:V}{u:Value}{pos:Pos}(hg:Gl X x)(hm:X.mg x=some u)(r:RelV v u)(hd:(x==("__debug__" : Str))=false:=by decide):PE X (.Name x pos) (tC v):=
 fun _ _ _ H _ I h=>Xs I hg hm ⟨v,H,I,r,h⟩ hd
theorem j2y{x:Str}{v:V}{u:Value}{pos:Pos}(hg:Gl X x)(hm:X.mg x=none)(hv:bootBuiltins x=some u)(r:RelV v u)(hn:x≠"__name__":=by decide)(hd:(x==("__debug__" : Str))=false:=by decide):PE X (.Name x pos) (tC v):=
 fun _ _ _ H _ I h=>yX I hg hm hv ⟨v,H,I,r,h⟩ hn hd
variable{a b:Expr}{ta tb:TE}{pos:Pos}
def tB(t:TE):TT:=fun σ H Q=>t σ H fun x H1=>∃c,x = .bl c/\Q c H1
theorem WB{e:Expr}{t:TE}(h:PE X e t)(he:∀whole,isTrue e X.env whole=(do let v <-whole;standAt e.pos;holding [v] (truthy v)):=by intro _;rfl):PT X e (tB t):=by
 intro pins s σ H Q I hw;refine isTrue_plain (thn (h pins s σ H _ I hw) fun v s1 ⟨x,H1,I1,r1,q1⟩=>?_) (he _);obtain⟨d,rfl,q⟩:=q1;cases r1;exact wpAny_truthy_bool ⟨H1,I1,q⟩
variable{tA tB':TT}{rest:List Expr}
def tAnd(t u:TT):TT:=fun σ H Q=>t σ H fun c H1=>if c=true then u σ H1 Q else Q false H1
def tOr(t u:TT):TT:=fun σ H Q=>t σ H fun c H1=>if c=true then Q true H1 else u σ H1 Q
def tNot(t:TT):TT:=fun σ H Q=>t σ H fun c H1=>Q (!c) H1
theorem Q3(ha:PT X a tA):PW X (.BoolOp .And [a] pos) tA:=by
 intro wh pins s σ H Q I h;refine isTrue_and (thn (ha pins s σ H Q I h) fun c s1 e=>?_);cases c with
 | true=>exact isTrue_and_nil e
 | false=>exact e
theorem XT(ha:PT X a tA):PW X (.BoolOp .Or [a] pos) tA:=by
 intro wh pins s σ H Q I h;refine isTrue_or (thn (ha pins s σ H Q I h) fun c s1 e=>?_);cases c with
 | false=>exact isTrue_or_nil e
 | true=>exact e
theorem zi(ha:PT X a tA)(hb:PW X (.BoolOp .And (b::rest) pos) tB'):PW X (.BoolOp .And (a::b::rest) pos) (tAnd tA tB'):=by
 intro wh pins s σ H Q I h;refine isTrue_and (thn (ha pins s σ H _ I h) fun c s1 ⟨H1,I1,q1⟩=>?_);cases c with
 | true=>exact hb wh pins s1 σ H1 Q I1 q1
 | false=>exact⟨H1,I1,q1⟩
theorem j0N(ha:PT X a tA)(hb:PW X (.BoolOp .Or (b::rest) pos) tB'):PW X (.BoolOp .Or (a::b::rest) pos) (tOr tA tB'):=by
 intro wh pins s σ H Q I h;refine isTrue_or (thn (ha pins s σ H _ I h) fun c s1 ⟨H1,I1,q1⟩=>?_);cases c with
 | true=>exact⟨H1,I1,q1⟩
 | false=>exact hb wh pins s1 σ H1 Q I1 q1
theorem y8(ha:PT X a tA):PT X (.UnaryOp .Not a pos) (tNot tA):=by
 intro pins s σ H Q I h;exact isTrue_not (ha pins s σ H (fun c H1=>Q (!c) H1) I h)
def tAndV(ta tb:TE):TE:=fun σ H Q=>ta σ H fun x H1=>∃c,x = .bl c/\if c=true then tb σ H1 Q else Q (.bl false) H1
def tNotV(ta:TE):TE:=fun σ H Q=>ta σ H fun x H1=>∃c,x = .bl c/\Q (.bl (!c)) H1
theorem j4B{op}{t:TE}(h:PE X a t):PE X (.BoolOp op [a] pos) t:=fun pins s σ H Q I hw=>BoolOp_one (h pins s σ H Q I hw)
theorem j4y(ha:PE X a ta)(hb:PE X (.BoolOp .And (b::rest) pos) tb):PE X (.BoolOp .And (a::b::rest) pos) (tAndV ta tb):=by
 intro pins s σ H Q I h;refine BoolOp_and (thn (ha pins s σ H _ I h) fun v s1 ⟨x,H1,I1,r1,q1⟩=>?_);obtain⟨c,rfl,q1⟩:=q1;cases r1;refine wpAny_truthy_bool ?_;cases c with
 | true=>exact hb pins s1 σ H1 Q I1 q1
 | false=>exact⟨.bl false,H1,I1,rfl,q1⟩
theorem j6z(ha:PE X a ta):PE X (.UnaryOp .Not a pos) (tNotV ta):=by
 intro pins s σ H Q I h;refine UnaryOp_ (thn (ha pins s σ H _ I h) fun v s1 ⟨x,H1,I1,r1,q1⟩=>?_);obtain⟨c,rfl,q1⟩:=q1;cases r1;exact not_of (wpAny_truthy_bool ⟨.bl (!c),H1,I1,rfl,q1⟩)
def tIf(t:TT)(ta tb:TE):TE:=fun σ H Q=>t σ H fun c H1=>if c=true then ta σ H1 Q else tb σ H1 Q
theorem Z6{c:Expr}(hc:PT X c tA)(ha:PE X a ta)(hb:PE X b tb):PE X (.IfExp c a b pos) (tIf tA ta tb):=by
 intro pins s σ H Q I h;refine wpAny_IfExp (thn (hc pins s σ H _ I h) fun d s1 ⟨H1,I1,q1⟩=>?_);cases d with
 | true=>exact ha pins s1 σ H1 Q I1 q1
 | false=>exact hb pins s1 σ H1 Q I1 q1
end
def SqL(K:Frg)(H:Hp)(a:Addr)(xs:List V):Prop:=
 Rd H a (.lst xs)\/
  ∃(o:Obj) (its:Array Value) (n:Nat),K.lookup a=some o/\o.cls = .type "list"/\o.dict=none/\o.data = .seq its n/\its.size<=sizeLine/\Vals xs its.toList
def SqT(K:Frg)(H:Hp)(a:Addr)(xs:List V):Prop:=
 Rd H a (.tup xs)\/
  ∃(o:Obj) (its:Array Value) (n:Nat),K.lookup a=some o/\o.cls = .type "tuple"/\o.data = .seq its n/\its.size<=sizeLine/\Vals xs its.toList
noncomputable def absV:Value->Option V
 | .none=>some .non
 | .bool b=>some (.bl b)
 | .int i _=>some (.int i)
 | .str x _=>some (.str x)
 | .bytes b _=>some (.byt b)
 | .float b _=>some (.flt b)
 | .ref a=>some (.ref a)
 | .type n=>some (.ty n)
 | _=>none
theorem RelV.abs{x:V}{u:Value}(r:RelV x u):absV u=some x:=by
 cases x with
 | non=>cases r;rfl
 | bl _=>cases r;rfl
 | int _=>obtain⟨t,rfl⟩:=r;rfl
 | str _=>obtain⟨t,rfl⟩:=r;rfl
 | byt _=>obtain⟨t,rfl⟩:=r;rfl
 | flt _=>obtain⟨t,rfl⟩:=r;rfl
 | ref _=>cases r;rfl
 | ty _=>cases r;rfl
theorem RelV.inj{x y:V}{u:Value}(r:RelV x u)(q:RelV y u):x=y:=vL (r.abs.symm.trans q.abs)
theorem Vals.inj:∀{xs ys:List V} {us:List Value},Vals xs us->Vals ys us->xs=ys
 | _,_,_,.nil,.nil=>rfl
 | _,_,_,.cons r t,.cons r' t'=>by rw[r.inj r',Vals.inj t t']
section
variable{X:Cx}{pins:List (Addr×Obj)}{σ:St}{H:Hp}{s:Shared}{a:Addr}{xs ys:List V}
theorem SqL.of{K:Frg}(h:H a=some (.lst xs)):SqL K H a xs:=.inl (.inl h)
theorem SqT.of{K:Frg}(h:H a=some (.tup xs)):SqT K H a xs:=.inl (.inl h)
theorem Inv.list(I:Inv X pins σ H s)(h:SqL X.K H a xs):∃its:List Value,Vals xs its/\PlainL s.heap a its.toArray/\xs.length<=sizeLine:=by
 rcases h with h | ⟨o,its,n,hk,hc,hd,hs,hz,r⟩
 ·obtain⟨z,its,n,r,e⟩:=h.ok I.hok;exact⟨its,r,⟨_,n,e,rfl,rfl,rfl⟩,z⟩
 ·refine⟨its.toList,r,⟨o,n,I.kIn a o hk,hc,hd,by simpa using hs⟩,?_⟩;have e:=r.length;simp only[Array.length_toList]at e;lia
theorem Inv.tuple(I:Inv X pins σ H s)(h:SqT X.K H a xs):∃its:List Value,Vals xs its/\IsTup s.heap a its.toArray/\xs.length<=sizeLine:=by
 rcases h with h | ⟨o,its,n,hk,hc,hs,hz,r⟩
 ·obtain⟨z,its,r,p⟩:=h.ok I.hok;exact⟨its,r,p,z⟩
 ·refine⟨its.toList,r,⟨o,I.kIn a o hk,hc,n,by simpa using hs⟩,?_⟩;have e:=r.length;simp only[Array.length_toList]at e;lia
theorem Inv.list_inj(I:Inv X pins σ H s)(h:SqL X.K H a xs)(h':SqL X.K H a ys):xs=ys:=by
 obtain⟨its,r,⟨o,n,e,_,_,d⟩,_⟩:=I.list h;obtain⟨its',r',⟨o',n',e',_,_,d'⟩,_⟩:=I.list h';rw[e]at e';cases e';rw[d]at d';injection d' with d1 _;have:its=its':=by simpa using congrArg Array.toList d1
 subst this;exact r.inj r'
theorem Inv.tuple_inj(I:Inv X pins σ H s)(h:SqT X.K H a xs)(h':SqT X.K H a ys):xs=ys:=by
 obtain⟨its,r,⟨o,e,_,n,d⟩,_⟩:=I.tuple h;obtain⟨its',r',⟨o',e',_,n',d'⟩,_⟩:=I.tuple h';rw[e]at e';cases e';rw[d]at d';injection d' with d1 _;have:its=its':=by simpa using congrArg Array.toList d1
 subst this;exact r.inj r'
end
noncomputable abbrev Cx.wish(X:Cx)(E:Value->Shared->Prop):Cx:={X with xe:=E}
noncomputable abbrev Cx.nox(X:Cx):Cx:=X.wish fun _ _=>False
theorem Cx.Ok.wish{X:Cx}(ok:X.Ok)(E:Value->Shared->Prop):(X.wish E).Ok:=
 ⟨ok.mod,ok.kind,ok.glob,ok.blt,ok.above,ok.inj,ok.has,ok.cab,ok.hd,ok.frames,ok.stk,ok.exf,ok.bs,ok.bsz,ok.noex,ok.exfs,ok.funs,ok.frf⟩
theorem Cx.Ok.unwish{X:Cx}{E:Value->Shared->Prop}(ok:(X.wish E).Ok):X.Ok:=
 ⟨ok.mod,ok.kind,ok.glob,ok.blt,ok.above,ok.inj,ok.has,ok.cab,ok.hd,ok.frames,ok.stk,ok.exf,ok.bs,ok.bsz,ok.noex,ok.exfs,ok.funs,ok.frf⟩
section
variable{X:Cx}{pins:List (Addr×Obj)}{σ:St}{H:Hp}{s:Shared}{E:Value->Shared->Prop}
theorem Inv.wish(I:Inv X pins σ H s)(E:Value->Shared->Prop):Inv (X.wish E) pins σ H s:=⟨I.ok.wish E,I.os,I.bare,I.base,I.loc,I.cell,I.free,I.freeC,I.pin,I.hok,I.len⟩
theorem Inv.unwish(I:Inv (X.wish E) pins σ H s):Inv X pins σ H s:=⟨I.ok.unwish,I.os,I.bare,I.base,I.loc,I.cell,I.free,I.freeC,I.pin,I.hok,I.len⟩
theorem SP.unwish{D:Ends}{f:Flow}{s':Shared}(h:SP (X.wish E) pins D f s'):SP X pins D f s':=by
 cases f with
 | next=>obtain⟨σ',H',I,q⟩:=h;exact⟨σ',H',I.unwish,q⟩
 | brk=>obtain⟨σ',H',I,q⟩:=h;exact⟨σ',H',I.unwish,q⟩
 | cont=>obtain⟨σ',H',I,q⟩:=h;exact⟨σ',H',I.unwish,q⟩
 | ret u=>obtain⟨v,σ',H',I,r,q⟩:=h;exact⟨v,σ',H',I.unwish,r,q⟩
theorem PSs.nox{st:List Stmt}{t:TS}(h:PSs X.nox st t):PSs X st t:=fun pins s σ H D I hw=>
 wpAny_mono (h pins s σ H D (I.wish _) hw) (fun _ _ q=>q.unwish) fun _ _ z=>False.elim z
end
section
variable{X:Cx}{st:Stmt}{rest:List Stmt}{t u:TS}{e:Expr}{te:TE}{pos:Pos}
def tNext:TS:=fun D σ H=>D.nx σ H
def tSeq(t u:TS):TS:=fun D σ H=>t {D with nx:=u D} σ H
theorem jw:PSs X [] tNext:=fun _ _ σ H _ I h=>wpAny_execs_nil ⟨σ,H,I,h⟩
theorem jb(h1:PS X st t)(h2:PSs X rest u):PSs X (st::rest) (tSeq t u):=by
 intro pins s σ H D I h;refine wpAny_execs_cons (thn (h1 pins s σ H {D with nx:=u D} I h) fun f s1 q=>?_);cases f with
 | next=>
  obtain⟨σ',H',I',q⟩:=q;exact h2 pins s1 σ' H' D I' q
 | ret v=>exact q
 | brk=>exact q
 | cont=>exact q
theorem jf(h1:PS X st t):PSs X [st] t:=by
 intro pins s σ H D I h;refine wpAny_execs_cons (thn (h1 pins s σ H D I h) fun f s1 q=>?_);cases f with
 | next=>exact wpAny_execs_nil q
 | ret v=>exact q
 | brk=>exact q
 | cont=>exact q
theorem Inv.quiet{pins:List (Addr×Obj)}{σ:St}{H:Hp}{s:Shared}(I:Inv X pins σ H s):interactive X.env=false:=by simp[interactive,I.ok.kind]
def tDrop(te:TE):TS:=fun D σ H=>te σ H fun _ H1=>D.nx σ H1
theorem Jb(he:PE X e te)(hs:swapsWith e none pos.line X.env=pure false:=by rfl):PS X (.Expr e pos) (tDrop te):=by
 intro pins s σ H D I h;exact wpAny_Expr_any (thn (he pins s σ H _ I h) fun v s1 ⟨x,H1,I1,r1,q1⟩=>⟨σ,H1,I1,q1⟩) I.quiet hs
def tRet(te:TE):TS:=fun D σ H=>te σ H D.rt
theorem jv(he:PE X e te):PS X (.Return (some e) pos) (tRet te):=by
 intro pins s σ H D I h;exact wpAny_Return_some (thn (he pins s σ H _ I h) fun v s1 ⟨x,H1,I1,r1,q1⟩=>⟨x,σ,H1,I1,r1,q1⟩)
def tIfS(c:TT)(t u:TS):TS:=fun D σ H=>c σ H fun b H1=>if b=true then t D σ H1 else u D σ H1
theorem j2{c:Expr}{a b:List Stmt}{tc:TT}(hc:PT X c tc)(ha:PSs X a t)(hb:PSs X b u):PS X (.If c a b pos) (tIfS tc t u):=by
 intro pins s σ H D I h;refine wpAny_If (thn (hc pins s σ H _ I h) fun d s1 ⟨H1,I1,q1⟩=>?_);cases d with
 | true=>exact ha pins s1 σ H1 D I1 q1
 | false=>exact hb pins s1 σ H1 D I1 q1
def tNever:TS:=fun _ _ _=>False
theorem Z8:PS X st tNever:=fun _ _ _ _ _ _ h=>h.elim
end
noncomputable abbrev TG:=V->St->Hp->(St->Hp->Prop)->Prop
noncomputable abbrev TGs:=List V->St->Hp->(St->Hp->Prop)->Prop
def PG(X:Cx)(target:Expr)(t:TG):Prop:=
 ∀(pins:List (Addr×Obj)) (s:Shared) (σ:St) (H:Hp) (v:V) (u:Value) (Q:St->Hp->Prop),Inv X pins σ H s->RelV v u->t v σ H Q->
  wpAny (model X.prog X.w) X.A (assign target X.env u) (fun _ s'=>∃σ' H',Inv X pins σ' H' s'/\Q σ' H') X.xe s
def PGs(X:Cx)(ts:List Expr)(t:TGs):Prop:=
 ∀(pins:List (Addr×Obj)) (s:Shared) (σ:St) (H:Hp) (vs:List V) (us:List Value) (Q:St->Hp->Prop),Inv X pins σ H s->Vals vs us->t vs σ H Q->
  wpAny (model X.prog X.w) X.A (assignInOrder ((assignEach ts X.env).map (·.2)) us) (fun _ s'=>∃σ' H',Inv X pins σ' H' s'/\Q σ' H') X.xe s
noncomputable abbrev TSet:=V->V->V->Hp->(Hp->Prop)->Prop
def PSet(X:Cx)(t:TSet):Prop:=
 ∀(pins:List (Addr×Obj)) (s:Shared) (σ:St) (H:Hp) (o i v:V) (ov iv u:Value) (Q:Hp->Prop),Inv X pins σ H s->RelV o ov->RelV i iv->RelV v u->t o i v H Q->
  wpAny (model X.prog X.w) X.A (setItem ov iv u) (fun _ s'=>∃H',Inv X pins σ H' s'/\Q H') X.xe s
noncomputable abbrev TIp:=V->V->Hp->VK->Prop
def PIp(X:Cx)(op:Operator)(t:TIp):Prop:=
 ∀(pins:List (Addr×Obj)) (s:Shared) (σ:St) (H:Hp) (x y:V) (v u:Value) (Q:VK),Inv X pins σ H s->RelV x v->RelV y u->t x y H Q->
  wpAny (model X.prog X.w) X.A (inplaceOp op v u) (EP X pins σ Q) X.xe s
section
variable{X:Cx}{pos:Pos}
def gName(i:Nat):TG:=fun v σ H Q=>Q (σ.set i (some v)) H
theorem ju{i:Nat}{x:Str}(hN:X.N.Nodup)(hi:X.N[i]?=some x)(hx:Loc X.env.scope x)(hf:X.fn x=true\/X.env.scope.names.lookup x=some .local:=by first | exact .inl rfl | exact .inr rfl | assumption):PG X (.Name x pos) (gName i):=by
 intro pins s σ H v u Q I r h;exact wpAny_assign_Name (WM I hN hi hx r (fun s' I'=>⟨_,H,I',h⟩) hf)
def gNil:TGs:=fun vs σ H Q=>vs=[]/\Q σ H
def gCons(t:TG)(u:TGs):TGs:=fun vs σ H Q=>∃v r,vs=v::r/\t v σ H fun σ' H'=>u r σ' H' Q
theorem qc:PGs X [] gNil:=by
 intro pins s σ H vs us Q I r h;obtain⟨e,h⟩:=h;subst e;cases r;exact assignInOrder_nil ⟨σ,H,I,h⟩
theorem jG{e:Expr}{es:List Expr}{t:TG}{u:TGs}(h1:PG X e t)(h2:PGs X es u)
  (hs:(assignEach (e::es) X.env).map (·.2)=assign e X.env::(assignEach es X.env).map (·.2):=by rfl):PGs X (e::es) (gCons t u):=by
 intro pins s σ H vs us Q I r h;obtain⟨v,vr,e1,h⟩:=h;subst e1;cases r with
 | cons r rr=>
  rw[hs];refine assignInOrder_cons (thn (h1 pins s σ H _ _ _ I r h) fun _ s1 ⟨σ1,H1,I1,q1⟩=>?_);exact h2 pins s1 σ1 H1 _ _ Q I1 rr q1
def gTup(K:Frg)(n:Nat)(t:TGs):TG:=fun v σ H Q=>∃a xs,v = .ref a/\SqT K H a xs/\xs.length=n/\t xs σ H Q
theorem qY{es:List Expr}{k:Nat}{t:TGs}{n:Nat}(hc:X.calm=true)(h:PGs X es t)
  (hn:(assignEach es X.env).length=n:=by rfl) (hst:(assignEach es X.env).findIdx? (·.1)=none:=by rfl):PG X (.Tuple es k pos) (gTup X.K n t):=by
 intro pins s σ H v u Q I r hw;obtain⟨a,xs,e1,hq,hl,hw⟩:=hw;subst e1;cases r;obtain⟨its,rv,ht,hz⟩:=I.tuple hq;refine assign_Tuple_tuple (I.ok.hd hc) ht (by simp[hn,<-hl,rv.length]) hst fun h' hx=>?_
 have I1:Inv X pins σ H {s with heap:=h'}:=I.kept (t':=s.toks) fun b o e=>hx b o (vE (vI e)) e
 exact h pins _ σ H xs _ Q I1 (by simpa using rv) hw
def gSub(to ti:TE)(t:TSet):TG:=fun v σ H Q=>to σ H fun o H1=>ti σ H1 fun i H2=>t o i v H2 fun H3=>Q σ H3
theorem KN{o i:Expr}{to ti:TE}{t:TSet}(ho:PE X o to)(hi:PE X i ti)(hs:PSet X t)
  (ha:∀v,assign (.Subscript o i pos) X.env v=(do
   let ov <-holding [v] (eval o X.env)
   let iv <-holding [v,ov] (eval i X.env)
   standAt pos
   holding [v,ov,iv] (setItem ov iv v)
   release [v,ov,iv] []):=by intro _;rfl):PG X (.Subscript o i pos) (gSub to ti t):=by
 intro pins s σ H v u Q I r h;rw[ha];refine uk (wpAny_holding (thn (ho pins s σ H _ I h) fun ov s1 ⟨x,H1,I1,r1,q1⟩=>?_));refine uk (wpAny_holding (thn (hi pins s1 σ H1 _ I1 q1) fun iv s2 ⟨y,H2,I2,r2,q2⟩=>?_));refine uk (wpAny_standAt (uk (wpAny_holding (thn (hs pins s2 σ H2 x y v ov iv u _ I2 r1 r2 r q2) fun _ s3 ⟨H3,I3,q3⟩=>?_))));exact wpAny_release ⟨σ,H3,I3,q3⟩
def tAsg(te:TE)(g:TG):TS:=fun D σ H=>te σ H fun x H1=>g x σ H1 D.nx
theorem Y4{tg e:Expr}{te:TE}{g:TG}(he:PE X e te)(hg:PG X tg g)(hs:swapsWithSole [tg] e pos.line X.env=pure false:=by rfl)(hw:swappedStores [tg] e X.env=pure none:=by rfl)
  (h1:(assignEach [tg] X.env).map (·.2)=[assign tg X.env]:=by rfl):PS X (.Assign [tg] e pos) (tAsg te g):=by
 intro pins s σ H D I h;refine wpAny_Assign_stores (thn (he pins s σ H _ I h) fun v s1 ⟨x,H1,I1,r1,q1⟩=>?_) hs hw;rw[h1];exact thn (hg pins s1 σ H1 x v _ I1 r1 q1) fun _ s2 q=>q
theorem jo{i:Nat}{x:Str}{e:Expr}{te:TE}{pos':Pos}(hN:X.N.Nodup)(hi:X.N[i]?=some x)(hx:Loc X.env.scope x)(he:PE X e te)(hs:swapsWith e (some (.Name x pos')) pos.line X.env=pure false:=by rfl)(hf:X.fn x=true\/X.env.scope.names.lookup x=some .local:=by first | exact .inl rfl | exact .inr rfl | assumption) :
  PS X (.Assign [.Name x pos'] e pos) (tAsg te (gName i)):=by
 intro pins s σ H D I h;refine wpAny_Assign_Name (thn (he pins s σ H _ I h) fun v s1 ⟨y,H1,I1,r1,q1⟩=>?_) hs;exact WM I1 hN hi hx r1 (fun s2 I2=>⟨_,H1,I2,q1⟩) hf
def tAug(i:Nat)(te:TE)(ti:TIp):TS:=fun D σ H=>∃x,σ[i]?=some (some x)/\te σ H fun y H1=>ti x y H1 fun z H2=>D.nx (σ.set i (some z)) H2
theorem XR{i:Nat}{x:Str}{e:Expr}{te:TE}{op:Operator}{ti:TIp}{pos':Pos}(hN:X.N.Nodup)(hi:X.N[i]?=some x)(hx:Loc X.env.scope x)(he:PE X e te)(ho:PIp X op ti)(hf:X.fn x=true\/X.env.scope.names.lookup x=some .local:=by first | exact .inl rfl | exact .inr rfl | assumption) :
  PS X (.AugAssign (.Name x pos') op e pos) (tAug i te ti):=by
 intro pins s σ H D I h;obtain⟨v,e1,h⟩:=h;obtain⟨m,hn,hl⟩:=I.loc;have vis:Vis X.env.scope x:=by rcases hx with k | k;exact .inl k;exact .inr (.inl k)
 obtain⟨u,r,l⟩:=hl i x v hi e1 vis;refine wpAny_AugAssign_Name ?_;have go:wpAny (model X.prog X.w) X.A (eval e X.env) (fun w s₂=>wpAny (model X.prog X.w) X.A (inplaceOp op u w) (fun r s₃=>wpAny (model X.prog X.w) X.A (storeName X.env x r) (fun _=>SP X pins D .next) X.xe s₃) X.xe s₂) X.xe s:=by
  refine thn (he pins s σ H _ I h) fun w s1 ⟨y,H1,I1,r1,q1⟩=>?_
  refine thn (ho pins s1 σ H1 v y u w _ I1 r r1 q1) fun z s2 ⟨zv,H2,I2,r2,q2⟩=>?_
  exact WM I2 hN hi hx r2 (fun s3 I3=>⟨_,H2,I3,q2⟩) hf
 rcases l with⟨hk,hm⟩ | ⟨hk,c,hc,hcell⟩
 ·exact wpAny_loadName_local I.ok.kind hk hn hm go
 ·rcases hk with hk | hk
  ·exact wpAny_loadName_cell I.ok.kind hk hc hcell go
  ·rcases hx with k | k
   ·have:X.env.scope.names.lookup x=some .free:=hk;rw[k]at this;cases this
   ·have:X.env.scope.names.lookup x=some .free:=hk;rw[k]at this;cases this
noncomputable def ipI(f:Int->Int->Int):TIp:=fun x y H Q=>∃i j,x = .int i/\y = .int j/\Q (.int (f i j)) H
theorem Xp:PIp X .Add (ipI fun i j=>i+j):=by
 intro pins s σ H x y v u Q I r1 r2 h;obtain⟨i,j,e1,e2,q⟩:=h;subst e1;subst e2;obtain⟨t,rfl⟩:=r1;obtain⟨t',rfl⟩:=r2;exact iadd_int ⟨.int _,H,I.tok _,⟨_,rfl⟩,q⟩
end
section
variable{X:Cx}{pos:Pos}
def tWhile(c:TT)(tb:TS):TS:=fun D σ H=>∃W:Nat->St->Hp->Prop,(∃m,W m σ H)/\∀m σ H,W m σ H->
 c σ H fun b H1=>if b=true then∃N:St->Hp->Prop,(∀σ' H',N σ' H'->∃m',m'<m/\W m' σ' H')/\tb {D with nx:=N,ct:=N,bk:=D.nx} σ H1 else D.nx σ H1
theorem kW{c:Expr}{body:List Stmt}{tc:TT}{tb:TS}(hp:PassesOwn (model X.prog X.w) X.A X.env X.xe)(hc:PT X c tc)(hb:PSs X body tb):PS X (.While c body [] pos) (tWhile tc tb):=by
 intro pins s σ H D I h;obtain⟨W,⟨m0,w0⟩,turn⟩:=h;refine wpAny_While (codeAny_whileLoop (fun n s'=>∃σ' H',Inv X pins σ' H' s'/\W n σ' H') ?_ m0 ⟨σ,H,I,w0⟩);rintro n s1 ⟨σ1,H1,I1,w1⟩;refine wpAny_passesOwn hp (thn (hc pins s1 σ1 H1 _ I1 (turn n σ1 H1 w1)) fun b s2 ⟨H2,I2,q2⟩=>?_);cases b with
 | true=>
  obtain⟨N,hN,q2⟩:=q2;rw[vd rfl];refine wpAny_passesOwn hp (thn (hb pins s2 σ1 H2 _ I2 q2) fun f s3 q3=>?_);cases f with
  | next=>
   obtain⟨σ3,H3,I3,n3⟩:=q3;obtain⟨m',hm,w3⟩:=hN σ3 H3 n3;exact⟨m',hm,σ3,H3,I3,w3⟩
  | cont=>
   obtain⟨σ3,H3,I3,n3⟩:=q3;obtain⟨m',hm,w3⟩:=hN σ3 H3 n3;exact⟨m',hm,σ3,H3,I3,w3⟩
  | brk=>exact q3
  | ret v=>exact q3
 | false=>
  rw[vc vF];exact wpAny_execs_nil ⟨σ1,H2,I2,q2⟩
end
structure It where
 go:Nat->Hp->Prop
 yld:Nat->Hp->V->Hp->Prop
 stop:Nat->Hp->Prop
def FpOk(X:Cx)(pins:List (Addr×Obj))(H:Hp)(b:Addr):Prop:=
 H b=none/\b≠X.env.locals/\b∉X.fs/\(b∈X.ex\/X.s₀.heap.objs.size<=b)/\(∀x c,X.env.cells.lookup x=some c->c≠b)/\∀p∈X.pn++pins,p.1≠b
theorem Inv.fpOk{X:Cx}{pins:List (Addr×Obj)}{σ:St}{H H':Hp}{s:Shared}{b:Addr}(I:Inv X pins σ H s)(hb:s.heap.objs.size<=b)(hn:H' b=none):FpOk X pins H' b:=by
 refine⟨hn,vN (Nat.lt_of_lt_of_le I.lt hb),I.nofs hb,.inr (vV I.sz hb),fun x c e z=>?_,fun p hp z=>?_⟩
 ·obtain⟨v,q⟩:=I.cell x c e;exact ug (Nat.lt_of_lt_of_le q.lt (by rw[z];exact hb)) (Nat.lt_irrefl _)
 ·exact ug (Nat.lt_of_lt_of_le (vI (I.pin p hp).1) (by rw[z];exact hb)) (Nat.lt_irrefl _)
structure Turn(P:Program)(w:World)(K:Frg)(tg:Expr)(J:It)(fp:List Addr)(it:Addr)(tn:Nat->Heap->Prop):Prop where
 mem:it∈fp
 obj:∀i h,tn i h->∀b∈fp,∃o,h.get? b=some o/\∀v,o.data≠.cell v
 keep:∀i h h',tn i h->(∀b∈fp,∀o,h.get? b=some o->h'.get? b=some o)->tn i h'
 item:∀(X:Cx),X.prog=P->X.w=w->X.K=K->X.calm=true->∀(i:Nat) (pins:List (Addr×Obj)) (s:Shared) (σ:St) (H:Hp) (E:Value->Shared->Prop),Inv X pins σ H s->(∀b∈fp,FpOk X pins H b)->tn i s.heap->J.go i H->
  wpAny (model P w) X.A (pyNext (.ref it)) (fun r s1=>∃u,r=some u/\
   wpAny (model P w) X.A (letOwnedTupleGo tg (.ref it) u) (fun _ s2=>∃x H',Inv X pins σ H' s2/\RelV x u/\J.yld i H x H'/\tn (i+1) s2.heap/\∀b∈fp,H' b=none) E s1) E s
 done:∀(X:Cx),X.prog=P->X.w=w->X.K=K->X.calm=true->∀(i:Nat) (pins:List (Addr×Obj)) (s:Shared) (σ:St) (H:Hp) (E:Value->Shared->Prop),Inv X pins σ H s->(∀b∈fp,FpOk X pins H b)->tn i s.heap->J.stop i H->
  wpAny (model P w) X.A (pyNext (.ref it)) (fun r s1=>r=none/\Inv X pins σ H s1) E s
 self:∀(A:Around) (i:Nat) (s:Shared) (Q:Value->Shared->Prop) (E:Value->Shared->Prop),tn i s.heap->Q (.ref it) s->wpAny (model P w) A (pyIter (.ref it)) Q E s
noncomputable abbrev TI:=St->Hp->(It->Hp->Prop)->Prop
def PIE(X:Cx)(pins:List (Addr×Obj))(σ:St)(tg:Expr)(R:It->Hp->Prop)(itv:Value)(s2:Shared):Prop:=
 ∃(it:Addr) (fp:List Addr) (tn:Nat->Heap->Prop) (J:It) (H':Hp),itv = .ref it/\Inv X pins σ H' s2/\Turn X.prog X.w X.K tg J fp it tn/\tn 0 s2.heap/\(∀b∈fp,FpOk X pins H' b)/\R J H'
def PI(X:Cx)(tg iter:Expr)(wi:TI):Prop:=
 ∀(pins:List (Addr×Obj)) (s:Shared) (σ:St) (H:Hp) (R:It->Hp->Prop),Inv X pins σ H s->wi σ H R->
  wpAny (model X.prog X.w) X.A (eval iter X.env) (fun v s1=>wpAny (model X.prog X.w) X.A (pyIter v) (PIE X pins σ tg R) X.xe s1) X.xe s
theorem j0o{M:Model}{A:Around}{E:Value->Shared->Prop}{s:Shared}{tg:Expr}{it:Addr}{u:Value}{o:Obj}{n:String}{vs:Array Value}{Q:Unit->Shared->Prop}(ho:s.heap.get? it=some o)(hc:o.cls = .type n)(hd:o.data = .fields vs)
    (hn:["enumerate","zip","dict_itemiterator","dict_reverseitemiterator","odict_iterator","itertools.zip_longest","itertools.pairwise"].contains n=false) (hQ:Q () s):wpAny M A (letOwnedTupleGo tg (.ref it) u) Q E s:=by
  unfold letOwnedTupleGo;cases tg<;>first
    | exact uh hQ
    | (cases u<;>first
        | exact uh hQ
        | (refine uk (wpAny_load ho ?_)
           rw[hc,hd];show wpAny M A (if(["enumerate","zip","dict_itemiterator","dict_reverseitemiterator","odict_iterator","itertools.zip_longest","itertools.pairwise"].contains n&&vs[0]?==some (rawInt _))=true then _ else _) Q E s;rw[vc (by intro h;rw[hn,Bool.false_and]at h;cases h)];exact uh hQ))
def Itl(K:Frg)(a:Addr):It:=
 ⟨fun i H=>∃xs x,SqL K H a xs/\xs[i]?=some x,fun i H x H'=>H'=H/\∀xs,SqL K H a xs->xs[i]?=some x,fun i H=>∃xs,SqL K H a xs/\xs.length<=i⟩
def Itt(K:Frg)(a:Addr):It:=
 ⟨fun i H=>∃xs x,SqT K H a xs/\xs[i]?=some x,fun i H x H'=>H'=H/\∀xs,SqT K H a xs->xs[i]?=some x,fun i H=>∃xs,SqT K H a xs/\xs.length<=i⟩
def Itr(lo:Int)(n:Nat):It:=⟨fun i _=>i<n,fun i H x H'=>H'=H/\x = .int (lo+i),fun i _=>n<=i⟩
theorem j3K{P:Program}{w:World}{K:Frg}{tg:Expr}(a it:Addr):Turn P w K tg (Itl K a) [it] it (fun i h=>h.IsListIter it a i) where
 mem:=by simp
 obj:=fun i h st b hb=>by
  have e:b=it:=by simpa using hb
  subst e;obtain⟨o,e,c,d⟩:=st;exact⟨o,e,fun v z=>by rw[d]at z;cases z⟩
 keep:=fun i h h' st k=>st.at fun o e=>k it (by simp) o e
 item:=by
  intro X hP hw hK hc i pins s σ H E I hf st hg;subst hP hw hK;obtain⟨xs,x,hq,hx⟩:=hg;obtain⟨its,rv,p,hz⟩:=I.list hq;obtain⟨u,hu,ru⟩:=rv.get hx;obtain⟨f0,f1,f2,f3,f4,f5⟩:=hf it (by simp);refine wpAny_pyNext_list_item st p.isList (x:=u) (by simpa using hu) fun h' st' sb=>?_
  have I1:Inv X pins σ H {s with heap:=h'}:=I.turned (t':=s.toks) (fun b o hb e=>(sb.2 b hb).trans e) f0 f1 f3 f4 f5;obtain⟨o,e,c,d⟩:=id st';exact⟨u,rfl,j0o (s:={s with heap:=h'}) e c d (by decide) ⟨x,H,I1,ru,⟨rfl,fun ys hy=>by rw[I.list_inj hy hq];exact hx⟩,st',fun b hb=>(hf b hb).1⟩⟩
 done:=by
  intro X hP hw hK hc i pins s σ H E I hf st hg;subst hP hw hK;obtain⟨xs,hq,hx⟩:=hg;obtain⟨its,rv,p,hz⟩:=I.list hq;obtain⟨f0,f1,f2,f3,f4,f5⟩:=hf it (by simp);have hl:=rv.length;exact wpAny_pyNext_list_end (I.ok.hd hc) st p.isList (by simp;lia) fun h' eb=>⟨rfl,I.turned (t':=s.toks) (fun b o hb e=>eb b o hb e) f0 f1 f3 f4 f5⟩
 self:=fun _ _ _ _ _ st h=>wpAny_pyIter_listiter st h
theorem j1X{P:Program}{w:World}{K:Frg}{tg:Expr}(a it:Addr):Turn P w K tg (Itt K a) [it] it (fun i h=>h.IsTupleIter it a i) where
 mem:=by simp
 obj:=fun i h st b hb=>by
  have e:b=it:=by simpa using hb
  subst e;obtain⟨o,e,c,d⟩:=st;exact⟨o,e,fun v z=>by rw[d]at z;cases z⟩
 keep:=fun i h h' st k=>st.at fun o e=>k it (by simp) o e
 item:=by
  intro X hP hw hK hc i pins s σ H E I hf st hg;subst hP hw hK;obtain⟨xs,x,hq,hx⟩:=hg;obtain⟨its,rv,p,hz⟩:=I.tuple hq;obtain⟨u,hu,ru⟩:=rv.get hx;obtain⟨f0,f1,f2,f3,f4,f5⟩:=hf it (by simp);refine wpAny_pyNext_tuple_item st (show s.heap.IsTuple a its.toArray from p) (x:=u) (by simpa using hu) fun h' st' sb=>?_
  have I1:Inv X pins σ H {s with heap:=h'}:=I.turned (t':=s.toks) (fun b o hb e=>(sb.2 b hb).trans e) f0 f1 f3 f4 f5;obtain⟨o,e,c,d⟩:=id st';exact⟨u,rfl,j0o (s:={s with heap:=h'}) e c d (by decide) ⟨x,H,I1,ru,⟨rfl,fun ys hy=>by rw[I.tuple_inj hy hq];exact hx⟩,st',fun b hb=>(hf b hb).1⟩⟩
 done:=by
  intro X hP hw hK hc i pins s σ H E I hf st hg;subst hP hw hK;obtain⟨xs,hq,hx⟩:=hg;obtain⟨its,rv,p,hz⟩:=I.tuple hq;obtain⟨f0,f1,f2,f3,f4,f5⟩:=hf it (by simp);have hl:=rv.length;exact wpAny_pyNext_tuple_end (I.ok.hd hc) st (show s.heap.IsTuple a its.toArray from p) (by simp;lia) fun h' eb=>⟨rfl,I.turned (t':=s.toks) (fun b o hb e=>eb b o hb e) f0 f1 f3 f4 f5⟩
 self:=fun _ _ _ _ _ st h=>wpAny_pyIter_tupleiter st h
theorem j1W{P:Program}{w:World}{K:Frg}{tg:Expr}(it:Addr)(lo:Int)(n:Nat):Turn P w K tg (Itr lo n) [it] it (fun i h=>IsRangeIter h it (lo+(i:Nat)*1) ((n:Int)-(i:Nat)) 1) where
 mem:=by simp
 obj:=fun i h st b hb=>by
  have e:b=it:=by simpa using hb
  subst e;exact⟨_,st,fun v z=>by
   have z':Data.fields _=Data.cell v:=z;cases z'⟩
 keep:=fun i h h' st k=>k it (by simp) _ st
 item:=by
  intro X hP hw hK hc i pins s σ H E I hf st hg;subst hP hw hK;obtain⟨f0,f1,f2,f3,f4,f5⟩:=hf it (by simp);have W:=Walks.range (prog:=X.prog) (w:=X.w) (I.ok.hd hc) it lo 1 n;refine W.item i s _ _ hg st fun v h' tk hv st' kk=>?_
  obtain⟨t,rfl⟩:=hv;have I1:Inv X pins σ H {s with heap:=h',toks:=tk}:=I.turned (fun b o hb e=>kk b o (by simpa using hb) e) f0 f1 f3 f4 f5;refine⟨_,rfl,j0o (s:={s with heap:=h',toks:=tk}) (n:="range_iterator") st' rfl rfl (by decide) ⟨.int (lo+i),H,I1,⟨t,?_⟩,⟨rfl,rfl⟩,st',fun b hb=>(hf b hb).1⟩⟩;rw[Int.mul_one]
 done:=by
  intro X hP hw hK hc i pins s σ H E I hf st hg;subst hP hw hK;obtain⟨f0,f1,f2,f3,f4,f5⟩:=hf it (by simp);exact wpAny_pyNext_range_end (I.ok.hd hc) st (by have:n<=i:=hg;lia) fun h' eb=>⟨rfl,I.turned (t':=s.toks) (fun b o hb e=>eb b o hb e) f0 f1 f3 f4 f5⟩
 self:=fun _ _ _ _ _ st h=>wpAny_pyIter_rangeiter st h
section
variable{X:Cx}{tg:Expr}
def iList(K:Frg)(tl:TE):TI:=fun σ H R=>tl σ H fun x H1=>∃a,x = .ref a/\(∃xs,SqL K H1 a xs)/\R (Itl K a) H1
def iTup(K:Frg)(tl:TE):TI:=fun σ H R=>tl σ H fun x H1=>∃a,x = .ref a/\(∃xs,SqT K H1 a xs)/\R (Itt K a) H1
theorem Jh{l:Expr}{tl:TE}(hl:PE X l tl):PI X tg l (iList X.K tl):=by
 intro pins s σ H R I h;refine thn (hl pins s σ H _ I h) fun v s1 ⟨x,H1,I1,r1,q1⟩=>?_
 obtain⟨a,e,⟨xs,hq⟩,q⟩:=q1;subst e;cases r1;obtain⟨its,rv,p,hz⟩:=I1.list hq;refine wpAny_pyIter_list p.isList ?_;refine⟨s1.heap.objs.size,[s1.heap.objs.size],_,_,H1,rfl,I1.kept (t':=s1.toks) fun b o e=>vJ _ e,j3K a _,⟨_,Heap.get?_push_size _ rfl,rfl,rfl⟩,fun b hb=>?_,q⟩;have e:b=s1.heap.objs.size:=by simpa using hb
 subst e;exact I1.fpOk (vb _) (I1.hok.fresh (vb _))
theorem j1L{l:Expr}{tl:TE}(hl:PE X l tl):PI X tg l (iTup X.K tl):=by
 intro pins s σ H R I h;refine thn (hl pins s σ H _ I h) fun v s1 ⟨x,H1,I1,r1,q1⟩=>?_
 obtain⟨a,e,⟨xs,hq⟩,q⟩:=q1;subst e;cases r1;obtain⟨its,rv,p,hz⟩:=I1.tuple hq;refine wpAny_pyIter_tuple (show s1.heap.IsTuple a its.toArray from p) ?_;refine⟨s1.heap.objs.size,[s1.heap.objs.size],_,_,H1,rfl,I1.kept (t':=s1.toks) fun b o e=>vJ _ e,j1X a _,⟨_,Heap.get?_push_size _ rfl,rfl,rfl⟩,fun b hb=>?_,q⟩;have e:b=s1.heap.objs.size:=by simpa using hb
 subst e;exact I1.fpOk (vb _) (I1.hok.fresh (vb _))
theorem j4H{pins:List (Addr×Obj)}{σ:St}{H:Hp}{s:Shared}{R:It->Hp->Prop}{E:Value->Shared->Prop}{lo hi:Int}{t u v:Tok}{tk:Nat}(I:Inv X pins σ H s)(h1 : -(2^62)<=lo)(h2:lo<2^62)(h3 : -(2^62)<=hi)(h4:hi<2^62)
  (q:R (Itr lo (hi-lo).toNat) H):wpAny (model X.prog X.w) X.A (pyIter (.ref s.heap.objs.size)) (PIE X pins σ tg R) E {s with heap:=s.heap.push {cls:=.type "range",data:=.fields #[.int lo t,.int hi u,.int 1 v]},toks:=tk}:=by
 refine wpAny_pyIter_range (IsRange.new ..) (small_one h1 h2 h3 h4) ?_;have I1:Inv X pins σ H {s with heap:=s.heap.push {cls:=.type "range",data:=.fields #[.int lo t,.int hi u,.int 1 v]},toks:=tk}:=I.kept fun b o e=>vJ _ e
 refine⟨(s.heap.push {cls:=.type "range",data:=.fields #[.int lo t,.int hi u,.int 1 v]}).objs.size,[(s.heap.push {cls:=.type "range",data:=.fields #[.int lo t,.int hi u,.int 1 v]}).objs.size],_,_,H,rfl,
  I1.kept (t':=tk) fun b o e=>vJ _ e,j1W _ lo (hi-lo).toNat,?_,fun b hb=>?_,q⟩
 ·have e1:lo+((0:Nat):Int)*1=lo:=by simp
  have e2:(((hi-lo).toNat:Nat):Int)-((0:Nat):Int)=Builtin.Range.rangeSize lo hi 1:=by rw[rangeSize_one];split<;>lia
  show IsRangeIter _ _ (lo+((0:Nat):Int)*1) ((((hi-lo).toNat:Nat):Int)-((0:Nat):Int)) 1;rw[e1,e2];exact Heap.get?_push_size _ rfl
 ·have e:b=(s.heap.push {cls:=.type "range",data:=.fields #[.int lo t,.int hi u,.int 1 v]}).objs.size:=by simpa using hb
  subst e;exact I1.fpOk (vb _) (I1.hok.fresh (vb _))
def iRng1(ta:TA):TI:=fun σ H R=>ta σ H fun vs H1=>∃j:Int,vs=[.int j]/\-(2^62)<=j/\j<2^62/\R (Itr 0 j.toNat) H1
theorem QG{a:Expr}{ta:TA}{p pos:Pos}(hg:Gl X "range")(hm:X.mg "range"= none)(ha:PA X [a] ta)(hs:starEach [a] X.env=[(false,eval a X.env)]:=by rfl):PI X tg (.Call (.Name "range" p) [a] [] pos) (iRng1 ta):=by
 intro pins s σ H R I h;refine Call_ (yX I hg hm boot_range (PyProof.Rows.callWith_type1 (thn (ha pos pins s σ H _ I h) fun us s1 ⟨vs,H1,I1,r1,q1⟩=>?_) hs rfl));obtain⟨j,e,q1,q2,q⟩:=q1;subst e;cases r1 with
 | cons r rr=>
  cases rr;obtain⟨t,rfl⟩:=r;exact call_range_1 (j4H I1 (by lia) (by lia) q1 q2 (by simpa using q))
def tFor(wi:TI)(g:TG)(tb:TS):TS:=fun D σ H=>wi σ H fun J H1=>∃W:Nat->Nat->St->Hp->Prop,(∃m,W 0 m σ H1)/\∀i m σ H,W i m σ H->
 (J.stop i H/\D.nx σ H)\/(J.go i H/\∃N:St->Hp->Prop,(∀σ' H',N σ' H'->∃m',m'<m/\W (i+1) m' σ' H')/\∀x H',J.yld i H x H'->g x σ H' fun σ2 H2=>tb {D with nx:=N,ct:=N,bk:=D.nx} σ2 H2)
noncomputable def pinsAt(fp:List Addr)(h:Heap):List (Addr×Obj):=fp.filterMap fun b=>(h.get? b).map fun o=>(b,o)
theorem yv{fp:List Addr}{h:Heap}{b:Addr}{o:Obj}(hb:b∈fp)(e:h.get? b=some o):(b,o)∈pinsAt fp h:=mem_filterMap.mpr ⟨b,hb,by rw[e];rfl⟩
theorem j3t{fp:List Addr}{h:Heap}{p:Addr×Obj}(hp:p∈pinsAt fp h):p.1∈fp/\h.get? p.1=some p.2:=by
 obtain⟨b,hb,e⟩:=mem_filterMap.mp hp;cases q:h.get? b with
 | none=>rw[q]at e;cases e
 | some o=>
  rw[q]at e;have e':(b,o)=p:=vL e;subst e';exact⟨hb,q⟩
theorem Inv.pinned{pins:List (Addr×Obj)}{σ:St}{H:Hp}{s:Shared}{fp:List Addr}(I:Inv X pins σ H s)(hf:∀b∈fp,FpOk X pins H b)(ho:∀b∈fp,∃o,s.heap.get? b=some o/\∀v,o.data≠.cell v):Inv X (pins++pinsAt fp s.heap) σ H s:=
 I.pins_of fun p hp=>(vh.mp hp).elim (fun z=>I.pin p (mem_append_right _ z)) fun z=>by
  obtain⟨hb,e⟩:=j3t z;obtain⟨f0,f1,f2,_⟩:=hf p.1 hb;obtain⟨o,e',d⟩:=ho p.1 hb;rw[e]at e';cases e';exact⟨e,f0,f1,f2,d⟩
theorem Inv.unpinned{pins pl:List (Addr×Obj)}{σ:St}{H:Hp}{s:Shared}(I:Inv X (pins++pl) σ H s):Inv X pins σ H s:=I.pins_of fun p hp=>I.pin p (mem_append_right _ (mem_append_left _ hp))
theorem Jt{iter:Expr}{body:List Stmt}{wi:TI}{g:TG}{tb:TS}{pos:Pos}(hp:PassesOwn (model X.prog X.w) X.A X.env X.xe)(hc:X.calm=true)(hi:PI X tg iter wi)(hg:PG X tg g)(hb:PSs X body tb)
  (hs:∀x,foldedSetIterable iter X.env x=pure x:=by intro _;rfl):PS X (.For tg iter body [] pos) (tFor wi g tb):=by
 intro pins s σ H D I h;refine wpAny_For (thn (hi pins s σ H _ I h) fun v s1 h1=>thn h1 fun itv s2 h2=>?_) hs;obtain⟨it,fp,tn,J,H2,e,I2,T,st2,f2,W,⟨m0,w0⟩,turn⟩:=h2;subst e;have stat:∀{H':Hp},(∀b∈fp,H' b=none)->∀b∈fp,FpOk X pins H' b:=fun hn b hb=>⟨hn b hb,(f2 b hb).2⟩
 refine codeAny_forLoop_any (fun n s'=>∃i σ' H',Inv X pins σ' H' s'/\tn i s'.heap/\(∀b∈fp,H' b=none)/\W i n σ' H') ?_ m0 ⟨0,σ,H2,I2,st2,fun b hb=>(f2 b hb).1,w0⟩;rintro n s3 ⟨i,σ3,H3,I3,st3,fr3,w3⟩;rcases turn i n σ3 H3 w3 with⟨stop,qn⟩ | ⟨go,N,hN,step⟩
 ·refine wpAny_passesOwn hp (thn (T.done X rfl rfl rfl hc i pins s3 σ3 H3 X.xe I3 (stat fr3) st3 stop) fun r s4 ⟨hr,I4⟩=>?_);subst hr;exact wpAny_execs_nil ⟨σ3,H3,I4,qn⟩
 ·refine wpAny_passesOwn hp (thn (T.item X rfl rfl rfl hc i pins s3 σ3 H3 X.xe I3 (stat fr3) st3 go) fun r s4 ⟨u,hr,h4⟩=>?_);subst hr;refine wpAny_passesOwn hp (thn h4 fun _ s5 ⟨x,H5,I5,r5,y5,st5,fr5⟩=>?_);have I5':=I5.pinned (stat fr5) (T.obj _ _ st5);refine wpAny_passesOwn hp (thn (hg _ s5 σ3 H5 x u _ I5' r5 (step x H5 y5)) fun _ s6 ⟨σ6,H6,I6,q6⟩=>?_);refine wpAny_passesOwn hp (thn (hb _ s6 σ6 H6 _ I6 q6) fun f s7 q7=>?_);have again:∀{σ7:St} {H7:Hp},Inv X (pins++pinsAt fp s5.heap) σ7 H7 s7->N σ7 H7->∃m,m<n/\∃i σ' H',Inv X pins σ' H' s7/\tn i s7.heap/\(∀b∈fp,H' b=none)/\W i m σ' H':=fun {σ7 H7} I7 n7=>by
   obtain⟨m',hm,w7⟩:=hN σ7 H7 n7;refine⟨m',hm,i+1,σ7,H7,I7.unpinned,T.keep _ _ _ st5 fun b hb o e=>(I7.pin (b,o) (mem_append_right _ (mem_append_right _ (yv hb e)))).1,fun b hb=>?_,w7⟩;obtain⟨o,e,d⟩:=T.obj _ _ st5 b hb;exact(I7.pin (b,o) (mem_append_right _ (mem_append_right _ (yv hb e)))).2.1
  cases f with
  | next=>obtain⟨σ7,H7,I7,n7⟩:=q7;exact again I7 n7
  | cont=>obtain⟨σ7,H7,I7,n7⟩:=q7;exact again I7 n7
  | brk=>obtain⟨σ7,H7,I7,q7⟩:=q7;exact⟨σ7,H7,I7.unpinned,q7⟩
  | ret v=>obtain⟨x7,σ7,H7,I7,r7,q7⟩:=q7;exact⟨x7,σ7,H7,I7.unpinned,r7,q7⟩
end
theorem qa{K:Frg}{a:Addr}{xs:List V}{g:TG}{tb:TS}{D:Ends}{σ:St}{H:Hp}(Pv:Nat->St->Hp->Prop)(h0:Pv 0 σ H)(hl:∀i σ H,i<=xs.length->Pv i σ H->SqL K H a xs)
  (hs:∀i x σ H,xs[i]?=some x->Pv i σ H->g x σ H fun σ2 H2=>tb {D with nx:=Pv (i+1),ct:=Pv (i+1),bk:=D.nx} σ2 H2) (hd:∀σ H,Pv xs.length σ H->D.nx σ H) :
  ∃W:Nat->Nat->St->Hp->Prop,(∃m,W 0 m σ H)/\∀i m σ H,W i m σ H->
   ((Itl K a).stop i H/\D.nx σ H)\/((Itl K a).go i H/\∃N:St->Hp->Prop,(∀σ' H',N σ' H'->∃m',m'<m/\W (i+1) m' σ' H')/\∀x H',(Itl K a).yld i H x H'->g x σ H' fun σ2 H2=>tb {D with nx:=N,ct:=N,bk:=D.nx} σ2 H2):=by
 refine⟨fun i m σ H=>m=xs.length-i/\i<=xs.length/\Pv i σ H,⟨xs.length,by simp,va _,h0⟩,?_⟩;rintro i m σ H ⟨rfl,hi,p⟩;have q:=hl i σ H hi p;by_cases hlt:i<xs.length
 ·refine .inr ⟨⟨xs,xs[i],q,by simp[hlt]⟩,Pv (i+1),fun σ' H' p'=>⟨xs.length-(i+1),by lia,rfl,hlt,p'⟩,fun x H' y=>?_⟩;obtain⟨e,y⟩:=y;subst e;exact hs i x σ _ (y xs q) p
 ·have e:i=xs.length:=by lia
  subst e;exact .inl ⟨⟨xs,q,vb _⟩,hd σ H p⟩
theorem zh{lo:Int}{n:Nat}{g:TG}{tb:TS}{D:Ends}{σ:St}{H:Hp}(Pv:Nat->St->Hp->Prop)(h0:Pv 0 σ H)
  (hs:∀i σ H,i<n->Pv i σ H->g (.int (lo+i)) σ H fun σ2 H2=>tb {D with nx:=Pv (i+1),ct:=Pv (i+1),bk:=D.nx} σ2 H2) (hd:∀σ H,Pv n σ H->D.nx σ H) :
  ∃W:Nat->Nat->St->Hp->Prop,(∃m,W 0 m σ H)/\∀i m σ H,W i m σ H->
   ((Itr lo n).stop i H/\D.nx σ H)\/((Itr lo n).go i H/\∃N:St->Hp->Prop,(∀σ' H',N σ' H'->∃m',m'<m/\W (i+1) m' σ' H')/\∀x H',(Itr lo n).yld i H x H'->g x σ H' fun σ2 H2=>tb {D with nx:=N,ct:=N,bk:=D.nx} σ2 H2):=by
 refine⟨fun i m σ H=>m=n-i/\i<=n/\Pv i σ H,⟨n,by simp,va _,h0⟩,?_⟩;rintro i m σ H ⟨rfl,hi,p⟩;by_cases hlt:i<n
 ·refine .inr ⟨hlt,Pv (i+1),fun σ' H' p'=>⟨n-(i+1),by lia,rfl,hlt,p'⟩,fun x H' y=>?_⟩;obtain⟨e,y⟩:=y;subst e y;exact hs i σ _ hlt p
 ·have e:i=n:=by lia
  subst e;exact .inl ⟨vb _,hd σ H p⟩
noncomputable abbrev R2:=V->V->Hp->VK->Prop
def OpR(X:Cx)(f:Value->Value->Sem Value)(r:R2):Prop:=
 ∀(pins:List (Addr×Obj)) (s:Shared) (σ:St) (H:Hp) (x y:V) (v u:Value) (Q:VK),Inv X pins σ H s->RelV x v->RelV y u->r x y H Q->
  wpAny (model X.prog X.w) X.A (f v u) (EP X pins σ Q) X.xe s
def UnR(X:Cx)(f:Value->Sem Value)(r:V->Hp->VK->Prop):Prop:=
 ∀(pins:List (Addr×Obj)) (s:Shared) (σ:St) (H:Hp) (x:V) (v:Value) (Q:VK),Inv X pins σ H s->RelV x v->r x H Q->
  wpAny (model X.prog X.w) X.A (f v) (EP X pins σ Q) X.xe s
def CallR(X:Cx)(f:Value)(r:List V->Hp->VK->Prop):Prop:=
 ∀(pins:List (Addr×Obj)) (s:Shared) (σ:St) (H:Hp) (xs:List V) (us:List Value) (Q:VK),Inv X pins σ H s->Vals xs us->r xs H Q->
  wpAny (model X.prog X.w) X.A (call f us) (EP X pins σ Q) X.xe s
def TruR(X:Cx)(r:V->Hp->(Bool->Hp->Prop)->Prop):Prop:=
 ∀(pins:List (Addr×Obj)) (s:Shared) (σ:St) (H:Hp) (x:V) (v:Value) (Q:Bool->Hp->Prop),Inv X pins σ H s->RelV x v->r x H Q->
  wpAny (model X.prog X.w) X.A (truthy v) (TP X pins σ Q) X.xe s
def tOp(r:R2)(ta tb:TE):TE:=fun σ H Q=>ta σ H fun x H1=>tb σ H1 fun y H2=>r x y H2 Q
def tUn(r:V->Hp->VK->Prop)(ta:TE):TE:=fun σ H Q=>ta σ H fun x H1=>r x H1 Q
def rI(C:Int->Int->Prop)(g:Int->Int->V):R2:=fun x y H Q=>∃i j,x = .int i/\y = .int j/\C i j/\Q (g i j) H
def rI0(g:Int->Int->V):R2:=fun x y H Q=>∃i j,x = .int i/\y = .int j/\Q (g i j) H
noncomputable def rU(g:Int->V):V->Hp->VK->Prop:=fun x H Q=>∃i,x = .int i/\Q (g i) H
section
variable{X:Cx}{a b c:Expr}{ta tb tc:TE}{pos:Pos}
theorem binT(ha:PE X a ta)(hb:PE X b tb){pins:List (Addr×Obj)}{s:Shared}{σ:St}{H:Hp}{R:V->V->Hp->Prop}(I:Inv X pins σ H s)
  (h:ta σ H fun x H1=>tb σ H1 fun y H2=>R x y H2) {Q:Value->Shared->Prop} {f:Value->Value->Sem Value}
  (hf:∀v u s2 x y H2,Inv X pins σ H2 s2->RelV x v->RelV y u->R x y H2->wpAny (model X.prog X.w) X.A (f v u) Q X.xe s2) :
  wpAny (model X.prog X.w) X.A (eval a X.env) (fun v s₁=>wpAny (model X.prog X.w) X.A (eval b X.env) (fun u s₂=>wpAny (model X.prog X.w) X.A (f v u) Q X.xe s₂) X.xe s₁) X.xe s:=by
 refine thn (ha pins s σ H _ I h) fun v s1 ⟨x,H1,I1,r1,q1⟩=>?_
 refine thn (hb pins s1 σ H1 _ I1 q1) fun u s2 ⟨y,H2,I2,r2,q2⟩=>?_
 exact hf v u s2 x y H2 I2 r1 r2 q2
theorem jh{op:Operator}{r:R2}(ho:OpR X (binaryOp op) r)(ha:PE X a ta)(hb:PE X b tb):PE X (.BinOp a op b pos) (tOp r ta tb):=by
 intro pins s σ H Q I h;exact wpAny_BinOp (binT ha hb I h fun v u s2 x y H2 I2 rx ry q=>ho pins s2 σ H2 x y v u Q I2 rx ry q)
theorem wm{op:UnaryOp}{r:V->Hp->VK->Prop}(ho:UnR X (unaryOp op) r)(ha:PE X a ta):PE X (.UnaryOp op a pos) (tUn r ta):=by
 intro pins s σ H Q I h;exact UnaryOp_ (thn (ha pins s σ H _ I h) fun v s1 ⟨x,H1,I1,r1,q1⟩=>ho pins s1 σ H1 x v Q I1 r1 q1)
theorem opI{f:Value->Value->Sem Value}{C:Int->Int->Prop}{g:Int->Int->Int}
  (rule:∀(i j:Int) (t u:Tok) (s:Shared) (Q:Value->Shared->Prop) (E:Value->Shared->Prop),C i j->Q (.int (g i j) s.toks) {s with toks:=s.toks+1}->wpAny (model X.prog X.w) X.A (f (.int i t) (.int j u)) Q E s) :
  OpR X f (rI C fun i j=>.int (g i j)):=by
 intro pins s σ H x y v u Q I rx ry h;obtain⟨i,j,rfl,rfl,hc,q⟩:=h;obtain⟨t,rfl⟩:=rx;obtain⟨t',rfl⟩:=ry;exact rule i j t t' s _ _ hc ⟨.int (g i j),H,I.tok _,⟨_,rfl⟩,q⟩
theorem opI0{f:Value->Value->Sem Value}{g:Int->Int->Int}
  (rule:∀(i j:Int) (t u:Tok) (s:Shared) (Q:Value->Shared->Prop) (E:Value->Shared->Prop),Q (.int (g i j) s.toks) {s with toks:=s.toks+1}->wpAny (model X.prog X.w) X.A (f (.int i t) (.int j u)) Q E s) :
  OpR X f (rI0 fun i j=>.int (g i j)):=by
 intro pins s σ H x y v u Q I rx ry h;obtain⟨i,j,rfl,rfl,q⟩:=h;obtain⟨t,rfl⟩:=rx;obtain⟨t',rfl⟩:=ry;exact rule i j t t' s _ _ ⟨.int (g i j),H,I.tok _,⟨_,rfl⟩,q⟩
theorem opB0{f:Value->Value->Sem Value}{g:Int->Int->Bool}
  (rule:∀(i j:Int) (t u:Tok) (s:Shared) (Q:Value->Shared->Prop) (E:Value->Shared->Prop),Q (.bool (g i j)) s->wpAny (model X.prog X.w) X.A (f (.int i t) (.int j u)) Q E s) :
  OpR X f (rI0 fun i j=>.bl (g i j)):=by
 intro pins s σ H x y v u Q I rx ry h;obtain⟨i,j,rfl,rfl,q⟩:=h;obtain⟨t,rfl⟩:=rx;obtain⟨t',rfl⟩:=ry;exact rule i j t t' s _ _ ⟨.bl (g i j),H,I,rfl,q⟩
def CPow(i j:Int):Prop:=0<=j/\j<=1000000/\i.natAbs<2^64
theorem jI:OpR X (binaryOp .Add) (rI0 fun i j=>.int (i+j)):=opI0 fun _ _ _ _ _ _ _ q=>add_int q
theorem JK:OpR X (binaryOp .Sub) (rI0 fun i j=>.int (i-j)):=opI0 fun _ _ _ _ _ _ _ q=>sub_int q
theorem Je:OpR X (binaryOp .Mod) (rI (fun _ j=>0<j) fun i j=>.int (i%j)):=opI fun i j _ _ _ _ _ hc q=>by
 have h1:(0:Int)<j:=hc;exact mod_int' (by lia) (by rw[Int.fmod_eq_emod_of_nonneg i (by lia)];exact q)
theorem zL:OpR X (binaryOp .Pow) (rI CPow fun i j=>.int (i^j.toNat)):=opI fun _ _ _ _ _ _ _ hc q=>pow_int_small hc.1 hc.2.1 hc.2.2 q
theorem unI{f:Value->Sem Value}{g:Int->Int}
  (rule:∀(i:Int) (t:Tok) (s:Shared) (Q:Value->Shared->Prop) (E:Value->Shared->Prop),Q (.int (g i) s.toks) {s with toks:=s.toks+1}->wpAny (model X.prog X.w) X.A (f (.int i t)) Q E s) :
  UnR X f (rU fun i=>.int (g i)):=by
 intro pins s σ H x v Q I rx h;obtain⟨i,rfl,q⟩:=h;obtain⟨t,rfl⟩:=rx;exact rule i t s _ _ ⟨.int (g i),H,I.tok _,⟨_,rfl⟩,q⟩
theorem Yk:UnR X (unaryOp .USub) (rU fun i=>.int (-i)):=unI fun _ _ _ _ _ q=>neg_int q
end
noncomputable def scal:V->V->Bool
 | .non,.non=>true | .non,.int _=>true | .int _,.non=>true | .non,.bl _=>true | .bl _,.non=>true | .non,.str _=>true | .str _,.non=>true
 | .int _,.int _=>true | .bl _,.bl _=>true | .str _,.str _=>true | .byt _,.byt _=>true
 | .int _,.str _=>true | .str _,.int _=>true | .bl _,.str _=>true | .str _,.bl _=>true
 | _,_=>false
def rEq:R2:=fun x y H Q=>scal x y=true/\Q (.bl (decide (x=y))) H
def rNe:R2:=fun x y H Q=>scal x y=true/\Q (.bl (!decide (x=y))) H
theorem j2c{i j:Int}:decide (V.int i=V.int j)=(i==j):=by
 rw[Bool.eq_iff_iff];simp
theorem j3V{i j:Bool}:decide (V.bl i=V.bl j)=(i==j):=by
 rw[Bool.eq_iff_iff];simp
theorem j2d{i j:Str}:decide (V.str i=V.str j)=(i==j):=by
 rw[Bool.eq_iff_iff];simp
theorem j2b{i j:Array UInt8}:decide (V.byt i=V.byt j)=(i.toList==j.toList):=by
 rw[Bool.eq_iff_iff];cases i;cases j;simp
section
variable{X:Cx}{a b c:Expr}{ta tb tc:TE}{pos:Pos}
theorem Ji{pins:List (Addr×Obj)}{σ:St}{H:Hp}{s:Shared}{Q:VK}{k k':Bool}(I:Inv X pins σ H s)(q:Q (.bl k) H)(e:k=k'):EP X pins σ Q (.bool k') s:=by
 subst e;exact⟨.bl k,H,I,rfl,q⟩
theorem Js:OpR X (compareOp .Eq) rEq:=by
 intro pins s σ H x y v u Q I rx ry h;obtain⟨hs,q⟩:=h;cases x with
 | non=>
  cases rx;cases y with
  | non=>cases ry;exact PySem.EqNone.eq_none_none (Ji I q (by simp))
  | bl j=>cases ry;exact PySem.EqNone.eq_none_bool (Ji I q (by simp))
  | int j=>obtain⟨t',rfl⟩:=ry;exact PySem.EqNone.eq_none_int (Ji I q (by simp))
  | str j=>obtain⟨t',rfl⟩:=ry;exact PySem.EqNone.eq_none_str (Ji I q (by simp))
  | _=>exact ug (show false=true from hs) vF
 | bl i=>
  cases rx;cases y with
  | non=>cases ry;exact PySem.EqNone.eq_bool_none (Ji I q (by simp))
  | bl j=>cases ry;exact eq_bool (Ji I q j3V)
  | str j=>obtain⟨t',rfl⟩:=ry;exact PySem.EqMixed.eq_bool_str (Ji I q (by simp))
  | _=>exact ug (show false=true from hs) vF
 | int i=>
  obtain⟨t,rfl⟩:=rx;cases y with
  | non=>cases ry;exact PySem.EqNone.eq_int_none (Ji I q (by simp))
  | int j=>obtain⟨t',rfl⟩:=ry;exact eq_int (Ji I q j2c)
  | str j=>obtain⟨t',rfl⟩:=ry;exact PySem.EqMixed.eq_int_str (Ji I q (by simp))
  | _=>exact ug (show false=true from hs) vF
 | str i=>
  obtain⟨t,rfl⟩:=rx;cases y with
  | non=>cases ry;exact PySem.EqNone.eq_str_none (Ji I q (by simp))
  | bl j=>cases ry;exact PySem.EqMixed.eq_str_bool (Ji I q (by simp))
  | int j=>obtain⟨t',rfl⟩:=ry;exact PySem.EqMixed.eq_str_int (Ji I q (by simp))
  | str j=>obtain⟨t',rfl⟩:=ry;exact eq_str (Ji I q j2d)
  | _=>exact ug (show false=true from hs) vF
 | byt i=>
  obtain⟨t,rfl⟩:=rx;cases y with
  | byt j=>obtain⟨t',rfl⟩:=ry;exact PySem.W.eq_bytes (Ji I q j2b)
  | _=>exact ug (show false=true from hs) vF
 | _=>cases y<;>exact ug (show false=true from hs) vF
theorem j6V:OpR X (compareOp .NotEq) rNe:=by
 intro pins s σ H x y v u Q I rx ry h;obtain⟨hs,q⟩:=h;cases x with
 | non=>
  cases rx;cases y with
  | non=>cases ry;exact PySem.EqNone.ne_none_none (Ji I q (by simp))
  | bl j=>cases ry;exact PySem.EqNone.ne_none_bool (Ji I q (by simp))
  | int j=>obtain⟨t',rfl⟩:=ry;exact PySem.EqNone.ne_none_int (Ji I q (by simp))
  | str j=>obtain⟨t',rfl⟩:=ry;exact PySem.EqNone.ne_none_str (Ji I q (by simp))
  | _=>exact ug (show false=true from hs) vF
 | bl i=>
  cases rx;cases y with
  | non=>cases ry;exact PySem.EqNone.ne_bool_none (Ji I q (by simp))
  | bl j=>cases ry;exact ne_bool (Ji I q (congrArg not j3V))
  | str j=>obtain⟨t',rfl⟩:=ry;exact PySem.EqMixed.ne_bool_str (Ji I q (by simp))
  | _=>exact ug (show false=true from hs) vF
 | int i=>
  obtain⟨t,rfl⟩:=rx;cases y with
  | non=>cases ry;exact PySem.EqNone.ne_int_none (Ji I q (by simp))
  | int j=>obtain⟨t',rfl⟩:=ry;exact ne_int (Ji I q (congrArg not j2c))
  | str j=>obtain⟨t',rfl⟩:=ry;exact PySem.EqMixed.ne_int_str (Ji I q (by simp))
  | _=>exact ug (show false=true from hs) vF
 | str i=>
  obtain⟨t,rfl⟩:=rx;cases y with
  | non=>cases ry;exact PySem.EqNone.ne_str_none (Ji I q (by simp))
  | bl j=>cases ry;exact PySem.EqMixed.ne_str_bool (Ji I q (by simp))
  | int j=>obtain⟨t',rfl⟩:=ry;exact PySem.EqMixed.ne_str_int (Ji I q (by simp))
  | str j=>obtain⟨t',rfl⟩:=ry;exact ne_str (Ji I q (congrArg not j2d))
  | _=>exact ug (show false=true from hs) vF
 | byt i=>
  obtain⟨t,rfl⟩:=rx;cases y with
  | byt j=>obtain⟨t',rfl⟩:=ry;exact PySem.W.ne_bytes (Ji I q (congrArg not j2b))
  | _=>exact ug (show false=true from hs) vF
 | _=>cases y<;>exact ug (show false=true from hs) vF
theorem Z5:OpR X (compareOp .Lt) (rI0 fun i j=>.bl (decide (i<j))):=opB0 fun _ _ _ _ _ _ _ q=>lt_int q
theorem YG:OpR X (compareOp .LtE) (rI0 fun i j=>.bl (decide (i<=j))):=opB0 fun _ _ _ _ _ _ _ q=>le_int q
theorem zP:OpR X (compareOp .Gt) (rI0 fun i j=>.bl (decide (j<i))):=opB0 fun _ _ _ _ _ _ _ q=>gt_int q
theorem j6U:OpR X (compareOp .GtE) (rI0 fun i j=>.bl (decide (j<=i))):=opB0 fun _ _ _ _ _ _ _ q=>ge_int q
theorem Wz:OpR X (compareOp .Is) (fun x y H Q=>y = .non/\Q (.bl (decide (x = .non))) H):=by
 intro pins s σ H x y v u Q I rx ry h;obtain⟨rfl,q⟩:=h;cases ry;refine is_none_gen (Ji I q ?_);cases x<;>first
  | (cases rx;rfl)
  | (obtain⟨t,rfl⟩:=rx;rfl)
theorem kR:OpR X (compareOp .IsNot) (fun x y H Q=>y = .non/\Q (.bl (!decide (x = .non))) H):=by
 intro pins s σ H x y v u Q I rx ry h;obtain⟨rfl,q⟩:=h;cases ry;refine isnot_none_gen (Ji I q ?_);cases x<;>first
  | (cases rx;rfl)
  | (obtain⟨t,rfl⟩:=rx;rfl)
theorem nomark(b:Expr){op:CmpOp}(h:op≠.In:=by decide)(h2:op≠.NotIn:=by decide):behindInMarks op b=false:=by
 have e1:(op==CmpOp.In)=false:=by cases op<;>first | rfl | exact ug rfl h
 have e2:(op==CmpOp.NotIn)=false:=by cases op<;>first | rfl | exact ug rfl h2
 cases b<;>simp[behindInMarks,e1,e2]
theorem wN{op:CmpOp}{r:R2}(ho:OpR X (compareOp op) r)(ha:PE X a ta)(hb:PE X b tb)(hm:behindInMarks op b=false):PE X (.Compare a [op] [b] pos) (tOp r ta tb):=by
 intro pins s σ H Q I h;exact wpAny_Compare1 (binT ha hb I h fun v u s2 x y H2 I2 rx ry q=>ho pins s2 σ H2 x y v u Q I2 rx ry q) hm
def tTest(t:TE):TT:=fun σ H Q=>t σ H fun x H'=>∃k,x = .bl k/\Q k H'
theorem jr{op:CmpOp}{r:R2}(ho:OpR X (compareOp op) r)(ha:PE X a ta)(hb:PE X b tb)(hm:behindInMarks op b=false):PT X (.Compare a [op] [b] pos) (tTest (tOp r ta tb)):=by
 intro pins s σ H Q I h;refine wpAny_isTrue_Compare1 (thn (ha pins s σ H _ I h) fun v s1 ⟨x,H1,I1,r1,q1⟩=>thn (hb pins s1 σ H1 _ I1 q1) fun u s2 ⟨y,H2,I2,r2,q2⟩=>
  thn (ho pins s2 σ H2 x y v u _ I2 r1 r2 q2) fun c s3 ⟨z,H3,I3,r3,k,e,q3⟩=>?_) hm
 subst e;cases r3;exact wpAny_truthy_bool ⟨H3,I3,q3⟩
def tChain(r r':R2)(ta tb tc:TE):TE:=fun σ H Q=>ta σ H fun x H1=>tb σ H1 fun y H2=>r x y H2 fun z H3=>∃k,z = .bl k/\
 (if k=true then tc σ H3 fun w' H4=>r' y w' H4 Q else Q (.bl false) H3)
theorem kY{op op':CmpOp}{r r':R2}(ho:OpR X (compareOp op) r)(ho':OpR X (compareOp op') r')(ha:PE X a ta)(hb:PE X b tb)(hc:PE X c tc)
  (hm:lastMarks [op,op'] [b,c]=false:=by with_unfolding_all rfl):PT X (.Compare a [op,op'] [b,c] pos) (tTest (tChain r r' ta tb tc)):=by
 intro pins s σ H Q I h;refine isTrue_chain (thn (ha pins s σ H _ I h) fun v s1 ⟨x,H1,I1,r1,q1⟩=>test_link (thn (hb pins s1 σ H1 _ I1 q1) fun u s2 ⟨y,H2,I2,r2,q2⟩=>
  thn (ho pins s2 σ H2 x y v u _ I2 r1 r2 q2) fun d s3 ⟨z,H3,I3,r3,k,e,q3⟩=>?_)) hm
 subst e;cases r3;refine wpAny_truthy_bool ?_;cases k with
 | false=>
  obtain⟨k',e',q'⟩:=q3;cases e';exact ite_ff ⟨H3,I3,q'⟩
 | true=>
  refine ite_tt (test_last (thn (hc pins s3 σ H3 _ I3 q3) fun w' s4 ⟨z',H4,I4,r4,q4⟩=>thn (ho' pins s4 σ H4 y z' u w' _ I4 r2 r4 q4) fun d' s5 ⟨z2,H5,I5,r5,k2,e2,q5⟩=>?_));subst e2;cases r5;exact wpAny_truthy_bool ⟨H5,I5,q5⟩
def TruV(K:Frg)(x:V)(H:Hp)(k:Bool):Prop:=
 match x with
 | .non=>k=false
 | .bl b=>k=b
 | .int i=>k=(i != 0)
 | .str y=>y.length<=sizeLine/\k=((y.length:Int) != 0)
 | .byt y=>y.size<=sizeLine/\k=((y.size:Int) != 0)
 | .ref p=>(∃xs,SqL K H p xs/\k = !xs.isEmpty)\/(∃xs,SqT K H p xs/\k = !xs.isEmpty)\/∃kvs,H p=some (.dK kvs)/\k = !kvs.isEmpty
 | _=>False
theorem j1t{κ:Type}{kvs:List (κ×V)}{vs:List (κ×Value)}(r:KV kvs vs):(!vs.isEmpty) = !kvs.isEmpty:=by
 cases r<;>rfl
theorem Wp{xs:List V}{its:List Value}(r:Vals xs its):(!its.toArray.isEmpty) = !xs.isEmpty:=by
 cases r<;>simp
theorem line63:(sizeLine:Nat)<2^63:=by rw[sizeLine_eq];decide
theorem j55:TruR X (fun x H Q=>∃k,TruV X.K x H k/\Q k H):=by
 intro pins s σ H x v Q I rx h;obtain⟨k,e,q⟩:=h;have hl:=line63;have hs:sizeLine=16777216:=sizeLine_eq;cases x with
 | non=>
  cases rx;have e':k=false:=e;subst e';exact truthy_none ⟨H,I,q⟩
 | bl b=>
  cases rx;have e':k=b:=e;subst e';exact wpAny_truthy_bool ⟨H,I,q⟩
 | int i=>
  obtain⟨t,rfl⟩:=rx;have e':k=(i != 0):=e;subst e';exact PySem.P.truthy_int ⟨H,I,q⟩
 | str y=>
  obtain⟨t,rfl⟩:=rx;obtain⟨hy,e'⟩:y.length<=sizeLine/\k=((y.length:Int) != 0):=e;subst e';exact PySem.P.truthy_str (by lia) ⟨H,I.tok _,q⟩
 | byt y=>
  obtain⟨t,rfl⟩:=rx;obtain⟨hy,e'⟩:y.size<=sizeLine/\k=((y.size:Int) != 0):=e;subst e';exact PySem.W.truthy_bytes (by lia) ⟨H,I.tok _,q⟩
 | ref p=>
  cases rx;have e':(∃xs,SqL X.K H p xs/\k = !xs.isEmpty)\/(∃xs,SqT X.K H p xs/\k = !xs.isEmpty)\/∃kvs,H p=some (.dK kvs)/\k = !kvs.isEmpty:=e;rcases e' with⟨xs,hx,e'⟩ | ⟨xs,hx,e'⟩ | ⟨kvs,hx,e'⟩
  ·subst e';obtain⟨its,r,pl,hz⟩:=I.list hx;have hlen:=r.length;exact wpAny_truthy_list pl.isList (by simp only[size_toArray];lia) ⟨H,I.tok _,by rw[Wp r];exact q⟩
  ·subst e';obtain⟨its,r,pl,hz⟩:=I.tuple hx;have hlen:=r.length;exact truthy_tuple pl (by simp only[size_toArray];lia) ⟨H,I.tok _,by rw[Wp r];exact q⟩
  ·subst e';obtain⟨hz,hS,vs,r,m⟩:kvs.length<=sizeLine/\(p==sysModules)=false/\∃vs,KV kvs vs/\s.heap.DictOf (mixKind X.prog X.w) p vs:=I.hok p _ hx;have hlen:kvs.length=vs.length:=Paired.length r;exact wpAny_truthy_dict hS m (by lia) ⟨H,I.tok _,by rw[j1t r];exact q⟩
 | _=>exact(show False from e).elim
theorem j4E(ha:PE X a ta)(he:∀whole,isTrue a X.env whole=(do let v <-whole;standAt a.pos;holding [v] (truthy v))) :
  PT X a (fun σ H Q=>ta σ H fun x H'=>∃k,TruV X.K x H' k/\Q k H'):=by
 intro pins s σ H Q I h;exact isTrue_plain (thn (ha pins s σ H _ I h) fun v s1 ⟨x,H1,I1,r1,q1⟩=>j55 pins s1 σ H1 x v Q I1 r1 q1) (he _)
theorem Y2:OpR X (binaryOp .Add) (fun x y H Q=>∃i j,x = .str i/\y = .str j/\i.length+j.length<=sizeLine/\Q (.str (i++j)) H):=by
 intro pins s σ H x y v u Q I rx ry h;obtain⟨i,j,rfl,rfl,hz,q⟩:=h;obtain⟨t,rfl⟩:=rx;obtain⟨t',rfl⟩:=ry;exact add_str (fun t' tk=>⟨.str (i++j),H,I.tok _,⟨_,rfl⟩,q⟩) hz
theorem vals1{x:V}{us:List Value}(r:Vals [x] us):∃u,us=[u]/\RelV x u:=by
 cases r with
 | cons r1 r2=>cases r2;exact⟨_,rfl,r1⟩
theorem vals2{x y:V}{us:List Value}(r:Vals [x,y] us):∃u w',us=[u,w']/\RelV x u/\RelV y w':=by
 cases r with
 | cons r1 r2=>
  cases r2 with
  | cons r3 r4=>cases r4;exact⟨_,_,rfl,r1,r3⟩
theorem Wc:CallR X (.builtin "abs") (fun xs H Q=>∃i,xs=[.int i]/\Q (.int (if i<0 then -i else i)) H):=by
 intro pins s σ H xs us Q I r h;obtain⟨i,rfl,q⟩:=h;obtain⟨u,rfl,t,rfl⟩:=vals1 r;exact call_abs_int fun u tk=>⟨.int (if i<0 then -i else i),H,I.tok _,⟨_,rfl⟩,q⟩
theorem Ks(hc:X.calm=true):CallR X (.builtin "max") (fun xs H Q=>∃i j,xs=[.int i,.int j]/\Q (.int (if j>i then j else i)) H):=by
 intro pins s σ H xs us Q I r h;obtain⟨i,j,rfl,q⟩:=h;obtain⟨u,w',rfl,⟨t,rfl⟩,⟨t',rfl⟩⟩:=vals2 r;refine max_two_ints (I.ok.hd hc) fun h' tk k=>⟨_,H,I.kept k,?_,q⟩
 by_cases hj:j>i
 ·rw[vd hj,vd hj];exact⟨_,rfl⟩
 ·rw[vc hj,vc hj];exact⟨_,rfl⟩
theorem Yp(hc:X.calm=true):CallR X (.builtin "min") (fun xs H Q=>∃i j,xs=[.int i,.int j]/\Q (.int (if j<i then j else i)) H):=by
 intro pins s σ H xs us Q I r h;obtain⟨i,j,rfl,q⟩:=h;obtain⟨u,w',rfl,⟨t,rfl⟩,⟨t',rfl⟩⟩:=vals2 r;refine min_two_ints (I.ok.hd hc) fun h' tk k=>⟨_,H,I.kept k,?_,q⟩
 by_cases hj:j<i
 ·rw[vd hj,vd hj];exact⟨_,rfl⟩
 ·rw[vc hj,vc hj];exact⟨_,rfl⟩
def LenV(K:Frg)(x:V)(H:Hp)(n:Nat):Prop:=
 match x with
 | .str y=>y.length<=sizeLine/\n=y.length
 | .byt y=>y.size<=sizeLine/\n=y.size
 | .ref p=>(∃xs,SqL K H p xs/\n=xs.length)\/∃xs,SqT K H p xs/\n=xs.length
 | _=>False
theorem j4:CallR X (.builtin "len") (fun xs H Q=>∃x n,xs=[x]/\LenV X.K x H n/\Q (.int n) H):=by
 intro pins s σ H xs us Q I r h;obtain⟨x,n,rfl,e,q⟩:=h;obtain⟨u,rfl,rx⟩:=vals1 r;have hl:=line63;have hs:sizeLine=16777216:=sizeLine_eq;cases x with
 | str y=>
  obtain⟨t,rfl⟩:=rx;obtain⟨hy,e'⟩:y.length<=sizeLine/\n=y.length:=e;subst e';exact len_str (by lia) ⟨.int _,H,I.tok _,⟨_,rfl⟩,q⟩
 | byt y=>
  obtain⟨t,rfl⟩:=rx;obtain⟨hy,e'⟩:y.size<=sizeLine/\n=y.size:=e;subst e';exact PySem.W.len_bytes (by lia) ⟨.int _,H,I.tok _,⟨_,rfl⟩,q⟩
 | ref p=>
  cases rx;have e':(∃xs,SqL X.K H p xs/\n=xs.length)\/∃xs,SqT X.K H p xs/\n=xs.length:=e;rcases e' with⟨xs,hx,e'⟩ | ⟨xs,hx,e'⟩
  ·subst e';obtain⟨its,r',pl,hz⟩:=I.list hx;have hlen:=r'.length;exact Calls.call_len_list pl.isList (by simp only[size_toArray];lia) ⟨.int xs.length,H,I.tok _,⟨_,by simp only[size_toArray];rw[hlen]⟩,q⟩
  ·subst e';obtain⟨its,r',pl,hz⟩:=I.tuple hx;have hlen:=r'.length;exact len_tuple pl (by simp only[size_toArray];lia) ⟨.int xs.length,H,I.tok _,⟨_,by simp only[size_toArray];rw[hlen]⟩,q⟩
 | _=>exact(show False from e).elim
end
structure ObjM(h:Heap)(x dx C:Addr)(mA:Str->Option Value):Prop where
 obj:h.get? x=some (PySem.W.instObj C dx)
 ns:h.Ns1 dx mA
 ne:dx≠x
theorem j3k{h:Heap}{dx:Addr}{mA:Str->Option Value}(n:h.Ns1 dx mA):∃od,h.get? dx=some od/\∀name,PySem.W.lookIn name od=some (mA name):=by
 obtain⟨o,es,ep,ho,hd,hk,_,hm⟩:=n;refine⟨o,ho,fun name=>?_⟩;have e:=hm name;unfold nsFind findBy at e;rw[<-Array.find?_toList]at e;unfold PySem.W.lookIn;rw[hd];dsimp only;split
 ·rename_i y q;rw[q]at e;exact congrArg some e
 ·rename_i q;rw[q]at e;have a:es.toList.any (·.refKey)=false:=by
   rw[List.any_eq_false];intro y hy;obtain⟨z,t,hkey⟩:=hk y (Array.mem_toList_iff.mp hy);simp[DictEntry.refKey,hkey]
  have a':¬es.toList.any (·.refKey)=true:=by rw[a];exact vF
  rw[vc a'];exact congrArg some e
theorem ObjM.look{h:Heap}{x dx C:Addr}{mA:Str->Option Value}(I:ObjM h x dx C mA):∃od,PySem.W.InstAt h x (PySem.W.instObj C dx) C (some od)/\∀name,PySem.W.lookIn name od=some (mA name):=
 let ⟨od,ho,hl⟩:=j3k I.ns
 ⟨od,⟨I.obj,rfl,rfl,ho⟩,hl⟩
section
variable{prog:Program}{w:World}{A:Around}{E:Value->Shared->Prop}{s:Shared}{K:Frg}{x dx C f:Addr}{mA:Str->Option Value}{name:Str}{v:Value}
theorem j5t{expr:Bool}{Q:Value->Shared->Prop}(X:K.In s.heap)(I:ObjM s.heap x dx C mA)(hg:PySem.W.plainGet K C name=true)(hh:PySem.W.hasDictIn K C=true)
  (ha:PySem.W.findIn K (.ref C) name=some none) (hv:mA name=some v) (hv':PySem.W.handedIn v=true) (h:Q v {s with toks:=s.toks+1}) :
  wpAny (model prog w) A (getAttr (.ref x) name expr) Q E s:=by
 obtain⟨od,J,hl⟩:=I.look;exact PySem.W.get_value X J (PySem.W.plainGet_of hg).1 (PySem.W.findObj_own hh ha rfl (by rw[hl,hv])) hv' h
theorem j43{pl:Sem Bool}{Q:Value×List Value->Shared->Prop}(X:K.In s.heap)(I:ObjM s.heap x dx C mA)(hg:PySem.W.plainGet K C name=true)
  (hf:PySem.W.findIn K (.ref C) name=some (some (.ref f))) (ht:PySem.W.isFn K (.ref f)=true) (hv:mA name=none) (h:Q (.ref f,[.ref x]) s) :
  wpAny (model prog w) A (getMethod (.ref x) name pl) Q E s:=by
 obtain⟨od,J,hl⟩:=I.look;exact PySem.W.method_fn X J (PySem.W.plainGet_of hg).1 (PySem.W.plainGet_of hg).2 hf (beq_iff_eq.mp ht) (by show(PySem.W.lookIn name od).map (·.isSome)=some false;rw[hl,hv];rfl) h
theorem j5R{ns:List Str}{Q:Unit->Shared->Prop}(X:K.In s.heap)(I:ObjM s.heap x dx C mA)
  (hs:PySem.W.findIn K (.ref C) "__setattr__"= some (some (.builtin "object.__setattr__"))) (hp:PySem.W.plainOver K C=true) (ht:PySem.W.takerIn K C name=some none) (hh:PySem.W.hasDictIn K C=true)
  (hw:PySem.Within mA ns) (hsz:ns.length<=sizeLine)
  (h:∀h',ObjM h' x dx C (fun y=>if y=name then some v else mA y)->Heap.SameBut dx s.heap h'->Q () {s with heap:=h',toks:=s.toks+2}) :
  wpAny (model prog w) A (setAttr (.ref x) name v) Q E s:=by
 obtain⟨od,J,hl⟩:=I.look;refine PySem.W.set_plain X J hs (PySem.W.osa_open (s:={s with toks:=s.toks+1}) (r:=none) X J hp ht fun b=>?_);obtain⟨cd,hc,hd'⟩:=PySem.W.any_some hh;have hx:s.heap.get? x=some ⟨.ref C,some dx,.plain,#[]⟩:=I.obj;refine uk (uh (uk (uk (wpAny_loadPart hx (uk (PySem.W.Looks.here (s:={s with toks:=s.toks+1}) (PySem.W.looks_clsIn X hc) ?_))))));rw[hd'];refine uh (a:=some dx) (uk (uh (uk ?_)));refine wpAny_nsSet1 (s:={s with toks:=s.toks+1}) I.ns fun h' hn2 hs2=>?_
 obtain⟨oD,esD,epD,hoD,hdD,hcD⟩:=hn2.count (PySem.Within.cons name v hw);refine uk (wpAny_lookBehind hoD (by rw[hdD];exact pastItsLine_dict (vV hcD (by rw[vP];lia))) ?_);exact uh (h _ ⟨(hs2.2 _ (Ne.symm I.ne)).trans I.obj,hn2,I.ne⟩ hs2)
theorem j4g{R:Result->Shared->Prop}{vs:List Value}{kw:List (Str×Value)}(X:K.In s.heap)(hm:PySem.W.makesIn K C=true)
  (hi:PySem.W.findIn K (.ref C) "__init__"= some (some (.ref f))) (hf:PySem.W.typeIn K (.ref f)=some (.type "function"))
  (h:codeAny (model prog w) (A.under (.builtin "type.__call__" ⟨.ref C::vs,kw⟩)) (.call (.ref f) ⟨.ref (s.heap.objs.size+1)::vs,kw⟩) (PySem.W.InitBack (s.heap.objs.size+1) R)
   {s with heap:=(s.heap.push PySem.W.emptyDict).push (PySem.W.instObj C s.heap.objs.size)}) :
  codeAny (model prog w) A (.call (.ref C) ⟨vs,kw⟩) R s:=by
 obtain⟨hh,g,d,t,os⟩:=s;exact PySem.W.make_core (PySem.W.makes_of X hm) (PySem.W.looks_findIn X hi) (fun self=>PySem.W.bind_fn X self hf) (.inl rfl) h
end
noncomputable def putF(f:Str)(v:V):List (Str×V)->List (Str×V)
 | []=>[(f,v)]
 | (g,x)::r=>if g=f then(g,v)::r else(g,x)::putF f v r
theorem ZF(f g:Str)(v:V):∀fs:List (Str×V),(putF f v fs).lookup g=if g=f then some v else fs.lookup g
 | []=>by
  show List.lookup g [(f,v)]=_;by_cases h:g=f
  ·have hb:(g==f)=true:=beq_iff_eq.mpr h;simp only[List.lookup,hb,if_pos h]
  ·have hb:(g==f)=false:=beq_eq_false_iff_ne.mpr h;simp only[List.lookup,hb,if_neg h]
 | (k,x)::r=>by
  have ih:=ZF f g v r;rw[show putF f v ((k,x)::r)=(if k=f then(k,v)::r else(k,x)::putF f v r)from rfl];by_cases hk:k=f
  ·rw[vd hk];by_cases h:g=k
   ·have hb:(g==k)=true:=beq_iff_eq.mpr h;simp only[List.lookup,hb,if_pos (h.trans hk)]
   ·have hb:(g==k)=false:=beq_eq_false_iff_ne.mpr h;simp only[List.lookup,hb,if_neg (fun e:g=f=>h (e.trans hk.symm))]
  ·rw[vc hk];by_cases h:g=k
   ·have hb:(g==k)=true:=beq_iff_eq.mpr h;simp only[List.lookup,hb,if_neg (fun e:g=f=>hk (h.symm.trans e))]
   ·have hb:(g==k)=false:=beq_eq_false_iff_ne.mpr h;simp only[List.lookup,hb];exact ih
theorem KF(f:Str)(v:V):∀fs:List (Str×V),f∈(putF f v fs).map (·.1)/\∀g,g∈fs.map (·.1)->g∈(putF f v fs).map (·.1)
 | []=>⟨by simp[putF],fun g h=>by simp at h⟩
 | (k,x)::r=>by
  obtain⟨i1,i2⟩:=KF f v r;rw[show putF f v ((k,x)::r)=(if k=f then(k,v)::r else(k,x)::putF f v r)from rfl];by_cases hk:k=f
  ·rw[vd hk];subst hk;exact⟨by simp,fun g h=>by simpa using h⟩
  ·rw[vc hk];refine⟨?_,fun g h=>?_⟩
   ·rw[v7];exact vp _ i1
   ·rw[v7]at h|-;rcases mem_cons.mp h with e | e
    ·exact mem_cons.mpr (.inl e)
    ·exact vp _ (i2 g e)
theorem wc(f:Str)(v:V):∀fs:List (Str×V),(putF f v fs).length<=fs.length+1
 | []=>by simp[putF]
 | (k,x)::r=>by
  have ih:=wc f v r;rw[show putF f v ((k,x)::r)=(if k=f then(k,v)::r else(k,x)::putF f v r)from rfl];by_cases hk:k=f
  ·rw[vd hk,vP,vP];lia
  ·rw[vc hk,vP,vP];lia
theorem RelO.some_of{v:V}{o:Option Value}(r:RelO (some v) o):∃u,o=some u/\RelV v u:=by
 cases o with
 | none=>exact(show False from r).elim
 | some u=>exact⟨u,rfl,r⟩
theorem RelO.none_of{o:Option Value}(r:RelO none o):o=none:=by
 cases o with
 | none=>rfl
 | some u=>exact(show False from r).elim
theorem j3a{v:V}{u:Value}(r:RelV v u):PySem.W.handedIn u=true:=by
 cases v with
 | non=>cases(show u=Value.none from r);rfl
 | bl b=>cases(show u=Value.bool b from r);rfl
 | int i=>obtain⟨t,e⟩:=(show∃t,u=Value.int i t from r);cases e;rfl
 | str x=>obtain⟨t,e⟩:=(show∃t,u=Value.str x t from r);cases e;rfl
 | byt b=>obtain⟨t,e⟩:=(show∃t,u=Value.bytes b t from r);cases e;rfl
 | flt b=>obtain⟨t,e⟩:=(show∃t,u=Value.float b t from r);cases e;rfl
 | ref a=>cases(show u=Value.ref a from r);rfl
 | ty n=>cases(show u=Value.type n from r);rfl
section
variable{P:Program}{w:World}{H H':Hp}{h h':Heap}{a C dx:Addr}{fs fs':List (Str×V)}
theorem wJ(hok:HOk P w H h)(e:H a=some (.ins C dx fs)):∃mA,ObjM h a dx C mA/\(∀f,RelO (fs.lookup f) (mA f))/\PySem.Within mA (fs.map (·.1))/\fs.length<=1000/\H dx=some (.own a):=by
 obtain⟨d,z,ne,ob,mA,n,r,q⟩:=(show ObjOk P w H h a (.ins C dx fs)from hok a _ e)
 exact⟨mA,⟨ob,n,ne⟩,r,q,z,d⟩
end
structure Cls(K:Frg)(C:Addr):Prop where
 pg:PySem.W.plainGet K C Str.empty=true
 hd:PySem.W.hasDictIn K C=true
 po:PySem.W.plainOver K C=true
 sa:PySem.W.findIn K (.ref C) "__setattr__"= some (some (.builtin "object.__setattr__"))
theorem Cls.get{K:Frg}{C:Addr}(c:Cls K C)(f:Str):PySem.W.plainGet K C f=true:=c.pg
def NoAttr(K:Frg)(C:Addr)(f:Str):Prop:=PySem.W.findIn K (.ref C) f=some none
theorem NoAttr.taker{K:Frg}{C:Addr}{f:Str}(n:NoAttr K C f):PySem.W.takerIn K C f=some none:=by
 unfold PySem.W.takerIn;rw[show PySem.W.findIn K (.ref C) f=some none from n];rfl
structure Meth(K:Frg)(C:Addr)(m:Str)(f:Addr):Prop where
 at_:PySem.W.findIn K (.ref C) m=some (some (.ref f))
 fn:PySem.W.isFn K (.ref f)=true
 kp:PySem.W.keepIn K (.ref f)=true
section
variable{X:Cx}{pins:List (Addr×Obj)}{σ:St}{H:Hp}{s:Shared}{a C dx:Addr}{fs:List (Str×V)}{f:Str}{v:V}{A:Around}{E:Value->Shared->Prop}
theorem j1p{b:Bool}{Q:Value->Shared->Prop}(I:Inv X pins σ H s)(e:H a=some (.ins C dx fs))(c:Cls X.K C)(n:NoAttr X.K C f)(l:fs.lookup f=some v)
  (h:∀u s',Inv X pins σ H s'->RelV v u->Q u s'):wpAny (model X.prog X.w) A (getAttr (.ref a) f b) Q E s:=by
 obtain⟨mA,O,r,_,_,_⟩:=wJ I.hok e;obtain⟨u,hu,ru⟩:=RelO.some_of (v:=v) (o:=mA f) (by rw[<-l];exact r f);exact j5t I.kIn O (c.get f) c.hd n hu (j3a ru) (h u _ (I.tok _) ru)
theorem j1q{m:Str}{g:Addr}{pl:Sem Bool}{Q:Value×List Value->Shared->Prop}(I:Inv X pins σ H s)(e:H a=some (.ins C dx fs))(c:Cls X.K C)(k:Meth X.K C m g)(l:fs.lookup m=none)
  (h:Q (.ref g,[.ref a]) s):wpAny (model X.prog X.w) A (getMethod (.ref a) m pl) Q E s:=by
 obtain⟨mA,O,r,_,_,_⟩:=wJ I.hok e;have hn:mA m=none:=RelO.none_of (by rw[<-l];exact r m);exact j43 I.kIn O (c.get m) k.at_ k.fn hn h
theorem j1S{y:V}{u:Value}{Q:Unit->Shared->Prop}(I:Inv X pins σ H s)(e:H a=some (.ins C dx fs))(c:Cls X.K C)(n:NoAttr X.K C f)(hl:fs.length<1000)(ry:RelV y u)
  (h:∀s',Inv X pins σ (upd H a (.ins C dx (putF f y fs))) s'->Q () s'):wpAny (model X.prog X.w) A (setAttr (.ref a) f u) Q E s:=by
 obtain⟨mA,O,r,wi,_,ho⟩:=wJ I.hok e;have hz:(fs.map (·.1)).length<=sizeLine:=by rw[vt,sizeLine_eq];lia
 refine j5R I.kIn O c.sa c.po n.taker c.hd wi hz fun h' O' sb=>h _ ?_
 have hd:∃o,h'.get? dx=some o:=let ⟨o,_,_,e',_⟩:=O'.ns;⟨o,e'⟩;refine I.write (x:=a) (e:=dx) (by rw[e];exact True.intro) (.inr ho) (fun b q hb z=>(sb.2 b hb).trans z) hd ?_;refine⟨by rw[jg O.ne];exact ho,?_,O.ne,O'.obj,_,O'.ns,fun g=>?_,fun g hg=>?_⟩
 ·have:=wc f y fs;lia
 ·show RelO ((putF f y fs).lookup g) (if g=f then some u else mA g);rw[ZF];by_cases q:g=f
  ·rw[vd q,vd q];exact ry
  ·rw[vc q,vc q];exact r g
 ·by_cases q:g=f
  ·rw[q];exact(KF f y fs).1
  ·refine(KF f y fs).2 g (wi g fun z=>hg ?_);show(if g=f then some u else mA g)=none;rw[vc q];exact z
theorem Inv.made(I:Inv X pins σ H s):Inv X pins σ (upd (upd H s.heap.objs.size (.own (s.heap.objs.size+1))) (s.heap.objs.size+1) (.ins C s.heap.objs.size []))
  {s with heap:=(s.heap.push PySem.W.emptyDict).push (PySem.W.instObj C s.heap.objs.size)}:=by
 have e1:(s.heap.push PySem.W.emptyDict).get? s.heap.objs.size=some PySem.W.emptyDict:=Heap.get?_push_size s.heap rfl;have e2:((s.heap.push PySem.W.emptyDict).push (PySem.W.instObj C s.heap.objs.size)).get? (s.heap.objs.size+1)=some (PySem.W.instObj C s.heap.objs.size):=by
  have:=Heap.get?_push_size (s.heap.push PySem.W.emptyDict) (o:=PySem.W.instObj C s.heap.objs.size) rfl
  rwa [Heap.size_push]at this
 have e3:(s.heap.push PySem.W.emptyDict).Ns s.heap.objs.size (fun _=>none):=⟨PySem.W.emptyDict,#[],_,e1,rfl,(fun e he=>ug he (by simp)),fun _=>rfl⟩
 have I1:=I.laid (a:=s.heap.objs.size) (o:=.own (s.heap.objs.size+1)) (h':=s.heap.push PySem.W.emptyDict) (t':=s.toks) (fun b u q=>vJ _ q) (vb _) ⟨_,e1⟩;refine I1.laid (a:=s.heap.objs.size+1) (o:=.ins C s.heap.objs.size []) (t':=s.toks) (fun b u q=>vJ _ q) (Nat.le_of_eq (Heap.size_push _ _)) ?_;have ne:s.heap.objs.size≠s.heap.objs.size+1:=vE (Nat.lt_succ_self _);refine⟨by rw[jg ne,jC],va _,ne,e2,fun _=>none,(Heap.Ns1.of_empty e3).at fun o q=>vJ _ q,fun _=>True.intro,fun y hy=>ug rfl hy⟩
theorem j5i{prog:Program}{w:World}{env:Env}{e:Expr}{f:Str}{pos:Pos}{s:Shared}{Q:Value->Shared->Prop}(hb:attributeBase e f env (eval e env)=eval e env)
  (h:wpAny (model prog w) A (eval e env) (fun o s₁=>wpAny (model prog w) A (getAttr o f true) Q E s₁) E s):wpAny (model prog w) A (eval (.Attribute e f pos) env) Q E s:=
 Attribute_any_ h (by rw[arm_eval_Attribute,hb])
end
def tFld(K:Frg)(ta:TE)(f:Str):TE:=fun σ H Q=>ta σ H fun x H1=>∃a C dx fs v,x = .ref a/\H1 a=some (.ins C dx fs)/\Cls K C/\NoAttr K C f/\fs.lookup f=some v/\Q v H1
def sFld(K:Frg)(ta tv:TE)(f:Str):TS:=fun D σ H=>tv σ H fun y H1=>ta σ H1 fun x H2=>∃a C dx fs,x = .ref a/\H2 a=some (.ins C dx fs)/\Cls K C/\NoAttr K C f/\fs.length<1000/\
 D.nx σ (upd H2 a (.ins C dx (putF f y fs)))
section
variable{X:Cx}{o e value:Expr}{f:Str}{pos pos' tpos:Pos}{ta tv:TE}
theorem jP(he:PE X e ta)(hb:attributeBase e f X.env (eval e X.env)=eval e X.env):PE X (.Attribute e f pos) (tFld X.K ta f):=by
 intro pins s σ H Q I h;refine j5i hb (thn (he pins s σ H _ I h) fun u s1 ⟨x,H1,I1,rx,a,C,dx,fs,v,ex,ea,c,n,l,q⟩=>?_);subst ex;obtain rfl:u=Value.ref a:=rx;exact j1p I1 ea c n l fun u' s2 I2 ru=>⟨v,H1,I2,ru,q⟩
theorem Qr(ha:PE X o ta)(hv:PE X value tv)(hs:swapsWith value (some (.Attribute o f pos')) pos.line X.env=pure false):PS X (.Assign [.Attribute o f pos'] value pos) (sFld X.K ta tv f):=by
 intro pins s σ H D I h;refine plainObj_wpAny_Assign_Attribute (thn (hv pins s σ H _ I h) fun u s1 ⟨y,H1,I1,ry,q⟩=>thn (ha pins s1 σ H1 _ I1 q) fun ov s2 ⟨x,H2,I2,rx,a,C,dx,fs,ex,ea,c,n,l,q2⟩=>?_) hs;subst ex;obtain rfl:ov=Value.ref a:=rx;exact j1S I2 ea c n l ry fun s3 I3=>⟨σ,_,I3,q2⟩
end
section
variable{X:Cx}{pins:List (Addr×Obj)}{σ:St}{H:Hp}{s:Shared}{A:Around}{E:Value->Shared->Prop}{Q:Value->Shared->Prop}{c:Value}{b:Bool}
inductive TyOf(K:Frg)(H:Hp):V->Value->Prop where
 | non:TyOf K H .non (.type "NoneType")
 | bl (x:Bool):TyOf K H (.bl x) (.type "bool")
 | int (i:Int):TyOf K H (.int i) (.type "int")
 | str (x:Str):TyOf K H (.str x) (.type "str")
 | flt (x:UInt64):TyOf K H (.flt x) (.type "float")
 | lst {a:Addr} {xs:List V} (e:H a=some (.lst xs)):TyOf K H (.ref a) (.type "list")
 | frz {a:Addr} {o:Obj} {xs:List V} (e:H a=some (.frz o (.lst xs))):TyOf K H (.ref a) (.type "list")
 | tup {a:Addr} {xs:List V} (e:H a=some (.tup xs)):TyOf K H (.ref a) (.type "tuple")
 | dK {a:Addr} {kvs:List (Key×V)} (e:H a=some (.dK kvs)):TyOf K H (.ref a) (.type "dict")
 | dT {a:Addr} {kvs:List (List Key×V)} (e:H a=some (.dT kvs)):TyOf K H (.ref a) (.type "dict")
 | ins {a C dx:Addr} {fs:List (Str×V)} (e:H a=some (.ins C dx fs)) (cl:Cls K C) (ha:PySem.W.findIn K (.ref C) "__class__"= some (some (.builtin "object.__class__")))
   (hn:PySem.W.specialIn K (.builtin "object.__class__") "__get__"= some (some (.builtin "getset_descriptor.__get__"))) (htk:PySem.W.takesIn K (.builtin "object.__class__")=some true)
   (hm:PySem.W.mroIn K C (.type "object")=some true):TyOf K H (.ref a) (.ref C)
theorem j3e{x:V}{u t:Value}(I:Inv X pins σ H s)(rx:RelV x u)(ty:TyOf X.K H x t)(e:PySem.W.kitOne X.K t c=some b)(h:∀tk,Q (.bool b) {s with toks:=tk}) :
  wpAny (model X.prog X.w) A (call (.builtin "isinstance") [u,c]) Q E s:=by
 cases ty with
 | non=>cases(show u=Value.none from rx);exact PySem.W.kia_one PySem.W.kitx_none I.kIn True.intro e (fun z=>nomatch z) h
 | bl y=>cases(show u=Value.bool y from rx);exact PySem.W.kia_one PySem.W.kitx_bool I.kIn True.intro e (fun z=>nomatch z) h
 | int i=>obtain⟨t,q⟩:=(show∃t,u=Value.int i t from rx);cases q;exact PySem.W.kia_one PySem.W.kitx_int I.kIn True.intro e (fun z=>nomatch z) h
 | str y=>obtain⟨t,q⟩:=(show∃t,u=Value.str y t from rx);cases q;exact PySem.W.kia_one PySem.W.kitx_str I.kIn True.intro e (fun z=>nomatch z) h
 | flt y=>obtain⟨t,q⟩:=(show∃t,u=Value.float y t from rx);cases q;exact PySem.W.kia_one PySem.W.kitx_float I.kIn True.intro e (fun z=>nomatch z) h
 | @lst a xs ea=>
  cases(show u=Value.ref a from rx);obtain⟨_,_,n,_,h1⟩:=(show ObjOk X.prog X.w H s.heap a (.lst xs)from I.hok a _ ea)
  exact PySem.W.kia_one PySem.W.kitx_list I.kIn ⟨_,h1,rfl⟩ e (fun z=>nomatch z) h
 | @frz a ob xs ea=>
  cases(show u=Value.ref a from rx);obtain⟨_,_,_,n,_,h1⟩:=(show ObjOk X.prog X.w H s.heap a (.frz ob (.lst xs))from I.hok a _ ea)
  exact PySem.W.kia_one PySem.W.kitx_list I.kIn ⟨_,h1,rfl⟩ e (fun z=>nomatch z) h
 | @tup a xs ea=>
  cases(show u=Value.ref a from rx);obtain⟨_,_,_,p⟩:=(show ObjOk X.prog X.w H s.heap a (.tup xs)from I.hok a _ ea)
  obtain⟨o,h1,h2,_⟩:=p;exact PySem.W.kia_one PySem.W.kitx_tuple I.kIn ⟨o,h1,h2⟩ e (fun z=>nomatch z) h
 | @dK a kvs ea=>
  cases(show u=Value.ref a from rx);obtain⟨_,_,vs,_,p⟩:=(show ObjOk X.prog X.w H s.heap a (.dK kvs)from I.hok a _ ea)
  obtain⟨o,es,ep,h1,h2,_⟩:=p;exact PySem.W.kia_one PySem.W.kitx_dict I.kIn ⟨o,h1,h2.1⟩ e (fun z=>nomatch z) h
 | @dT a kvs ea=>
  cases(show u=Value.ref a from rx);obtain⟨_,_,xs,_,o,es,ep,h1,h2,_⟩:=(show ObjOk X.prog X.w H s.heap a (.dT kvs)from I.hok a _ ea)
  exact PySem.W.kia_one PySem.W.kitx_dict I.kIn ⟨o,h1,h2.1⟩ e (fun z=>nomatch z) h
 | @ins a C dx fs ea cl ha hn htk hm=>
  cases(show u=Value.ref a from rx);obtain⟨mA,O,_⟩:=wJ I.hok ea;obtain⟨od,J,_⟩:=O.look;exact PySem.W.kia_one (PySem.W.kitx_own (cl.get _) cl.hd ha hn htk hm) I.kIn J e (fun z=>nomatch z) h
end
structure Room(k:Nat)(A:Around):Prop where
 hd:A.handled=none
 dp:A.depth+3*k+5<recursionLimit
 un:A.units+16*k+200<cLine
theorem Room.mono{j k:Nat}{A:Around}(r:Room k A)(h:j<=k):Room j A:=⟨r.hd,by have:=r.dp;lia,by have:=r.un;lia⟩
theorem Room.deeper{k:Nat}{A:Around}(r:Room (k+1) A)(env:Env):Room k (A.deeper env):=
 ⟨r.hd,by have:=r.dp;show A.depth+1+3*k+5<_;lia,by have:=r.un;show A.units+3+16*k+200<_;lia⟩
theorem j1z{A:Around}{C:Addr}{us:List Value}{kw:List (Str×Value)}:(A.under (.builtin "type.__call__" ⟨.ref C::us,kw⟩)).depth=A.depth+1:=by
 first | rfl | simp[Around.under,Code.weight,Code.isCreation,Code.isGuard,Code.isCaller,Code.frames,Code.isFrame,guardIds]
theorem j1A{A:Around}{C:Addr}{us:List Value}{kw:List (Str×Value)}:(A.under (.builtin "type.__call__" ⟨.ref C::us,kw⟩)).units=A.units+1:=by
 first | rfl | simp[Around.under,Code.cUnits,Code.frames,Code.isFrame]
theorem Room.make{k:Nat}{A:Around}(r:Room (k+1) A)(C:Addr)(us:List Value)(kw:List (Str×Value)):Room k (A.under (.builtin "type.__call__" ⟨.ref C::us,kw⟩)):=
 ⟨r.hd,by have:=r.dp;rw[j1z];lia,by have:=r.un;rw[j1A];lia⟩
theorem Room.depth{k:Nat}{A:Around}(r:Room k A):A.depth<recursionLimit:=by have:=r.dp;lia
theorem Room.units{k:Nat}{A:Around}(r:Room k A):A.units+64<cLine:=by have:=r.un;lia
def tNil:TA:=fun _ H Q=>Q [] H
def tCons(ta:TE)(tr:TA):TA:=fun σ H Q=>ta σ H fun x H1=>tr σ H1 fun xs H2=>Q (x::xs) H2
section
variable{X:Cx}{e:Expr}{es:List Expr}{te:TE}{t:TA}{pos:Pos}
theorem jc:PA X [] tNil:=fun _ _ _ _ H Q I h=>Calls.spliced_nil ⟨[],H,I,.nil,h⟩
theorem ja(ha:PE X e te)(hr:PA X es t)(hs:starEach (e::es) X.env=(false,eval e X.env)::starEach es X.env:=by rfl):PA X (e::es) (tCons te t):=by
 intro pos pins s σ H Q I h;rw[hs];show wpAny _ _ (spliced ((false,eval e X.env)::backTo pos (starEach es X.env))) _ _ s;refine Calls.spliced_cons (thn (ha pins s σ H _ I h) fun u s1 ⟨x,H1,I1,r1,q1⟩=>?_);exact thn (hr pos pins s1 σ H1 _ I1 q1) fun us s2 ⟨xs,H2,I2,r2,q2⟩=>⟨x::xs,H2,I2,.cons r1 r2,q2⟩
def tTup(t:TA):TE:=fun σ H Q=>t σ H fun xs H1=>xs.length<=sizeLine/\∀p,H1 p=none->Q (.ref p) (upd H1 p (.tup xs))
def tLst(t:TA):TE:=fun σ H Q=>t σ H fun xs H1=>xs.length<=sizeLine/\∀p,H1 p=none->Q (.ref p) (upd H1 p (.lst xs))
theorem jV{x1}(h:PA X es t):PE X (.Tuple es x1 pos) (tTup t):=by
 intro pins s σ H Q I hq;refine wpAny_Tuple_spliced (thn (h pos pins s σ H _ I hq) fun us s1 ⟨xs,H1,I1,r,z,q⟩=>⟨by rw[<-r.length];exact z,?_⟩);have hf:H1 s1.heap.objs.size=none:=I1.hok.fresh (vb _);refine⟨.ref s1.heap.objs.size,upd H1 s1.heap.objs.size (.tup xs),I1.laid (t':=s1.toks) (fun b u e=>vJ _ e) (vb _) ?_,rfl,q _ hf⟩;exact⟨z,us,r,⟨_,Heap.get?_push_size _ rfl,rfl,_,rfl⟩⟩
theorem jT(h:PA X es t):PE X (.List es pos) (tLst t):=by
 intro pins s σ H Q I hq;refine wpAny_List_spliced (thn (h pos pins s σ H _ I hq) fun us s1 ⟨xs,H1,I1,r,z,q⟩=>⟨by rw[<-r.length];exact z,?_⟩);have hf:H1 s1.heap.objs.size=none:=I1.hok.fresh (vb _);refine⟨.ref s1.heap.objs.size,upd H1 s1.heap.objs.size (.lst xs),I1.laid (t':=s1.toks) (fun b u e=>vJ _ e) (vb _) ?_,rfl,q _ hf⟩;exact⟨z,us,0,r,Heap.get?_push_size _ rfl⟩
end
noncomputable abbrev Sp:=List V->Hp->VK->XK->Prop
noncomputable abbrev CXT:=List Env->Hp->Shared->XK->Value->Shared->Prop
structure Env0(P:Program)(w:World)(K:Frg)(mg:Str->Option Value)(base:Heap)(A:Around)(outer:List Env)(s:Shared)(H:Hp):Prop where
 frames:A.frames=some outer
 mod:Mod K mg base
 bs:∀b o,base.get? b=some o->s.heap.get? b=some o/\H b=none
 bsz:base.objs.size<=s.heap.objs.size
 funs:s.heap.FunFrames base outer
 frf:∀b∈frs outer,H b=none
 hok:HOk P w H s.heap
 bare:AllBare s.gens
def CE(outer:List Env)(P:Program)(w:World)(H:Hp)(s:Shared)(Q:VK)(u:Value)(s':Shared):Prop:=
 ∃v H',s'.os=s.os/\AllBare s'.gens/\Un (frs outer) [] H H' s.heap s'.heap/\HOk P w H' s'.heap/\RelV v u/\Q v H'
def CR(CX:CXT)(outer:List Env)(P:Program)(w:World)(H:Hp)(s:Shared)(Q:VK)(E:XK)(r:Result)(s':Shared):Prop:=
 match r with
 | .ok (.ret u)=>CE outer P w H s Q u s'
 | .ok _=>False
 | .error e=>CX outer H s E e s'
structure FnOk(P:Program)(w:World)(K:Frg)(mg:Str->Option Value)(base:Heap)(CX:CXT)(k:Nat)(f:Addr)(fd:FuncData)(ps:List Str)(sp:Sp):Prop where
 len:∀vs H Q E,sp vs H Q E->vs.length=ps.length
 run:∀(A:Around) (outer:List Env) (s:Shared) (H:Hp) (args:Args) (us:List Value) (vs:List V) (Q:VK) (E:XK),Room k A->Env0 P w K mg base A outer s H->BindsTo s fd args (ps.zip us)->Vals vs us->sp vs H Q E->
  codeAny (model P w) A (.call (.ref f) args) (CR CX outer P w H s Q E) s
theorem FnOk.mono{P:Program}{w:World}{K:Frg}{mg:Str->Option Value}{base:Heap}{CX:CXT}{j k:Nat}{f:Addr}{fd:FuncData}{ps:List Str}{sp:Sp}(F:FnOk P w K mg base CX j f fd ps sp)(h:j<=k) :
  FnOk P w K mg base CX k f fd ps sp:=⟨F.len,fun A outer s H args us vs Q E hr=>F.run A outer s H args us vs Q E (hr.mono h)⟩
theorem Env0.make{P:Program}{w:World}{K:Frg}{mg:Str->Option Value}{base:Heap}{A:Around}{outer:List Env}{s:Shared}{H:Hp}(e:Env0 P w K mg base A outer s H)(C:Addr)(us:List Value)(kw:List (Str×Value)) :
  Env0 P w K mg base (A.under (.builtin "type.__call__" ⟨.ref C::us,kw⟩)) outer s H:=⟨by first | exact e.frames | (simpa [Around.under,Code.envs,Code.isFrame,pushEnvs]using e.frames),e.mod,e.bs,e.bsz,e.funs,e.frf,e.hok,e.bare⟩
section
variable{X:Cx}{pins:List (Addr×Obj)}{σ:St}{H:Hp}{s s':Shared}
theorem Inv.env0(I:Inv X pins σ H s):Env0 X.prog X.w X.K X.mg X.base X.A X.stack s H:=
 ⟨I.ok.frames,I.ok.mod,I.bs,vV I.ok.bsz I.sz,I.stack,I.stkFree,I.hok,I.bare⟩
theorem Inv.after{Q:VK}{u:Value}(I:Inv X pins σ H s)(h:CE X.stack X.prog X.w H s Q u s'):EP X pins σ Q u s':=by
 obtain⟨v,H',os,bare,un,hok,r,q⟩:=h;obtain⟨hh,g,d,t,os'⟩:=s';obtain rfl:os'=s.os:=os;exact⟨v,H',I.call (h':=hh) (g':=g) (d':=d) (t':=t) (ch:=[]) un hok bare (fun b z=>ug z (by simp)),r,q⟩
end
def tCall(sp:Sp)(dvs:List V)(E:XK)(t:TA):TE:=fun σ H Q=>t σ H fun vs H1=>sp (vs++dvs) H1 Q E
def tMeth(C:Addr)(m:Str)(sp:Sp)(dvs:List V)(E:XK)(ta:TE)(t:TA):TE:=fun σ H Q=>ta σ H fun x H1=>∃a dx fs,x = .ref a/\H1 a=some (.ins C dx fs)/\fs.lookup m=none/\
 t σ H1 fun vs H2=>sp (x::(vs++dvs)) H2 Q E
def tMake(C:Addr)(sp:Sp)(dvs:List V)(E:XK)(t:TA):TE:=fun σ H Q=>t σ H fun vs H1=>∀x dx,H1 x=none->H1 dx=none->dx≠x->
 sp (.ref x::(vs++dvs)) (upd (upd H1 dx (.own x)) x (.ins C dx [])) (fun v H2=>v = .non/\Q (.ref x) H2) E
def Binds(K:Frg)(fd:FuncData)(ps:List Str)(ds:List Value):Prop:=
 ∀(s:Shared) (us:List Value),K.In s.heap->(us++ds).length=ps.length->BindsTo s fd ⟨us,[]⟩ (ps.zip (us++ds))
theorem Binds.all{K:Frg}{fd:FuncData}{ps:List Str}(h:∀us:List Value,us.length=ps.length->bindArgs fd ⟨us,[]⟩=pure (ps.zip us)):Binds K fd ps []:=fun s us _ hl=>by
 rw[append_nil]at hl|-;exact .of_eq (h us hl)
def Passes(CX:CXT)(X:Cx)(E:XK):Prop:=∀(pins:List (Addr×Obj)) (σ:St) (H:Hp) (s:Shared) (e:Value) (s':Shared),Inv X pins σ H s->CX X.stack H s E e s'->X.xe e s'
section
variable{X:Cx}{CX:CXT}{k:Nat}{f C:Addr}{fd:FuncData}{ps:List Str}{sp:Sp}{dvs:List V}{ds:List Value}{E:XK}{x m:Str}{p pos apos:Pos}{e o:Expr}{es:List Expr}{ta:TE}{t:TA}
theorem j4P{pins:List (Addr×Obj)}{σ:St}{H:Hp}{s:Shared}{Q:VK}{us:List Value}{vs:List V}(F:FnOk X.prog X.w X.K X.mg X.base CX k f fd ps sp)(hr:Room k X.A)(hb:Binds X.K fd ps ds)(hd:Vals dvs ds)(hx:Passes CX X E)
  (I:Inv X pins σ H s) (r:Vals vs us) (h:sp (vs++dvs) H Q E):wpAny (model X.prog X.w) X.A (call (.ref f) us) (EP X pins σ Q) X.xe s:=by
 have r2:Vals (vs++dvs) (us++ds):=r.append hd;have hl:(us++ds).length=ps.length:=by rw[<-r2.length];exact F.len _ _ _ _ h
 refine wpAny_call (codeAny_mono (F.run X.A X.stack s H ⟨us,[]⟩ (us++ds) (vs++dvs) Q E hr I.env0 (hb s us I.kIn hl) r2 h) fun r s' hq=>?_);cases r with
 | error e=>exact hx pins σ H s e s' I hq
 | ok fl=>
  cases fl with
  | ret u=>exact I.after hq
  | next=>exact False.elim hq
  | brk=>exact False.elim hq
  | cont=>exact False.elim hq
theorem jk(F:FnOk X.prog X.w X.K X.mg X.base CX k f fd ps sp)(hr:Room k X.A)(hg:Gl X x)(hm:X.mg x=some (.ref f))(hk:PySem.W.keepIn X.K (.ref f)=true)(hb:Binds X.K fd ps ds)(hd:Vals dvs ds)(hx:Passes CX X E)
  (ha:PA X (e::es) t) (hdb:(x==("__debug__" : Str))=false:=by decide) (he:starEach (e::es) X.env=(false,eval e X.env)::starEach es X.env:=by rfl) (hpl:(backTo pos (starEach es X.env)).any (·.1)=false:=by rfl) :
  PE X (.Call (.Name x p) (e::es) [] pos) (tCall sp dvs E t):=by
 intro pins s σ H Q I h;refine wpAny_Call_Name_kw (Xs I hg hm ?_ hdb);refine PySem.W.callWith_K (h₀:=X.base) I.ok.mod.kin hk (thn (ha pos pins s σ H _ I h) fun us s1 ⟨vs,H1,I1,r,q⟩=>⟨I1.kIn,?_⟩) he hpl;exact j4P F hr hb hd hx I1 r q
theorem zX{pl:Sem Bool}(he:PE X o ta)(c:Cls X.K C)(hm:Meth X.K C m f)(F:FnOk X.prog X.w X.K X.mg X.base CX k f fd ps sp)(hr:Room k X.A)(hb:Binds X.K fd ps ds)(hd:Vals dvs ds)(hx:Passes CX X E)(ha:PA X (e::es) t)
  (hst:starEach (e::es) X.env=(false,eval e X.env)::starEach es X.env:=by rfl) (hpl:(backTo pos (starEach es X.env)).any (·.1)=false:=by rfl)
  (ht:eval (.Call (.Attribute o m apos) (e::es) [] pos) X.env=(do
   let ov <-eval o X.env
   standAt apos.atName
   let (f,first) <-holding [ov] (getMethod ov m pl)
   callWith pos f first (backTo pos (starEach (e::es) X.env)) (backToKw pos (keywordEach [] X.env))):=by rfl) :
  PE X (.Call (.Attribute o m apos) (e::es) [] pos) (tMeth C m sp dvs E ta t):=by
 intro pins s σ H Q I h;refine PySem.W.methodCall_KW (pl:=pl) (thn (he pins s σ H _ I h) fun u s1 ⟨x,H1,I1,rx,a,dx,fs,ex,ea,l,q⟩=>?_) ht;subst ex;obtain rfl:u=Value.ref a:=rx;refine j1q I1 ea c hm l ?_;refine PySem.W.callWith_K (first:=[.ref a]) (h₀:=X.base) I.ok.mod.kin hm.kp (thn (ha pos pins s1 σ H1 _ I1 q) fun us s2 ⟨vs,H2,I2,r,q2⟩=>⟨I2.kIn,?_⟩) hst hpl;exact j4P (us:=.ref a::us) (vs:=.ref a::vs) F hr hb hd hx I2 (.cons rfl r) q2
structure Mk(K:Frg)(C f:Addr):Prop where
 makes:PySem.W.makesIn K C=true
 init:PySem.W.findIn K (.ref C) "__init__"= some (some (.ref f))
 fn:PySem.W.isFn K (.ref f)=true
 kp:PySem.W.keepIn K (.ref C)=true
theorem j4Q{pins:List (Addr×Obj)}{σ:St}{H:Hp}{s:Shared}{Q:VK}{us:List Value}{vs:List V}(M:Mk X.K C f)(F:FnOk X.prog X.w X.K X.mg X.base CX k f fd ps sp)(hr:Room (k+1) X.A)(hb:Binds X.K fd ps ds)(hd:Vals dvs ds)
  (hx:Passes CX X E) (I:Inv X pins σ H s) (r:Vals vs us)
  (h:∀x dx,H x=none->H dx=none->dx≠x->sp (.ref x::(vs++dvs)) (upd (upd H dx (.own x)) x (.ins C dx [])) (fun v H2=>v = .non/\Q (.ref x) H2) E) :
  wpAny (model X.prog X.w) X.A (call (.ref C) us) (EP X pins σ Q) X.xe s:=by
 have hq:=h (s.heap.objs.size+1) s.heap.objs.size (I.hok.fresh (Nat.le_succ _)) (I.hok.fresh (vb _)) (vE (Nat.lt_succ_self _));have I2:=Inv.made (C:=C) I;have r2:Vals (V.ref (s.heap.objs.size+1)::(vs++dvs)) (Value.ref (s.heap.objs.size+1)::(us++ds)):=.cons rfl (r.append hd);have hl:(Value.ref (s.heap.objs.size+1)::us++ds).length=ps.length:=by
  have e:=r2.length;rw[F.len _ _ _ _ hq]at e;exact e.symm
 refine wpAny_call (j4g (f:=f) I.kIn M.makes M.init (beq_iff_eq.mp M.fn) (codeAny_mono (F.run _ X.stack _ _ ⟨Value.ref (s.heap.objs.size+1)::us,[]⟩ (Value.ref (s.heap.objs.size+1)::(us++ds)) _ _ E (hr.make C us [])
  (I2.env0.make C us []) (hb _ (Value.ref (s.heap.objs.size+1)::us) I2.kIn hl) r2 hq) fun r s' hq'=>?_))
 cases r with
 | error e=>exact hx pins σ _ _ e s' I2 hq'
 | ok fl=>
  cases fl with
  | ret u=>
   obtain⟨v,H',I3,rv,ev,q3⟩:=I2.after hq';subst ev;exact⟨rv,⟨V.ref (s.heap.objs.size+1),H',I3,rfl,q3⟩⟩
  | next=>exact False.elim hq'
  | brk=>exact False.elim hq'
  | cont=>exact False.elim hq'
theorem wO(M:Mk X.K C f)(F:FnOk X.prog X.w X.K X.mg X.base CX k f fd ps sp)(hr:Room (k+1) X.A)(hg:Gl X x)(hm:X.mg x=some (.ref C))(hb:Binds X.K fd ps ds)(hd:Vals dvs ds)(hx:Passes CX X E)
  (ha:PA X (e::es) t) (hdb:(x==("__debug__" : Str))=false:=by decide) (he:starEach (e::es) X.env=(false,eval e X.env)::starEach es X.env:=by rfl) (hpl:(backTo pos (starEach es X.env)).any (·.1)=false:=by rfl) :
  PE X (.Call (.Name x p) (e::es) [] pos) (tMake C sp dvs E t):=by
 intro pins s σ H Q I h;refine wpAny_Call_Name_kw (Xs I hg hm ?_ hdb);refine PySem.W.callWith_K (h₀:=X.base) I.ok.mod.kin M.kp (thn (ha pos pins s σ H _ I h) fun us s1 ⟨vs,H1,I1,r,q⟩=>⟨I1.kIn,?_⟩) he hpl;exact j4Q M F hr hb hd hx I1 r q
end
section
variable{X:Cx}{CX:CXT}{k:Nat}{f C:Addr}{fd:FuncData}{ps ks:List Str}{sp:Sp}{E:XK}{x m:Str}{p pos apos kpos:Pos}{e o:Expr}{es:List Expr}{kws:List Keyword}{te ta:TE}{t tk:TA}{nm:Option Str}
variable{g:List Value->List Value->List Value}{gV:List V->List V->List V}
end
structure FnScope(N P:List Str)(sc:Scope):Prop where
 kind:sc.kind = .function
 co:sc.isCoroutine=false
 gen:sc.isGenerator=false
 nd:N.Nodup
 pre:N.take P.length=P
 par:∀x∈P,sc.names.lookup x=some .local\/sc.names.lookup x=some .cell
 nofree:∀y∈sc.names,y.2≠.free
theorem xg{kindOf:Str->Option NameKind}{x:Str}:∀{binds:List (Str×Value)} {m:Str->Option Value},(∀v,(x,v)∉binds)->bindL kindOf binds m x=m x
 | [],_,_=>rfl
 | (n,v)::r,m,h=>by
  unfold bindL;rw[xg fun w hw=>h w (vp _ hw)];split
  ·have:x≠n:=by rintro rfl;exact h v vq
   simp[this]
  ·rfl
theorem xc{kindOf:Str->Option NameKind}{x:Str}:∀{binds:List (Str×Value)} {m:Str->Option Value},(∀v,(x,v)∉binds)->bindC kindOf binds m x=m x
 | [],_,_=>rfl
 | (n,v)::r,m,h=>by
  unfold bindC;rw[xc fun w hw=>h w (vp _ hw)];split
  ·rfl
  ·have:x≠n:=by rintro rfl;exact h v vq
   simp[this]
theorem xf{kindOf:Str->Option NameKind}{x:Str}{v:Value}:∀{P:List Str} {vs:List Value} {i:Nat} {m:Str->Option Value},P.Nodup->P[i]?=some x->vs[i]?=some v->kindOf x=some .local->
  bindL kindOf (P.zip vs) m x=some v
 | [],_,_,_,_,h,_,_=>by simp at h
 | _::_,[],_,_,_,_,h,_=>by simp at h
 | p::P,w::vs,0,m,nd,h1,h2,hk=>by
  simp at h1 h2;subst h1;subst h2;show bindL kindOf ((p,w)::P.zip vs) m p=_;unfold bindL;rw[xg fun v hv=>(ur.mp nd).1 (of_mem_zip hv).1,vd hk];simp
 | p::P,w::vs,i+1,m,nd,h1,h2,hk=>by
  show bindL kindOf ((p,w)::P.zip vs) m x=_;unfold bindL;exact xf (i:=i) (ur.mp nd).2 (by simpa using h1) (by simpa using h2) hk
theorem xb{kindOf:Str->Option NameKind}{x:Str}{v:Value}:∀{P:List Str} {vs:List Value} {i:Nat} {m:Str->Option Value},P.Nodup->P[i]?=some x->vs[i]?=some v->kindOf x≠some .local->
  bindC kindOf (P.zip vs) m x=some v
 | [],_,_,_,_,h,_,_=>by simp at h
 | _::_,[],_,_,_,_,h,_=>by simp at h
 | p::P,w::vs,0,m,nd,h1,h2,hk=>by
  simp at h1 h2;subst h1;subst h2;show bindC kindOf ((p,w)::P.zip vs) m p=_;unfold bindC;rw[xc fun v hv=>(ur.mp nd).1 (of_mem_zip hv).1,vc hk];simp
 | p::P,w::vs,i+1,m,nd,h1,h2,hk=>by
  show bindC kindOf ((p,w)::P.zip vs) m x=_;unfold bindC;exact xb (i:=i) (ur.mp nd).2 (by simpa using h1) (by simpa using h2) hk
noncomputable def start(N:List Str)(vs:List V):St:=vs.map some++List.replicate (N.length-vs.length) none
noncomputable def cxOf(CX:CXT)(P:Program)(w:World)(K:Frg)(mg:Str->Option Value)(base:Heap)(N:List Str)(qual:Str)(scope:Scope)(f:Addr)(cd:Value)(A:Around)(outer:List Env)(s:Shared)(H:Hp)(E:XK):Cx where
 prog:=P
 w:=w
 K:=K
 mg:=mg
 base:=base
 A:=A.deeper (envOfC qual scope s.heap.objs.size f cd)
 N:=N
 s₀:=s
 H₀:=H
 env:=envOfC qual scope s.heap.objs.size f cd
 outer:=outer
 stack:=envOfC qual scope s.heap.objs.size f cd::outer
 ex:=[]
 calm:=true
 fn:=fun _=>true
 pn:=[]
 xe:=fun e s'=>wpAny (model P w) (A.deeper (envOfC qual scope s.heap.objs.size f cd)) (leaving (envOfC qual scope s.heap.objs.size f cd) e) (fun _ s''=>CX outer H s E e s'') (fun e' s''=>CX outer H s E e' s'') s'
theorem j0b{sc:Scope}{n:Nat}{x:Str}(h:sc.names.lookup x=some .cell):∃c,(cellsFrom n sc.names []).lookup x=some c:=by
 have q:=PySem.W.cellsFrom_some sc.names n [] (.inl h);exact Option.isSome_iff_exists.mp q
theorem j3d{CX:CXT}{P:Program}{w:World}{K:Frg}{mg:Str->Option Value}{base:Heap}{N ps:List Str}{qual:Str}{scope:Scope}{f:Addr}{cd:Value}{A:Around}{outer:List Env}{s s1:Shared}{H:Hp}{E:XK}{us:List Value}{vs:List V}
  (S:FnScope N ps scope) (hd:A.handled=none) (e0:Env0 P w K mg base A outer s H) (hl:vs.length=ps.length) (r:Vals vs us)
  (x:InCallC s s.heap.objs.size (bindL (envOfC qual scope s.heap.objs.size f cd).kindOf (ps.zip us) fun _=>none) (cellsFrom (s.heap.objs.size+1) scope.names []) (bindC (envOfC qual scope s.heap.objs.size f cd).kindOf (ps.zip us) fun _=>none) s1) :
  Inv (cxOf CX P w K mg base N qual scope f cd A outer s H E) [] (start N vs) H s1:=by
 have hpl:ps.length<=N.length:=by have:=congrArg List.length S.pre;rw[vi]at this;lia
 obtain⟨h1,tk,rfl,hk⟩:=x.done;have noA:∀b:Addr,b∉(cxOf CX P w K mg base N qual scope f cd A outer s H E).ex:=fun b z=>ug (show b∈([]:List Addr)from z) (by simp)
 refine⟨⟨e0.mod,S.kind,rfl,rfl,vb _,fun y z c h1 h2=>?_,fun y hy=>?_,fun y c _ h=>?_,fun _=>hd,Around.frames_deeper e0.frames,.inr ⟨rfl,rfl⟩,fun b z=>ug z (noA b),e0.bs,e0.bsz,fun b _ _=>noA b,fun b z=>ug z (noA b),e0.funs,e0.frf⟩,
  rfl,e0.bare,Un.kept hk,⟨_,x.toInCall.ns,fun i y v h1 h2 h3=>?_⟩,fun y c h=>⟨_,x.cell y c h⟩,e0.hok.fresh (vb _),fun y c h=>?_,fun p hp=>ug (show p∈([]:List (Addr×Obj))from hp) (by simp),e0.hok.kept hk,?_⟩
 ·exact name_of_addr x.apart (PySem.mem_of_lookup h1) (PySem.mem_of_lookup h2)
 ·have hy:scope.names.lookup y=some .cell\/scope.names.lookup y=some .free:=hy;rcases hy with hy | hy
  ·exact j0b hy
  ·exact ug rfl (S.nofree _ (PySem.mem_of_lookup hy))
 ·exact vX (x.above y c (PySem.mem_of_lookup h))
 ·have hi:i<vs.length:=by
   unfold start at h2;by_cases hi:i<vs.length
   ·exact hi
   ·rw[vC (by simpa using hi)]at h2;rw[List.getElem?_replicate]at h2;split at h2<;>cases h2
  have ha:vs[i]?=some v:=by
   unfold start at h2;rw[vB (by simpa using hi),vv]at h2;cases e:vs[i]? with
   | none=>rw[e]at h2;cases h2
   | some a=>rw[e]at h2;cases h2;rfl
  obtain⟨u,hu,rv⟩:=r.get ha;have hp:ps[i]?=some y:=by
   rw[<-S.pre,List.getElem?_take_of_lt (by lia)];exact h1
  have ndP:ps.Nodup:=by rw[<-S.pre];exact S.nd.sublist (take_sublist _ _)
  refine⟨u,rv,?_⟩;rcases S.par y (vm hp)with k | k
  ·exact .inl ⟨k,xf ndP hp hu k⟩
  ·obtain⟨c,e⟩:=j0b (n:=s.heap.objs.size+1) k;refine .inr ⟨.inl k,c,e,?_⟩;have q:=x.cell y c e;rw[xb ndP hp hu (by show scope.names.lookup y≠_;rw[k];decide)]at q;exact q
 ·exact e0.hok.fresh (vX (x.above y c (PySem.mem_of_lookup h)))
 ·unfold start;show _=N.length;rw[vn,vt,length_replicate];lia
theorem j60{CX:CXT}{P:Program}{w:World}{K:Frg}{mg:Str->Option Value}{base:Heap}{k:Nat}{f:Addr}{name qual:Str}{params:Arguments}{body:List Stmt}{scope:Scope}{dV kV doc pm cdv ct oc:Value}{an od:Option Addr}
  {osl:Array (Option Value)} {N ps:List Str} {sp:Sp} (lk:K.lookup f=some ⟨oc,od,.func (PySem.W.fnOf name qual params body scope dV kV doc pm an cdv ct),osl⟩) (hcd:PySem.W.codeIn K cdv qual=true) (S:FnScope N ps scope)
  (len:∀vs H Q E,sp vs H Q E->vs.length=ps.length)
  (hbody:∀(A:Around) (outer:List Env) (s:Shared) (H:Hp) (vs:List V) (Q:VK) (E:XK),Room k (A.deeper (envOfC qual scope s.heap.objs.size f cdv))->sp vs H Q E->
   ∃t,PSs (cxOf CX P w K mg base N qual scope f cdv A outer s H E) body t/\t {nx:=fun _ H'=>Q .non H',rt:=Q} (start N vs) H) :
  FnOk P w K mg base CX (k+1) f (PySem.W.fnOf name qual params body scope dV kV doc pm an cdv ct) ps sp:=by
 refine⟨len,fun A outer s H args us vs Q E hr e0 hb r hsp=>?_⟩;have hl:=len _ _ _ _ hsp;have KX:K.In s.heap:=e0.mod.kin.keeps fun b o e=>(e0.bs b o e).1
 have lim:s.heap.NoLimit:=e0.mod.nolimit.keeps fun b o e=>(e0.bs b o e).1
 have hkind:∀y∈ps.zip us,scope.names.lookup y.1=some .local\/(scope.names.lookup y.1=some .cell/\((cellsFrom (s.heap.objs.size+1) scope.names []).lookup y.1).isSome=true):=fun⟨n,v⟩ hy=>by
  rcases S.par n (of_mem_zip hy).1 with q | q
  ·exact .inl q
  ·exact .inr ⟨q,PySem.W.cellsFrom_some _ _ _ (.inl q)⟩
 refine codeAny_call_function hr.depth (KX _ _ lk) rfl S.co S.gen rfl (PySem.W.codeRec_of KX hcd) (hb _ _ _ _ ?_);refine wpAny_newFunctionEnv_cells S.kind hkind fun env he s1 x=>?_
 subst he;refine⟨lim.keeps x.toInCall.keep,codeAny_func ?_⟩;obtain⟨t,ht,hq⟩:=hbody A outer s H vs Q E (hr.deeper _) hsp;have I:Inv (cxOf CX P w K mg base N qual scope f cdv A outer s H E) [] (start N vs) H s1:=j3d S hr.hd e0 hl r x;refine wpAny_mono (ht [] s1 (start N vs) H _ I hq) (fun fl s' hs=>?_) fun e s' hs=>hs
 have fin:∀{σ':St} {H':Hp} {v:V} {u:Value},Inv (cxOf CX P w K mg base N qual scope f cdv A outer s H E) [] σ' H' s'->RelV v u->Q v H'->CE outer P w H s Q u s':=
  fun {σ' H' v u} J rv q=>⟨v,H',J.os,J.bare,J.base,J.hok,rv,q⟩
 cases fl with
 | ret u=>
  obtain⟨v,σ',H',J,rv,q⟩:=hs;exact fin J rv q
 | next=>
  obtain⟨σ',H',J,q⟩:=hs;exact fin (v:=V.non) (u:=Value.none) J rfl q
 | brk=>
  obtain⟨_,_,_,q⟩:=hs;exact False.elim q
 | cont=>
  obtain⟨_,_,_,q⟩:=hs;exact False.elim q
section
variable{X:Cx}{x:Str}{p pos:Pos}{e:Expr}{es:List Expr}{t:TA}{id T:String}{r:List V->Hp->VK->Prop}
def tCB(r:List V->Hp->VK->Prop)(t:TA):TE:=fun σ H Q=>t σ H fun vs H1=>r vs H1 Q
theorem jF(hc:CallR X (.builtin id) r)(hg:Gl X x)(hm:X.mg x=none)(hv:bootBuiltins x=some (.builtin id))(ha:PA X (e::es) t)(hn:x≠"__name__":=by decide)(hdb:(x==("__debug__" : Str))=false:=by decide)
  (he:starEach (e::es) X.env=(false,eval e X.env)::starEach es X.env:=by rfl) (hpl:(backTo pos (starEach es X.env)).any (·.1)=false:=by rfl):PE X (.Call (.Name x p) (e::es) [] pos) (tCB r t):=by
 intro pins s σ H Q I h;refine wpAny_Call_Name_kw (yX I hg hm hv ?_ hn hdb);exact PyProof.Rows.callWith_builtin1 (thn (ha pos pins s σ H _ I h) fun us s1 ⟨vs,H1,I1,r1,q1⟩=>hc pins s1 σ H1 vs us Q I1 r1 q1) he hpl
theorem qP(hc:CallR X (.type T) r)(hg:Gl X x)(hm:X.mg x=none)(hv:bootBuiltins x=some (.type T))(ha:PA X (e::es) t)(hn:x≠"__name__":=by decide)(hdb:(x==("__debug__" : Str))=false:=by decide)
  (he:starEach (e::es) X.env=(false,eval e X.env)::starEach es X.env:=by rfl) (hpl:(backTo pos (starEach es X.env)).any (·.1)=false:=by rfl):PE X (.Call (.Name x p) (e::es) [] pos) (tCB r t):=by
 intro pins s σ H Q I h;refine wpAny_Call_Name_kw (yX I hg hm hv ?_ hn hdb);exact PyProof.Rows.callWith_type1 (thn (ha pos pins s σ H _ I h) fun us s1 ⟨vs,H1,I1,r1,q1⟩=>hc pins s1 σ H1 vs us Q I1 r1 q1) he hpl
end
end L2
namespace HT
open PySem PyProof.Rows
section
open PySem.SeqAt
open PySem.AutoSeq1 (wpAny_loadPart')
open PySem.MeetsSeq PySem.MeetsSeq2 PySem.MeetsSeq3
end
section
variable{prog:Program}{w:World}{A:Around}{E:Value->Shared->Prop}{s:Shared}
noncomputable def sIx(n d:Nat):Option Int->Nat
 | none=>d
 | some v=>if v<0 then(v+(n:Int)).toNat else min v.toNat n
theorem j6H(n d:Nat)(hd:d<=n)(o:Option Int):sIx n d o<=n:=by
 cases o with
 | none=>exact hd
 | some v=>
  show(if v<0 then(v+(n:Int)).toNat else min v.toNat n)<=n;by_cases hv:v<0
  ·rw[vd hv];lia
  ·rw[vc hv];exact Nat.min_le_right _ _
theorem j28(v:Int)(n d:Nat):(if v<0 then max (v+(n:Int)) 0 else min v (n:Int))=((sIx n d (some v):Nat):Int):=by
 show(if v<0 then max (v+(n:Int)) 0 else min v (n:Int))=(((if v<0 then(v+(n:Int)).toNat else min v.toNat n):Nat):Int)
 by_cases hv:v<0
 ·simp only[if_pos hv];lia
 ·simp only[if_neg hv];lia
theorem j15(lo hi:Option Int)(n:Nat):Builtin.Slice.sliceAdjust lo hi 1 (n:Int)=(((sIx n 0 lo:Nat):Int),((sIx n n hi:Nat):Int)):=by
 have h1:¬((1:Int)<0):=by lia
 unfold Builtin.Slice.sliceAdjust;simp only[h1,if_false];refine Prod.ext ?_ ?_
 ·cases lo with
  | none=>rfl
  | some v=>exact j28 v n 0
 ·cases hi with
  | none=>rfl
  | some v=>exact j28 v n n
theorem j1M(i j:Nat):Builtin.Slice.slicePlaces (i:Int) (j:Int) 1=j-i:=by
 unfold Builtin.Slice.slicePlaces;have h1:(1:Int)>0:=by lia
 simp only[h1,if_true,Int.ediv_one];split<;>lia
theorem slicePart_{v:Value}{o:Option Int}{Q:Option Int->Shared->Prop}(p:IsPart v o)(h:Q o s):wpAny (model prog w) A (Builtin.Slice.slicePartIndex v) Q E s:=by
 cases p with
 | none=>exact slicePart_none h
 | int i t=>exact slicePart_int h
theorem KU{sl:Addr}{vl vu:Value}{lo hi:Option Int}{n:Nat}{Q:Int×Int×Nat->Shared->Prop}(hs:s.heap.IsSliceOf sl vl vu .none)(pl:IsPart vl lo)(pu:IsPart vu hi)
  (h:Q (((sIx n 0 lo:Nat):Int),1,sIx n n hi-sIx n 0 lo) s):wpAny (model prog w) A (Builtin.Slice.sliceApplied (.ref sl) (pure (n:Int))) Q E s:=by
 obtain⟨os,hos,hcs,hds⟩:=id hs;unfold Builtin.Slice.sliceApplied Builtin.Slice.sliceFields;refine uk (uk (wpAny_field hos hds (x:=vl) rfl (uk (wpAny_field hos hds (x:=vu) rfl (uk (wpAny_field hos hds (x:=.none) rfl (uh ?_)))))));refine uk (slicePart_none ?_);show wpAny _ _ (if((1:Int)==0)=true then _ else _) _ _ s;rw[vc (by decide)];refine uk (slicePart_ pl (uk (slicePart_ pu (uk (uh ?_)))));show wpAny _ _ (match Builtin.Slice.sliceAdjust lo hi 1 (n:Int)with | (lo,hi)=>pure (lo,(1:Int),Builtin.Slice.slicePlaces lo hi 1)) _ _ s;rw[j15 lo hi n];show wpAny _ _ (pure (((sIx n 0 lo:Nat):Int),(1:Int),Builtin.Slice.slicePlaces ((sIx n 0 lo:Nat):Int) ((sIx n n hi:Nat):Int) 1)) _ _ s;rw[j1M];exact uh h
theorem j4D(xs:Array Value)(i k:Nat):((List.range k).filterMap fun(m:Nat)=>xs[((i:Int)+(m:Int)*1).toNat]?).toArray=((xs.toList.drop i).take k).toArray:=by
 have e:(fun(m:Nat)=>xs[((i:Int)+(m:Int)*1).toNat]?)=fun m=>xs[i+m]?:=by
  funext m;have:((i:Int)+(m:Int)*1).toNat=i+m:=by lia
  rw[this]
 rw[e];have:=pick_run xs i k;rw[List.filterMap_map]at this;have e2:((fun x=>xs[x]?)∘fun x=>i+x)=fun m=>xs[i+m]?:=rfl
 rw[e2]at this;rw[this]
theorem kE{t sl:Addr}{items:Array Value}{vl vu:Value}{lo hi:Option Int}{Q:Value->Shared->Prop}(ht:IsTup s.heap t items)(hs:s.heap.IsSliceOf sl vl vu .none)(pl:IsPart vl lo)(pu:IsPart vu hi)
  (hw:¬(sIx items.size 0 lo=0/\sIx items.size items.size hi=items.size))
  (h:Q (.ref s.heap.objs.size) {s with heap:=s.heap.push {cls:=.type "tuple",data:=.seq ((items.toList.drop (sIx items.size 0 lo)).take (sIx items.size items.size hi-sIx items.size 0 lo)).toArray}})
  (hsz:items.size<=sizeLine):wpAny (model prog w) A (getItem (.ref t) (.ref sl)) Q E s:=by
 have htake:sizeOk (.seq ((items.toList.drop (sIx items.size 0 lo)).take (sIx items.size items.size hi-sIx items.size 0 lo)).toArray):=by
  show((items.toList.drop (sIx items.size 0 lo)).take (sIx items.size items.size hi-sIx items.size 0 lo)).toArray.size<=sizeLine;rw[size_toArray,vi,List.length_drop,Array.length_toList];lia
 have hj:sIx items.size items.size hi<=items.size:=j6H _ _ (vb _) hi;obtain⟨os,hos,hcs,hds⟩:=id hs;have hTs:s.TypeIs (.ref sl) "slice":=⟨os,hos,hcs⟩
 unfold getItem
 try with_reducible refine wpAny_holding ?_
 first | refine uk (uh ?_) | skip
 refine uk (wpAny_sequenceKey ht.typeIs (by decide) ?_);refine uk (wpAny_callSpecial?_slot (name:=Str.ofString "__getitem__") ht.typeIs PyProof.Rows.slot_tuple_getitem
  (wpAny_call_entry PyProof.Rows.slot_tuple_getitem ht.typeIs entry_tuple_getitem ?_ (args_tuple_getitem _ _)))
 show wpAny _ _ (Builtin.Tuple.tupleItemsOf (.ref t) >>= _) _ _ s;refine uk (tupleItemsOf_ ht ?_);refine uk (wpAny_typeOf hTs ?_);rw[vd (by decide)];refine uk (KU hs pl pu ?_);have hno:¬((((sIx items.size 0 lo:Nat):Int)==0&&(1:Int)==1&&(sIx items.size items.size hi-sIx items.size 0 lo)==items.size)=true):=by
  intro q;rw[Bool.and_eq_true,Bool.and_eq_true]at q;have q1:((sIx items.size 0 lo:Nat):Int)=0:=eq_of_beq q.1.1;have q2:sIx items.size items.size hi-sIx items.size 0 lo=items.size:=eq_of_beq q.2;exact hw ⟨by lia,by lia⟩
 show wpAny _ _ (if(((sIx items.size 0 lo:Nat):Int)==0&&(1:Int)==1&&(sIx items.size items.size hi-sIx items.size 0 lo)==items.size)=true then _ else _) _ _ s;rw[vc hno,j4D]
 first
  | exact uk (m:=Builtin.Tuple.tupleExact _) (wpAny_newObj_type (uh ⟨_,rfl,uh h⟩) htake)
  | exact uk (m:=Builtin.Tuple.tupleExact _) (wpAny_newObj_type (uk (uh (uh ⟨_,rfl,uh h⟩))) htake)
  | exact uk (uk (m:=Builtin.Tuple.tupleExact _) (wpAny_newObj_type (uh (uh ⟨_,rfl,uh h⟩)) htake))
  | exact uk (uk (m:=Builtin.Tuple.tupleExact _) (wpAny_newObj_type (uh ⟨_,rfl,uh h⟩) htake))
end
end HT
namespace L2
open PySem PySem.Spec PyProof.Rows
noncomputable abbrev TO:=St->Hp->(Option Int->Hp->Prop)->Prop
def PO(X:Cx)(e:Option Expr)(t:TO):Prop:=
 ∀(pins:List (Addr×Obj)) (s:Shared) (σ:St) (H:Hp) (Q:Option Int->Hp->Prop),Inv X pins σ H s->t σ H Q->
  wpAny (model X.prog X.w) X.A (evalPart e X.env) (fun u s'=>∃o H',Inv X pins σ H' s'/\IsPart u o/\Q o H') X.xe s
def tNoPart:TO:=fun _ H Q=>Q none H
def tPart(t:TE):TO:=fun σ H Q=>t σ H fun x H1=>∃i,x = .int i/\Q (some i) H1
theorem intsAre_of{ns:List Int}:∀{us:List Value},Vals (ns.map V.int) us->IntsAre us ns:=by
 induction ns with
 | nil=>intro us r;rw[map_nil]at r;cases r;exact .nil
 | cons n ns ih=>
  intro us r;rw[v7]at r;cases r with
  | cons r1 r2=>
   obtain⟨t,e⟩:=r1;subst e;exact .cons n t (ih r2)
section
variable{X:Cx}{e:Expr}{te:TE}{lo hi:Option Expr}{tl th:TO}{pos p2:Pos}
theorem kU:PO X none tNoPart:=by
 intro pins s σ H Q I h;rw[evalPart_none];exact uh ⟨none,H,I,.none,h⟩
theorem Yu(h:PE X e te):PO X (some e) (tPart te):=by
 intro pins s σ H Q I hw;rw[evalPart_some];refine thn (h pins s σ H _ I hw) fun u s1 ⟨x,H1,I1,r1,q1⟩=>?_
 obtain⟨i,rfl,q⟩:=q1;obtain⟨t,rfl⟩:=r1;exact⟨some i,H1,I1,.int i t,q⟩
def SlR(X:Cx)(r:V->Option Int->Option Int->Hp->VK->Prop):Prop:=
 ∀(pins:List (Addr×Obj)) (s:Shared) (σ:St) (H:Hp) (x:V) (v vl vu:Value) (lo hi:Option Int) (sl:Addr) (Q:VK),Inv X pins σ H s->RelV x v->s.heap.IsSliceOf sl vl vu .none->IsPart vl lo->IsPart vu hi->r x lo hi H Q->
  ∃T id,typeLookup (.type T) "__getitem__"= pure (some (.builtin id))/\s.TypeIs v T/\wpAny (model X.prog X.w) X.A (getItem v (.ref sl)) (EP X pins σ Q) X.xe s
def tSl(r:V->Option Int->Option Int->Hp->VK->Prop)(te:TE)(tl th:TO):TE:=fun σ H Q=>te σ H fun x H1=>tl σ H1 fun l H2=>th σ H2 fun u H3=>r x l u H3 Q
theorem y6{r:V->Option Int->Option Int->Hp->VK->Prop}(hr:SlR X r)(he:PE X e te)(hl:PO X lo tl)(hu:PO X hi th):PE X (.Subscript e (.Slice lo hi none p2) pos) (tSl r te tl th):=by
 intro pins s σ H Q I h;refine Subscript_ (thn (he pins s σ H _ I h) fun v s1 ⟨x,H1,I1,r1,q1⟩=>?_);refine wpAny_Slice (thn (hl pins s1 σ H1 _ I1 q1) fun vl s2 ⟨l,H2,I2,pl,q2⟩=>thn (hu pins s2 σ H2 _ I2 q2) fun vu s3 ⟨u,H3,I3,pu,q3⟩=>?_);rw[evalPart_none];refine uh ?_;have I4:Inv X pins σ H3 {s3 with heap:=s3.heap.push {cls:=.type "slice",data:=.fields #[vl,vu,.none]}}:=I3.kept (t':=s3.toks) fun b ob q=>vJ _ q
 obtain⟨T,id,hT,ht,hg⟩:=hr pins {s3 with heap:=s3.heap.push {cls:=.type "slice",data:=.fields #[vl,vu,.none]}} σ H3 x v vl vu l u s3.heap.objs.size Q I4 r1 (Heap.IsSliceOf.new ..) pl pu q3;show wpAny (model X.prog X.w) X.A (subscriptTail e (.Slice lo hi none p2) v (.ref s3.heap.objs.size)) (EP X pins σ Q) X.xe {s3 with heap:=s3.heap.push {cls:=.type "slice",data:=.fields #[vl,vu,.none]}};exact tail_any (ops:=[.ref s3.heap.objs.size,v]) ht hT hg (by with_unfolding_all rfl)
noncomputable def cutV(xs:List V)(lo hi:Option Int):List V:=(xs.drop (HT.sIx xs.length 0 lo)).take (HT.sIx xs.length xs.length hi-HT.sIx xs.length 0 lo)
theorem ZE(xs:List V)(lo hi:Option Int):(cutV xs lo hi).length<=xs.length:=by
 unfold cutV;rw[vi,List.length_drop];lia
noncomputable def rSlT(K:Frg):V->Option Int->Option Int->Hp->VK->Prop:=fun x lo hi H Q=>∃a xs,x = .ref a/\SqT K H a xs/\
 ¬(HT.sIx xs.length 0 lo=0/\HT.sIx xs.length xs.length hi=xs.length)/\∀p,H p=none->Q (.ref p) (upd H p (.tup (cutV xs lo hi)))
theorem j6I:SlR X (rSlT X.K):=by
 intro pins s σ H x v vl vu lo hi sl Q I rx hs pl pu h;obtain⟨a,xs,rfl,hx,hw,q⟩:=h;cases rx;obtain⟨its,r,ht,hz⟩:=I.tuple hx;have hlen:its.toArray.size=xs.length:=by rw[size_toArray];exact r.length.symm
 refine⟨"tuple",_,PyProof.Rows.slot_tuple_getitem.lookup,ht.typeIs,?_⟩;refine HT.kE ht hs pl pu (by rw[hlen];exact hw) ?_ (by rw[hlen];exact hz);rw[hlen];refine⟨.ref s.heap.objs.size,_,I.laid (t':=s.toks) (o:=.tup (cutV xs lo hi)) (fun b ob q=>vJ _ q) (vb _) ?_,rfl,q _ (I.hok.fresh (vb _))⟩;exact⟨vV (ZE xs lo hi) hz,_,(r.drop (HT.sIx xs.length 0 lo)).take (HT.sIx xs.length xs.length hi-HT.sIx xs.length 0 lo),IsTup.new _ _⟩
end
noncomputable def ixN(n:Nat)(i:Int):Option Nat:=if 0<=i then(if i<n then some i.toNat else none)else if -(n:Int)<=i then some (i+n).toNat else none
noncomputable def atI{α:Type}(xs:List α)(i:Int):Option α:=(ixN xs.length i).bind fun j=>xs[j]?
theorem j2k{n:Nat}{i:Int}{j:Nat}(h:ixN n i=some j):seqIndex? i n=some j/\j<n/\-(n:Int)<=i/\i<n:=by
 unfold ixN at h;by_cases h0:0<=i
 ·rw[vd h0]at h;by_cases h1:i<n
  ·rw[vd h1]at h;have e:i.toNat=j:=vL h;exact⟨by rw[seqIndex_of h0 h1,e],by lia,by lia,h1⟩
  ·rw[vc h1]at h;cases h
 ·rw[vc h0]at h;by_cases h1 : -(n:Int)<=i
  ·rw[vd h1]at h;have e:(i+n).toNat=j:=vL h;exact⟨by rw[seqIndex_neg (by lia) h1,e],by lia,h1,by lia⟩
  ·rw[vc h1]at h;cases h
theorem Xb{α:Type}{xs:List α}{i:Int}{v:α}(h:atI xs i=some v):∃j,seqIndex? i xs.length=some j/\xs[j]?=some v/\j<xs.length/\-(xs.length:Int)<=i/\i<xs.length:=by
 unfold atI at h;cases e:ixN xs.length i with
 | none=>rw[e]at h;cases h
 | some j=>
  rw[e]at h;obtain⟨h1,h2,h3,h4⟩:=j2k e;exact⟨j,h1,h,h2,h3,h4⟩
theorem jL{α:Type}{xs:List α}{j:Nat}{v:α}(h:xs[j]?=some v):atI xs (j:Int)=some v:=by
 have hj:j<xs.length:=(vx.mp h).1;have e:ixN xs.length (j:Int)=some j:=by
  unfold ixN;rw[vd (by lia),vd (by lia)];simp
 unfold atI;rw[e];exact h
theorem j3Q{α:Type}(xs:List α)(v:α):atI (xs++[v]) (-1)=some v:=by
 have hl:(xs++[v]).length=xs.length+1:=by simp
 have e:ixN (xs++[v]).length (-1)=some xs.length:=by
  unfold ixN;rw[hl,vc (by decide),vd (by lia)];congr 1;lia
 unfold atI;rw[e];show(xs++[v])[xs.length]?=some v;simp
def PlainIx(b:Expr):Prop:=∀o i,subscripted b false o i=operate [o,i] (getItem o i)
def IxR(X:Cx)(r:R2):Prop:=
 ∀(value slice:Expr) (pins:List (Addr×Obj)) (s:Shared) (σ:St) (H:Hp) (x y:V) (v u:Value) (Q:VK),Inv X pins σ H s->RelV x v->RelV y u->r x y H Q->
  subscripted slice false v u=operate [v,u] (getItem v u)->wpAny (model X.prog X.w) X.A (subscriptTail value slice v u) (EP X pins σ Q) X.xe s
def MtR(X:Cx)(id:String)(r:V->List V->Hp->VK->Prop):Prop:=
 ∀(pins:List (Addr×Obj)) (s:Shared) (σ:St) (H:Hp) (x:V) (xs:List V) (v:Value) (us:List Value) (Q:VK),Inv X pins σ H s->RelV x v->Vals xs us->r x xs H Q->
  wpAny (model X.prog X.w) X.A (call (.builtin id) (v::us)) (EP X pins σ Q) X.xe s
section
variable{X:Cx}{a b:Expr}{ta tb:TE}{pos:Pos}
theorem jq{r:R2}(hr:IxR X r)(ha:PE X a ta)(hb:PE X b tb)(hs:PlainIx b:=by exact fun _ _=>rfl):PE X (.Subscript a b pos) (tOp r ta tb):=by
 intro pins s σ H Q I h;exact Subscript_ (binT ha hb I h fun v u s2 x y H2 I2 rx ry q=>hr a b pins s2 σ H2 x y v u Q I2 rx ry q (hs _ _))
def rIxL(K:Frg):R2:=fun x y H Q=>∃p xs i v,x = .ref p/\y = .int i/\SqL K H p xs/\atI xs i=some v/\Q v H
def rIxT(K:Frg):R2:=fun x y H Q=>∃p xs i v,x = .ref p/\y = .int i/\SqT K H p xs/\atI xs i=some v/\Q v H
def rIxS:R2:=fun x y H Q=>∃z i c,x = .str z/\y = .int i/\z.length<=sizeLine/\atI z.cps.toList i=some c/\Q (.str ⟨#[c]⟩) H
theorem jt:IxR X (rIxL X.K):=by
 intro value slice pins s σ H x y v u Q I rx ry h hs;obtain⟨p,xs,i,z,rfl,rfl,hq,he,q⟩:=h;cases rx;obtain⟨t,rfl⟩:=ry;obtain⟨its,r,pl,hz⟩:=I.list hq;obtain⟨j,h1,h2,h3,h4,h5⟩:=Xb he;obtain⟨w,ew,rw'⟩:=r.get h2;have hl:=r.length;have hn:=line63;have fin:EP X pins σ Q w s:=⟨z,H,I,rw',q⟩
 by_cases h0:0<=i
 ·have hj:i.toNat=j:=by
   rw[seqIndex_of h0 h5]at h1;exact vL h1
  exact item_listR pl.isList h0 (by lia) (by rw[hj];simpa using ew) fin hs
 ·have hj:(i+(its.toArray.size:Int)).toNat=j:=by
   rw[seqIndex_neg (by lia) h4]at h1;rw[size_toArray,<-hl];exact vL h1
  exact subscriptTail_builtinR (x:=w) pl.isList.typeIs slot_list_getitem.lookup
   (wpAny_getItem_list_neg (Q:=fun r s'=>r=w/\EP X pins σ Q r s') pl.isList (by lia) (by rw[size_toArray]<;>lia) (by lia) (by rw[hj];simpa using ew) ⟨rfl,fin⟩) hs
theorem jA:IxR X (rIxT X.K):=by
 intro value slice pins s σ H x y v u Q I rx ry h hs;obtain⟨p,xs,i,z,rfl,rfl,hq,he,q⟩:=h;cases rx;obtain⟨t,rfl⟩:=ry;obtain⟨its,r,pl,hz⟩:=I.tuple hq;obtain⟨j,h1,h2,h3,h4,h5⟩:=Xb he;obtain⟨w,ew,rw'⟩:=r.get h2;have hl:=r.length;have hn:=line63;have fin:EP X pins σ Q w s:=⟨z,H,I,rw',q⟩
 exact subscriptTail_builtinR (x:=w) pl.typeIs slot_tuple_getitem.lookup
  (getItem_tuple (j:=j) (Q:=fun r s'=>r=w/\EP X pins σ Q r s') pl (by lia) (by lia) (by rw[size_toArray,<-hl];exact h1) (by simpa using ew) ⟨rfl,fin⟩) hs
theorem j47:IxR X rIxS:=by
 intro value slice pins s σ H x y v u Q I rx ry h hs;obtain⟨z,i,c,rfl,rfl,hz,he,q⟩:=h;obtain⟨t,rfl⟩:=rx;obtain⟨t',rfl⟩:=ry;obtain⟨j,h1,h2,h3,h4,h5⟩:=Xb he;have hl:z.cps.toList.length=z.length:=by simp[Str.length]
 rw[hl]at h1 h4 h5;have hn:=line63;exact tail_any (typeIs_str s z t) slot_str_getitem.lookup (getItem_str (c:=c) (by
  have e1:decide (i < -(2^63:Int))=false:=vH (by lia);have e2:decide (i>=2^63)=false:=vH (by lia);rw[e1,e2,Bool.or_false]) (by rw[h1];simpa using h2) ⟨.str ⟨#[c]⟩,H,I.tok _,⟨_,rfl⟩,q⟩) hs
theorem j1B(its:List Value)(n j:Nat)(u:Value):Obj.mapSeq (·.setIfInBounds j u) {cls:=.type "list",data:=.seq its.toArray n}={cls:=.type "list",data:=.seq (its.set j u).toArray n}:=by
 simp[Obj.mapSeq]
theorem Inv.lst{pins:List (Addr×Obj)}{σ:St}{H:Hp}{s:Shared}{p:Addr}{xs:List V}(I:Inv X pins σ H s)(h:H p=some (.lst xs)) :
  ∃(its:List Value) (n:Nat),Vals xs its/\s.heap.get? p=some {cls:=.type "list",data:=.seq its.toArray n}/\xs.length<=sizeLine:=by
 obtain⟨z,its,n,r,e⟩:=I.hok p _ h;exact⟨its,n,r,e,z⟩
theorem Inv.lstUpd{pins:List (Addr×Obj)}{σ:St}{H:Hp}{s:Shared}{p:Addr}{xs ys:List V}{its its':List Value}{n n':Nat}{f:Obj->Obj}(I:Inv X pins σ H s)(h:H p=some (.lst xs))
  (ho:s.heap.get? p=some {cls:=.type "list",data:=.seq its.toArray n}) (hf:f {cls:=.type "list",data:=.seq its.toArray n}={cls:=.type "list",data:=.seq its'.toArray n'}) (r:Vals ys its') (hz:ys.length<=sizeLine) (t:Nat) :
  Inv X pins σ (upd H p (.lst ys)) {s with heap:=s.heap.update p f,toks:=t}:=by
 have e:(s.heap.update p f).get? p=some {cls:=.type "list",data:=.seq its'.toArray n'}:=by
  rw[Heap.get?_update_self f ho (by rw[hf]<;>rfl),hf]
 refine I.write (x:=p) (e:=p) (by rw[h];trivial) (.inl rfl) (fun b u hb q=>(Heap.get?_update_other _ _ (Ne.symm hb)).trans q) ⟨_,e⟩ ?_;exact⟨hz,its',n',r,e⟩
noncomputable def rSetL:V->V->V->Hp->(Hp->Prop)->Prop:=fun o i v H Q=>∃p xs k j,o = .ref p/\i = .int k/\H p=some (.lst xs)/\ixN xs.length k=some j/\Q (upd H p (.lst (xs.set j v)))
theorem set_list:PSet X rSetL:=by
 intro pins s σ H o i v ov iv u Q I ro ri rv h;obtain⟨p,xs,k,j,rfl,rfl,hp,hj,q⟩:=h;cases ro;obtain⟨t,rfl⟩:=ri;obtain⟨its,n,r,ho,hz⟩:=I.lst hp;obtain⟨h1,h2,h3,h4⟩:=j2k hj;have hl:=r.length;have hn:=line63;have I':Inv X pins σ (upd H p (.lst (xs.set j v))) {s with heap:=s.heap.update p (Obj.mapSeq (·.setIfInBounds j u))}:=
  I.lstUpd hp ho (j1B its n j u) (r.set rv j) (by rw[length_set];exact hz) s.toks
 by_cases h0:0<=k
 ·have hk:k.toNat=j:=by
   rw[seqIndex_of h0 h4]at h1;exact vL h1
  exact PySem.W.ki_setAt ho h0 (by lia) (by rw[size_toArray,<-hl];exact h4) (by rw[hk];exact⟨_,I',q⟩)
 ·have hk:(k+(its.toArray.size:Int)).toNat=j:=by
   rw[seqIndex_neg (by lia) h3]at h1;rw[size_toArray,<-hl];exact vL h1
  exact PySem.W.ki_setBack ho (by lia) (by rw[size_toArray,<-hl];exact h3) (by lia) (by rw[hk];exact⟨_,I',q⟩)
theorem X1(lo hi:Option Int)(n:Nat):(sliceBounds lo hi none n).1=((HT.sIx n 0 lo:Nat):Int)/\(sliceBounds lo hi none n).2.1=((HT.sIx n n hi:Nat):Int)/\(sliceBounds lo hi none n).2.2=1:=by
 refine⟨?_,?_,rfl⟩
 ·cases lo with
  | none=>simp[sliceBounds,HT.sIx]
  | some i=>
   simp only[sliceBounds,HT.sIx,Option.getD_none,show(1:Int)>0 by decide,if_true];by_cases h:i<0
   ·simp only[h,if_true]<;>lia
   ·simp only[h,if_false]<;>lia
 ·cases hi with
  | none=>simp[sliceBounds,HT.sIx]
  | some i=>
   simp only[sliceBounds,HT.sIx,Option.getD_none,show(1:Int)>0 by decide,if_true];by_cases h:i<0
   ·simp only[h,if_true]<;>lia
   ·simp only[h,if_false]<;>lia
theorem W5(its:List Value)(lo hi:Option Int):slicePick its.toArray lo hi none=((its.drop (HT.sIx its.length 0 lo)).take (HT.sIx its.length its.length hi-HT.sIx its.length 0 lo)).toArray:=by
 obtain⟨h1,h2,h3⟩:=X1 lo hi its.toArray.size;unfold slicePick;rw[h1,h2,h3];simp only[sliceRange_one,pick_run,size_toArray]<;>rfl
noncomputable def rSlL(K:Frg):V->Option Int->Option Int->Hp->VK->Prop:=fun x lo hi H Q=>∃a xs,x = .ref a/\SqL K H a xs/\∀p,H p=none->Q (.ref p) (upd H p (.lst (cutV xs lo hi)))
theorem j2H:SlR X (rSlL X.K):=by
 intro pins s σ H x v vl vu lo hi sl Q I rx hs pl pu h;obtain⟨a,xs,rfl,hx,q⟩:=h;cases rx;obtain⟨its,r,ht,hz⟩:=I.list hx;have hlen:=r.length;refine⟨"list",_,slot_list_getitem.lookup,ht.isList.typeIs,?_⟩;refine wpAny_getItem_list_slice ht.isList hs pl pu .none (by simp) ?_ (by rw[size_toArray]<;>lia);rw[W5,<-hlen];refine⟨.ref s.heap.objs.size,_,I.laid (t':=s.toks) (o:=.lst (cutV xs lo hi)) (fun b ob q=>vJ _ q) (vb _) ?_,rfl,q _ (I.hok.fresh (vb _))⟩;exact⟨vV (ZE xs lo hi) hz,_,0,(r.drop (HT.sIx xs.length 0 lo)).take (HT.sIx xs.length xs.length hi-HT.sIx xs.length 0 lo),Heap.get?_push_size _ rfl⟩
noncomputable def flatV:V->Bool
 | .non=>true
 | .bl _=>true
 | .int _=>true
 | .str _=>true
 | _=>false
noncomputable def eqV:V->V->Bool
 | .non,.non=>true
 | .bl a,.bl b=>a==b
 | .bl a,.int b=>(if a then 1 else 0)==b
 | .int a,.bl b=>a==(if b then 1 else 0)
 | .int a,.int b=>a==b
 | .str a,.str b=>a==b
 | _,_=>false
theorem j6h{A:Around}{s:Shared}{y x:V}{u v:Value}(ry:RelV y u)(rx:RelV x v)(fy:flatV y=true)(fx:flatV x=true):SeqAt.EqAt A s u v (eqV y x):=by
 cases y with
 | non=>
  cases ry;cases x with
  | non=>cases rx;exact SeqAt.EqAt.same _
  | bl b=>cases rx;exact SeqAt.EqAt.none_bool b
  | int b=>obtain⟨t,rfl⟩:=rx;exact SeqAt.EqAt.none_int b t
  | str b=>obtain⟨t,rfl⟩:=rx;exact SeqAt.EqAt.none_str b t
  | _=>exact ug (show false=true from fx) vF
 | bl a=>
  cases ry;cases x with
  | non=>cases rx;exact SeqAt.EqAt.bool_none a
  | bl b=>cases rx;exact SeqAt.EqAt.bool_bool a b
  | int b=>obtain⟨t,rfl⟩:=rx;exact SeqAt.EqAt.bool_int a b t
  | str b=>obtain⟨t,rfl⟩:=rx;exact SeqAt.EqAt.bool_str a b t
  | _=>exact ug (show false=true from fx) vF
 | int a=>
  obtain⟨t',rfl⟩:=ry;cases x with
  | non=>cases rx;exact SeqAt.EqAt.int_none a t'
  | bl b=>cases rx;exact SeqAt.EqAt.int_bool a t' b
  | int b=>obtain⟨t,rfl⟩:=rx;exact SeqAt.EqAt.int_int a t' b t
  | str b=>obtain⟨t,rfl⟩:=rx;exact SeqAt.EqAt.int_str a t' b t
  | _=>exact ug (show false=true from fx) vF
 | str a=>
  obtain⟨t',rfl⟩:=ry;cases x with
  | non=>cases rx;exact SeqAt.EqAt.str_none a t'
  | bl b=>cases rx;exact SeqAt.EqAt.str_bool a t' b
  | int b=>obtain⟨t,rfl⟩:=rx;exact SeqAt.EqAt.str_int a t' b t
  | str b=>obtain⟨t,rfl⟩:=rx;exact SeqAt.EqAt.str_str a t' b t
  | _=>exact ug (show false=true from fx) vF
 | _=>exact ug (show false=true from fy) vF
noncomputable def eqU(x:V)(u:Value):Bool:=match u with
 | .none=>eqV .non x
 | .bool b=>eqV (.bl b) x
 | .int i _=>eqV (.int i) x
 | .str z _=>eqV (.str z) x
 | _=>false
theorem Xm{x y:V}{u:Value}(r:RelV y u)(f:flatV y=true):eqU x u=eqV y x:=by
 cases y with
 | non=>cases r;rfl
 | bl b=>cases r;rfl
 | int i=>obtain⟨t,rfl⟩:=r;rfl
 | str z=>obtain⟨t,rfl⟩:=r;rfl
 | _=>exact ug (show false=true from f) vF
theorem kr{x:V}:∀{xs:List V} {us:List Value},Vals xs us->xs.all flatV=true->us.any (eqU x)=xs.any fun y=>eqV y x
 | _,_,.nil,_=>rfl
 | y::xs,u::us,.cons r t,f=>by
  rw[all_cons,Bool.and_eq_true]at f;rw[any_cons,any_cons,Xm r f.1,kr t f.2]
theorem Z3{A:Around}{s:Shared}{x:V}{v:Value}(rx:RelV x v)(fx:flatV x=true):∀{xs:List V} {us:List Value},Vals xs us->xs.all flatV=true->∀u∈us,SeqAt.EqAt A s u v (eqU x u)
 | _,_,.nil,_=>fun u hu=>by cases hu
 | y::xs,u::us,.cons r t,f=>fun u' hu=>by
  rw[all_cons,Bool.and_eq_true]at f;rcases mem_cons.mp hu with rfl | hu
  ·rw[Xm r f.1];exact j6h r rx f.1 fx
  ·exact Z3 rx fx t f.2 u' hu
noncomputable def inV(x:V)(xs:List V):Bool:=xs.any fun y=>eqV y x
def rIn(K:Frg)(neg:Bool):R2:=fun x y H Q=>∃p xs,y = .ref p/\(SqL K H p xs\/SqT K H p xs)/\flatV x=true/\xs.all flatV=true/\Q (.bl (if neg then !inV x xs else inV x xs)) H
theorem j3w:OpR X (compareOp .In) (rIn X.K false):=by
 intro pins s σ H x y v u Q I rx ry h;obtain⟨p,xs,rfl,hq,fx,fs,q⟩:=h;cases ry;rcases hq with hq | hq
 ·obtain⟨its,r,pl,hz⟩:=I.list hq;refine SeqAt.in_listAt (eqU x) pl.isList (fun w hw=>Z3 rx fx r fs w (by simpa using hw)) ⟨.bl _,H,I,rfl,?_⟩;rw[show its.toArray.any (eqU x)=its.any (eqU x) by simp,kr r fs];exact q
 ·obtain⟨its,r,pl,hz⟩:=I.tuple hq;refine SeqAt.in_tupleAt (eqU x) pl (fun w hw=>Z3 rx fx r fs w (by simpa using hw)) ⟨.bl _,H,I,rfl,?_⟩;rw[show its.toArray.any (eqU x)=its.any (eqU x) by simp,kr r fs];exact q
theorem XO:OpR X (compareOp .NotIn) (rIn X.K true):=by
 intro pins s σ H x y v u Q I rx ry h;obtain⟨p,xs,rfl,hq,fx,fs,q⟩:=h;cases ry;rcases hq with hq | hq
 ·obtain⟨its,r,pl,hz⟩:=I.list hq;refine SeqAt.notIn_listAt (eqU x) pl.isList (fun w hw=>Z3 rx fx r fs w (by simpa using hw)) ⟨.bl _,H,I,rfl,?_⟩;rw[show its.toArray.any (eqU x)=its.any (eqU x) by simp,kr r fs];exact q
 ·obtain⟨its,r,pl,hz⟩:=I.tuple hq;refine SeqAt.notIn_tupleAt (eqU x) pl (fun w hw=>Z3 rx fx r fs w (by simpa using hw)) ⟨.bl _,H,I,rfl,?_⟩;rw[show its.toArray.any (eqU x)=its.any (eqU x) by simp,kr r fs];exact q
theorem kz:CallR X (.type "list") (fun xs H Q=>∃p ys,xs=[.ref p]/\(SqL X.K H p ys\/SqT X.K H p ys)/\∀l,H l=none->Q (.ref l) (upd H l (.lst ys))):=by
 intro pins s σ H xs us Q I r h;obtain⟨p,ys,rfl,hq,q⟩:=h;obtain⟨u,rfl,rx⟩:=vals1 r;cases rx;have fin:∀(its:List Value),Vals ys its->ys.length<=sizeLine->∀(h':Heap) (c':Nat),(∀b o',s.heap.get? b=some o'->h'.get? b=some o')->
   h'.get? s.heap.objs.size=some {cls:=.type "list",dict:=none,data:=.seq its.toArray c',slots:=#[]}->EP X pins σ Q (.ref s.heap.objs.size) {s with heap:=h'}:=fun its r' hz h' c' kp e=>
  ⟨.ref s.heap.objs.size,_,I.laid (t':=s.toks) kp (vb _) (show ObjOk X.prog X.w _ h' _ (.lst ys)from⟨hz,its,c',r',e⟩),rfl,q _ (I.hok.fresh (vb _))⟩
 rcases hq with hq | hq
 ·obtain⟨its,r',pl,hz⟩:=I.list hq;have hlen:=r'.length;obtain⟨o,ho,hc,n,hd⟩:=pl.isList;exact call_list_seq p (.inl rfl) ho hc hd (fun h' c' kp e=>fin its r' hz h' c' kp e) (by simp only[size_toArray]<;>lia)
 ·obtain⟨its,r',pl,hz⟩:=I.tuple hq;have hlen:=r'.length;obtain⟨o,ho,hc,n,hd⟩:=pl;exact call_list_seq p (.inr rfl) ho hc hd (fun h' c' kp e=>fin its r' hz h' c' kp e) (by simp only[size_toArray]<;>lia)
theorem zq:CallR X (.type "tuple") (fun xs H Q=>∃p ys,xs=[.ref p]/\((SqL X.K H p ys/\∀l,H l=none->Q (.ref l) (upd H l (.tup ys)))\/(SqT X.K H p ys/\Q (.ref p) H))):=by
 intro pins s σ H xs us Q I r h;obtain⟨p,ys,rfl,h⟩:=h;obtain⟨u,rfl,rx⟩:=vals1 r;cases rx;rcases h with⟨hq,q⟩ | ⟨hq,q⟩
 ·obtain⟨its,r',pl,hz⟩:=I.list hq;have hlen:=r'.length;refine call_tuple_list pl.isList (fun h' kp=>?_) (by simp only[size_toArray]<;>lia);have I1:Inv X pins σ H {s with heap:=h'}:=I.kept (t':=s.toks) kp;have I2:Inv X pins σ (upd H h'.objs.size (.tup ys)) {s with heap:=h'.push {cls:=.type "tuple",data:=.seq its.toArray}}:=
   I1.laid (t':=s.toks) (fun b o e=>vJ _ e) (vb _) (show ObjOk X.prog X.w _ _ _ (.tup ys)from⟨hz,its,r',IsTup.new _ _⟩)
  exact⟨.ref h'.objs.size,_,I2,rfl,q _ (I1.hok.fresh (vb _))⟩
 ·obtain⟨its,r',pl,hz⟩:=I.tuple hq;exact call_tuple_same pl ⟨.ref p,H,I,rfl,q⟩
def tyV(K:Frg)(T:String)(x:V)(H:Hp):Prop:=match x with
 | .str _=>T = "str"
 | .int _=>T = "int"
 | .ref p=>(T = "list"/\∃xs,SqL K H p xs)\/(T = "tuple"/\∃o,K.lookup p=some o/\o.cls = .type "tuple"/\o.dict=none)\/
   (T = "dict"/\((∃kvs,H p=some (.dK kvs))\/∃kvs,H p=some (.dT kvs)))\/(T = "set"/\∃S n,H p=some (.set S n))
 | _=>False
theorem j58{pins:List (Addr×Obj)}{σ:St}{H:Hp}{s:Shared}{T:String}{x:V}{v:Value}(I:Inv X pins σ H s)(r:RelV x v)(ty:tyV X.K T x H) :
  s.TypeIs v T/\∀a,v = .ref a->∃ob,s.heap.get? a=some ob/\ob.dict=none:=by
 cases x with
 | str z=>
  obtain⟨t,rfl⟩:=r;cases(show T = "str" from ty);exact⟨typeIs_str s z t,fun _ e=>nomatch e⟩
 | int i=>
  obtain⟨t,rfl⟩:=r;cases(show T = "int" from ty);exact⟨typeIs_int s i t,fun _ e=>nomatch e⟩
 | ref p=>
  cases r;rcases ty with⟨rfl,xs,hq⟩ | ⟨rfl,o,hk,hc,hd⟩ | ⟨rfl,hk⟩ | ⟨rfl,S,n,hk⟩
  ·obtain⟨its,_,pl,_⟩:=I.list hq;refine⟨pl.isList.typeIs,fun a e=>?_⟩;cases e;obtain⟨o,n,e,c,hd,_⟩:=pl;exact⟨o,e,hd⟩
  ·refine⟨⟨o,I.kIn p o hk,hc⟩,fun a e=>?_⟩;cases e;exact⟨o,I.kIn _ o hk,hd⟩
  ·have z:∃o,s.heap.get? p=some o/\o.ExactDict:=by
    rcases hk with⟨kvs,hk⟩ | ⟨kvs,hk⟩
    ·obtain⟨_,_,_,_,o,_,_,e,ex,_⟩:=I.hok p _ hk;exact⟨o,e,ex⟩
    ·obtain⟨_,_,_,_,o,_,_,e,ex,_⟩:=I.hok p _ hk;exact⟨o,e,ex⟩
   obtain⟨o,e,ex⟩:=z;refine⟨⟨o,e,ex.1⟩,fun a e2=>?_⟩;cases e2;exact⟨o,e,ex.2.1⟩
  ·obtain⟨o,_,_,_,e,ex,_⟩:=I.hok p _ hk;refine⟨⟨o,e,ex.1⟩,fun a e2=>?_⟩;cases e2;exact⟨o,e,ex.2.1⟩
 | _=>exact False.elim ty
def tBM0(K:Frg)(T:String)(r:V->List V->Hp->VK->Prop)(to:TE):TE:=fun σ H Q=>to σ H fun x H1=>tyV K T x H1/\r x [] H1 Q
def tBM(K:Frg)(T:String)(r:V->List V->Hp->VK->Prop)(to:TE)(t:TA):TE:=fun σ H Q=>to σ H fun x H1=>tyV K T x H1/\t σ H1 fun xs H2=>r x xs H2 Q
variable{o e:Expr}{es:List Expr}{to:TE}{t:TA}{name:Str}{apos cpos:Pos}{T id:String}{r:V->List V->Hp->VK->Prop}
theorem j4z(pa:PlainAttrs T)(slot:Slot T name id)(hty:typeOf (.builtin id)=pure (.type "method_descriptor"))(hm:MtR X id r)(ho:PE X o to)
  (hbase:attributeBase o name X.env (eval o X.env)=eval o X.env:=by rfl) (hline:(apos.endLine==cpos.line)=true:=by rfl):PE X (.Call (.Attribute o name apos) [] [] cpos) (tBM0 X.K T r to):=by
 intro pins s σ H Q I h;refine wpAny_Call_method0_late hbase hline (thn (ho pins s σ H _ I h) fun v s1 ⟨x,H1,I1,r1,ty,q1⟩=>?_);obtain⟨h1,h2⟩:=j58 I1 r1 ty;exact⟨T,id,pa,slot,hty,h1,h2,Calls.callWith_builtin rfl (PySem.evalArgs_none (hm pins s1 σ H1 x [] v [] Q I1 r1 .nil q1))⟩
theorem ql(pa:PlainAttrs T)(slot:Slot T name id)(hty:typeOf (.builtin id)=pure (.type "method_descriptor"))(hm:MtR X id r)(ho:PE X o to)(ha:PA X (e::es) t)
  (hbase:attributeBase o name X.env (eval o X.env)=eval o X.env:=by rfl)
  (hfew:((backTo cpos (starEach (e::es) X.env)).all (fun x=>!x.1)&&(backToKw cpos (keywordEach [] X.env)).all (fun x=>x.1.isSome)
   && decide ((e::es).length+([]:List Keyword).length+(if([]:List Keyword).isEmpty then 0 else 1)<30))=true:=by rfl)
  (hline:(apos.endLine==cpos.line)=true:=by rfl) (hs:starEach (e::es) X.env=(false,eval e X.env)::starEach es X.env:=by rfl) (hplain:(backTo cpos (starEach es X.env)).any (·.1)=false:=by rfl) :
  PE X (.Call (.Attribute o name apos) (e::es) [] cpos) (tBM X.K T r to t):=by
 intro pins s σ H Q I h;refine wpAny_Call_method_late hbase hfew hline rfl (thn (ho pins s σ H _ I h) fun v s1 ⟨x,H1,I1,r1,ty,q1⟩=>?_);obtain⟨h1,h2⟩:=j58 I1 r1 ty;refine⟨T,id,pa,slot,hty,h1,h2,?_⟩;have hA:=ha cpos pins s1 σ H1 _ I1 q1;rw[hs]at hA|-;refine Calls.callWith_builtin (by show(false||(backTo cpos (starEach es X.env)).any (·.1))=false;rw[hplain]<;>rfl) (Calls.evalArgs_plain ?_);exact thn hA fun us s2 ⟨vs,H2,I2,r2,q2⟩=>hm pins s2 σ H2 x vs v us Q I2 r1 r2 q2
end
def MtM(X:Cx)(id:String)(r:V->List V->Hp->VK->Prop):Prop:=
 ∀(pins:List (Addr×Obj)) (s:Shared) (σ:St) (H:Hp) (x:V) (xs:List V) (v:Value) (us:List Value) (Q:VK),Inv X pins σ H s->RelV x v->Vals xs us->r x xs H Q->
  wpAny (model X.prog X.w) X.A (call (.builtin id) (v::us)) (EP X pins σ Q) X.xe s
theorem Vals.one:∀{x:V} {us:List Value},Vals [x] us->∃u,us=[u]/\RelV x u
 | _,_,.cons r .nil=>⟨_,rfl,r⟩
theorem Vals.zero:∀{us:List Value},Vals [] us->us=[]
 | _,.nil=>rfl
theorem Vals.dropLast{xs:List V}{us:List Value}(h:Vals xs us):Vals xs.dropLast us.dropLast:=by
 induction h with
 | nil=>exact .nil
 | cons r t ih=>
  cases t with
  | nil=>exact .nil
  | cons q t'=>exact .cons r ih
theorem j1n{α:Type}(l:List α):l.eraseIdx (l.length-1)=l.dropLast:=by
 induction l with
 | nil=>rfl
 | cons a r ih=>
  cases r with
  | nil=>rfl
  | cons b r=>
   have e:(a::b::r).length-1=((b::r).length-1)+1:=by
    have h1:(a::b::r).length=r.length+2:=rfl;have h2:(b::r).length=r.length+1:=rfl;lia
   rw[e,List.eraseIdx_cons_succ,ih]
   all_goals rfl
section
variable{X:Cx}{pins:List (Addr×Obj)}{σ:St}{H:Hp}{s:Shared}{l b:Addr}{xs ys zs:List V}
theorem Inv.lset{its its':List Value}{n:Nat}{f:Array Value->Array Value}{t':Nat}(I:Inv X pins σ H s)(hH:H l=some (.lst xs))
  (e:s.heap.get? l=some {cls:=.type "list",data:=.seq its.toArray n}) (hf:f its.toArray=its'.toArray) (hv:Vals ys its') (hz:ys.length<=sizeLine) :
  Inv X pins σ (upd H l (.lst ys)) {s with heap:=s.heap.update l (Obj.mapSeq f),toks:=t'}:=by
 have q:=PySem.IsL.update e f;rw[hf]at q;refine I.write (x:=l) (e:=l) (by rw[hH];exact trivial) (.inl rfl) (fun b' u hb hu=>(Heap.get?_update_other s.heap (Obj.mapSeq f) (Ne.symm hb)).trans hu) ⟨_,q⟩ ?_;exact⟨hz,its',_,hv,q⟩
theorem Inv.lnew{its:List Value}{t':Nat}(I:Inv X pins σ H s)(hv:Vals ys its)(hz:ys.length<=sizeLine) :
  Inv X pins σ (upd H s.heap.objs.size (.lst ys)) {s with heap:=s.heap.push {cls:=.type "list",data:=.seq its.toArray},toks:=t'}:=
 I.laid (fun _ _ q=>vJ _ q) (vb _) ⟨hz,its,0,hv,Heap.get?_push_size _ rfl⟩
theorem Inv.fresh(I:Inv X pins σ H s):H s.heap.objs.size=none:=I.hok.fresh (vb _)
theorem Inv.lstM(I:Inv X pins σ H s)(hH:H l=some (.lst xs)):xs.length<=sizeLine/\∃(its:List Value) (n:Nat),Vals xs its/\xs.length=its.length/\s.heap.get? l=some {cls:=.type "list",data:=.seq its.toArray n}:=by
 obtain⟨z,its,n,r,e⟩:=I.hok l _ hH;exact⟨z,its,n,r,r.length,e⟩
theorem notLongL{n:Nat}(h:n<=sizeLine):Builtin.List.listTooLong n=false:=by
 unfold Builtin.List.listTooLong;exact vH (by lia)
end
section
variable{X:Cx}
noncomputable def rAppend:V->List V->Hp->VK->Prop:=fun x vs H Q=>∃l xs y,x = .ref l/\vs=[y]/\H l=some (.lst xs)/\xs.length<sizeLine/\Q .non (upd H l (.lst (xs++[y])))
theorem jU:MtM X "list.append" rAppend:=by
 intro pins s σ H x vs v us Q I rx rv h;obtain⟨l,xs,y,rfl,rfl,hH,hz,q⟩:=h;cases rx;obtain⟨u,rfl,ru⟩:=rv.one;obtain⟨z,its,n,r,hl,e⟩:=I.lstM hH;refine call_meets F.slot_list_append ⟨_,e,rfl⟩ F.entry_list_append (F.args_list_append_2 _ _) (PySem.list_append l its.toArray n u (by rw[size_toArray];lia)) ⟨e,?_⟩;refine⟨.non,_,I.lset (its':=its++[u]) hH e (by simp) (r.append (.cons ru .nil)) ?_,rfl,q⟩;rw[vn,length_singleton];lia
noncomputable def rExtend:V->List V->Hp->VK->Prop:=fun x vs H Q=>∃l b xs zs,x = .ref l/\vs=[.ref b]/\H l=some (.lst xs)/\H b=some (.lst zs)/\xs.length+zs.length<=sizeLine/\Q .non (upd H l (.lst (xs++zs)))
theorem j3q:MtM X "list.extend" rExtend:=by
 intro pins s σ H x vs v us Q I rx rv h;obtain⟨l,b,xs,zs,rfl,rfl,hH,hB,hz,q⟩:=h;cases rx;obtain⟨u,rfl,ru⟩:=rv.one;cases ru;obtain⟨z,its,n,r,hl,e⟩:=I.lstM hH;obtain⟨z2,its2,n2,r2,hl2,e2⟩:=I.lstM hB;have hsz:its.toArray.size+its2.toArray.size<=sizeLine:=by rw[size_toArray,size_toArray];lia
 have hlong:¬(!its.toArray.isEmpty&&Builtin.List.listTooLong (its.toArray.size+its2.toArray.size))=true:=by
  rw[notLongL hsz,Bool.and_false];exact vF
 refine call_meets F.slot_list_extend ⟨_,e,rfl⟩ F.entry_list_extend (F.args_list_extend_2 _ _)
  (AutoSeq1.list_extend_list_list_0 l its.toArray n b its2.toArray n2 hlong (by rw[size_toArray];lia) (by lia)) ⟨e,e2,?_⟩
 refine⟨.non,_,I.lset (its':=its++its2) hH e (by simp) (r.append r2) ?_,rfl,q⟩;rw[vn];lia
noncomputable def rPop:V->List V->Hp->VK->Prop:=fun x vs H Q=>∃l xs y,x = .ref l/\vs=[]/\H l=some (.lst xs)/\xs[xs.length-1]?=some y/\Q y (upd H l (.lst xs.dropLast))
theorem j6s:MtM X "list.pop" rPop:=by
 intro pins s σ H x vs v us Q I rx rv h;obtain⟨l,xs,y,rfl,rfl,hH,hy,q⟩:=h;cases rx;have hus:=rv.zero;subst hus;obtain⟨z,its,n,r,hl,e⟩:=I.lstM hH;obtain⟨u,hu,ru⟩:=r.get hy;have hy':its.toArray[its.toArray.size-1]?=some u:=by
  show its.toArray[its.length-1]?=some u;rw[<-Array.getElem?_toList,<-hl];exact hu
 refine call_meets F.slot_list_pop ⟨_,e,rfl⟩ F.entry_list_pop (F.args_list_pop_1 _) (MeetsSeq.list_pop_last l its.toArray n u hy' (by rw[size_toArray];lia)) ⟨e,?_⟩;refine⟨y,_,I.lset (its':=its.dropLast) hH e ?_ r.dropLast ?_,ru,q⟩
 ·show its.toArray.eraseIdxIfInBounds (its.toArray.size-1)=its.dropLast.toArray;rw[size_toArray,List.eraseIdxIfInBounds_toArray,j1n]
 ·rw[List.length_dropLast];lia
def rCat:R2:=fun x y H Q=>∃l b xs zs,x = .ref l/\y = .ref b/\H l=some (.lst xs)/\H b=some (.lst zs)/\xs.length+zs.length<=sizeLine/\∀p,H p=none->Q (.ref p) (upd H p (.lst (xs++zs)))
theorem KM:OpR X (binaryOp .Add) rCat:=by
 intro pins s σ H x y v u Q I rx ry h;obtain⟨l,b,xs,zs,rfl,rfl,hH,hB,hz,q⟩:=h;cases rx;cases ry;obtain⟨z,its,n,r,hl,e⟩:=I.lstM hH;obtain⟨z2,its2,n2,r2,hl2,e2⟩:=I.lstM hB;refine PySem.P.add_list e e2 ?_ (by rw[size_toArray,size_toArray];lia);have ea:its.toArray++its2.toArray=(its++its2).toArray:=by simp
 rw[ea];exact⟨.ref _,_,I.lnew (t':=s.toks) (r.append r2) (by rw[vn];lia),rfl,q _ I.fresh⟩
end
section
variable{prog:Program}{w:World}{A:Around}{E:Value->Shared->Prop}{s:Shared}
end
section
variable{X:Cx}
end
end L2
namespace Att
open PySem PySem.W PySem.Calls PyProof.Rows
theorem wy{P:Params}{h:Heap}:∀(ns:List Int) (vs:List Value),WellAll P h vs (ns.map WData.int)->IntsAre vs ns:=by
 intro ns
 induction ns with
 | nil=>
  intro vs w;rw[map_nil]at w;cases w;exact .nil
 | cons n ns ih=>
  intro vs w;rw[v7]at w;cases w with
  | cons a b=>
   cases a;exact .cons _ _ (ih _ b)
theorem j3E{l:OpenLaw}{n:Nat}(hn:l.most=some n){P:Params}{h:Heap}{args:List WData}{vals:List Value}
  (hpre:l.row.toRowW.claim.pre args=true) (hwl:WellAll P h vals args) :
  ∃a vs ns,vals=[Value.ref a]/\args=[WData.list (ns.map WData.int)]/\h.get? a=some {cls:=.type "list",data:=.seq vs.toArray}/\IntsAre vs ns/\ns.length<=n:=by
 have hsh:WShape.hasAll [] args [.list .int]=true:=(pre_splitW hpre).1;have hc:l.pre.holds [] {args:=args}=true:=(pre_splitW hpre).2;obtain⟨d,r,rfl,h1,h2⟩:=hasAllW_cons hsh;obtain rfl:=hasAllW_nil h2;obtain⟨xs,rfl,h3⟩:=hasW_list h1;obtain⟨ns,rfl⟩:=items_int h3;have hlen:ns.length<=n:=by
  unfold OpenLaw.pre at hc;have h4:(WTm.not (.lt (.lit (.int (n:Int))) (.len (.arg 0)))).holds [] {args:=[.list (ns.map .int)]}=true:=by
   have h4:=(holds_andW hc).1;rw[hn]at h4;exact h4
  have h5:=condW_of h4 (w_not (w_lt w_lit (w_len_list (w_arg rfl))));rw[vt]at h5;refine Nat.le_of_not_lt fun q=>?_
  have q':(n:Int)<((ns.length:Nat):Int):=by lia
  first
   | (rw[vG q']at h5;exact ug h5 (by decide))
   | (simp at h5;lia)
 cases hwl with
 | cons w1 w2=>
  cases w2;cases w1 with
  | list ho hall=>exact⟨_,_,ns,rfl,rfl,ho,wy ns _ hall,hlen⟩
theorem j3y(l:OpenLaw)(args:List WData):l.row.toRowW.claim.post args (.bool true) args=true:=
 postW_of (r:=l.row.toRowW) (X:=(true==true))
  (show WShape.has [] (.bool true) .bool=true by first | rfl | decide | simp[WShape.has,WShape.arms,WShape.armsAll])
  (show(WTm.eq .res (.lit (.bool true))).value [] {args:=args,res:=some (.bool true),after:=args}=some (.bool (true==true))from w_eq_bool (w_res rfl) w_lit) rfl
section
variable{prog:Program}{w:World}{A:Around}{E:Value->Shared->Prop}{s:Shared}{K:Frag}
end
end Att
namespace L2
open PySem PySem.Spec PyProof.Rows
theorem xO:∀{vs:List Value} {ns:List Int},IntsAre vs ns->Vals (ns.map V.int) vs
 | _,_,.nil=>.nil
 | _,_,.cons n t h=>.cons ⟨t,rfl⟩ (xO h)
def Only(H:Hp):Prop:=∀b,H b=none\/∃o xs,H b=some (.frz o (.lst xs))
theorem j4a{P:Program}{w:World}{K:Frg}{mg mb:Str->Option Value}{CX:CXT}{k:Nat}{fa a:Addr}{fd:FuncData}{x:Str}{sp:Sp}{s₁:Shared}{vs:List Value}{ns:List Int}
  (KX:K.In s₁.heap) (hns:s₁.heap.Ns mainGlobals mg) (hb:s₁.heap.Ns builtinsNs mb) (hbb:∀x:Str,x≠"__name__"->mb x=bootBuiltins x) (hlim:s₁.heap.NoLimit) (hg:s₁.gens = #[])
  (ha:s₁.heap.get? a=some {cls:=.type "list",data:=.seq vs.toArray}) (hi:IntsAre vs ns) (hl:ns.length<=sizeLine) (hr:Room k callerA)
  (F:∀base:Heap,K.In base->base.Ns mainGlobals mg->FnOk P w K mg base CX k fa fd [x] sp) (hbind:∀(s:Shared) (u:Value),BindsTo s fd ⟨[u],[]⟩ [(x,u)])
  (hsp:∀H:Hp,Only H->SqL K H a (ns.map V.int)->sp [.ref a] H (fun v _=>v = .bl true) fun _ _ _=>False)
  (hCX:∀H e s',CX [] H s₁ (fun _ _ _=>False) e s'->False) :
  codeAny (model P w) callerA (.call (.ref fa) ⟨[.ref a],[]⟩) (fun r s'=>r = .ok (.ret (.bool true))/\OldK s₁.heap s'.heap/\s'.os=s₁.os/\AllBare s'.gens) s₁:=by
 have rv:=xO hi;have lenV:=hi.length;have core:∀H:Hp,Only H->SqL K H a (ns.map V.int)->HOk P w H s₁.heap->(∀b,H b≠none->b=a)->(H a≠none->K.lookup a=none)->
   codeAny (model P w) callerA (.call (.ref fa) ⟨[.ref a],[]⟩) (fun r s'=>r = .ok (.ret (.bool true))/\OldK s₁.heap s'.heap/\s'.os=s₁.os/\AllBare s'.gens) s₁:=by
  intro H hO hS hok hA hK;have base_of:∀{b:Addr} {o:Obj},s₁.heap.get? b=some o->H b=none->(hidT s₁.heap H).get? b=some o:=fun e n=>j46 e n
  have noA:∀{b:Addr} {o:Obj} {es:Array DictEntry} {ep:Nat},s₁.heap.get? b=some o->o.data = .dict es ep->H b=none:=fun {b o es ep} e d=>by
   cases q:H b with
   | none=>rfl
   | some u=>
    have e':b=a:=hA b (by rw[q];simp);subst e';rw[ha]at e;cases e;have d':Data.seq vs.toArray _=Data.dict es ep:=d;cases d'
  have nsK:∀{b:Addr} {m:Str->Option Value},s₁.heap.Ns b m->(hidT s₁.heap H).Ns b m:=fun {b m} ⟨o,es,ep,e,d,r⟩=>⟨o,es,ep,base_of e (noA e d),d,r⟩
  have hKb:K.In (hidT s₁.heap H):=fun b o e=>base_of (KX b o e) (by
   cases q:H b with
   | none=>rfl
   | some u=>
    have e':b=a:=hA b (by rw[q];simp);subst e';rw[hK (by rw[q];simp)]at e;cases e)
  have hM:Mod K mg (hidT s₁.heap H):=⟨hKb,nsK hns,⟨mb,nsK hb,hbb⟩,let ⟨mc,h1,h2⟩:=hlim;⟨mc,nsK h1,h2⟩⟩
  have e0:Env0 P w K mg (hidT s₁.heap H) callerA [] s₁ H:=⟨rfl,hM,fun b o e=>j5F e,Nat.le_of_eq (j3b _ _),trivial,fun b hb=>ug (show b∈([]:List Addr)from hb) (by simp),hok,.of_eq hg⟩
  refine codeAny_mono ((F _ hKb (nsK hns)).run callerA [] s₁ H ⟨[.ref a],[]⟩ [.ref a] [.ref a] _ _ hr e0 (hbind s₁ (.ref a)) (.cons rfl .nil) (hsp H hO hS)) fun r s' h=>?_
  cases r with
  | error e=>exact(hCX H e s' h).elim
  | ok fl=>
   cases fl with
   | next=>exact False.elim h
   | brk=>exact False.elim h
   | cont=>exact False.elim h
   | ret u=>
    obtain⟨v,H',os,bare,un,hok',r',q⟩:=h;have q':v = .bl true:=q;subst q';obtain rfl:u=Value.bool true:=r';refine⟨rfl,OldK.of_keep fun b o e=>?_,os,bare⟩;cases q:H b with
    | none=>exact un.keep b o e q (by intro z;exact ug (show b∈([]:List Addr)from z) (by simp)) (by simp)
    | some u=>
     rcases hO b with z | ⟨ob,xs,z⟩
     ·rw[q]at z;cases z
     ·have z2:=un.frzs b ob _ z;obtain⟨e1,_⟩:=hok b _ z;obtain⟨e2,_⟩:=hok' b _ z2;rw[e]at e1;cases e1;exact e2
 cases hk:K.lookup a with
 | some o=>
  have e:=KX a o hk;rw[ha]at e;cases e;refine core (fun _=>none) (fun _=>.inl rfl) (.inr ⟨_,vs.toArray,_,hk,rfl,rfl,rfl,by rw[size_toArray,lenV];exact hl,by simpa using rv⟩) (fun b u z=>by have z':(none:Option HO)=some u:=z;cases z') (fun b z=>ug rfl z) fun z=>ug rfl z
 | none=>
  refine core (fun b=>if b=a then some (.frz {cls:=.type "list",data:=.seq vs.toArray} (.lst (ns.map V.int)))else none) (fun b=>?_) (.inl (.inr ⟨{cls:=.type "list",data:=.seq vs.toArray},vd rfl⟩)) (fun b u z=>?_) (fun b z=>?_) fun _=>hk
  ·by_cases hb:b=a
   ·exact .inr ⟨_,_,vd hb⟩
   ·exact .inl (vc hb)
  ·by_cases hb:b=a
   ·have z':=(vd hb).symm.trans z;cases z';subst hb;exact⟨ha,by rw[vt];exact hl,vs,_,rv,ha⟩
   ·have z':=(vc hb).symm.trans z;cases z'
  ·by_cases hb:b=a
   ·exact hb
   ·exact ug (vc hb) z
noncomputable abbrev KOf{K:Frg}{h:Heap}(_:K.In h):Frg:=K
noncomputable def inClass(s:Stmt)(j:Nat):Stmt:=match s with
 | .ClassDef _ _ _ body _ _ _ _ _ _ _=>body.getD j (.Pass ⟨0,0,0,0⟩)
 | _=>.Pass ⟨0,0,0,0⟩
noncomputable def defArgs(s:Stmt):Arguments:=match s with
 | .FunctionDef _ a _ _ _ _ _ _ _ _=>a
 | _=>{posonlyargs:=[],args:=[],vararg:=none,kwonlyargs:=[],kw_defaults:=[],kwarg:=none,defaults:=[]}
noncomputable def defBody(s:Stmt):List Stmt:=match s with
 | .FunctionDef _ _ b _ _ _ _ _ _ _=>b
 | _=>[]
noncomputable def defScope(s:Stmt):Scope:=match s with
 | .FunctionDef _ _ _ _ _ _ sc _ _ _=>sc
 | _=>{kind:=.function,names:=[],isGenerator:=false,isCoroutine:=false}
noncomputable abbrev CX0:CXT:=fun _ _ _ _ _ _=>False
noncomputable abbrev E0:XK:=fun _ _ _=>False
theorem pass0{X:Cx}:Passes CX0 X E0:=fun _ _ _ _ _ _ _ h=>h.elim
structure Fun(K:Frg)(x qual:Str)(st:Stmt)(f:Addr)(fd:FuncData):Prop where
 ex:∃(oc:Value) (od:Option Addr) (kV doc pm:Value) (an:Option Addr) (cdv ct:Value) (osl:Array (Option Value)),
  fd=PySem.W.fnOf x qual (defArgs st) (defBody st) (defScope st) .none kV doc pm an cdv ct/\K.lookup f=some ⟨oc,od,.func fd,osl⟩/\PySem.W.codeIn K cdv qual=true
 kp:PySem.W.keepIn K (.ref f)=true
section
variable{P:Program}{w:World}{K:Frg}{mg:Str->Option Value}{base:Heap}
theorem Fun.ok{x qual:Str}{st:Stmt}{f:Addr}{fd:FuncData}{N ps:List Str}{k:Nat}{sp:Sp}(F:Fun K x qual st f fd)(S:FnScope N ps (defScope st))(len:∀vs H Q E,sp vs H Q E->vs.length=ps.length)
  (hbody:∀(cdv:Value) (A:Around) (outer:List Env) (s:Shared) (H:Hp) (vs:List V) (Q:VK) (E:XK),Room k (A.deeper (envOfC qual (defScope st) s.heap.objs.size f cdv))->sp vs H Q E->
   ∃t,PSs (cxOf CX0 P w K mg base N qual (defScope st) f cdv A outer s H E).nox (defBody st) t/\t {nx:=fun _ H'=>Q .non H',rt:=Q} (start N vs) H):FnOk P w K mg base CX0 (k+1) f fd ps sp:=by
 obtain⟨oc,od,kV,doc,pm,an,cdv,ct,osl,rfl,lk,hcd⟩:=F.ex;refine j60 lk hcd S len fun A outer s H vs Q E hr hsp=>?_
 obtain⟨t,h,q⟩:=hbody cdv A outer s H vs Q E hr hsp;exact⟨t,h.nox,q⟩
theorem Fun.binds{x qual:Str}{st:Stmt}{f:Addr}{fd:FuncData}{ps:List Str}(F:Fun K x qual st f fd)
  (h:∀(kV doc pm:Value) (an:Option Addr) (cdv ct:Value) (us:List Value),us.length=ps.length->bindArgs (PySem.W.fnOf x qual (defArgs st) (defBody st) (defScope st) .none kV doc pm an cdv ct) ⟨us,[]⟩=pure (ps.zip us)):Binds K fd ps []:=by
 obtain⟨oc,od,kV,doc,pm,an,cdv,ct,osl,rfl,lk,hcd⟩:=F.ex;exact .all (h kV doc pm an cdv ct)
theorem jK{x qual:Str}{st:Stmt}{f:Addr}{oc:Value}{od an:Option Addr}{osl:Array (Option Value)}{kV doc pm cdv ct:Value}(l:K.lookup f=some ⟨oc,od,.func (PySem.W.fnOf x qual (defArgs st) (defBody st) (defScope st) .none kV doc pm an cdv ct),osl⟩)
  (c:PySem.W.codeIn K cdv qual=true) (k:PySem.W.keepIn K (.ref f)=true):Fun K x qual st f (PySem.W.fnOf x qual (defArgs st) (defBody st) (defScope st) .none kV doc pm an cdv ct):=⟨⟨oc,od,kV,doc,pm,an,cdv,ct,osl,rfl,l,c⟩,k⟩
end
theorem QZ{A:Around}{k:Nat}(hr:Room k A):A.units+1<cLine:=vD (Nat.add_le_add_left (by decide:1<=64) _) hr.units
section
variable{X:Cx}
theorem pv(i:Nat){x:Str}{pos:Pos}(hN:X.N[i]?=some x:=by rfl)(hv:Vis X.env.scope x:=by first | exact Or.inl rfl | exact Or.inr (Or.inl rfl) | exact Or.inr (Or.inr rfl))(hd:(x==("__debug__" : Str))=false:=by decide)
  (hcd:(x==("__classdict__" : Str))=false:=by decide):PE X (.Name x pos) (tVar i):=j6B hN hv hd hcd
end
theorem iteF{A B:Prop}(h:B):if false=true then A else B:=by
 rw[vc vF];exact h
theorem iteT{A B:Prop}(h:A):if true=true then A else B:=by
 rw[vd rfl];exact h
def Same(H H':Hp):Prop:=∀b o,H b=some o->H' b=some o
theorem Same.refl(H:Hp):Same H H:=fun _ _ h=>h
theorem Same.trans{H H1 H2:Hp}(a:Same H H1)(b:Same H1 H2):Same H H2:=fun c o h=>b c o (a c o h)
theorem Same.seq{K:Frg}{H H':Hp}{a:Addr}{xs:List V}(e:Same H H')(h:SqL K H a xs):SqL K H' a xs:=by
 rcases h with(h | ⟨o,h⟩) | h
 ·exact .inl (.inl (e _ _ h))
 ·exact .inl (.inr ⟨o,e _ _ h⟩)
 ·exact .inr h
section
variable{κ:Type}[DecidableEq κ]
noncomputable def valV(kvs:List (κ×V))(k:κ):Option V:=(kvs.find? fun kv=>decide (kv.1=k)).map (·.2)
noncomputable def putK(kvs:List (κ×V))(k:κ)(v:V):List (κ×V):=
 if(kvs.any fun kv=>decide (kv.1=k))=true then kvs.map (fun kv=>if kv.1=k then(kv.1,v)else kv)else kvs++[(k,v)]
theorem qK{p:κ×V}{r:List (κ×V)}{k:κ}(e:p.1=k):valV (p::r) k=some p.2:=by simp[valV,List.find?_cons,e]
theorem qJ{p:κ×V}{r:List (κ×V)}{k:κ}(e:¬p.1=k):valV (p::r) k=valV r k:=by simp[valV,List.find?_cons,e]
theorem Q7(k:κ):∀kvs:List (κ×V),(kvs.any fun kv=>decide (kv.1=k))=(valV kvs k).isSome
 | []=>rfl
 | p::r=>by
  rw[any_cons];by_cases e:p.1=k
  ·simp only[qK e,decide_eq_true e,Bool.true_or,Option.isSome_some]
  ·rw[qJ e,vH e,Bool.false_or];exact Q7 k r
theorem j0Y(k j:κ)(y:V):∀kvs:List (κ×V),valV (kvs.map fun kv=>if kv.1=k then(kv.1,y)else kv) j=(valV kvs j).map fun x=>if j=k then y else x
 | []=>rfl
 | p::r=>by
  have ih:=j0Y k j y r;rw[v7];by_cases h:p.1=k
  ·rw[vd h];by_cases e:p.1=j
   ·rw[qK (p:=(p.1,y)) e,qK e,Option.map_some,vd (e.symm.trans h)]
   ·rw[qJ (p:=(p.1,y)) e,qJ e,ih]
  ·rw[vc h];by_cases e:p.1=j
   ·rw[qK (p:=p) e,qK e,Option.map_some,vc (fun z=>h (e.trans z))]
   ·rw[qJ (p:=p) e,qJ e,ih]
theorem xM(k j:κ)(y:V):∀kvs:List (κ×V),valV kvs k=none->valV (kvs++[(k,y)]) j=if j=k then some y else valV kvs j
 | [],_=>by
  by_cases e:k=j
  ·rw[vd e.symm];exact qK (p:=(k,y)) e
  ·rw[vc (fun z=>e z.symm)];exact qJ (p:=(k,y)) e
 | p::r,hn=>by
  rw[List.cons_append];have hk:¬p.1=k:=fun z=>by rw[qK z]at hn;cases hn
  rw[qJ hk]at hn;have ih:=xM k j y r hn;by_cases e:p.1=j
  ·rw[qK e,qK e,vc (fun z=>hk (e.trans z))]
  ·rw[qJ e,qJ e,ih]
theorem WO(kvs:List (κ×V))(k j:κ)(y:V):valV (putK kvs k y) j=if j=k then some y else valV kvs j:=by
 unfold putK;by_cases a:(kvs.any fun kv=>decide (kv.1=k))=true
 ·rw[vd a,j0Y];rw[Q7]at a;by_cases e:j=k
  ·obtain⟨x,hx⟩:=Option.isSome_iff_exists.mp a;rw[vd e,e,hx,Option.map_some,vd rfl]
  ·rw[vc e];cases valV kvs j with
   | none=>rfl
   | some x=>rw[Option.map_some,vc e]
 ·rw[vc a];refine xM k j y kvs ?_;rw[Q7]at a;cases q:valV kvs k with
  | none=>rfl
  | some x=>rw[q]at a;exact(a rfl).elim
theorem yY(kvs:List (κ×V))(k:κ)(v:V):(putK kvs k v).length<=kvs.length+1:=by
 unfold putK;split
 ·rw[vt];lia
 ·rw[vn,vP,length_nil];lia
theorem Ka{kvs:List (κ×V)}{k:κ}(v:V)(h:valV kvs k=none):putK kvs k v=kvs++[(k,v)]:=by
 unfold putK;rw[Q7,h];exact vc (by decide)
theorem RelO.isSome_eq{o:Option V}{u:Option Value}(r:RelO o u):o.isSome=u.isSome:=by
 cases o with
 | none=>cases u with
  | none=>rfl
  | some _=>exact(show False from r).elim
 | some _=>cases u with
  | none=>exact(show False from r).elim
  | some _=>rfl
theorem RelO.getD{o:Option V}{u:Option Value}{d:V}{d':Value}(r:RelO o u)(rd:RelV d d'):RelV (o.getD d) (u.getD d'):=by
 cases o with
 | none=>cases u with
  | none=>exact rd
  | some _=>exact(show False from r).elim
 | some _=>cases u with
  | none=>exact(show False from r).elim
  | some _=>exact r
theorem KV.val{kvs:List (κ×V)}{vs:List (κ×Value)}(r:KV kvs vs)(k:κ):RelO (valV kvs k) (valueAt vs k):=by
 unfold KV at r
 induction r with
 | nil=>exact True.intro
 | @cons p q ps qs h t ih=>
  obtain⟨h1,h2⟩:=h;by_cases e:p.1=k
  ·have e':q.1=k:=h1.symm.trans e;have b:valueAt (q::qs) k=some q.2:=by simp[valueAt,List.find?_cons,e']
   rw[qK e,b];exact h2
  ·have e':¬q.1=k:=fun z=>e (h1.trans z)
   have b:valueAt (q::qs) k=valueAt qs k:=by simp[valueAt,List.find?_cons,e']
   rw[qJ e,b];exact ih
theorem KV.any{kvs:List (κ×V)}{vs:List (κ×Value)}(r:KV kvs vs)(k:κ):(kvs.any fun kv=>decide (kv.1=k))=vs.any fun kv=>decide (kv.1=k):=by
 unfold KV at r
 induction r with
 | nil=>rfl
 | cons h t ih=>rw[any_cons,any_cons,ih,h.1]
theorem KV.repl{kvs:List (κ×V)}{vs:List (κ×Value)}(r:KV kvs vs)(k:κ){y:V}{u:Value}(ry:RelV y u) :
  KV (kvs.map fun kv=>if kv.1=k then(kv.1,y)else kv) (vs.map fun kv=>if kv.1=k then(kv.1,u)else kv):=by
 unfold KV at r|-
 induction r with
 | nil=>exact .nil
 | @cons p q ps qs h t ih=>
  rw[v7,v7];refine .cons ?_ ih;obtain⟨h1,h2⟩:=h;by_cases e:p.1=k
  ·rw[vd e,vd (h1.symm.trans e)];exact⟨h1,ry⟩
  ·rw[vc e,vc (fun z=>e (h1.trans z))];exact⟨h1,h2⟩
theorem KV.put{kvs:List (κ×V)}{vs:List (κ×Value)}(r:KV kvs vs)(k:κ){y:V}{u:Value}(ry:RelV y u):KV (putK kvs k y) (stored vs k u):=by
 unfold putK stored;rw[r.any k];by_cases e:(vs.any fun kv=>decide (kv.1=k))=true
 ·rw[vd e,vd e];exact r.repl k ry
 ·rw[vc e,vc e];exact Paired.snoc r ⟨rfl,ry⟩
theorem KV.keys{kvs:List (κ×V)}{vs:List (κ×Value)}(r:KV kvs vs):kvs.map (·.1)=vs.map (·.1):=by
 unfold KV at r
 induction r with
 | nil=>rfl
 | cons h t ih=>rw[v7,v7,ih,h.1]
theorem KV.length{kvs:List (κ×V)}{vs:List (κ×Value)}(r:KV kvs vs):kvs.length=vs.length:=Paired.length r
end
theorem j2m{P:Program}{w:World}{k:Key}{u:Value}(r:RelV (kV k) u):(mixKind P w).is k u=true:=by
 cases k with
 | inl i=>obtain⟨t,e⟩:=(show∃t,u=Value.int i t from r);subst e;exact j0C P w i t
 | inr x=>obtain⟨t,e⟩:=(show∃t,u=Value.str x t from r);subst e;exact j0D P w x t
theorem xw{P:Program}{w:World}:∀{ks:List Key} {us:List Value},Vals (ks.map kV) us->ItemsAre (mixKind P w) ks us
 | [],_,r=>by rw[map_nil]at r;cases r;exact .nil
 | k::ks,_,r=>by
  rw[v7]at r;cases r with
  | cons h t=>exact .cons (j2m h) (xw t)
noncomputable abbrev KT(H:Hp):List (List Key×V)->List (List Key×Addr×Value)->Prop:=Paired fun p q=>p.1=q.1/\H q.2.1=some (.tup (p.1.map kV))/\RelV p.2 q.2.2
theorem KT.val{H:Hp}{kvs:List (List Key×V)}{xs:List (List Key×Addr×Value)}(r:KT H kvs xs)(k:List Key):RelO (valV kvs k) ((atKey xs k).map (·.2)):=by
 induction r with
 | nil=>exact True.intro
 | @cons p q ps qs h t ih=>
  obtain⟨h1,_,h2⟩:=h;by_cases e:p.1=k
  ·have e':q.1=k:=h1.symm.trans e;have b:atKey (q::qs) k=some q.2:=by simp[atKey,List.find?_cons,e']
   rw[qK e,b];exact h2
  ·have e':¬q.1=k:=fun z=>e (h1.trans z)
   have b:atKey (q::qs) k=atKey qs k:=by simp[atKey,List.find?_cons,e']
   rw[qJ e,b];exact ih
theorem KT.repl{H:Hp}{kvs:List (List Key×V)}{xs:List (List Key×Addr×Value)}(r:KT H kvs xs)(k:List Key){y:V}{u:Value}(ry:RelV y u) :
  KT H (kvs.map fun kv=>if kv.1=k then(kv.1,y)else kv) (xs.map (putAt k u)):=by
 induction r with
 | nil=>exact .nil
 | @cons p q ps qs h t ih=>
  rw[v7,v7];refine .cons ?_ ih;obtain⟨h1,h2,h3⟩:=h;unfold putAt;by_cases e:p.1=k
  ·rw[vd e,vd (h1.symm.trans e)];exact⟨h1,h2,ry⟩
  ·rw[vc e,vc (fun z=>e (h1.trans z))];exact⟨h1,h2,h3⟩
theorem KT.put{H:Hp}{kvs:List (List Key×V)}{xs:List (List Key×Addr×Value)}(r:KT H kvs xs)(k:List Key){b:Addr}{y:V}{u:Value}(hb:H b=some (.tup (k.map kV)))(ry:RelV y u) :
  KT H (putK kvs k y) (storedH xs k b u):=by
 have e:(kvs.any fun kv=>decide (kv.1=k))=(atKey xs k).isSome:=by
  rw[Q7,(r.val k).isSome_eq,Option.isSome_map]
 unfold putK storedH;rw[e];by_cases q:(atKey xs k).isSome=true
 ·rw[vd q,vd q];exact r.repl k ry
 ·rw[vc q,vc q];exact Paired.snoc r ⟨rfl,hb,ry⟩
theorem KT.keeps{H H':Hp}{kvs:List (List Key×V)}{xs:List (List Key×Addr×Value)}(r:KT H kvs xs)(ht:∀b ys,H b=some (.tup ys)->H' b=some (.tup ys)):KT H' kvs xs:=
 Paired.mapP r fun _ _ z=>⟨z.1,ht _ _ z.2.1,z.2.2⟩
section
variable{P:Program}{w:World}{H:Hp}{h:Heap}{a:Addr}
theorem j64{u:HO}(ok:HOk P w H h)(e:Rd H a u):ObjOk P w H h a u:=e.ok ok
theorem j0g{kvs:List (Key×V)}(ok:HOk P w H h)(e:Rd H a (.dK kvs)):kvs.length<=sizeLine/\(a==sysModules)=false/\∃vs,KV kvs vs/\h.DictOf (mixKind P w) a vs:=
 show ObjOk P w H h a (.dK kvs)from j64 ok e
theorem xp{kvs:List (Key×V)}(ok:HOk P w H h)(e:H a=some (.dK kvs)):kvs.length<=sizeLine/\(a==sysModules)=false/\∃vs,KV kvs vs/\h.DictOf (mixKind P w) a vs:=j0g ok (.inl e)
theorem Xq{ks:List Key}(ok:HOk P w H h)(e:H a=some (.tup (ks.map kV))):(tupleKind (mixKind P w)).is h ks a:=by
 obtain⟨_,its,r,o,h1,h2,n,h3⟩:=(show ObjOk P w H h a (.tup (ks.map kV))from ok a _ e)
 exact⟨o,its.toArray,n,h1,h2,h3,by simpa using xw r⟩
theorem j0j{kvs:List (List Key×V)}(ok:HOk P w H h)(e:Rd H a (.dT kvs)):kvs.length<=sizeLine/\(a==sysModules)=false/\
  ∃xs,KT H kvs xs/\h.DictOfH (tupleKind (mixKind P w)) a xs:=by
 obtain⟨z,y,xs,r,o,es,ep,h1,h2,h3,h4,h5⟩:=(show ObjOk P w H h a (.dT kvs)from j64 ok e)
 refine⟨z,y,xs,r,o,es,ep,h1,h2,h3,h4,fun x hx=>?_,h5⟩;have all:∀{l:List (List Key×V)} {m:List (List Key×Addr×Value)},KT H l m->∀x∈m,(tupleKind (mixKind P w)).is h x.1 x.2.1:=by
  intro l m q
  induction q with
  | nil=>intro x hx;exact nomatch hx
  | @cons p q ps qs hq t ih=>
   intro x hx;rcases mem_cons.mp hx with e | hx
   ·subst e;exact Xq ok (by rw[<-hq.1];exact hq.2.1)
   ·exact ih x hx
 exact all r x hx
theorem j6P{kvs:List (List Key×V)}(ok:HOk P w H h)(e:H a=some (.dT kvs)):kvs.length<=sizeLine/\(a==sysModules)=false/\
  ∃xs,KT H kvs xs/\h.DictOfH (tupleKind (mixKind P w)) a xs:=j0j ok (.inl e)
end
def DGet(H:Hp)(a:Addr)(y:V)(r:Option V):Prop:=
 (∃kvs k,Rd H a (.dK kvs)/\y=kV k/\r=valV kvs k)\/∃kvs k b,Rd H a (.dT kvs)/\y = .ref b/\H b=some (.tup (k.map kV))/\r=valV kvs k
def DPut(H:Hp)(a:Addr)(y v:V)(H':Hp):Prop:=
 (∃kvs k,H a=some (.dK kvs)/\y=kV k/\kvs.length<sizeLine/\H'=upd H a (.dK (putK kvs k v)))\/
 ∃kvs k b,H a=some (.dT kvs)/\y = .ref b/\H b=some (.tup (k.map kV))/\kvs.length<sizeLine/\H'=upd H a (.dT (putK kvs k v))
theorem DGet.k{H:Hp}{a:Addr}{kvs:List (Key×V)}{k:Key}(e:H a=some (.dK kvs)):DGet H a (kV k) (valV kvs k):=.inl ⟨kvs,k,.inl e,rfl,rfl⟩
theorem DPut.k{H:Hp}{a:Addr}{kvs:List (Key×V)}{k:Key}{v:V}(e:H a=some (.dK kvs))(hl:kvs.length<sizeLine):DPut H a (kV k) v (upd H a (.dK (putK kvs k v))):=.inl ⟨kvs,k,e,rfl,hl,rfl⟩
section
variable{X:Cx}{pins:List (Addr×Obj)}{σ:St}{H:Hp}{s:Shared}{a:Addr}{y v:V}{u r:Value}{o:Option V}{A:Around}{E:Value->Shared->Prop}
theorem Inv.big(I:Inv X pins σ H s):sysModules<s.heap.objs.size:=by
 have h:mainGlobals<s.heap.objs.size:=(I.mod.glob.keeps I.bk).lt;exact vY (by decide) h
theorem j33{Q:Value->Shared->Prop}(hu:A.units+1<cLine)(I:Inv X pins σ H s)(g:DGet H a y (some v))(ry:RelV y u)(h:∀w' s',Inv X pins σ H s'->RelV v w'->Q w' s') :
  wpAny (model X.prog X.w) A (getItem (.ref a) u) Q E s:=by
 rcases g with⟨kvs,k,e,ey,l⟩ | ⟨kvs,k,b,e,ey,eb,l⟩
 ·subst ey;obtain⟨z,hd,vs,rel,dd⟩:=j0g I.hok e;obtain⟨w',hw,rw'⟩:=RelO.some_of (v:=v) (o:=valueAt vs k) (by rw[l];exact rel.val k);exact wpAny_getItem_of (j2m ry) dd.mapOf hw (h w' _ (I.tok _) rw')
 ·subst ey;cases(show u=Value.ref b from ry);obtain⟨z,hd,xs,rel,dd⟩:=j0j I.hok e;obtain⟨w',hw,rw'⟩:=RelO.some_of (v:=v) (o:=(atKey xs k).map (·.2)) (by rw[l];exact rel.val k);obtain⟨p,hp,hp2⟩:=vg.mp hw;refine wpAny_getItem_heap (tupleKind_room_in1 hu) (Xq I.hok eb) dd hp ?_;rw[hp2];exact h w' _ (I.tok _) rw'
theorem Xk{h':Heap}{t':Nat}{ob:HO}(I:Inv X pins σ H s)(mu:Mut (H a))(hs:Heap.SameBut a s.heap h')(he:∃q,h'.get? a=some q)(new:ObjOk X.prog X.w (upd H a ob) h' a ob) :
  Inv X pins σ (upd H a ob) {s with heap:=h',toks:=t'}:=
 I.write (x:=a) (e:=a) mu (.inl rfl) (fun b q hb z=>(hs.2 b hb).trans z) he new
theorem Xl{P:Program}{w:World}{H':Hp}{h':Heap}{kvs:List (Key×V)}{vs:List (Key×Value)}(z:kvs.length<=sizeLine)(hd:(a==sysModules)=false)(rel:KV kvs vs)(dd:h'.DictOf (mixKind P w) a vs) :
  ObjOk P w H' h' a (.dK kvs):=⟨z,hd,vs,rel,dd⟩
theorem j34{H':Hp}{Q:Unit->Shared->Prop}(hu:A.units+1<cLine)(I:Inv X pins σ H s)(g:DPut H a y v H')(ry:RelV y u)(rv:RelV v r)(h:∀s',Inv X pins σ H' s'->Q () s') :
  wpAny (model X.prog X.w) A (setItem (.ref a) u r) Q E s:=by
 rcases g with⟨kvs,k,e,ey,l,eH⟩ | ⟨kvs,k,b,e,ey,eb,l,eH⟩
 ·subst ey eH;obtain⟨z,hd,vs,rel,dd⟩:=xp I.hok e;have hz:vs.length<=sizeLine:=by rw[<-rel.length];exact z
  have hl:(putK kvs k v).length<=sizeLine:=by have:=yY kvs k v;lia
  refine wpAny_setItem_pairs (hsz:=hz) (j2m ry) dd fun h' dd' hs=>h _ ?_
  have he:∃q,h'.get? a=some q:=let ⟨q,_,_,hq,_⟩:=dd';⟨q,hq⟩;exact Xk I (by rw[e];exact True.intro) hs he (Xl hl hd (rel.put k rv) dd')
 ·subst ey eH;cases(show u=Value.ref b from ry);obtain⟨z,hd,xs,rel,dd⟩:=j6P I.hok e;have hz:xs.length<=sizeLine:=by rw[<-Paired.length rel];exact z
  have hl:(putK kvs k v).length<=sizeLine:=by have:=yY kvs k v;lia
  refine wpAny_setItem_heap (hsz:=hz) (tupleKind_room_in1 hu) (Xq I.hok eb) dd fun h' dd' hs=>h _ ?_
  obtain⟨q,es,ep,hq,h2,h3,h4,_,h5⟩:=dd';refine Xk I (by rw[e];exact True.intro) hs ⟨q,hq⟩ ⟨hl,hd,_,(rel.put k eb rv).keeps fun c ys ec=>?_,q,es,ep,hq,h2,h3,h4,h5⟩;rw[jg (JG ec e (fun z=>nomatch z))];exact ec
end
section
variable{X:Cx}{pins:List (Addr×Obj)}{σ:St}{H:Hp}{s:Shared}{a:Addr}{kvs:List (Key×V)}{k:Key}{u:Value}{A:Around}{E:Value->Shared->Prop}
end
def NoSl(i:Expr):Prop:=∀ov iv,subscripted i false ov iv=operate [ov,iv] (getItem ov iv)
theorem j5T{prog:Program}{w:World}{A:Around}{E:Value->Shared->Prop}{s:Shared}{env:Env}{value slice:Expr}{pos:Pos}{T id:String}{Q:Value->Shared->Prop}
  (hl:typeLookup (.type T) "__getitem__"= pure (some (.builtin id))) (hs:NoSl slice)
  (h:wpAny (model prog w) A (eval value env) (fun o s₁=>wpAny (model prog w) A (eval slice env) (fun i s₂=>s₂.TypeIs o T/\wpAny (model prog w) A (getItem o i) Q E s₂) E s₁) E s) :
  wpAny (model prog w) A (eval (.Subscript value slice pos) env) Q E s:=by
 refine Subscript_ (wpAny_mono h (fun o s₁ h₁=>wpAny_mono h₁ (fun i s₂ h₂=>?_) fun _ _ x=>x) fun _ _ x=>x);obtain⟨hT,h₂⟩:=h₂;unfold subscriptTail;refine uk ?_;rw[getitemInPython_of_ne hT.not_modules];refine uk (wpAny_specialOf hT hl ?_);have fin:wpAny (model prog w) A (subscripted slice false o i) (fun r s₃=>wpAny (model prog w) A (letTemporaryGo value o r >>= fun _=>pure r) Q E s₃) E s₂:=by
  rw[hs o i];exact wpAny_operating (wpAny_mono h₂ (fun r s₃ h₃=>uk (wpAny_letTemporaryGo (uh h₃))) fun _ _ x=>x)
 first
  | exact uh (uk fin)
  | exact uk (uh (uk fin))
  | exact uk fin
theorem j0f{X:Cx}{pins:List (Addr×Obj)}{σ:St}{H:Hp}{s:Shared}{a:Addr}{y:V}{o:Option V}(I:Inv X pins σ H s)(g:DGet H a y o):s.TypeIs (.ref a) "dict":=by
 rcases g with⟨kvs,k,e,_,_⟩ | ⟨kvs,k,b,e,_,_,_⟩
 ·obtain⟨_,_,vs,_,dd⟩:=j0g I.hok e;exact dd.typeIs
 ·obtain⟨_,_,xs,_,dd⟩:=j0j I.hok e;exact dd.typeIs
def tDGet(td ty:TE):TE:=fun σ H Q=>td σ H fun x H1=>ty σ H1 fun y H2=>∃a v,x = .ref a/\DGet H2 a y (some v)/\Q v H2
def sDPut(td ty tv:TE):TS:=fun D σ H=>tv σ H fun v H1=>td σ H1 fun x H2=>ty σ H2 fun y H3=>∃a H4,x = .ref a/\DPut H3 a y v H4/\D.nx σ H4
section
variable{X:Cx}{o i e value:Expr}{pos pos' tpos:Pos}{td ty tv:TE}
theorem Qo(hu:X.A.units+1<cLine)(ho:PE X o td)(hi:PE X i ty)(hs:NoSl i:=by exact fun _ _=>rfl):PE X (.Subscript o i pos) (tDGet td ty):=by
 intro pins s σ H Q I h;refine j5T PySem.F.slot_dict_getitem.lookup hs (thn (ho pins s σ H _ I h) fun u s1 ⟨x,H1,I1,rx,q1⟩=>thn (hi pins s1 σ H1 _ I1 q1) fun iv s2 ⟨y,H2,I2,ry,a,v,ex,g,q2⟩=>?_);subst ex;obtain rfl:u=Value.ref a:=rx;exact⟨j0f I2 g,j33 hu I2 g ry fun w' s3 I3 rw'=>⟨v,H2,I3,rw',q2⟩⟩
theorem Yv(hu:X.A.units+1<cLine)(ho:PE X o td)(hi:PE X i ty)(hv:PE X value tv)(hs:swapsWith value (some (.Subscript o i pos')) pos.line X.env=pure false) :
  PS X (.Assign [.Subscript o i pos'] value pos) (sDPut td ty tv):=by
 intro pins s σ H D I h;refine wpAny_Assign_Subscript (thn (hv pins s σ H _ I h) fun r s1 ⟨v,H1,I1,rv,q1⟩=>thn (ho pins s1 σ H1 _ I1 q1) fun u s2 ⟨x,H2,I2,rx,q2⟩=>thn (hi pins s2 σ H2 _ I2 q2) fun iv s3 ⟨y,H3,I3,ry,a,H4,ex,g,q3⟩=>?_) hs;subst ex;obtain rfl:u=Value.ref a:=rx;exact j34 hu I3 g ry rv fun s4 I4=>⟨σ,H4,I4,q3⟩
end
theorem j3W{P:Program}{w:World}{H:Hp}(h:Heap)(hb:sysModules<h.objs.size):ObjOk P w H (h.push {cls:=.type "dict",data:=.dict #[]}) h.objs.size (.dK []):=
 ⟨va _,beq_eq_false_iff_ne.mpr (Ne.symm (vE hb)),[],.nil,Heap.DictOf.new h⟩
def tDNewK:TE:=fun _ H Q=>∀p,H p=none->Q (.ref p) (upd H p (.dK []))
section
variable{X:Cx}{pos:Pos}
theorem yZ:PE X (.Dict [] [] pos) tDNewK:=fun pins s σ H Q I h=>
 wpAny_Dict_empty ⟨.ref s.heap.objs.size,_,I.laid (a:=s.heap.objs.size) (o:=.dK []) (t':=s.toks) (fun _ _ q=>vJ _ q) (vb _) (j3W s.heap I.big),rfl,h _ (I.hok.fresh (vb _))⟩
end
noncomputable def mergeK(kvs more:List (Key×V)):List (Key×V):=more.foldl (fun acc kv=>putK acc kv.1 kv.2) kvs
theorem KV.merge:∀{more:List (Key×V)} {rs:List (Key×Value)} {kvs:List (Key×V)} {vs:List (Key×Value)},KV more rs->KV kvs vs->KV (mergeK kvs more) (merged vs rs):=by
 intro more rs kvs vs r;unfold KV at r
 induction r generalizing kvs vs with
 | nil=>intro q;exact q
 | @cons p q ps qs h t ih=>
  intro r0;have e:KV (putK kvs p.1 p.2) (stored vs q.1 q.2):=by
   have:=r0.put p.1 h.2;rw[<-h.1];exact this
  exact ih e
theorem zr:∀(more kvs:List (Key×V)),(mergeK kvs more).length<=kvs.length+more.length
 | [],kvs=>by show kvs.length<=kvs.length+0;lia
 | p::r,kvs=>by
  have h1:=zr r (putK kvs p.1 p.2);have h2:=yY kvs p.1 p.2;show(mergeK (putK kvs p.1 p.2) r).length<=_;rw[vP];lia
structure M1(X:Cx)(o:Expr)(m:Str)(apos:Pos)(e:Expr)(cpos:Pos):Prop where
 base:attributeBase o m X.env (eval o X.env)=eval o X.env
 few:((backTo cpos (starEach [e] X.env)).all (fun x=>!x.1)&&(backToKw cpos (keywordEach [] X.env)).all (fun x=>x.1.isSome)
  && decide (([e]:List Expr).length+([]:List Keyword).length+(if([]:List Keyword).isEmpty then 0 else 1)<30))=true
 line:(apos.endLine==cpos.line)=true
 trees:backTo cpos (starEach [e] X.env)=[(false,eval e X.env)]
def IsD(H:Hp)(a:Addr):Prop:=(∃kvs,Rd H a (.dK kvs))\/∃kvs,Rd H a (.dT kvs)
theorem j6i{X:Cx}{pins:List (Addr×Obj)}{σ:St}{H:Hp}{s:Shared}{a:Addr}(I:Inv X pins σ H s)(d:IsD H a) :
  s.TypeIs (.ref a) "dict"/\(∀b,Value.ref a = .ref b->∃ob,s.heap.get? b=some ob/\ob.dict=none)/\(a==sysModules)=false:=by
 rcases d with⟨kvs,e⟩ | ⟨kvs,e⟩
 ·obtain⟨_,hd,vs,_,dd⟩:=j0g I.hok e;refine⟨dd.typeIs,fun b q=>?_,hd⟩;cases q;obtain⟨ob,_,_,h1,h2,_⟩:=dd;exact⟨ob,h1,h2.2.1⟩
 ·obtain⟨_,hd,xs,_,dd⟩:=j0j I.hok e;refine⟨dd.typeIs,fun b q=>?_,hd⟩;cases q;obtain⟨ob,_,_,h1,h2,_⟩:=dd;exact⟨ob,h1,h2.2.1⟩
section
variable{X:Cx}{pins:List (Addr×Obj)}{σ:St}{H:Hp}{s:Shared}{a:Addr}{y d:V}{u r:Value}{o:Option V}{A:Around}{E:Value->Shared->Prop}
theorem j6g{Q:Value->Shared->Prop}(hu:A.units+1<cLine)(I:Inv X pins σ H s)(g:DGet H a y o)(ry:RelV y u)(h:∀w' s',Inv X pins σ H s'->RelV (o.getD .non) w'->Q w' s') :
  wpAny (model X.prog X.w) A (call (.builtin "dict.get") [.ref a,u]) Q E s:=by
 rcases g with⟨kvs,k,e,ey,l⟩ | ⟨kvs,k,b,e,ey,eb,l⟩
 ·subst ey;obtain⟨z,hd,vs,rel,dd⟩:=j0g I.hok e;refine call_meetsIn PySem.F.slot_dict_get dd.typeIs PySem.F.entry_dict_get (PySem.F.args_dict_get_2 _ _) (meets_dict_get (mixKind X.prog X.w) a (j2m ry) hd) ⟨_,dd.mapOf,h _ _ (I.tok _) ?_⟩;rw[l];exact(rel.val k).getD rfl
 ·subst ey;cases(show u=Value.ref b from ry);obtain⟨z,hd,xs,rel,dd⟩:=j0j I.hok e;refine call_meetsIn PySem.F.slot_dict_get dd.typeIs PySem.F.entry_dict_get (PySem.F.args_dict_get_2 _ _) (meetsH_dict_get (tupleKind (mixKind X.prog X.w)) a b hd) ⟨tupleKind_room_in1 hu,k,xs,Xq I.hok eb,dd,h _ _ (I.tok _) ?_⟩;rw[l];exact(rel.val k).getD rfl
end
def tDGet1(td ty:TE):TE:=fun σ H Q=>td σ H fun x H1=>∃a,x = .ref a/\IsD H1 a/\ty σ H1 fun y H2=>∃o,DGet H2 a y o/\Q (o.getD .non) H2
section
variable{X:Cx}{o e f:Expr}{apos cpos:Pos}{td ty tx:TE}
theorem j4A(hu:X.A.units+1<cLine)(ho:PE X o td)(he:PE X e ty)(m:M1 X o "get" apos e cpos):PE X (.Call (.Attribute o "get" apos) [e] [] cpos) (tDGet1 td ty):=by
 intro pins s σ H Q I h;refine wpAny_Call_method m.base m.few m.line PySem.F.plainAttrs_dict PySem.F.slot_dict_get PySem.F.type_dict_get (thn (ho pins s σ H _ I h) fun u s1 ⟨x,H1,I1,rx,a,ex,d,q1⟩=>?_);subst ex;obtain rfl:u=Value.ref a:=rx;obtain⟨t1,t2,_⟩:=j6i I1 d;refine⟨t1,t2,?_⟩;rw[m.trees];refine Calls.callWith_builtin rfl (Calls.evalArgs_plain (Calls.spliced_cons (thn (he pins s1 σ H1 _ I1 q1) fun iv s2 ⟨y,H2,I2,ry,ov,g,q2⟩=>Calls.spliced_nil ?_)));exact j6g hu I2 g ry fun w' s3 I3 rw'=>⟨_,H2,I3,rw',q2⟩
end
section
variable{X:Cx}{pins:List (Addr×Obj)}{σ:St}{H:Hp}{s:Shared}{a:Addr}{kvs:List (Key×V)}{A:Around}{E:Value->Shared->Prop}
end
section
variable{X:Cx}{pins:List (Addr×Obj)}{σ:St}{H:Hp}{s:Shared}{a:Addr}{y:V}{u:Value}{A:Around}{E:Value->Shared->Prop}
end
section
variable{X:Cx}
end
section
variable{κ:Type}[DecidableEq κ]
theorem j0Z{kvs:List (κ×V)}{k:κ}(h:valV kvs k=none):¬k∈kvs.map (·.1):=by
 intro m;obtain⟨p,hp,e⟩:=vK.mp m;have q:(kvs.any fun kv=>decide (kv.1=k))=true:=any_eq_true.mpr ⟨p,hp,vG e⟩;rw[Q7,h]at q;exact ug q (by simp)
theorem j2N{kvs:List (κ×V)}{k:κ}{v:V}(h:valV kvs k=some v):k∈kvs.map (·.1):=by
 have q:(kvs.any fun kv=>decide (kv.1=k))=true:=by
  rw[Q7,h]
  all_goals rfl
 obtain⟨p,hp,e⟩:=any_eq_true.mp q;exact vK.mpr ⟨p,hp,of_decide_eq_true e⟩
theorem j2v:∀{l:List κ} {k:κ},l.Nodup->¬k∈l->(l++[k]).Nodup
 | [],k,_,_=>by simp
 | a::r,k,h,hk=>by
  obtain⟨h1,h2⟩:=ur.mp h;show(a::(r++[k])).Nodup;refine ur.mpr ⟨fun m=>?_,j2v h2 fun m=>hk (mem_cons.mpr (Or.inr m))⟩;rcases vh.mp m with q | q
  ·exact h1 q
  ·exact hk (mem_cons.mpr (Or.inl (vo.mp q).symm))
theorem j5D{kvs:List (κ×V)}{k:κ}(v:V)(hn:(kvs.map (·.1)).Nodup)(h:valV kvs k=none):((putK kvs k v).map (·.1)).Nodup:=by
 rw[Ka v h,vj];exact j2v hn (j0Z h)
end
theorem compLoopT{prog:Program}{w:World}{A:Around}{R:Result->Shared->Prop}{s:Shared}{elt target iter:Expr}{ifs:List Expr}{scope:Scope}{pos:Pos}{it acc:Value}{env:Env}(I:Nat->Shared->Prop)
  (turn:∀n s,I n s->wpAny (model prog w) A (pyNext it) (fun r s₁=>match r with
   | none=>R (.ok .next) s₁
   | some v=>wpAny (model prog w) A (letOwnedTupleGo target it v) (fun _ s₂=>wpAny (model prog w) A (assign target env v) (fun _ s₃=>
     wpAny (model prog w) A (forIn ifs true fun c r=>if r=true then do let ok <-isTrue c env (eval c env);pure (ForInStep.yield ok)else pure (ForInStep.yield r)) (fun ok s₄=>
      if ok=true then wpAny (model prog w) A (eval elt env) (fun x s₅=>
       wpAny (model prog w) A (call (.builtin "list.append") [acc,x]) (fun _ s₆=>∃m,m<n/\I m s₆) (fun _ _=>False) s₅) (fun _ _=>False) s₄
      else∃m,m<n/\I m s₄) (fun _ _=>False) s₃) (fun _ _=>False) s₂) (fun _ _=>False) s₁) (fun _ _=>False) s)
  (n:Nat) (h:I n s) :
  codeAny (model prog w) A (.compLoop (.ListComp elt [⟨target,iter,ifs,0⟩] scope pos) 0 it acc env) R s:=by
 refine codeAny_loop rfl I (fun n s hI=>?_) n h;show wpAny _ A ((compTurn (.ListComp elt [⟨target,iter,ifs,0⟩] scope pos) 0 it acc env).onRaise (fun x=>do noteFrame x env;theTreesLotGoes x)) _ _ s;refine wpAny_noted ?_;rw[compTurn_list];refine uk (wpAny_standAt (uk (wpAny_mono (turn n s hI) (fun r s₁ h₁=>?_) fun _ _ h'=>h'.elim)));cases r with
 | none=>exact uh h₁
 | some v=>
  refine uk (wpAny_mono h₁ (fun _ s₂ h₂=>?_) fun _ _ h'=>h'.elim);refine uk (wpAny_mono h₂ (fun _ s₃ h₃=>uk (wpAny_mono h₃ (fun ok s₄ h₄=>?_) fun _ _ h'=>h'.elim)) fun _ _ h'=>h'.elim);cases ok with
  | false=>exact uh ⟨rfl,h₄⟩
  | true=>
   exact uk (uk (wpAny_mono h₄ (fun x s₅ h₅=>uk (wpAny_mono h₅ (fun _ s₆ h₆=>uh (uh ⟨rfl,h₆⟩)) fun _ _ h'=>h'.elim)) fun _ _ h'=>h'.elim))
def PF(X:Cx)(ifs:List Expr)(t:TT):Prop:=
 ∀(pins:List (Addr×Obj)) (s:Shared) (σ:St) (H:Hp) (Q:Bool->Hp->Prop),Inv X pins σ H s->t σ H Q->
  wpAny (model X.prog X.w) X.A (forIn ifs true fun c r=>if r=true then do let ok <-isTrue c X.env (eval c X.env);pure (ForInStep.yield ok)else pure (ForInStep.yield r)) (TP X pins σ Q) X.xe s
def tYes:TT:=fun _ H Q=>Q true H
theorem Q1{X:Cx}:PF X [] tYes:=fun _ _ _ H _ I h=>wpAny_tests_nil ⟨H,I,h⟩
theorem XQ{X:Cx}{c:Expr}{t:TT}(hc:PT X c t):PF X [c] t:=fun pins s σ H Q I h=>wpAny_tests_one (hc pins s σ H Q I h)
noncomputable def closL(env:Env):List (Str×NameKind)->List (Str×Addr)->List (Str×Addr)
 | [],acc=>acc
 | (n,k)::r,acc=>closL env r (if k == .free then(n,(env.cells.lookup n).getD 0)::acc else acc)
theorem kA{scope:Scope}{env:Env}(h:∀y∈scope.names,y.2 = .free->∃c,env.cells.lookup y.1=some c):closureFor scope env=pure (closL env scope.names []):=by
 have go:∀(names:List (Str×NameKind)) (acc:List (Str×Addr)),(∀y∈names,y.2 = .free->∃c,env.cells.lookup y.1=some c)->
   (forIn (m:=Sem) names acc fun x r=>(match x with | (name,kind)=>if(kind == .free)=true then do let a <-cellOf env name;pure (ForInStep.yield ((name,a)::r))else pure (ForInStep.yield r)))=pure (closL env names acc):=by
  intro names
  induction names with
  | nil=>intro acc _;rfl
  | cons y r ih=>
   obtain⟨n,k⟩:=y;intro acc hh;rw[List.forIn_cons];cases hk:(k==NameKind.free)with
   | true=>
    have hk':k = .free:=by simpa using hk
    obtain⟨c,hc⟩:=hh (n,k) vq hk';have ec:cellOf env n=pure c:=by unfold cellOf;rw[hc]
    simp only[hk,if_true,ec,pure_bind,closL,hc,Option.getD_some];exact ih _ fun y hy=>hh y (vp _ hy)
   | false=>
    simp only[hk,Bool.false_eq_true,if_false,pure_bind,closL];exact ih _ fun y hy=>hh y (vp _ hy)
 have g:=go scope.names [] h;unfold closureFor;simp only[g,pure_bind]
theorem xm{env:Env}:∀(names:List (Str×NameKind)) (acc:List (Str×Addr)),(∀y∈names,y.2 = .free->∃c,env.cells.lookup y.1=some c)->(∀x c,acc.lookup x=some c->env.cells.lookup x=some c)->
  ∀x c,(closL env names acc).lookup x=some c->env.cells.lookup x=some c
 | [],_,_,ha,x,c,h=>ha x c h
 | (n,k)::r,acc,hh,ha,x,c,h=>by
  refine xm r _ (fun y hy=>hh y (vp _ hy)) (fun x c e=>?_) x c h;cases hk:(k==NameKind.free)with
  | false=>rw[hk]at e;exact ha x c e
  | true=>
   rw[hk]at e;have hk':k = .free:=by simpa using hk
   obtain⟨c',hc⟩:=hh (n,k) vq hk';simp only[if_true,hc,Option.getD_some]at e;rw[lookup_cons]at e;cases hx:(x==n)with
   | true=>
    rw[hx]at e;have:x=n:=by simpa using hx
    rw[this,hc];exact e
   | false=>rw[hx]at e;exact ha x c e
theorem xl{env:Env}:∀(names:List (Str×NameKind)) (acc:List (Str×Addr)) (x:Str),(∃c,acc.lookup x=some c)->∃c,(closL env names acc).lookup x=some c
 | [],_,_,h=>h
 | (n,k)::r,acc,x,h=>by
  refine xl r _ x ?_;cases hk:(k==NameKind.free)with
  | false=>exact h
  | true=>
   simp only[if_true];rw[lookup_cons];cases hx:(x==n)with
   | true=>exact⟨_,rfl⟩
   | false=>exact h
theorem Ku{env:Env}:∀(names:List (Str×NameKind)) (acc:List (Str×Addr)) (x:Str),(x,NameKind.free)∈names->∃c,(closL env names acc).lookup x=some c
 | [],_,_,h=>by simp at h
 | (n,k)::r,acc,x,h=>by
  rcases mem_cons.mp h with e | h
  ·cases e;refine xl r _ _ ?_;simp
  ·exact Ku r _ x h
theorem Zv{env:Env}:∀{names:List (Str×NameKind)} {x:Str} {k:NameKind},(names.map fun(n,k)=>if(k==NameKind.free&&env.scope.kind == .function&&env.kindOf n==some .cell)then(n,NameKind.cell)else(n,k)).lookup x=some k->
  ∃k',(x,k')∈names/\names.lookup x=some k'/\(k'=k\/(k' = .free/\k = .cell))
 | [],_,_,h=>by simp at h
 | (n,k₀)::r,x,k,h=>by
  have ih:=@Zv env r x k;rw[v7]at h;dsimp only at h;cases hx:x==n with
  | true=>
   have e:x=n:=by simpa using hx
   subst e;refine⟨k₀,vq,by simp,?_⟩;by_cases hc:(k₀==NameKind.free&&env.scope.kind == .function&&env.kindOf x==some .cell)=true
   ·rw[vd hc]at h;simp only[lookup_cons,beq_self_eq_true]at h;simp only[Bool.and_eq_true,beq_iff_eq]at hc;exact .inr ⟨hc.1.1,(vL h).symm⟩
   ·rw[vc hc]at h;simp only[lookup_cons,beq_self_eq_true]at h;exact .inl (vL h)
  | false=>
   have h':(r.map fun(n,k)=>if(k==NameKind.free&&env.scope.kind == .function&&env.kindOf n==some .cell)then(n,NameKind.cell)else(n,k)).lookup x=some k:=by
    by_cases hc:(k₀==NameKind.free&&env.scope.kind == .function&&env.kindOf n==some .cell)=true
    ·rw[vd hc]at h;simpa only[lookup_cons,hx]using h
    ·rw[vc hc]at h;simpa only[lookup_cons,hx]using h
   obtain⟨k',h1,h2,h3⟩:=ih h';exact⟨k',vp _ h1,by simpa only[lookup_cons,hx]using h2,h3⟩
theorem Kt:∀(names:List (Str×NameKind)) (n:Nat) (acc:List (Str×Addr)) (x:Str) (c:Addr),(cellsFrom n names acc).lookup x=some c->n<=c\/acc.lookup x=some c
 | [],_,_,_,_,h=>.inr h
 | (y,k)::r,n,acc,x,c,h=>by
  unfold cellsFrom at h;split at h
  ·rcases Kt r (n+1) _ x c h with q | q
   ·exact .inl (by lia)
   ·rw[lookup_cons]at q;cases hx:x==y with
    | true=>rw[hx]at q;cases q;exact .inl (vb _)
    | false=>rw[hx]at q;exact .inr q
  ·exact Kt r n acc x c h
theorem j1g:∀(names:List (Str×NameKind)) (n:Nat) (acc:List (Str×Addr)),(∀x c,acc.lookup x=some c->c<n)->(∀x y c,acc.lookup x=some c->acc.lookup y=some c->x=y)->
  ∀x y c,(cellsFrom n names acc).lookup x=some c->(cellsFrom n names acc).lookup y=some c->x=y
 | [],_,_,_,hi,x,y,c,h1,h2=>hi x y c h1 h2
 | (z,k)::r,n,acc,hb,hi,x,y,c,h1,h2=>by
  unfold cellsFrom at h1 h2;split at h1
  ·rename_i hk;rw[vd hk]at h2;refine j1g r (n+1) _ (fun x c e=>?_) (fun x y c e1 e2=>?_) x y c h1 h2
   ·rw[lookup_cons]at e;cases hx:x==z with
    | true=>rw[hx]at e;cases e;exact Nat.lt_succ_self _
    | false=>rw[hx]at e;exact Nat.lt_succ_of_lt (hb x c e)
   ·rw[lookup_cons]at e1 e2;cases hx:x==z with
    | true=>
     rw[hx]at e1;cases e1;cases hy:y==z with
     | true=>rw[beq_iff_eq.mp hx,beq_iff_eq.mp hy]
     | false=>rw[hy]at e2;exact ug (hb y n e2) (Nat.lt_irrefl _)
    | false=>
     rw[hx]at e1;cases hy:y==z with
     | true=>rw[hy]at e2;cases e2;exact ug (hb x n e1) (Nat.lt_irrefl _)
     | false=>rw[hy]at e2;exact hi x y c e1 e2
  ·rename_i hk;rw[vc hk]at h2;exact j1g r n acc hb hi x y c h1 h2
theorem Xj:∀(names:List (Str×NameKind)) (n:Nat) (acc:List (Str×Addr)) (x:Str),(∃c,acc.lookup x=some c)->∃c,(cellsFrom n names acc).lookup x=some c
 | [],_,_,_,h=>h
 | (y,k)::r,n,acc,x,h=>by
  unfold cellsFrom;split
  ·refine Xj r (n+1) _ x ?_;rw[lookup_cons];cases hx:x==y with
   | true=>exact⟨_,rfl⟩
   | false=>exact h
  ·exact Xj r n acc x h
theorem j1f:∀(names:List (Str×NameKind)) (n:Nat) (acc:List (Str×Addr)) (x:Str),(x,NameKind.cell)∈names->∃c,(cellsFrom n names acc).lookup x=some c
 | [],_,_,_,h=>by simp at h
 | (y,k)::r,n,acc,x,h=>by
  unfold cellsFrom;rcases mem_cons.mp h with e | h
  ·cases e;simp only[beq_self_eq_true,if_true];exact Xj r _ _ _ (by simp)
  ·split
   ·exact j1f r _ _ x h
   ·exact j1f r _ _ x h
theorem j1i:∀(names:List (Str×NameKind)) (n:Nat) (acc:List (Str×Addr)) (x:Str),(x,NameKind.cell)∉names->(cellsFrom n names acc).lookup x=acc.lookup x
 | [],_,_,_,_=>rfl
 | (y,k)::r,n,acc,x,h=>by
  have hr:(x,NameKind.cell)∉r:=fun q=>h (vp _ q)
  unfold cellsFrom;split
  ·rename_i hk;rw[j1i r _ _ x hr,lookup_cons];cases hx:x==y with
   | true=>rw[beq_iff_eq.mp hx,beq_iff_eq.mp hk]at h;exact ug vq h
   | false=>rfl
  ·exact j1i r n acc x hr
theorem j1h:∀(names:List (Str×NameKind)) (n₀ n:Nat) (acc:List (Str×Addr)) (x:Str) (c:Addr),n₀<=n->((x,NameKind.cell)∈names\/∀c,acc.lookup x=some c->n₀<=c)->(cellsFrom n names acc).lookup x=some c->n₀<=c
 | [],_,_,_,_,c,_,h,e=>h.elim (fun z=>by simp at z) fun z=>z c e
 | (y,k)::r,n₀,n,acc,x,c,hn,h,e=>by
  unfold cellsFrom at e;split at e
  ·refine j1h r n₀ (n+1) _ x c (by lia) ?_ e;rcases h with h | h
   ·rcases mem_cons.mp h with q | q
    ·cases q;exact .inr fun c q=>by rw[lookup_cons,beq_self_eq_true]at q;cases q;exact hn
    ·exact .inl q
   ·refine .inr fun c q=>?_
    rw[lookup_cons]at q;cases hx:x==y with
    | true=>rw[hx]at q;cases q;exact hn
    | false=>rw[hx]at q;exact h c q
  ·rename_i hk;refine j1h r n₀ n acc x c hn ?_ e;rcases h with h | h
   ·rcases mem_cons.mp h with q | q
    ·cases q;exact ug rfl hk
    ·exact .inl q
   ·exact .inr h
theorem We:∀(names:List (Str×NameKind)) (h:Heap) (acc:List (Str×Addr)) (x:Str) (c:Addr),(cellsFrom h.objs.size names acc).lookup x=some c->acc.lookup x=some c\/(pushCells h names).IsCell c none
 | [],_,_,_,_,e=>.inl e
 | (y,k)::r,h,acc,x,c,e=>by
  unfold cellsFrom at e;unfold pushCells;split
  ·rename_i hk;rw[vd hk]at e;rw[<-Heap.size_push h {cls:=.type "cell",data:=.cell none}]at e;rcases We r _ _ x c e with q | q
   ·rw[lookup_cons]at q;cases hx:x==y with
    | true=>
     rw[hx]at q;cases q;exact .inr ⟨_,pushCells_keeps _ _ _ _ (Heap.get?_push_size _ rfl),rfl⟩
    | false=>rw[hx]at q;exact .inl q
   ·exact .inr q
  ·rename_i hk;rw[vc hk]at e;exact We r h acc x c e
theorem envC{M:Model}{A:Around}{E:Value->Shared->Prop}{s:Shared}{scope:Scope}{globals:Addr}{cl:List (Str×Addr)}{qual:Str}{env:Env}{Q:Env->Shared->Prop}
  (h:Q (newEnv scope s.heap.objs.size globals (cellsFrom (s.heap.objs.size+1) scope.names cl) qual none .none (some env) builtinsNs) {s with heap:=pushCells (s.heap.push {cls:=.type "dict",data:=.dict #[]}) scope.names}) :
  wpAny M A (newFunctionEnv scope globals cl [] qual none .none (some env)) Q E s:=by
 simp only[newFunctionEnv,Option.isSome_some,if_true];refine uk (wpAny_alloc ?_);refine uk (wpAny_layCells _ (fun name kind cells=>by cases hkc:kind==NameKind.cell<;>simp[hkc]) _ _ _ _ ?_);rw[show({s with heap:=s.heap.push {cls:=.type "dict",data:=.dict #[]}}:Shared).heap.objs.size=s.heap.objs.size+1 from Heap.size_push ..];rw[List.forIn_nil];exact uk (uh (uh h))
noncomputable def blk(X:Cx)(scope:Scope)(ow:List Str)(ci:List Nat)(C:Addr)(s₀:Shared)(H₀:Hp)(ex:List Addr)(pn:List (Addr×Obj)):Cx:=
 {X with N:=ow++ci.map fun j=>X.N.getD j "",s₀:=s₀,H₀:=H₀,env:=compEnvC scope (cellsFrom (C+1) scope.names (closL X.env scope.names [])) C X.env,outer:=X.stack,stack:=X.stack,ex:=ex,fn:=fun x=>scope.names.lookup x==some .cell,pn:=pn,xe:=fun _ _=>False}
structure CompScope(X:Cx)(scope:Scope)(ow:List Str)(ci:List Nat):Prop where
 kind:scope.kind = .function
 cell:∀y∈scope.names,y.2 = .cell->scope.names.lookup y.1=some .cell
 names:∀y∈scope.names,y.2 = .local->scope.names.lookup y.1=some .local
 free:∀y∈scope.names,y.2 = .free->X.env.kindOf y.1=some .cell\/X.env.kindOf y.1=some .free
 ix:∀j∈ci,j<X.N.length/\scope.names.lookup (X.N.getD j "")=some .free
noncomputable def compOk(fsc:Scope)(N:List Str)(scope:Scope)(ci:List Nat):Bool:=
 scope.kind == .function&&scope.names.all (fun y=>y.2 != .cell||scope.names.lookup y.1==some .cell)&&scope.names.all (fun y=>y.2 != .local||scope.names.lookup y.1==some .local) &&
 scope.names.all (fun y=>y.2 != .free||fsc.names.lookup y.1==some .cell||fsc.names.lookup y.1==some .free)&&ci.all (fun j=>decide (j<N.length)&&scope.names.lookup (N.getD j "")==some .free)
theorem CompScope.of{X:Cx}{scope:Scope}{ow:List Str}{ci:List Nat}(fsc:Scope)(N:List Str)(e1:X.env.scope=fsc)(e2:X.N=N)(h:compOk fsc N scope ci=true):CompScope X scope ow ci:=by
 subst e1 e2;unfold compOk at h;simp only[Bool.and_eq_true,all_eq_true,Bool.or_eq_true,bne_iff_ne,ne_eq,beq_iff_eq,decide_eq_true_eq]at h;obtain⟨⟨⟨⟨h1,h2⟩,h3⟩,h4⟩,h5⟩:=h;refine⟨h1,fun y hy e=>(h2 y hy).resolve_left fun z=>z e,fun y hy e=>?_,fun y hy e=>?_,fun j hj=>h5 j hj⟩
 ·rcases h3 y hy with z | z
  ·exact ug e z
  ·exact z
 ·rcases h4 y hy with(z | z) | z
  ·exact ug e z
  ·exact .inl z
  ·exact .inr z
theorem JX{X:Cx}{scope:Scope}{ow:List Str}{ci:List Nat}{C:Addr}{s₀:Shared}{H₀:Hp}{ex:List Addr}{pn:List (Addr×Obj)}(N:List Str)(e:X.N=N)(h:(ow++ci.map fun j=>N.getD j "").Nodup):(blk X scope ow ci C s₀ H₀ ex pn).N.Nodup:=by
 subst e;exact h
noncomputable def capAt(σ:St)(j:Nat):Option V:=match σ[j]? with | some o=>o | none=>none
noncomputable def capS(n:Nat)(ci:List Nat)(σ:St):St:=List.replicate n none++ci.map (capAt σ)
def tComp(wi:TI)(n:Nat)(ci:List Nat)(g:TG)(tf:TT)(te:TE):TE:=fun σ H Q=>wi σ H fun J H1=>∃W:Nat->Nat->List V->Hp->Prop,(∃m,W 0 m [] H1)/\∀i m ys H,W i m ys H->
 (J.stop i H/\ys.length<=sizeLine/\∀p,H p=none->Q (.ref p) (upd H p (.lst ys)))\/
 (J.go i H/\∃N:List V->Hp->Prop,(∀ys' H',N ys' H'->∃m',m'<m/\W (i+1) m' ys' H')/\∀x H',J.yld i H x H'->g x (capS n ci σ) H' fun σ2 H2=>tf σ2 H2 fun b H3=>
  if b=true then te σ2 H3 fun v H4=>ys.length<sizeLine/\N (ys++[v]) H4 else N ys H3)
section
variable{X:Cx}{pins:List (Addr×Obj)}{σ:St}{H:Hp}{s:Shared}{elt iter tg:Expr}{ifs:List Expr}{scope:Scope}{pos:Pos}{ow:List Str}{ci:List Nat}{g:TG}{tf:TT}{te:TE}
theorem CompScope.cells(S:CompScope X scope ow ci)(ok:X.Ok):∀y∈scope.names,y.2 = .free->∃c,X.env.cells.lookup y.1=some c:=fun y hy e=>ok.has y.1 (S.free y hy e)
theorem CompScope.sub(S:CompScope X scope ow ci)(ok:X.Ok):∀x c,(closL X.env scope.names []).lookup x=some c->X.env.cells.lookup x=some c:=
 xm scope.names [] (S.cells ok) fun _ _ e=>by simp at e
theorem CompScope.cel(S:CompScope X scope ow ci)(ok:X.Ok){C:Addr}{x:Str}{c:Addr}(h:(cellsFrom (C+1) scope.names (closL X.env scope.names [])).lookup x=some c):C+1<=c\/X.env.cells.lookup x=some c:=
 (Kt _ _ _ _ _ h).imp id (S.sub ok x c)
theorem j6d(S:CompScope X scope ow ci)(I:Inv X pins σ H s){C:Addr}{ex:List Addr}{pn:List (Addr×Obj)}(hC:s.heap.objs.size<=C)
  (hex:∀b∈ex,b<s.heap.objs.size/\FpOk X pins H b):(blk X scope ow ci C s H ex pn).Ok where
 mod:=I.ok.mod
 kind:=S.kind
 glob:=I.ok.glob
 blt:=I.ok.blt
 above:=hC
 inj:=j1g scope.names (C+1) _ (fun x c e=>by
   obtain⟨v,q⟩:=I.cell x c (S.sub I.ok x c e);exact Nat.lt_succ_of_le (vX (Nat.lt_of_lt_of_le q.lt hC))) fun x y c h1 h2=>I.ok.inj x y c (S.sub I.ok x c h1) (S.sub I.ok y c h2)
 has:=fun x h=>by
  have h':∃k,(relabel scope X.env).names.lookup x=some k/\(k = .cell\/k = .free):=by
   rcases h with h | h
   ·exact⟨_,h,.inl rfl⟩
   ·exact⟨_,h,.inr rfl⟩
  obtain⟨k,hl,hk⟩:=h';obtain⟨k',hm,_,e⟩:=Zv (env:=X.env) hl;have hf:k' = .cell\/k' = .free:=by
   rcases e with e | ⟨e,_⟩
   ·subst e;exact hk
   ·exact .inr e
  rcases hf with hf | hf
  ·subst hf;exact j1f scope.names _ _ x hm
  ·subst hf;exact Xj scope.names _ _ x (Ku scope.names [] x hm)
 cab:=fun x c h e=>vV (vV hC (Nat.le_succ _)) (j1h scope.names (C+1) (C+1) _ x c (vb _) (.inl (PySem.mem_of_lookup (beq_iff_eq.mp h))) e)
 hd:=I.ok.hd
 frames:=I.ok.frames
 stk:=.inl rfl
 exf:=fun b hb=>⟨vE (Nat.lt_of_lt_of_le (hex b hb).1 hC),fun x c e=>(S.cel I.ok e).elim (fun q z=>Nat.lt_irrefl _ (Nat.lt_of_lt_of_le (z▸(hex b hb).1) (vV hC (vV (Nat.le_succ _) q)))) fun q=>(hex b hb).2.2.2.2.2.1 x c q⟩
 bs:=I.bs
 bsz:=vV I.ok.bsz I.sz
 noex:=fun b o e hb=>by
  obtain⟨_,_,_,h3,_⟩:=(hex b hb).2;rcases h3 with z | z
  ·exact I.ok.noex b o e z
  ·exact ug (Nat.lt_of_lt_of_le (vI e) (vV I.ok.bsz z)) (Nat.lt_irrefl _)
 exfs:=fun b hb z=>by
  obtain⟨_,h1,h2,_⟩:=(hex b hb).2;rcases mem_cons.mp (I.stkSub b z)with e | e
  ·exact h1 e
  ·exact h2 e
 funs:=I.stack
 frf:=I.stkFree
theorem j2Z(S:CompScope X scope ow ci)(I:Inv X pins σ H s){C:Addr}{ex:List Addr}{h₁:Heap}{t₁:Nat}{m₀:Str->Option Value}(hC:s.heap.objs.size<=C)
  (hex:∀b∈ex,b<s.heap.objs.size/\FpOk X pins H b) (hn:h₁.Ns C m₀) (k:∀b o,s.heap.get? b=some o->h₁.get? b=some o)
  (hnew:∀x c,(cellsFrom (C+1) scope.names (closL X.env scope.names [])).lookup x=some c->(closL X.env scope.names []).lookup x=some c\/h₁.IsCell c none) :
  Inv (blk X scope ow ci C s H ex (X.pn++pins)) [] (capS ow.length ci σ) H {s with heap:=h₁,toks:=t₁}:=by
 have ok:=j6d (pn:=X.pn++pins) S I hC hex;refine⟨ok,rfl,I.bare,Un.kept k,⟨m₀,hn,fun i x v e1 e2 e3=>?_⟩,fun x c e=>?_,I.hok.fresh hC,fun x c e=>(S.cel I.ok e).elim (fun q=>I.hok.fresh (vV hC (vV (Nat.le_succ _) q))) (I.freeC x c),fun p hp=>?_,I.hok.kept k,?_⟩
 ·have e1':(ow++ci.map fun j=>X.N.getD j "")[i]?=some x:=e1;unfold capS at e2;by_cases hi:i<ow.length
  ·rw[vB (by simpa using hi),List.getElem?_replicate,vd hi]at e2;cases e2
  ·rw[vC (by simpa using hi),vv,length_replicate]at e2;rw[vC (by lia),vv]at e1';cases hj:ci[i-ow.length]? with
   | none=>rw[hj]at e2;cases e2
   | some j=>
    rw[hj]at e1' e2;obtain⟨hl,hf⟩:=S.ix j (vm hj);have ex':X.N.getD j ""= x:=vL e1';have eN:X.N[j]?=some x:=by
     rw[<-ex',vy,vz hl];rfl
    have ev:σ[j]?=some (some v):=by
     have e2':capAt σ j=some v:=vL e2;unfold capAt at e2';cases q:σ[j]? with
     | none=>rw[q]at e2';cases e2'
     | some o=>rw[q]at e2';rw[show o=some v from e2']
    rw[ex']at hf;have hmem:(x,NameKind.free)∈scope.names:=PySem.mem_of_lookup hf;have hk:=S.free _ hmem rfl;obtain⟨m,_,hl'⟩:=I.loc;have vis:Vis X.env.scope x:=by
     rcases hk with q | q
     ·exact .inr (.inl q)
     ·exact .inr (.inr q)
    obtain⟨u,r,lk⟩:=hl' j x v eN ev vis;refine⟨u,r,.inr ⟨?_,?_⟩⟩
    ·rcases e3 with q | q | q
     ·obtain⟨k',_,h2,h3⟩:=Zv (env:=X.env) q;rw[hf]at h2;cases h2;rcases h3 with h3 | ⟨_,h3⟩<;>cases h3
     ·exact .inl q
     ·exact .inr q
    ·rcases lk with⟨q,_⟩ | ⟨_,c,hc,hcell⟩
     ·have q':X.env.kindOf x=some .local:=q;rcases hk with z | z<;>(rw[z]at q';cases q')
     ·obtain⟨c',hc'⟩:=Ku (env:=X.env) scope.names [] x hmem;have e:=S.sub I.ok x c' hc';rw[hc]at e;cases e;refine⟨c,?_,hcell.keeps k⟩;show(cellsFrom (C+1) scope.names (closL X.env scope.names [])).lookup x=some c;rw[j1i scope.names _ _ x fun z=>?_]
      ·exact hc'
      ·have:=S.cell _ z rfl;rw[hf]at this;cases this
 ·rcases hnew x c e with q | q
  ·obtain⟨v,q⟩:=I.cell x c (S.sub I.ok x c q);exact⟨v,q.keeps k⟩
  ·exact⟨_,q⟩
 ·have hp':p∈X.pn++pins:=by
   rcases vh.mp hp with z | z
   ·exact z
   ·cases z
  obtain⟨e,n,ne,nf,d⟩:=I.pin p hp';refine⟨k _ _ e,n,vE (Nat.lt_of_lt_of_le (vI e) hC),fun z=>?_,d⟩;rcases mem_cons.mp (I.stkSub p.1 z)with q | q
  ·exact ne q
  ·exact nf q
 ·show(capS ow.length ci σ).length=(ow++ci.map fun j=>X.N.getD j "").length;simp[capS]
theorem Inv.forget{σ':St}(I:Inv X pins σ' H s)(n:Nat)(ci:List Nat)(σ:St)(hl:(capS n ci σ).length=X.N.length)(h:∀i v,n<=i->(capS n ci σ)[i]?=some (some v)->σ'[i]?=some (some v)):Inv X pins (capS n ci σ) H s:=
 I.weak (by rw[hl,I.len]) fun i v e=>by
  by_cases hi:n<=i
  ·exact h i v hi e
  ·unfold capS at e;rw[vB (by simpa using hi),List.getElem?_replicate,vd (by lia)]at e;cases e
def GKeeps(n:Nat)(g:TG):Prop:=∀x σ H (Q:St->Hp->Prop),g x σ H Q->g x σ H fun σ2 H2=>(∀(i:Nat) v,n<=i->σ[i]?=some (some v)->σ2[i]?=some (some v))/\Q σ2 H2
theorem qS{n i:Nat}(h:i<n):GKeeps n (gName i):=fun x σ H Q q=>⟨fun j v hj e=>by rw[List.getElem?_set_ne (by lia)];exact e,q⟩
theorem wI{K:Frg}{n i j:Nat}(hi:i<n)(hj:j<n):GKeeps n (gTup K 2 (gCons (gName i) (gCons (gName j) gNil))):=fun x σ H Q q=>by
 obtain⟨a,xs,e1,e2,e3,v,r,e4,v',r',e5,e6,q⟩:=q;refine⟨a,xs,e1,e2,e3,v,r,e4,v',r',e5,e6,fun k u hk e=>?_,q⟩;rw[List.getElem?_set_ne (by lia),List.getElem?_set_ne (by lia)];exact e
theorem Wf{E:Value->Shared->Prop}{J:It}{fp:List Addr}{it:Addr}{tn:Nat->Heap->Prop}{RR:Value->Addr->Result->Shared->Prop}(hc:X.calm=true)(S:CompScope X scope ow ci)(hk:GKeeps ow.length g)
  (hb:∀C s₀ H₀ ex pn,PG (blk X scope ow ci C s₀ H₀ ex pn) tg g/\PF (blk X scope ow ci C s₀ H₀ ex pn) ifs tf/\PE (blk X scope ow ci C s₀ H₀ ex pn) elt te)
  (I:Inv X pins σ H s) (T:Turn X.prog X.w X.K tg J fp it tn) (st:tn 0 s.heap) (hf:∀b∈fp,FpOk X pins H b) (Z:List V->Hp->Prop)
  (W:Nat->Nat->List V->Hp->Prop) (w0:∃m,W 0 m [] H)
  (turn:∀i m ys H,W i m ys H->(J.stop i H/\ys.length<=sizeLine/\Z ys H)\/
   (J.go i H/\∃N:List V->Hp->Prop,(∀ys' H',N ys' H'->∃m',m'<m/\W (i+1) m' ys' H')/\∀x H',J.yld i H x H'->g x (capS ow.length ci σ) H' fun σ2 H2=>tf σ2 H2 fun b H3=>
    if b=true then te σ2 H3 fun v H4=>ys.length<sizeLine/\N (ys++[v]) H4 else N ys H3))
  (fin:∀D C s' H' m ys,Inv X pins σ (upd H' D (.lst ys)) s'->H' D=none->Z ys H'->s'.heap.Ns C m->s.heap.objs.size<=C->C≠D->H' C=none->RR (.ref D) C (.ok .next) s') :
  wpAny (model X.prog X.w) X.A (newList []) (fun acc s₃=>wpAny (model X.prog X.w) X.A (newFunctionEnv scope X.env.globals (closL X.env scope.names []) [] X.env.qual none .none (some X.env)) (fun cenv s₄=>
   codeAny (model X.prog X.w) X.A (.compStart (.ListComp elt [⟨tg,iter,ifs,0⟩] scope pos) 0 (.ref it) acc {cenv with scope:=relabel scope X.env}) (RR acc cenv.locals) s₄) E s₃) E s:=by
 refine wpAny_newObj_type (envC ?_);dsimp only;generalize hs3:({s with heap:=s.heap.push {cls:=.type "list",dict:=none,data:=.seq ([]:List Value).toArray}}:Shared)=s3;have e3:s3.heap=s.heap.push {cls:=.type "list",dict:=none,data:=.seq ([]:List Value).toArray}:=by rw[<-hs3]
 rw[<-e3];generalize hh1:pushCells (s3.heap.push {cls:=.type "dict",data:=.dict #[]}) scope.names=h₁;have k3:∀b o,s.heap.get? b=some o->s3.heap.get? b=some o:=fun b o e=>by rw[e3];exact vJ _ e
 have hsz:s3.heap.objs.size=s.heap.objs.size+1:=by rw[e3,Heap.size_push]
 have I3:Inv X pins σ H s3:=by rw[<-hs3];exact I.kept (t':=s.toks) fun b o e=>vJ _ e
 have hD3:s3.heap.get? s.heap.objs.size=some {cls:=.type "list",dict:=none,data:=.seq ([]:List Value).toArray}:=by rw[e3];exact Heap.get?_push_size _ rfl
 generalize hDD:s.heap.objs.size=D at *;generalize hCC:s3.heap.objs.size=C at *;have hDC:D<C:=by lia
 have hHD:H D=none:=I.hok.fresh (Nat.le_of_eq hDD);have fpD:FpOk X pins H D:=I.fpOk (Nat.le_of_eq hDD) hHD;have ltD:∀(b:Addr) o,s.heap.get? b=some o->b<D:=fun b o e=>by rw[<-hDD];exact vI e
 have ltC:∀(b:Addr) o,s3.heap.get? b=some o->b<C:=fun b o e=>by rw[<-hCC];exact vI e
 have hflt:∀b∈fp,b<D:=fun b hb=>by
  obtain⟨o,e,_⟩:=T.obj 0 _ st b hb;exact ltD b o e
 have hex:∀b∈D::fp,b<s3.heap.objs.size/\FpOk X pins H b:=fun b hb=>by
  rw[hCC];rcases mem_cons.mp hb with rfl | hb
  ·exact⟨hDC,fpD⟩
  ·exact⟨vY (hflt b hb) hDC,hf b hb⟩
 have kk:∀b o,s3.heap.get? b=some o->h₁.get? b=some o:=fun b o e=>by rw[<-hh1];exact pushCells_keeps _ _ b o (vJ _ e)
 have hns₁:h₁.Ns C fun _=>none:=by rw[<-hh1,<-hCC];exact(Heap.Ns.new s3.heap (.type "dict")).keeps (pushCells_keeps _ _)
 have hnew:∀x c,(cellsFrom (C+1) scope.names (closL X.env scope.names [])).lookup x=some c->(closL X.env scope.names []).lookup x=some c\/h₁.IsCell c none:=fun x c e=>by
  rw[<-hh1];refine We scope.names _ _ x c ?_;rw[Heap.size_push,hCC];exact e
 obtain⟨hg,hfl,he⟩:=hb C s3 H (D::fp) (X.pn++pins);generalize hY:blk X scope ow ci C s3 H (D::fp) (X.pn++pins)=Y at hg hfl he;have Yprog:Y.prog=X.prog:=by rw[<-hY];rfl
 have Yw:Y.w=X.w:=by rw[<-hY];rfl
 have YK:Y.K=X.K:=by rw[<-hY];rfl
 have YA:Y.A=X.A:=by rw[<-hY];rfl
 have Yc:Y.calm=true:=by rw[<-hY];exact hc
 have Yenv:Y.env=compEnvC scope (cellsFrom (C+1) scope.names (closL X.env scope.names [])) C X.env:=by rw[<-hY];rfl
 have Yxe:Y.xe=fun _ _=>False:=by rw[<-hY];rfl
 have Yfs:Y.fs=frs X.stack:=by rw[<-hY];rfl
 have Yex:Y.ex=D::fp:=by rw[<-hY];rfl
 have Ypn:Y.pn=X.pn++pins:=by rw[<-hY];rfl
 have Ys:Y.s₀=s3:=by rw[<-hY];rfl
 have YH:Y.H₀=H:=by rw[<-hY];rfl
 have YN:(capS ow.length ci σ).length=Y.N.length:=by rw[<-hY];show(capS ow.length ci σ).length=(ow++ci.map fun j=>X.N.getD j "").length;simp[capS]
 have own:∀b∈D::fp,b≠Y.env.locals/\b∉Y.fs/\b∈Y.ex/\(∀x c,Y.env.cells.lookup x=some c->c≠b)/\∀p∈Y.pn,p.1≠b:=fun b hb=>by
  obtain⟨h0,h1,h2,h3,h4,h5⟩:=(hex b hb).2;refine⟨by rw[Yenv];exact vE (hCC▸(hex b hb).1),fun z=>?_,by rw[Yex];exact hb,fun x c e=>?_,by rw[Ypn];exact h5⟩
  ·rw[Yfs]at z;rcases mem_cons.mp (I.stkSub b z)with q | q
   ·exact h1 q
   ·exact h2 q
  ·rw[Yenv]at e;rcases S.cel I.ok e with q | q
   ·exact fun z=>Nat.lt_irrefl _ (Nat.lt_of_lt_of_le (hCC▸(hex b hb).1) (vV (Nat.le_succ _) (z▸q)))
   ·exact h4 x c q
 have nDf:D∉fp:=fun z=>Nat.lt_irrefl _ (hflt D z)
 have loop:∀s4:Shared,Inv Y [] (capS ow.length ci σ) H s4->tn 0 s4.heap->s4.heap.PlainList D #[]->
   codeAny (model X.prog X.w) X.A (.compLoop (.ListComp elt [⟨tg,iter,ifs,0⟩] scope pos) 0 (.ref it) (.ref D) (compEnvC scope (cellsFrom (C+1) scope.names (closL X.env scope.names [])) C X.env)) (RR (.ref D) C) s4:=by
  intro s4 J4 st4 pl4;obtain⟨m0,w0⟩:=w0;refine compLoopT (fun n s'=>∃i ys its H',Inv Y [] (capS ow.length ci σ) H' s'/\tn i s'.heap/\(∀b∈fp,H' b=none)/\H' D=none/\s'.heap.PlainList D its/\Vals ys its.toList/\W i n ys H') ?_ m0
   ⟨0,[],#[],H,J4,st4,fun b hb=>(hf b hb).1,hHD,pl4,.nil,w0⟩
  rintro n s5 ⟨i,ys,its,H5,J5,st5,fr5,hD5,⟨pn5,pl5⟩,va5,w5⟩;have vl:ys.length=its.size:=by have:=va5.length;simpa using this
  have pinD:∀{H':Hp} {s':Shared} {σ':St},Inv Y [] σ' H' s'->H' D=none->∀{o:Obj},s'.heap.get? D=some o->(∀v,o.data≠.cell v)->Inv Y [(D,o)] σ' H' s':=fun {H' s' σ'} K hD o e d=>
   K.pins_of fun p hp=>by
    have ep:p=(D,o):=by simpa using hp
    subst ep;obtain⟨a1,a2,_⟩:=own D vq;exact⟨e,hD,a1,a2,d⟩
  have P5:=pinD J5 hD5 pl5 (fun v z=>by cases z);have fpk:∀{H':Hp},(∀b∈fp,H' b=none)->∀{o:Obj},∀b∈fp,FpOk Y [(D,o)] H' b:=fun {H'} hn {o} b hb=>by
   obtain⟨a1,a2,a3,a4,a5⟩:=own b (vp _ hb);refine⟨hn b hb,a1,a2,.inl a3,a4,fun p hp=>?_⟩;rcases vh.mp hp with q | q
   ·exact a5 p q
   ·have ep:p=(D,o):=by simpa using q
    subst ep;exact fun z=>nDf (by have z':D=b:=z;rw[z'];exact hb)
  rcases turn i n ys H5 w5 with⟨stop,hsz5,z5⟩ | ⟨go,NN,hNN,step⟩
  ·have d:=T.done Y Yprog Yw YK Yc i [(D,_)] s5 _ H5 (fun _ _=>False) P5 (fpk fr5) st5 stop;rw[YA]at d;refine thn d fun r s6 ⟨hr,J6⟩=>?_
   subst hr;have D6:=(J6.pin (D,_) (mem_append_right _ vq)).1;obtain⟨mC,hnC,_⟩:=J6.loc;rw[Yenv]at hnC;have hnC':s6.heap.Ns C mC:=hnC;have hC6:H5 C=none:=by have:=J6.free;rw[Yenv]at this;exact this
   refine fin D C s6 H5 mC ys ?_ hD5 z5 hnC' (vX hDC) (vN hDC) hC6;have B:=J6.base;rw[Yfs,Yex,YH,Ys]at B;have low:∀b o,s.heap.get? b=some o->b≠D/\b≠C:=fun b o e=>⟨vE (ltD b o e),vE (vY (ltD b o e) hDC)⟩
   have nex:∀b o,s.heap.get? b=some o->b∉fp->b∉D::fp:=fun b o e hb z=>by
    rcases mem_cons.mp z with q | q
    ·exact(low b o e).1 q
    ·exact hb q
   have uN:Un (frs X.stack) fp H (upd H5 D (.lst ys)) s.heap s6.heap:=by
    refine⟨fun b o e n hb hx=>B.keep b o (k3 b o e) n hb (nex b o e hx),fun b o e n hb hx=>B.slot b o (k3 b o e) n hb (nex b o e hx),fun b o e n hx=>?_,fun b o e hx=>B.there b o (k3 b o e) (nex b o e hx),fun b xs q=>?_,fun b o u q=>?_,fun b ps q=>?_⟩
    ·rw[jg (low b o e).1];exact B.free b o (k3 b o e) n (nex b o e hx)
    ·rw[jg (je (B.tups b xs q) hD5)];exact B.tups b xs q
    ·rw[jg (je (B.frzs b o u q) hD5)];exact B.frzs b o u q
    ·obtain⟨mo,q'⟩:=B.tbls b ps q;exact⟨mo,by rw[jg (je q' hD5)];exact q'⟩
   have hok6:HOk X.prog X.w H5 s6.heap:=by rw[<-Yprog,<-Yw];exact J6.hok
   have hokN:HOk X.prog X.w (upd H5 D (.lst ys)) s6.heap:=fun b u e=>by
    by_cases hbD:b=D
    ·subst hbD;rw[jC]at e;cases e;exact⟨hsz5,its.toList,_,va5,by simpa using D6⟩
    ·rw[jg hbD]at e;exact(hok6 b u e).stay (fun c v _ q=>q) (fun c q=>by rw[jg (je q hD5)];exact q) fun c xs q=>by rw[jg (je q hD5)];exact q
   refine I.call' (by rw[J6.os,Ys,<-hs3]) uN hokN J6.bare fun b hb=>?_
   obtain⟨h0,h1,h2,h3,h4,h5⟩:=hf b hb;exact⟨h3,h1,h4,h5⟩
  ·have d:=T.item Y Yprog Yw YK Yc i [(D,_)] s5 _ H5 (fun _ _=>False) P5 (fpk fr5) st5 go;rw[YA]at d;refine thn d fun r s6 ⟨u,hr,h6⟩=>?_
   subst hr;refine thn h6 fun _ s7 ⟨x,H7,J7,r7,y7,st7,fr7⟩=>?_
   have J7':=J7.pinned (fpk fr7) (T.obj _ _ st7);have h8:=hg _ s7 _ H7 x u _ J7' r7 (hk _ _ _ _ (step x H7 y7));rw[Yprog,Yw,YA,Yenv,Yxe]at h8;refine thn h8 fun _ s8 ⟨σ8,H8,J8,ks8,q8⟩=>?_
   have h9:=hfl _ s8 σ8 H8 _ J8 q8;rw[Yprog,Yw,YA,Yenv,Yxe]at h9;refine thn h9 fun b s9 ⟨H9,J9,q9⟩=>?_
   have back:∀{H':Hp} {s':Shared},Inv Y ([(D,({cls:=.type "list",data:=.seq its pn5}:Obj))]++pinsAt fp s7.heap) σ8 H' s'->Inv Y [] (capS ow.length ci σ) H' s'/\tn (i+1) s'.heap/\(∀b∈fp,H' b=none)/\H' D=none/\s'.heap.get? D=some {cls:=.type "list",data:=.seq its pn5}:=fun {H' s'} K=>by
    have pD:=K.pin (D,_) (mem_append_right _ (mem_append_left _ vq));refine⟨(K.pins_of (pins':=[]) (by simp)).forget _ _ _ YN (fun j v hj e=>ks8 j v hj e),T.keep _ _ _ st7 fun b hb o e=>(K.pin (b,o) (mem_append_right _ (mem_append_right _ (yv hb e)))).1,fun b hb=>?_,pD.2.1,pD.1⟩;obtain⟨o,e,_⟩:=T.obj _ _ st7 b hb;exact(K.pin (b,o) (mem_append_right _ (mem_append_right _ (yv hb e)))).2.1
   cases b with
   | false=>
    rw[vc vF]at q9|-;obtain⟨m',hm,w9⟩:=hNN _ _ q9;obtain⟨K9,st9,fr9,hD9,e9⟩:=back J9;exact⟨m',hm,i+1,ys,its,H9,K9,st9,fr9,hD9,⟨_,e9⟩,va5,w9⟩
   | true=>
    rw[vd rfl]at q9|-;have h10:=he _ s9 σ8 H9 _ J9 q9;rw[Yprog,Yw,YA,Yenv,Yxe]at h10;refine thn h10 fun z s10 ⟨v,H10,J10,r10,hlt,n10⟩=>?_
    obtain⟨m',hm,w10⟩:=hNN _ _ n10;obtain⟨K10,st10,fr10,hD10,e10⟩:=back J10;refine wpAny_list_append_plain (hsz:=by rw[<-vl];exact vX hlt) ⟨_,e10⟩ fun h11 pl11 hs11=>?_
    obtain⟨a1,a2,a3,a4,a5⟩:=own D vq;have K11:Inv Y [] (capS ow.length ci σ) H10 {s10 with heap:=h11}:=K10.turned (t':=s10.toks) (fun b o hb e=>(hs11.2 b hb).trans e) hD10 a1 (.inl a3) a4 (fun p hp=>a5 p (by simpa using hp));refine⟨m',hm,i+1,ys++[v],its.push z,H10,K11,T.keep _ _ _ st10 fun b hb o e=>(hs11.2 b (fun q=>nDf (q▸hb))).trans e,fr10,hD10,pl11,?_,w10⟩;rw[Array.toList_push];exact va5.append (.cons r10 .nil)
 have J4:Inv Y [] (capS ow.length ci σ) H {s3 with heap:=h₁}:=by
  rw[<-hY];exact j2Z (t₁:=s3.toks) S I3 (Nat.le_of_eq hCC) hex hns₁ kk hnew
 have st4:tn 0 h₁:=T.keep _ _ _ st fun b _ o e=>kk b o (k3 b o e)
 have pl4:h₁.PlainList D #[]:=⟨_,kk _ _ hD3⟩
 have L:=loop _ J4 st4 pl4;subst hs3;exact codeAny_compStart_list L (T.self _ 0 _ _ _ st4 L)
variable{wi:TI}
theorem qB(hc:X.calm=true)(S:CompScope X scope ow ci)(hk:GKeeps ow.length g)(hi:PI X tg iter wi)
  (hb:∀C s₀ H₀ ex pn,PG (blk X scope ow ci C s₀ H₀ ex pn) tg g/\PF (blk X scope ow ci C s₀ H₀ ex pn) ifs tf/\PE (blk X scope ow ci C s₀ H₀ ex pn) elt te)
  (hs:∀x,foldedSetIterable iter X.env x=pure x:=by intro _;rfl):PE X (.ListComp elt [⟨tg,iter,ifs,0⟩] scope pos) (tComp wi ow.length ci g tf te):=by
 intro pins s σ H Q I h;rw[eval_ListComp];refine wpAny_comprehension_free (use:=none) rfl hs (kA (S.cells I.ok)) S.kind S.names (thn (hi pins s σ H _ I h) fun v s1 h1=>thn h1 fun itv s2 h2=>?_);obtain⟨it,fp,tn,J,H2,e,I2,T,st2,f2,W,w0,turn⟩:=h2;subst e;refine Wf (RR:=fun acc C=>compPost (model X.prog X.w) X.A X.xe none (EP X pins σ Q) acc C) hc S hk hb I2 T st2 f2 (fun ys H=>∀p,H p=none->Q (.ref p) (upd H p (.lst ys))) W w0 turn fun D C s' H' m ys K hD z hn hC hCD hC0=>?_
 refine⟨m,hn,fun h' hs'=>⟨.ref D,upd H' D (.lst ys),?_,rfl,z D hD⟩⟩;obtain⟨f0,f1,f2',f3,f4,f5⟩:=I2.fpOk (H':=upd H' D (.lst ys)) hC (by rw[jg hCD];exact hC0);exact K.turned (t':=s'.toks) (fun b o hb e=>(hs'.2 b hb).trans e) f0 f1 f3 f4 f5
theorem XS{i:Nat}{x:Str}{px spos:Pos}(hc:X.calm=true)(S:CompScope X scope ow ci)(hk:GKeeps ow.length g)(hN:X.N.Nodup)(hx1:X.N[i]?=some x)(hx:Loc X.env.scope x)(hi:PI X tg iter wi)
  (hb:∀C s₀ H₀ ex pn,PG (blk X scope ow ci C s₀ H₀ ex pn) tg g/\PF (blk X scope ow ci C s₀ H₀ ex pn) ifs tf/\PE (blk X scope ow ci C s₀ H₀ ex pn) elt te)
  (hsw:swapsWith (.ListComp elt [⟨tg,iter,ifs,0⟩] scope pos) (some (.Name x px)) spos.line X.env=pure true:=by rfl)
  (hf:X.fn x=true\/X.env.scope.names.lookup x=some .local:=by first | exact .inl rfl | exact .inr rfl | assumption)
  (hs:∀x,foldedSetIterable iter X.env x=pure x:=by intro _;rfl):PS X (.Assign [.Name x px] (.ListComp elt [⟨tg,iter,ifs,0⟩] scope pos) spos) (tAsg (tComp wi ow.length ci g tf te) (gName i)):=by
 intro pins s σ H D I h;rw[exec_Assign_Name_used _ _ _ _ hsw];refine uk (wpAny_standAt (uk ?_));show wpAny _ X.A (do let _ <-comprehension (.ListComp elt [⟨tg,iter,ifs,0⟩] scope pos) scope X.env _ (newList []) false (eval iter X.env) (some (assign (.Name x px) X.env))) _ _ s;refine uk (wpAny_mono (wpAny_comprehension_free (use:=some (assign (.Name x px) X.env)) (Q:=fun _ s'=>SP X pins D .next s') rfl hs (kA (S.cells I.ok)) S.kind S.names
  (thn (hi pins s σ H _ I h) fun v s1 h1=>thn h1 fun itv s2 h2=>?_)) (fun _ s' hq=>uh (uh hq)) fun _ _ e=>e)
 obtain⟨it,fp,tn,J,H2,e,I2,T,st2,f2,W,w0,turn⟩:=h2;subst e;refine Wf (RR:=fun acc C=>compPost (model X.prog X.w) X.A X.xe (some (assign (.Name x px) X.env)) (fun _ s'=>SP X pins D .next s') acc C) hc S hk hb I2 T st2 f2
  (fun ys H=>∀p,H p=none->gName i (.ref p) σ (upd H p (.lst ys)) D.nx) W w0 turn fun P C s' H' m ys K hD z hn hC hCD hC0=>?_
 obtain⟨f0,f1,f2',f3,f4,f5⟩:=I2.fpOk (H':=upd H' P (.lst ys)) hC (by rw[jg hCD];exact hC0);show wpAny _ X.A (assign (.Name x px) X.env (.ref P)) _ _ s';refine wpAny_assign_Name (xL K hN hx1 hx (v:=.ref P) rfl (fun s3 K3 ⟨a,hs3,ha⟩=>⟨m,hn.sameBut hs3 ?_,fun h' hs'=>?_⟩) hf)
 ·rcases ha with q | q
  ·rw[q];exact f1
  ·exact fun z=>f4 x a q z.symm
 ·exact⟨_,_,K3.turned (t':=s3.toks) (fun b o hb e=>(hs'.2 b hb).trans e) f0 f1 f3 f4 f5,z P hD⟩
theorem j1j{lo:Int}{n k:Nat}{ci:List Nat}{g:TG}{tf:TT}{te:TE}{σ:St}{H:Hp}{Z:Addr->List V->Hp->Prop}(Pv:Nat->List V->Hp->Prop)(h0:Pv 0 [] H)
  (hs:∀i ys H,i<n->Pv i ys H->g (.int (lo+i)) (capS k ci σ) H fun σ2 H2=>tf σ2 H2 fun b H3=>if b=true then te σ2 H3 fun v H4=>ys.length<sizeLine/\Pv (i+1) (ys++[v]) H4 else Pv (i+1) ys H3)
  (hd:∀ys H,Pv n ys H->ys.length<=sizeLine/\∀p,H p=none->Z p ys H) :
  ∃W:Nat->Nat->List V->Hp->Prop,(∃m,W 0 m [] H)/\∀i m ys H,W i m ys H->
   ((Itr lo n).stop i H/\ys.length<=sizeLine/\∀p,H p=none->Z p ys H)\/
   ((Itr lo n).go i H/\∃N:List V->Hp->Prop,(∀ys' H',N ys' H'->∃m',m'<m/\W (i+1) m' ys' H')/\∀x H',(Itr lo n).yld i H x H'->g x (capS k ci σ) H' fun σ2 H2=>tf σ2 H2 fun b H3=>
    if b=true then te σ2 H3 fun v H4=>ys.length<sizeLine/\N (ys++[v]) H4 else N ys H3):=by
 refine⟨fun i m ys H=>m=n-i/\i<=n/\Pv i ys H,⟨n,by simp,va _,h0⟩,?_⟩;rintro i m ys H ⟨rfl,hi,p⟩;by_cases hlt:i<n
 ·refine .inr ⟨hlt,Pv (i+1),fun ys' H' p'=>⟨n-(i+1),by lia,rfl,hlt,p'⟩,fun x H' y=>?_⟩;obtain⟨e,y⟩:=y;subst e y;exact hs i ys _ hlt p
 ·have e:i=n:=by lia
  subst e;exact .inl ⟨vb _,hd ys H p⟩
theorem JY{K:Frg}{a:Addr}{xs:List V}{k:Nat}{ci:List Nat}{g:TG}{tf:TT}{te:TE}{σ:St}{H:Hp}{Z:Addr->List V->Hp->Prop}(Pv:Nat->List V->Hp->Prop)(h0:Pv 0 [] H)(hl:∀i ys H,i<=xs.length->Pv i ys H->SqL K H a xs)
  (hs:∀i x ys H,xs[i]?=some x->Pv i ys H->g x (capS k ci σ) H fun σ2 H2=>tf σ2 H2 fun b H3=>if b=true then te σ2 H3 fun v H4=>ys.length<sizeLine/\Pv (i+1) (ys++[v]) H4 else Pv (i+1) ys H3)
  (hd:∀ys H,Pv xs.length ys H->ys.length<=sizeLine/\∀p,H p=none->Z p ys H) :
  ∃W:Nat->Nat->List V->Hp->Prop,(∃m,W 0 m [] H)/\∀i m ys H,W i m ys H->
   ((Itl K a).stop i H/\ys.length<=sizeLine/\∀p,H p=none->Z p ys H)\/
   ((Itl K a).go i H/\∃N:List V->Hp->Prop,(∀ys' H',N ys' H'->∃m',m'<m/\W (i+1) m' ys' H')/\∀x H',(Itl K a).yld i H x H'->g x (capS k ci σ) H' fun σ2 H2=>tf σ2 H2 fun b H3=>
    if b=true then te σ2 H3 fun v H4=>ys.length<sizeLine/\N (ys++[v]) H4 else N ys H3):=by
 refine⟨fun i m ys H=>m=xs.length-i/\i<=xs.length/\Pv i ys H,⟨xs.length,by simp,va _,h0⟩,?_⟩;rintro i m ys H ⟨rfl,hi,p⟩;have q:=hl i ys H hi p;by_cases hlt:i<xs.length
 ·refine .inr ⟨⟨xs,xs[i],q,by simp[hlt]⟩,Pv (i+1),fun ys' H' p'=>⟨xs.length-(i+1),by lia,rfl,hlt,p'⟩,fun x H' y=>?_⟩;obtain⟨e,y⟩:=y;subst e;exact hs i x ys _ (y xs q) p
 ·have e:i=xs.length:=by lia
  subst e;exact .inl ⟨⟨xs,q,vb _⟩,hd ys H p⟩
end
theorem j2z:(10:Nat)^250<2^831:=by decide +kernel
theorem j08{x:Int}(h1 : -10^250<=x)(h2:x<=10^250):Builtin.Int.intBits x<=1048576:=by
 refine vV (PySem.intBits_le_iff.mpr ?_:Builtin.Int.intBits x<=831) (by decide);have:x.natAbs<=10^250:=by lia
 exact vD this j2z
theorem mulOk{x y:Int}(h1 : -10^250<=x)(h2:x<=10^250)(h3 : -10^250<=y)(h4:y<=10^250):IntMulOk x y:=.of_bits (j08 h1 h2) (j08 h3 h4)
section
variable{X:Cx}
theorem JH:OpR X (binaryOp .Mult) (rI IntMulOk fun i j=>.int (i*j)):=opI fun _ _ _ _ _ _ _ hc q=>mul_int q hc
def CDivB(_ j:Int):Prop:=0<j/\j<=10^250
theorem cdivB{i j:Int}(h1:0<j)(h2:j<=10^250):CDivB i j:=⟨h1,h2⟩
theorem j5:OpR X (binaryOp .FloorDiv) (rI CDivB fun i j=>.int (i/j)):=opI fun i j _ _ _ _ _ hc q=>by
 have h1:(0:Int)<j:=hc.1;have h2:j<=10^250:=hc.2;refine floordiv_int (by lia) ?_ (.inl (PyProof.noPylong_of_log2 ?_))
 ·rw[Int.fdiv_eq_ediv_of_nonneg _ (by lia)];exact q
 ·have e:j.natAbs<=10^250:=by lia
  have g:j.natAbs.log2<831:=(Nat.log2_lt (by lia)).mpr (vD e j2z);lia
theorem j0a:CallR X (.builtin "isinstance") (fun xs H Q=>∃x T t b,xs=[x,.ty T]/\TyOf X.K H x t/\PySem.W.kitOne X.K t (.type T)=some b/\Q (.bl b) H):=by
 intro pins s σ H xs us Q I r h;obtain⟨x,T,t,b,rfl,ty,e,q⟩:=h;obtain⟨u,w',rfl,rx,rT⟩:=vals2 r;cases(show w'=Value.type T from rT);exact j3e I rx ty e fun tk=>⟨.bl b,H,I.tok _,rfl,q⟩
theorem j3H{prog:Program}{w:World}{A:Around}{E:Value->Shared->Prop}{s:Shared}{l:Addr}{xs:Array (Int×Tok)}{Q:Value->Shared->Prop}(hh:A.handled=none)(hl:s.heap.IsList l (intItems xs))
  (h:∀h' tk t',(∀b o,s.heap.get? b=some o->h'.get? b=some o)->Q (.int (preSum (numAt xs) xs.size) t') {s with heap:=h',toks:=tk}) :
  wpAny (model prog w) A (call (.builtin "sum") [.ref l]) Q E s:=by
 obtain⟨o,ho,hc,n,hd⟩:=id hl;have hne:l≠s.heap.objs.size:=vE (vI ho);have hsz:(intItems xs).size=xs.size:=by simp[intItems]
 have W:=(Walks.list (prog:=prog) (w:=w) (A:=A.in1) hh s.heap.objs.size l hne (intItems xs)).toS;rw[hsz]at W;refine call_sum_walkAnyS (wpAny_pyIter_list hl ?_);refine⟨s.heap.objs.size,_,_,_,_,_,_,numAt xs,rfl,W,⟨⟨_,Heap.get?_push_size _ rfl,rfl,rfl⟩,hl.at fun o e=>vJ _ e⟩,fun b hb=>?_,fun i v hP=>intItems_at hP,fun s' t' hm=>?_⟩
 ·rcases mem_cons.mp hb with rfl | hb
  ·exact vI (Heap.get?_push_size _ rfl)
  ·obtain rfl:=vo.mp hb;exact vI (vJ _ ho)
 ·obtain⟨h',g',d',tk',os'⟩:=s';have e1:g'=s.gens:=hm.gens;have e2:d'=s.drawn:=hm.drawn;have e3:os'=s.os:=hm.os;subst e1 e2 e3;exact h h' tk' t' fun b o e=>hm.heap b o (fun hb=>ug (vI e) ((vo.mp hb)▸Nat.lt_irrefl _)) (vJ _ e)
theorem xj(hc:X.calm=true):CallR X (.builtin "sum") (fun xs H Q=>∃(p:Addr) (ns:List Int),xs=[.ref p]/\SqL X.K H p (ns.map V.int)/\Q (.int ns.sum) H):=by
 intro pins s σ H xs us Q I r h;obtain⟨p,ns,rfl,hx,q⟩:=h;obtain⟨u,rfl,rx⟩:=vals1 r;cases rx;obtain⟨its,r',pl,hz⟩:=I.list hx;have hi:IntsAre its ns:=intsAre_of r';obtain⟨ys,hy⟩:=hi.allInts.items;have hn:numsOf its.toArray.toList=ns:=by rw[show its.toArray.toList=its from rfl,hi.numsOf]
 have hl:=pl.isList;rw[hy]at hl hn;rw[nums_intItems]at hn;refine j3H (I.ok.hd hc) hl fun h' tk t' hk=>?_
 rw[preSum_eq,List.take_of_length_le (by simp),hn];exact⟨.int ns.sum,H,I.kept hk,⟨_,rfl⟩,q⟩
end
end L2
namespace Att
open PySem PySem.W PySem.Calls PyProof.Rows
theorem K8:∀(ns:List Int) (x:Int),x∈ns->Builtin.Int.intBits x<=WData.weightAll (ns.map WData.int)
 | [],_,h=>by cases h
 | n::r,x,h=>by
  show _<=WData.weight (.int n)+1+WData.weightAll (r.map WData.int);rcases mem_cons.mp h with e | h
  ·subst e;have e:Builtin.Int.intBits x=WData.weight (.int x):=by
    unfold Builtin.Int.intBits WData.weight;rfl
   lia
  ·have:=K8 r x h;lia
theorem Xc{l:OpenLaw}{n:Nat}{q:Program}{loose:List Str}{XP:(Str->Option Value)->Heap->Prop}{YP:World->Heap->Prop}{d:DefRec}
  (hn:l.most=some n) (hdf:d.params.defaults=[])
  (call:∀(w:World) (s₀ s₁:Shared) (mg mb:Str->Option Value) (fa:Addr) (o:Obj) (pm cd doc:Value) (a:Addr) (vs:List Value) (ns:List Int),
   Ground q loose [] XP w s₀ mg mb s₁.heap->YP w s₁.heap->
   s₁.heap.get? fa=some o->o.data = .func (docDef d.name d.params d.body d.scope pm cd doc)->s₁.heap.CodeRec cd d.name->mg d.name=some (.ref fa)->
   s₁.heap.get? a=some {cls:=.type "list",data:=.seq vs.toArray}->IntsAre vs ns->ns.length<=n->(∀x∈ns,Builtin.Int.intBits x<=1048576)->s₁.gens = #[]->
   codeAny (model l.prog w) callerA (.call (.ref fa) ⟨[.ref a],[]⟩) (fun r s'=>r = .ok (.ret (.bool true))/\OldK s₁.heap s'.heap/\s'.os=s₁.os/\AllBare s'.gens) s₁) :
  WalkO q loose XP YP l.row.toRowW d [] (fun f vs=>PySem.call f vs):=by
 intro w s₀ s₁ mg mb G Y fa o pm cd doc dV kV ho hd hcd hD hmg hg args vals as hpre hlay hrd hwl hlo;obtain rfl:dV = .none:=Dflts.none hD hdf;obtain rfl:kV = .none:=Dflts.noKw hD;obtain⟨a,vs,ns,rfl,rfl,hobj,hints,hlen⟩:=j3E hn hpre hwl;have hbits:∀x∈ns,Builtin.Int.intBits x<=1048576:=by
  have hw:(WData.list (ns.map WData.int)).weight<=2^20:=(layableW_iff.mp (layW_cons hlay).1).2.2;intro x hx;exact vV (K8 ns x hx) hw
 refine enter_call (codeAny_mono (call w s₀ s₁ mg mb fa o pm cd doc a vs ns G Y ho (fd_plain hd) hcd hmg hobj hints hlen hbits hg) fun r s' hq=>?_);obtain⟨rfl,h2,h3,h4⟩:=hq;exact⟨.inl ⟨.bool true,.bool true,[],rfl,fun _=>rfl,.bool true,j3y l _,fun _=>⟨List.Pairwise.nil,fun _ hm=>(nomatch hm)⟩⟩,h2,h3,h4⟩
end Att
namespace L2
open PySem PySem.Spec PyProof.Rows
theorem j5b{l:PySem.W.OpenLaw}{n k:Nat}{q:Program}{loose:List Str}{XP:(Str->Option Value)->Heap->Prop}{YP:World->Heap->Prop}{d:DefRec}{K:Params->Frg}{CX:CXT}{sp:Frg->Sp}{x:Str}
  (hn:l.most=some n) (hn2:n<=sizeLine) (hdf:d.params.defaults=[]) (hr:Room k callerA)
  (hY:∀(w:World) (h:Heap),YP w h->(K w.params).In h)
  (F:∀(w:World) (mg:Str->Option Value) (fa:Addr) (h:Heap),(K w.params).In h->h.Ns mainGlobals mg->mg d.name=some (.ref fa)->
   ∃fd:FuncData,(∀(s:Shared) (u:Value),BindsTo s fd ⟨[u],[]⟩ [(x,u)])/\
    ∀base:Heap,(K w.params).In base->base.Ns mainGlobals mg->FnOk l.prog w (K w.params) mg base CX k fa fd [x] (sp (K w.params)))
  (hsp:∀(K:Frg) (H:Hp) (a:Addr) (ns:List Int),ns.length<=n->(∀x∈ns,Builtin.Int.intBits x<=1048576)->Only H->SqL K H a (ns.map V.int)->sp K [.ref a] H (fun v _=>v = .bl true) fun _ _ _=>False)
  (hCX:∀(H:Hp) (s:Shared) (e:Value) (s':Shared),CX [] H s (fun _ _ _=>False) e s'->False) :
  PySem.W.WalkO q loose XP YP l.row.toRowW d [] (fun f vs=>PySem.call f vs):=by
 refine Att.Xc hn hdf fun w s₀ s₁ mg mb fa o pm cd doc a vs ns G Y ho hd hcd hmg hobj hints hlen hbits hg=>?_
 have KX:=hY w _ Y;obtain⟨fd,hb,hF⟩:=F w mg fa _ KX G.T.g hmg;exact j4a KX G.T.g G.T.b G.T.builtins G.T.nolimit hg hobj hints (vV hlen hn2) hr hF hb (fun H hO hS=>hsp _ H a ns hlen hbits hO hS) fun H e s'=>hCX H s₁ e s'
structure FunD(K:Frg)(x qual:Str)(st:Stmt)(T:Addr)(f:Addr)(fd:FuncData):Prop where
 ex:∃(oc:Value) (od:Option Addr) (kV doc pm:Value) (an:Option Addr) (cdv ct:Value) (osl:Array (Option Value)),
  fd=PySem.W.fnOf x qual (defArgs st) (defBody st) (defScope st) (.ref T) kV doc pm an cdv ct/\K.lookup f=some ⟨oc,od,.func fd,osl⟩/\PySem.W.codeIn K cdv qual=true
 kp:PySem.W.keepIn K (.ref f)=true
section
variable{P:Program}{w:World}{K:Frg}{mg:Str->Option Value}{base:Heap}
theorem FunD.ok{x qual:Str}{st:Stmt}{T f:Addr}{fd:FuncData}{N ps:List Str}{k:Nat}{sp:Sp}(F:FunD K x qual st T f fd)(S:FnScope N ps (defScope st))(len:∀vs H Q E,sp vs H Q E->vs.length=ps.length)
  (hbody:∀(cdv:Value) (A:Around) (outer:List Env) (s:Shared) (H:Hp) (vs:List V) (Q:VK) (E:XK),Room k (A.deeper (envOfC qual (defScope st) s.heap.objs.size f cdv))->sp vs H Q E->
   ∃t,PSs (cxOf CX0 P w K mg base N qual (defScope st) f cdv A outer s H E).nox (defBody st) t/\t {nx:=fun _ H'=>Q .non H',rt:=Q} (start N vs) H):FnOk P w K mg base CX0 (k+1) f fd ps sp:=by
 obtain⟨oc,od,kV,doc,pm,an,cdv,ct,osl,rfl,lk,hcd⟩:=F.ex;refine j60 lk hcd S len fun A outer s H vs Q E hr hsp=>?_
 obtain⟨t,h,q⟩:=hbody cdv A outer s H vs Q E hr hsp;exact⟨t,h.nox,q⟩
theorem FunD.binds{x qual:Str}{st:Stmt}{T f:Addr}{fd:FuncData}{ps:List Str}{ds:List Value}{o:Obj}{items:Array Value}{n:Nat}(m:Nat)(F:FunD K x qual st T f fd)(ht:K.lookup T=some o)(hs:o.data = .seq items n)(hm:m+ds.length=ps.length)
  (h:∀(kV doc pm:Value) (an:Option Addr) (cdv ct:Value) (us:List Value),us.length=m->∃k,bindArgs (PySem.W.fnOf x qual (defArgs st) (defBody st) (defScope st) (.ref T) kV doc pm an cdv ct) ⟨us,[]⟩=seqItems? (.ref T) >>= k/\k (some items)=pure (ps.zip (us++ds))):Binds K fd ps ds:=by
 obtain⟨oc,od,kV,doc,pm,an,cdv,ct,osl,rfl,lk,hcd⟩:=F.ex;intro s us KX hl;obtain⟨k,h1,h2⟩:=h kV doc pm an cdv ct us (by rw[vn]at hl;lia);exact BindsTo.of_defaults rfl (KX _ _ ht) hs h1 h2
theorem j5s{x qual:Str}{st:Stmt}{T f:Addr}{oc:Value}{od an:Option Addr}{osl:Array (Option Value)}{kV doc pm cdv ct:Value}(l:K.lookup f=some ⟨oc,od,.func (PySem.W.fnOf x qual (defArgs st) (defBody st) (defScope st) (.ref T) kV doc pm an cdv ct),osl⟩)
  (c:PySem.W.codeIn K cdv qual=true) (k:PySem.W.keepIn K (.ref f)=true):FunD K x qual st T f (PySem.W.fnOf x qual (defArgs st) (defBody st) (defScope st) (.ref T) kV doc pm an cdv ct):=⟨⟨oc,od,kV,doc,pm,an,cdv,ct,osl,rfl,l,c⟩,k⟩
end
theorem SP.nx{X:Cx}{pins:List (Addr×Obj)}{D:Ends}{R:St->Hp->Prop}(hR:∀σ' H',R σ' H'->D.nx σ' H'){f:Flow}{s:Shared}(h:SP X pins {D with nx:=R} f s):SP X pins D f s:=by
 cases f with
 | next=>obtain⟨σ',H',I,q⟩:=h;exact⟨σ',H',I,hR _ _ q⟩
 | brk=>exact h
 | cont=>exact h
 | ret u=>exact h
def tIfJ(c:TT)(t u:TS):TS:=fun D σ H=>∃R:St->Hp->Prop,(∀σ' H',R σ' H'->D.nx σ' H')/\tIfS c t u {D with nx:=R} σ H
theorem Q2{X:Cx}{pos:Pos}{t u:TS}{c:Expr}{a b:List Stmt}{tc:TT}(hc:PT X c tc)(ha:PSs X a t)(hb:PSs X b u):PS X (.If c a b pos) (tIfJ tc t u):=by
 intro pins s σ H D I h;obtain⟨R,hR,h⟩:=h;exact thn (j2 hc ha hb pins s σ H _ I h) fun f s' q=>q.nx hR
open PySem
theorem JJ:bootBuiltins "len"= some (.builtin "len"):=by decide +kernel
theorem Wb:bootBuiltins "max"= some (.builtin "max"):=by decide +kernel
theorem Xg:bootBuiltins "min"= some (.builtin "min"):=by decide +kernel
theorem j3T:bootBuiltins "sum"= some (.builtin "sum"):=by decide +kernel
theorem YF:bootBuiltins "isinstance"= some (.builtin "isinstance"):=by decide +kernel
theorem j1c:bootBuiltins "abs"= some (.builtin "abs"):=by decide +kernel
theorem j30:bootBuiltins "sorted"= some (.builtin "sorted"):=by decide +kernel
theorem j6e:bootBuiltins "int"= some (.type "int"):=by decide +kernel
theorem j5j:bootBuiltins "bool"= some (.type "bool"):=by decide +kernel
theorem Xf:bootBuiltins "list"= some (.type "list"):=by decide +kernel
theorem kx:bootBuiltins "tuple"= some (.type "tuple"):=by decide +kernel
theorem Xd:bootBuiltins "dict"= some (.type "dict"):=by decide +kernel
theorem Xe:bootBuiltins "enumerate"= some (.type "enumerate"):=by decide +kernel
theorem j6f:bootBuiltins "zip"= some (.type "zip"):=by decide +kernel
theorem j09:bootBuiltins "reversed"= some (.type "reversed"):=by decide +kernel
theorem j48(K:Frg)(t:Value)(h:(t==t)=true):PySem.W.kitOne K t t=some true:=by unfold PySem.W.kitOne;rw[vd h]
theorem j3g(K:Frg){a b:String}{v:Bool}(h0:(Value.type a==Value.type b)=false)(h1:PySem.W.kitMeta b=true)(h2:PySem.W.subIn [] (.type a) (.type b)=some v):PySem.W.kitOne K (.type a) (.type b)=some v:=by
 unfold PySem.W.kitOne;rw[vc (by rw[h0];exact vF)];show(if PySem.W.kitMeta b=true then _ else _)=_;rw[vd h1];exact h2
theorem j3c{K:Frg}:PySem.W.kitOne K (.type "int") (.type "int")=some true:=j48 K _ (by decide +kernel)
theorem j1s{K:Frg}:PySem.W.kitOne K (.type "int") (.type "bool")=some false:=j3g K (by decide +kernel) (by decide +kernel) (by decide +kernel)
section
variable{X:Cx}{tg:Expr}
theorem j4V:SlR X (fun x lo hi H Q=>∃z,x = .str z/\z.length<=sizeLine/\Q (.str (Txt.slice z lo hi)) H):=by
 intro pins s σ H x v vl vu lo hi sl Q I rx hs pl pu h;obtain⟨z,rfl,hz,q⟩:=h;obtain⟨t,rfl⟩:=rx;refine⟨"str",_,F.slot_str_getitem.lookup,typeIs_str _ _ _,?_⟩;have fin:∀(lo hi:Option Int),Q (.str (Txt.slice z lo hi)) H->∀t' k,EP X pins σ Q (.str (Txt.slice z lo hi) t') {s with toks:=k}:=fun lo hi q t' k=>⟨.str _,H,I.tok _,⟨_,rfl⟩,q⟩
 cases pl with
 | none=>
  cases pu with
  | none=>exact wpAny_getItem_str_slice (l:=none) (u:=none) (st:=none) hs rfl (post_val_or_str ⟨vV (Txt.slice_le z _ _) hz,fin _ _ q⟩)
  | int j uj=>exact wpAny_getItem_str_slice (l:=none) (u:=some (j,uj)) (st:=none) hs rfl (post_val_or_str ⟨vV (Txt.slice_le z _ _) hz,fin _ _ q⟩)
 | int i ui=>
  cases pu with
  | none=>exact wpAny_getItem_str_slice (l:=some (i,ui)) (u:=none) (st:=none) hs rfl (post_val_or_str ⟨vV (Txt.slice_le z _ _) hz,fin _ _ q⟩)
  | int j uj=>exact wpAny_getItem_str_slice (l:=some (i,ui)) (u:=some (j,uj)) (st:=none) hs rfl (post_val_or_str ⟨vV (Txt.slice_le z _ _) hz,fin _ _ q⟩)
theorem rd_str{z:Str}{R:Str->Prop}(h:R z):∃z',V.str z = .str z'/\R z':=⟨z,rfl,h⟩
end
section
variable{X:Cx}{K:Frg}
theorem kG(e:X.K=K):IxR X (rIxL K):=by subst e;exact jt
theorem wK(e:X.K=K):IxR X (rIxT K):=by subst e;exact jA
theorem j31(e:X.K=K):CallR X (.builtin "len") (fun xs H Q=>∃x n,xs=[x]/\LenV K x H n/\Q (.int n) H):=by subst e;exact j4
theorem Y3(e:X.K=K):OpR X (compareOp .In) (rIn K false):=by subst e;exact j3w
end
mutual
inductive DV(H:Hp):V->PyData->Prop
 | non:DV H .non .none
 | bl (b:Bool):DV H (.bl b) (.bool b)
 | int (i:Int):DV H (.int i) (.int i)
 | str (x:Str):DV H (.str x) (.str x)
 | lst {a:Addr} {xs:List V} {ds:List PyData}:H a=some (.lst xs)->DVs H xs ds->DV H (.ref a) (.list ds)
 | tup {a:Addr} {xs:List V} {ds:List PyData}:H a=some (.tup xs)->DVs H xs ds->DV H (.ref a) (.tuple ds)
inductive DVs(H:Hp):List V->List PyData->Prop
 | nil:DVs H [] []
 | cons {x:V} {d:PyData} {xs:List V} {ds:List PyData}:DV H x d->DVs H xs ds->DVs H (x::xs) (d::ds)
end
section
variable{X:Cx}
mutual
theorem Zr{pins:List (Addr×Obj)}{s:Shared}{σ:St}{H:Hp}(I:Inv X pins σ H s):∀{v:V} {d:PyData} {u:Value},DV H v d->RelV v u->∃as,Reads s.heap u d as
 | _,_,_,.non,r=>⟨_,by cases r;exact Reads.none⟩
 | _,_,_,.bl b,r=>⟨_,by cases r;exact Reads.bool b⟩
 | _,_,_,.int i,r=>by obtain⟨t,rfl⟩:=r;exact⟨_,Reads.int i t⟩
 | _,_,_,.str x,r=>by obtain⟨t,rfl⟩:=r;exact⟨_,Reads.str x t⟩
 | _,_,_,.lst e q,r=>by
  cases r;obtain⟨_,its,c,rv,he⟩:=I.hok _ _ e;obtain⟨as,ra⟩:=Kv I q rv;exact⟨_,reads_list_at he rfl rfl (by simpa using ra)⟩
 | _,_,_,.tup e q,r=>by
  cases r;obtain⟨its,rv,pl,_⟩:=I.tuple (SqT.of e);obtain⟨o,ho,hc,n,hd⟩:=pl;obtain⟨as,ra⟩:=Kv I q rv;exact⟨_,reads_tuple_at ho hc hd (by simpa using ra)⟩
theorem Kv{pins:List (Addr×Obj)}{s:Shared}{σ:St}{H:Hp}(I:Inv X pins σ H s):∀{vs:List V} {ds:List PyData} {us:List Value},DVs H vs ds->Vals vs us->∃as,ReadsAll s.heap us ds as
 | _,_,_,.nil,r=>by cases r;exact⟨_,ReadsAll.nil⟩
 | _,_,_,.cons a q,r=>by
  cases r with
  | cons r1 r2=>
   obtain⟨as,ra⟩:=Zr I a r1;obtain⟨bs,rb⟩:=Kv I q r2;exact⟨_,ReadsAll.cons ra rb⟩
end
theorem j1J(hu:X.A.units+64<cLine):OpR X (compareOp .Eq) (fun x y H Q=>∃d e,DV H x d/\DV H y e/\SeqAt.shaped d=true/\SeqAt.shaped e=true/\Q (.bl (PyData.eqv d e)) H):=by
 intro pins s σ H x y v u Q I rx ry h;obtain⟨d,e,hd,he,sd,se,q⟩:=h;obtain⟨as,ra⟩:=Zr I hd rx;obtain⟨bs,rb⟩:=Zr I he ry;exact eq_dataH ra rb sd se hu ⟨.bl _,H,I,rfl,q⟩
theorem j1K(hu:X.A.units+64<cLine):OpR X (compareOp .NotEq) (fun x y H Q=>∃d e,DV H x d/\DV H y e/\SeqAt.shaped d=true/\SeqAt.shaped e=true/\Q (.bl (!PyData.eqv d e)) H):=by
 intro pins s σ H x y v u Q I rx ry h;obtain⟨d,e,hd,he,sd,se,q⟩:=h;obtain⟨as,ra⟩:=Zr I hd rx;obtain⟨bs,rb⟩:=Zr I he ry;exact ne_dataH ra rb sd se hu ⟨.bl _,H,I,rfl,q⟩
theorem xi(hc:X.calm=true):CallR X (.builtin "max") (fun xs H Q=>∃(p:Addr) (ns:List Int),xs=[.ref p]/\SqL X.K H p (ns.map V.int)/\0<ns.length/\∀m∈ns,(∀a∈ns,a<=m)->Q (.int m) H):=by
 intro pins s σ H xs us Q I r h;obtain⟨p,ns,rfl,hx,hne,q⟩:=h;obtain⟨u,rfl,rx⟩:=vals1 r;cases rx;obtain⟨its,r',pl,_⟩:=I.list hx;have hi:=intsAre_of r';have hl:=pl.isList;obtain⟨xs,e⟩:=hi.allInts.items;have hns:ns=xs.toList.map (·.1):=by rw[<-hi.numsOf,<-nums_intItems,<-e]
 have hsz:0<xs.size:=by
  have h3:=hne;rw[hns,vt,Array.length_toList]at h3;exact h3
 rw[e]at hl;refine max_intList (I.ok.hd hc) hl hsz fun v h' tk hv hk=>?_
 obtain⟨t,rfl⟩:=intItems_at hv;obtain⟨h1,h2⟩:=argBest_gt (numAt xs) (xs.size-1);refine⟨.int _,H,I.kept (t':=tk) hk,⟨_,rfl⟩,q _ ?_ fun a ha=>?_⟩
 ·rw[hns,numAt_eq];exact getD_mem (by rw[vt,Array.length_toList];lia)
 ·rw[hns]at ha;obtain⟨j,hj,rfl⟩:=mem_getD ha;rw[vt,Array.length_toList]at hj;rw[<-numAt_eq];exact h2 j (by lia)
end
section
variable{σ:St}{H:Hp}{Q:VK}
theorem rd_dget{td ty:TE}(h:td σ H fun x H1=>ty σ H1 fun y H2=>∃a v,x = .ref a/\DGet H2 a y (some v)/\Q v H2):tDGet td ty σ H Q:=h
end
def TabK(K:Frg)(a:Addr)(D:List (Str×PyProof.Rows.KTD.Dat)):Prop:=PyProof.Rows.KTD.tabLook (PyProof.Rows.KTD.datLooks fun b=>K.lookup b) (fun b=>K.lookup b) a D=true
section
variable{X:Cx}
theorem j6x:OpR X (compareOp .In) (fun x y H Q=>∃a k D,x = .str k/\y = .ref a/\TabK X.K a D/\Q (.bl (PyProof.Rows.KTD.inKeys k D)) H):=by
 intro pins s σ H x y v u Q I rx ry h;obtain⟨a,k,D,rfl,rfl,T,q⟩:=h;obtain⟨t,rfl⟩:=rx;cases ry;exact PyProof.Rows.KTD.in_text (h₀:=s.heap) ⟨PySem.W.kt_text_in I.kIn T,fun _ _ e=>e⟩ ⟨.bl _,H,I.tok _,rfl,q⟩
end
theorem Wg{K:Frg}{a:Addr}{xs:List V}{k:Nat}{ci:List Nat}{g:TG}{tf:TT}{te:TE}{σ:St}{H:Hp}{Z:Addr->List V->Hp->Prop}(Pv:Nat->List V->Hp->Prop)(h0:Pv 0 [] H)(hl:∀i ys H,i<=xs.length->Pv i ys H->SqT K H a xs)
  (hs:∀i x ys H,xs[i]?=some x->Pv i ys H->g x (capS k ci σ) H fun σ2 H2=>tf σ2 H2 fun b H3=>if b=true then te σ2 H3 fun v H4=>ys.length<sizeLine/\Pv (i+1) (ys++[v]) H4 else Pv (i+1) ys H3)
  (hd:∀ys H,Pv xs.length ys H->ys.length<=sizeLine/\∀p,H p=none->Z p ys H) :
  ∃W:Nat->Nat->List V->Hp->Prop,(∃m,W 0 m [] H)/\∀i m ys H,W i m ys H->
   ((Itt K a).stop i H/\ys.length<=sizeLine/\∀p,H p=none->Z p ys H)\/
   ((Itt K a).go i H/\∃N:List V->Hp->Prop,(∀ys' H',N ys' H'->∃m',m'<m/\W (i+1) m' ys' H')/\∀x H',(Itt K a).yld i H x H'->g x (capS k ci σ) H' fun σ2 H2=>tf σ2 H2 fun b H3=>
    if b=true then te σ2 H3 fun v H4=>ys.length<sizeLine/\N (ys++[v]) H4 else N ys H3):=by
 refine⟨fun i m ys H=>m=xs.length-i/\i<=xs.length/\Pv i ys H,⟨xs.length,by simp,va _,h0⟩,?_⟩;rintro i m ys H ⟨rfl,hi,p⟩;have q:=hl i ys H hi p;by_cases hlt:i<xs.length
 ·refine .inr ⟨⟨xs,xs[i],q,by simp[hlt]⟩,Pv (i+1),fun ys' H' p'=>⟨xs.length-(i+1),by lia,rfl,hlt,p'⟩,fun x H' y=>?_⟩;obtain⟨e,y⟩:=y;subst e;exact hs i x ys _ (y xs q) p
 ·have e:i=xs.length:=by lia
  subst e;exact .inl ⟨⟨xs,q,vb _⟩,hd ys H p⟩
theorem rd_iTup{K:Frg}{te:TE}{σ:St}{H:Hp}{R:It->Hp->Prop}(h:te σ H fun x H1=>∃a,x = .ref a/\(∃xs,SqT K H1 a xs)/\R (Itt K a) H1):iTup K te σ H R:=h
theorem zj{K:Frg}{i j:Nat}{a:Addr}{x y:V}{σ:St}{H:Hp}{R:St->Hp->Prop}(e:SqT K H a [x,y])(h:gName i x σ H fun σ' H'=>gName j y σ' H' R):gTup K 2 (gCons (gName i) (gCons (gName j) gNil)) (.ref a) σ H R:=
 ⟨a,[x,y],rfl,e,rfl,x,[y],rfl,y,[],rfl,rfl,h⟩
theorem rd_sub{to ti:TE}{t:TSet}{v:V}{σ:St}{H:Hp}{R:St->Hp->Prop}(h:to σ H fun o H1=>ti σ H1 fun i H2=>t o i v H2 fun H3=>R σ H3):gSub to ti t v σ H R:=h
theorem rd_dnew{σ:St}{H:Hp}{Q:VK}(h:∀p,H p=none->Q (.ref p) (upd H p (.dK []))):tDNewK σ H Q:=h
theorem rd_dput{td ty tv:TE}{σ:St}{H:Hp}{D:Ends}(h:tv σ H fun v H1=>td σ H1 fun x H2=>ty σ H2 fun y H3=>∃a H4,x = .ref a/\DPut H3 a y v H4/\D.nx σ H4):sDPut td ty tv D σ H:=h
theorem rd_bm0{K:Frg}{T:String}{r:V->List V->Hp->VK->Prop}{to:TE}{σ:St}{H:Hp}{Q:VK}(h:to σ H fun x H1=>tyV K T x H1/\r x [] H1 Q):tBM0 K T r to σ H Q:=h
section
variable{X:Cx}{pins:List (Addr×Obj)}{σ:St}{H:Hp}{s:Shared}{h':Heap}
theorem Inv.turnedL{t':Nat}{ch:List Addr}(I:Inv X pins σ H s)(hf:∀b∈ch,FpOk X pins H b)(k:∀b o,b∉ch->s.heap.get? b=some o->h'.get? b=some o):Inv X pins σ H {s with heap:=h',toks:=t'}:=by
 have nit:∀b u,H b=some u->b∉ch:=fun b u e z=>by rw[(hf b z).1]at e;cases e
 refine I.step (g':=s.gens) (d':=s.drawn) (ch:=ch) (fun b hb=>?_) (fun b o _ _ hc e _=>k b o hc e) (fun b o _ _ hc e _=>⟨o.slots,k b o hc e⟩) (fun _ _ _ _ n=>n)
  (fun b o hc e=>⟨o,k b o hc e⟩) (fun _ _ e=>e) (fun _ _ _ e=>e) (fun b ps e=>⟨#[],by rw[e];simp⟩) (fun m hm=>?_) (fun b u e=>?_) I.bare
 ·obtain⟨_,f1,_,f3,f4,f5⟩:=hf b hb;exact⟨f3,f1,f4,f5⟩
 ·obtain⟨o,es,ep,ho,r⟩:=hm;exact⟨o,es,ep,k _ o (fun z=>(hf _ z).2.1 rfl) ho,r⟩
 ·refine(I.hok b u e).stay (fun c v hc q=>k c v ?_ q) (fun _ q=>q) fun _ _ q=>q
  rcases hc with z | z
  ·rw[z];exact nit b u e
  ·exact nit c _ z
theorem Inv.pair{t':Nat}{ch:List Addr}{x y:V}{u v:Value}(I:Inv X pins σ H s)(hf:∀b∈ch,FpOk X pins H b)(hl:∀b∈ch,b<s.heap.objs.size)(rx:RelV x u)(ry:RelV y v)
  (hT:h'.get? s.heap.objs.size=some {cls:=.type "tuple",data:=.seq #[u,v]}) (k:∀b o,b∉ch->s.heap.get? b=some o->h'.get? b=some o) :
  Inv X pins σ (upd H s.heap.objs.size (.tup [x,y])) {s with heap:=h',toks:=t'}/\∀b∈ch,FpOk X pins (upd H s.heap.objs.size (.tup [x,y])) b:=by
 have f:∀b∈ch,FpOk X pins (upd H s.heap.objs.size (.tup [x,y])) b:=fun b hb=>⟨(jg (vE (hl b hb))).trans (hf b hb).1,(hf b hb).2⟩
 have I1:Inv X pins σ (upd H s.heap.objs.size (.tup [x,y])) {s with heap:=s.heap.push {cls:=.type "tuple",data:=.seq #[u,v]},toks:=t'}:=
  I.laid (t':=t') (fun b o e=>vJ _ e) (vb _) (show ObjOk X.prog X.w _ _ _ (.tup [x,y])from⟨(by show 2<=sizeLine;decide),[u,v],.cons rx (.cons ry .nil),IsTup.new _ _⟩)
 refine⟨I1.turnedL (h':=h') (t':=t') f fun b o hb e=>?_,f⟩;rcases Heap.get?_push_cases e with⟨rfl,rfl⟩ | e
 ·exact hT
 ·exact k b o hb e
end
def Ite(K:Frg)(a:Addr):It:=
 ⟨fun i H=>∃xs x,SqL K H a xs/\xs[i]?=some x,fun i H x H'=>∃T v,x = .ref T/\H T=none/\H'=upd H T (.tup [.int i,v])/\∀xs,SqL K H a xs->xs[i]?=some v,fun i H=>∃xs,SqL K H a xs/\xs.length<=i⟩
theorem j3J{P:Program}{w:World}{K:Frg}{elts:List Expr}{k:Nat}{pos:Pos}(a e it:Addr)(hne:e≠it) :
  Turn P w K (.Tuple elts k pos) (Ite K a) [e,it] e (fun i h=>(∃old,IsEnum h e it ((i:Nat):Int) old)/\h.IsListIter it a i) where
 mem:=by simp
 obj:=fun i h st b hb=>by
  rcases(by simpa using hb:b=e\/b=it)with rfl | rfl
  ·obtain⟨old,he⟩:=st.1;exact⟨_,he,fun v z=>by cases z⟩
  ·obtain⟨o,e,c,d⟩:=st.2;exact⟨o,e,fun v z=>by rw[d]at z;cases z⟩
 keep:=fun i h h' st k=>⟨let ⟨old,he⟩:=st.1;⟨old,k e (by simp) _ he⟩,st.2.at fun o q=>k it (by simp) o q⟩
 item:=by
  intro X hP hw hK hc i pins s σ H E I hf st hg;subst hP hw hK;obtain⟨xs,x,hq,hx⟩:=hg;obtain⟨its,rv,p,hz⟩:=I.list hq;obtain⟨u,hu,ru⟩:=rv.get hx;obtain⟨⟨old,he⟩,hit⟩:=st;have le:e<s.heap.objs.size:=vI he;have li:it<s.heap.objs.size:=by obtain⟨o,q,_⟩:=id hit;exact vI q
  refine wpAny_pyNext_enum_item he hit p.isList (x:=u) (by simpa using hu) hne fun h' ho hit' hT hsz hk=>?_
  obtain⟨I1,f1⟩:=I.pair (t':=s.toks+1) (ch:=[e,it]) (x:=.int i) (y:=x) hf (fun b hb=>by rcases(by simpa using hb:b=e\/b=it)with rfl | rfl<;>assumption) ⟨s.toks,rfl⟩ ru hT
   (fun b o hb q=>hk b o (fun z=>hb (by simp[z])) (fun z=>hb (by simp[z])) q)
  refine⟨_,rfl,wpAny_letOwnedTupleGo_enum ho fun h2 he2 sb=>?_⟩;have I2:=I1.turnedL (h':=h2) (t':=s.toks+1) (ch:=[e,it]) f1 fun b o hb q=>(sb.2 b fun z=>hb (by simp[z])).trans q
  exact⟨.ref s.heap.objs.size,_,I2,rfl,⟨_,x,rfl,I.hok.fresh (vb _),rfl,fun ys hy=>by rw[I.list_inj hy hq];exact hx⟩,
   ⟨⟨u,by simpa using he2⟩,hit'.at fun o q=>(sb.2 it hne.symm).trans q⟩,fun b hb=>(f1 b hb).1⟩
 done:=by
  intro X hP hw hK hc i pins s σ H E I hf st hg;subst hP hw hK;obtain⟨xs,hq,hx⟩:=hg;obtain⟨its,rv,p,hz⟩:=I.list hq;obtain⟨⟨old,he⟩,hit⟩:=st;have hl:=rv.length;exact wpAny_pyNext_enum_end (I.ok.hd hc) he hit p.isList (by simp;lia) fun h' eb=>⟨rfl,I.turnedL (t':=s.toks) (ch:=[e,it]) hf fun b o hb q=>eb b o (fun z=>hb (by simp[z])) q⟩
 self:=fun _ _ _ _ _ st h=>let ⟨_,he⟩:=st.1;wpAny_pyIter_enum he h
def iEnum(K:Frg)(ta:TA):TI:=fun σ H R=>ta σ H fun vs H1=>∃a xs,vs=[.ref a]/\SqL K H1 a xs/\R (Ite K a) H1
theorem wP{X:Cx}{a:Expr}{ta:TA}{elts:List Expr}{k:Nat}{p pos pos':Pos}(hg:Gl X "enumerate")(hm:X.mg "enumerate"= none)(ha:PA X [a] ta)(hs:starEach [a] X.env=[(false,eval a X.env)]:=by rfl) :
  PI X (.Tuple elts k pos') (.Call (.Name "enumerate" p) [a] [] pos) (iEnum X.K ta):=by
 intro pins s σ H R I h;refine Call_ (yX I hg hm Xe (PyProof.Rows.callWith_type1 (thn (ha pos pins s σ H _ I h) fun us s1 ⟨vs,H1,I1,r1,q1⟩=>?_) hs rfl));obtain⟨b,xs,rfl,hq,q⟩:=q1;obtain⟨u,rfl,ru⟩:=vals1 r1;cases ru;obtain⟨its,rv,p,hz⟩:=I1.list hq;refine call_enumerate_list p.isList fun h' he hit hsz hk=>?_
 refine wpAny_pyIter_enum he ?_;refine⟨s1.heap.objs.size+1,[s1.heap.objs.size+1,s1.heap.objs.size],_,_,H1,rfl,I1.kept (t':=s1.toks) hk,j3J b _ _ (Nat.succ_ne_self _),⟨⟨_,by simpa using he⟩,hit⟩,fun c hc=>?_,q⟩;rcases(by simpa using hc:c=s1.heap.objs.size+1\/c=s1.heap.objs.size)with rfl | rfl
 ·exact I1.fpOk (Nat.le_succ _) (I1.hok.fresh (Nat.le_succ _))
 ·exact I1.fpOk (vb _) (I1.hok.fresh (vb _))
theorem kD{K:Frg}{a:Addr}{xs:List V}{g:TG}{tb:TS}{D:Ends}{σ:St}{H:Hp}(Pv:Nat->St->Hp->Prop)(h0:Pv 0 σ H)(hl:∀i σ H,i<=xs.length->Pv i σ H->SqL K H a xs)
  (hs:∀i v σ H T H',xs[i]?=some v->Pv i σ H->Same H H'->H' T=some (.tup [.int i,v])->g (.ref T) σ H' fun σ2 H2=>tb {D with nx:=Pv (i+1),ct:=Pv (i+1),bk:=D.nx} σ2 H2) (hd:∀σ H,Pv xs.length σ H->D.nx σ H) :
  ∃W:Nat->Nat->St->Hp->Prop,(∃m,W 0 m σ H)/\∀i m σ H,W i m σ H->
   ((Ite K a).stop i H/\D.nx σ H)\/((Ite K a).go i H/\∃N:St->Hp->Prop,(∀σ' H',N σ' H'->∃m',m'<m/\W (i+1) m' σ' H')/\∀x H',(Ite K a).yld i H x H'->g x σ H' fun σ2 H2=>tb {D with nx:=N,ct:=N,bk:=D.nx} σ2 H2):=by
 refine⟨fun i m σ H=>m=xs.length-i/\i<=xs.length/\Pv i σ H,⟨xs.length,by simp,va _,h0⟩,?_⟩;rintro i m σ H ⟨rfl,hi,p⟩;have q:=hl i σ H hi p;by_cases hlt:i<xs.length
 ·refine .inr ⟨⟨xs,xs[i],q,by simp[hlt]⟩,Pv (i+1),fun σ' H' p'=>⟨xs.length-(i+1),by lia,rfl,hlt,p'⟩,fun x H' y=>?_⟩;obtain⟨T,v,rfl,hT,e,y⟩:=y;exact hs i v σ H T H' (y xs q) p (fun b o h=>by rw[e,jg (je h hT)];exact h) (by rw[e];exact jC)
 ·have e:i=xs.length:=by lia
  subst e;exact .inl ⟨⟨xs,q,vb _⟩,hd σ H p⟩
theorem rd_iEnum{K:Frg}{ta:TA}{σ:St}{H:Hp}{R:It->Hp->Prop}(h:ta σ H fun vs H1=>∃a xs,vs=[.ref a]/\SqL K H1 a xs/\R (Ite K a) H1):iEnum K ta σ H R:=h
def Itz(K:Frg)(a b:Addr):It:=
 ⟨fun i H=>∃xs x ys y,SqL K H a xs/\xs[i]?=some x/\SqL K H b ys/\ys[i]?=some y,
  fun i H x H'=>∃T u v,x = .ref T/\H T=none/\H'=upd H T (.tup [u,v])/\(∀xs,SqL K H a xs->xs[i]?=some u)/\∀ys,SqL K H b ys->ys[i]?=some v,
  fun i H=>∃xs ys,SqL K H a xs/\SqL K H b ys/\(xs.length<=i\/ys.length<=i)⟩
theorem Qh{h:Heap}{a b:Addr}{o u:Obj}(h1:h.get? a=some o)(h2:h.get? b=some u)(hc:o.cls≠u.cls):a≠b:=fun e=>by
 subst e;rw[h1]at h2;cases h2;exact hc rfl
theorem j57{P:Program}{w:World}{K:Frg}{elts:List Expr}{k:Nat}{pos:Pos}(l1 l2 z TI TO i1 i2:Addr)
  (D:∀l1 l2,l1≠z->l1≠TO->l1≠i1->l1≠i2->l2≠z->l2≠TO->l2≠i1->l2≠i2->ZipApart z TI TO i1 i2 l1 l2) :
  Turn P w K (.Tuple elts k pos) (Itz K l1 l2) [z,TI,TO,i1,i2] z (fun i h=>IsZip h z TI TO .none/\IsPair h TI (.ref i1) (.ref i2)/\(∃a b,IsPair h TO a b)/\h.IsListIter i1 l1 i/\h.IsListIter i2 l2 i) where
 mem:=by simp
 obj:=fun i h st b hb=>by
  obtain⟨hz,hTI,⟨a,c,hTO⟩,h1,h2⟩:=st;rcases(by simpa using hb:b=z\/b=TI\/b=TO\/b=i1\/b=i2)with rfl | rfl | rfl | rfl | rfl
  ·exact⟨_,hz,fun v z=>by cases z⟩
  ·exact⟨_,hTI,fun v z=>by cases z⟩
  ·exact⟨_,hTO,fun v z=>by cases z⟩
  ·obtain⟨o,e,c,d⟩:=h1;exact⟨o,e,fun v z=>by rw[d]at z;cases z⟩
  ·obtain⟨o,e,c,d⟩:=h2;exact⟨o,e,fun v z=>by rw[d]at z;cases z⟩
 keep:=fun i h h' st k=>by
  obtain⟨hz,hTI,⟨a,c,hTO⟩,h1,h2⟩:=st;exact⟨k z (by simp) _ hz,k TI (by simp) _ hTI,⟨a,c,k TO (by simp) _ hTO⟩,h1.at fun o q=>k i1 (by simp) o q,h2.at fun o q=>k i2 (by simp) o q⟩
 item:=by
  intro X hP hw hK hc i pins s σ H E I hf st hg;subst hP hw hK;obtain⟨xs,x,ys,y,hq,hx,hr,hy⟩:=hg;obtain⟨its,rv,p,_⟩:=I.list hq;obtain⟨jts,rw',p',_⟩:=I.list hr;obtain⟨u,hu,ru⟩:=rv.get hx;obtain⟨v,hv,rv'⟩:=rw'.get hy;obtain⟨hz,hTI,⟨a,c,hTO⟩,h1,h2⟩:=st;obtain⟨o1,n1,e1,c1,_⟩:=id p;obtain⟨o2,n2,e2,c2,_⟩:=id p';obtain⟨o3,e3,c3,_⟩:=id h1;obtain⟨o4,e4,c4,_⟩:=id h2;have D':=D l1 l2 (Qh e1 hz (by rw[c1];show Value.type "list"≠Value.type "zip";decide)) (Qh e1 hTO (by rw[c1];show Value.type "list"≠Value.type "tuple";decide)) (Qh e1 e3 (by rw[c1,c3];decide)) (Qh e1 e4 (by rw[c1,c4];decide))
   (Qh e2 hz (by rw[c2];show Value.type "list"≠Value.type "zip";decide)) (Qh e2 hTO (by rw[c2];show Value.type "list"≠Value.type "tuple";decide)) (Qh e2 e3 (by rw[c2,c3];decide)) (Qh e2 e4 (by rw[c2,c4];decide))
  have lt:∀b∈[z,TI,TO,i1,i2],b<s.heap.objs.size:=fun b hb=>by
   rcases(by simpa using hb:b=z\/b=TI\/b=TO\/b=i1\/b=i2)with rfl | rfl | rfl | rfl | rfl
   ·exact vI hz
   ·exact vI hTI
   ·exact vI hTO
   ·exact vI e3
   ·exact vI e4
  refine wpAny_pyNext_zip_item D' hz hTI hTO h1 h2 p.isList p'.isList (x:=u) (y:=v) (by simpa using hu) (by simpa using hv) fun h' a1 a2 a3 a4 a5 a6 hk=>?_
  obtain⟨I1,f1⟩:=I.pair (t':=s.toks) (ch:=[z,TI,TO,i1,i2]) (x:=x) (y:=y) hf lt ru rv' a5
   (fun b o hb q=>hk b o (fun e=>hb (by simp[e])) (fun e=>hb (by simp[e])) (fun e=>hb (by simp[e])) (fun e=>hb (by simp[e])) q)
  refine⟨_,rfl,wpAny_letOwnedTupleGo_zip a1 fun h3 hz3 sb=>?_⟩;have I2:=I1.turnedL (h':=h3) (t':=s.toks) (ch:=[z,TI,TO,i1,i2]) f1 fun b o hb q=>(sb.2 b fun e=>hb (by simp[e])).trans q
  exact⟨.ref s.heap.objs.size,_,I2,rfl,⟨_,x,y,rfl,I.hok.fresh (vb _),rfl,(fun ys hy=>by rw[I.list_inj hy hq];exact hx),fun ys hy'=>by rw[I.list_inj hy' hr];exact hy⟩,
   ⟨hz3,(sb.2 TI D'.TIz).trans (hk TI _ D'.TIz D'.TITO D'.TIi1 D'.TIi2 hTI),⟨_,_,(sb.2 TO D'.TOz).trans a2⟩,a3.at fun o q=>(sb.2 i1 D'.i1z).trans q,a4.at fun o q=>(sb.2 i2 D'.i2z).trans q⟩,fun b hb=>(f1 b hb).1⟩
 done:=by
  intro X hP hw hK hc i pins s σ H E I hf st hg;subst hP hw hK;obtain⟨xs,ys,hq,hr,hl⟩:=hg;obtain⟨its,rv,p,_⟩:=I.list hq;obtain⟨jts,rw',p',_⟩:=I.list hr;obtain⟨hz,hTI,⟨a,c,hTO⟩,h1,h2⟩:=st;obtain⟨o1,n1,e1,c1,_⟩:=id p;obtain⟨o2,n2,e2,c2,_⟩:=id p';obtain⟨o3,e3,c3,_⟩:=id h1;obtain⟨o4,e4,c4,_⟩:=id h2;have D':=D l1 l2 (Qh e1 hz (by rw[c1];show Value.type "list"≠Value.type "zip";decide)) (Qh e1 hTO (by rw[c1];show Value.type "list"≠Value.type "tuple";decide)) (Qh e1 e3 (by rw[c1,c3];decide)) (Qh e1 e4 (by rw[c1,c4];decide))
   (Qh e2 hz (by rw[c2];show Value.type "list"≠Value.type "zip";decide)) (Qh e2 hTO (by rw[c2];show Value.type "list"≠Value.type "tuple";decide)) (Qh e2 e3 (by rw[c2,c3];decide)) (Qh e2 e4 (by rw[c2,c4];decide))
  have l1':=rv.length;have l2':=rw'.length;refine wpAny_pyNext_zip_end (I.ok.hd hc) D' hz hTI hTO h1 h2 p.isList p'.isList ?_ fun h' hk=>⟨rfl,I.turnedL (t':=s.toks) (ch:=[z,TI,TO,i1,i2]) hf fun b o hb q=>hk b o (fun e=>hb (by simp[e])) (fun e=>hb (by simp[e])) (fun e=>hb (by simp[e])) (fun e=>hb (by simp[e])) q⟩
  rcases hl with q | q
  ·exact .inl (by simp;lia)
  ·exact .inr (by simp;lia)
 self:=fun _ _ _ _ _ st h=>wpAny_pyIter_zip st.1 h
theorem ZN{n i j:Nat}(h:i≠j):n+i≠n+j:=fun e=>h (Nat.add_left_cancel e)
def iZip(K:Frg)(ta:TA):TI:=fun σ H R=>ta σ H fun vs H1=>∃a b xs ys,vs=[.ref a,.ref b]/\SqL K H1 a xs/\SqL K H1 b ys/\R (Itz K a b) H1
theorem j4C{X:Cx}{a b:Expr}{ta:TA}{elts:List Expr}{k:Nat}{p pos pos':Pos}(hg:Gl X "zip")(hm:X.mg "zip"= none)(ha:PA X [a,b] ta)(hs:starEach [a,b] X.env=[(false,eval a X.env),(false,eval b X.env)]:=by rfl)(hs2:starEach [b] X.env=[(false,eval b X.env)]:=by rfl) :
  PI X (.Tuple elts k pos') (.Call (.Name "zip" p) [a,b] [] pos) (iZip X.K ta):=by
 intro pins s σ H R I h;refine Call_ (yX I hg hm j6f (PyProof.Rows.callWith_type1 (thn (ha pos pins s σ H _ I h) fun us s1 ⟨vs,H1,I1,r1,q1⟩=>?_) (by rw[hs,hs2]) (by rw[hs2];rfl)));obtain⟨l1,l2,xs,ys,rfl,hq,hr,q⟩:=q1;cases r1 with
 | cons r rr=>
  cases rr with
  | cons r' rr=>
   cases rr;cases r;cases r';obtain⟨its,rv,p,hz⟩:=I1.list hq;obtain⟨jts,rw',p',hz'⟩:=I1.list hr;refine call_zip_2 p.isList p'.isList fun h' a1 a2 a3 a4 a5 a6 hk=>?_
   refine wpAny_pyIter_zip a1 ?_;refine⟨s1.heap.objs.size+4,[s1.heap.objs.size+4,s1.heap.objs.size+2,s1.heap.objs.size+3,s1.heap.objs.size,s1.heap.objs.size+1],_,_,H1,rfl,I1.kept (t':=s1.toks) hk,
    j57 l1 l2 _ _ _ _ _ (fun l1 l2 b1 b2 b3 b4 b5 b6 b7 b8=>⟨ZN (by decide),ZN (by decide),ZN (i:=0) (by decide),ZN (by decide),ZN (by decide),ZN (j:=0) (by decide),ZN (by decide),ZN (j:=0) (by decide),ZN (by decide),ZN (i:=0) (by decide),b1,b2,b3,b4,b5,b6,b7,b8⟩),⟨a1,a2,⟨_,_,a3⟩,a4,a5⟩,fun c hc=>?_,q⟩
   have hc':s1.heap.objs.size<=c:=by
    rcases(by simpa using hc:c=s1.heap.objs.size+4\/c=s1.heap.objs.size+2\/c=s1.heap.objs.size+3\/c=s1.heap.objs.size\/c=s1.heap.objs.size+1)with rfl | rfl | rfl | rfl | rfl<;>lia
   exact I1.fpOk hc' (I1.hok.fresh hc')
theorem j5q{K:Frg}{a b:Addr}{xs ys:List V}{g:TG}{tb:TS}{D:Ends}{σ:St}{H:Hp}(Pv:Nat->St->Hp->Prop)(hlen:xs.length=ys.length)(h0:Pv 0 σ H)(hl:∀i σ H,i<=xs.length->Pv i σ H->SqL K H a xs/\SqL K H b ys)
  (hs:∀i u v σ H T H',xs[i]?=some u->ys[i]?=some v->Pv i σ H->Same H H'->H' T=some (.tup [u,v])->g (.ref T) σ H' fun σ2 H2=>tb {D with nx:=Pv (i+1),ct:=Pv (i+1),bk:=D.nx} σ2 H2) (hd:∀σ H,Pv xs.length σ H->D.nx σ H) :
  ∃W:Nat->Nat->St->Hp->Prop,(∃m,W 0 m σ H)/\∀i m σ H,W i m σ H->
   ((Itz K a b).stop i H/\D.nx σ H)\/((Itz K a b).go i H/\∃N:St->Hp->Prop,(∀σ' H',N σ' H'->∃m',m'<m/\W (i+1) m' σ' H')/\∀x H',(Itz K a b).yld i H x H'->g x σ H' fun σ2 H2=>tb {D with nx:=N,ct:=N,bk:=D.nx} σ2 H2):=by
 refine⟨fun i m σ H=>m=xs.length-i/\i<=xs.length/\Pv i σ H,⟨xs.length,by simp,va _,h0⟩,?_⟩;rintro i m σ H ⟨rfl,hi,p⟩;obtain⟨q,q'⟩:=hl i σ H hi p;by_cases hlt:i<xs.length
 ·refine .inr ⟨⟨xs,xs[i],ys,ys[i],q,by simp[hlt],q',by simp⟩,Pv (i+1),fun σ' H' p'=>⟨xs.length-(i+1),by lia,rfl,hlt,p'⟩,fun x H' y=>?_⟩;obtain⟨T,u,v,rfl,hT,e,y,y'⟩:=y;exact hs i u v σ H T H' (y xs q) (y' ys q') p (fun b o h=>by rw[e,jg (je h hT)];exact h) (by rw[e];exact jC)
 ·have e:i=xs.length:=by lia
  subst e;exact .inl ⟨⟨xs,ys,q,q',.inl (vb _)⟩,hd σ H p⟩
theorem rd_iZip{K:Frg}{ta:TA}{σ:St}{H:Hp}{R:It->Hp->Prop}(h:ta σ H fun vs H1=>∃a b xs ys,vs=[.ref a,.ref b]/\SqL K H1 a xs/\SqL K H1 b ys/\R (Itz K a b) H1):iZip K ta σ H R:=h
theorem xr:entryFor table "dict.update.loop"= some Builtin.«dict.update.loop»:=entryFor_of_tree (by kernel_rfl)
theorem Z7:plainId "dict.update.loop"= true:=by decide +kernel
theorem j3p:typeLookup (.type "list") "keys"= pure none:=by rw[typeLookup_type,builtinLookup_eq_fast];kernel_rfl
section
variable{prog:Program}{w:World}{A:Around}{E:Value->Shared->Prop}{s:Shared}
theorem noKeys{a:Addr}{o:Obj}{xs:Array Value}{k:Nat}{Q:Option Value->Shared->Prop}(hx:s.heap.get? a=some o)(hc:o.cls = .type "list")(hdat:o.data = .seq xs k)(hd:o.dict=none)(hA:A.handled=none)
  (h:∀h' tk,(∀b o,s.heap.get? b=some o->h'.get? b=some o)->Q none {s with heap:=h',toks:=tk}):wpAny (model prog w) A (getAttr? (.ref a) "keys") Q E s:=by
 obtain⟨c,dct,dat,sl⟩:=o;simp only at hc hdat hd;subst hc hdat hd;obtain⟨hp,g,d,tk,os⟩:=s;have hT:∀tk',(⟨hp,g,d,tk',os⟩:Shared).TypeIs (.ref a) "list":=fun _=>⟨_,hx,rfl⟩
 have f1:=sub_AttributeError;have f3:=F.slot_list_getattribute.lookup;have f4:=F.slot_list_getattribute.bind (.ref a);have f5:=am_list_getattr_none;unfold getAttr? getAttrBy? getAttrBy
 repeat (any_goals (first | assumption | exact hT _ | ((with_reducible show wpAny _ _ (call (Value.builtin "list.__getattribute__") _ _) _ _ _);refine call_meets F.slot_list_getattribute (hT _) am_entry_list_getattribute (F.args_list_getattribute_2 _ _) (meets_getattribute_miss_list a xs k sl "keys" _ j3p (by decide +kernel) (by decide +kernel)) ⟨hx,hA,fun h' tk' e hx'=>?_⟩) | wp_step))
 obtain⟨t',u',he⟩:=hx'.there;show wpAny _ _ (getattributeRaised _ _ _ _ _ _ _) _ _ _;unfold getattributeRaised
 repeat (any_goals (first | assumption | wp_step))
 exact h _ _ hx'.keeps
variable{K:Type}[DecidableEq K]{knd:KeyKind prog w K}
noncomputable def foldS(acc:List (K×Value))(ps:List (K×Value)):List (K×Value):=ps.foldl (fun acc kv=>stored acc kv.1 kv.2) acc
theorem j1U(acc:List (K×Value))(k:K)(v:Value):(stored acc k v).length<=acc.length+1:=by
 unfold stored;split
 ·rw[vt];exact Nat.le_succ _
 ·rw[vn];exact vb _
theorem dul{R:Result->Shared->Prop}{d it l:Addr}{items:List Value}{res:Value}(hh:A.handled=none)(hdi:d≠it)(hdl:d≠l)(hil:it≠l) :
  ∀(ps:List (K×Value)) (i:Nat) (acc:List (K×Value)) (s:Shared),s.heap.IsListIter it l i->s.heap.IsList l items.toArray->(items.length=i+ps.length)->
   (∀j kv,ps[j]?=some kv->∃a key,items[i+j]?=some (.ref a)/\IsTup s.heap a #[key,kv.2]/\knd.is kv.1 key=true/\a≠d/\a≠it)->s.heap.DictOf knd d acc->acc.length+ps.length<=sizeLine->
   (∀h' tk,(∀b o,b≠d->b≠it->s.heap.get? b=some o->h'.get? b=some o)->h'.DictOf knd d (foldS acc ps)->R (.ok (.ret res)) {s with heap:=h',toks:=tk})->
   codeAny (model prog w) A (.builtin "dict.update.loop" ⟨[.ref d,.ref it,rawInt i,res],[]⟩) R s
 | [],i,acc,s,hit,hl,hn,hp,hd,hz,hR=>by
  refine codeAny_builtin xr ?_;rw[Around.under_plainId Z7 _];show wpAny _ A.in1 (pyNext (.ref it) >>= _) _ _ s;refine uk (wpAny_pyNext_list_end (A:=A.in1) hh hit hl (by simp;simp at hn;lia) fun h' eb=>?_);show wpAny _ A.in1 (Builtin.Dict.addKeywords d [] >>= _) _ _ _;refine uk (uh (uh (hR h' s.toks (fun b o _ hb e=>eb b o hb e) ?_)));exact hd.extBut eb hdi
 | kv::ps,i,acc,s,hit,hl,hn,hp,hd,hz,hR=>by
  obtain⟨a,key,ha,ht,hk,had,hai⟩:=hp 0 kv rfl;refine codeAny_builtin xr ?_;rw[Around.under_plainId Z7 _];show wpAny _ A.in1 (pyNext (.ref it) >>= _) _ _ s;refine uk (wpAny_pyNext_list_item (A:=A.in1) hit hl (x:=.ref a) (by simpa using ha) fun h1 hit1 sb=>?_);obtain⟨ot,eo,oc,n,od⟩:=ht;have eo1:h1.get? a=some ot:=(sb.2 a hai).trans eo;show wpAny _ A.in1 (holding [Value.ref a] _ >>= _) _ _ _;refine uk (wpAny_holding ?_);refine uk (wpAny_tryCatch ?_);unfold Builtin.Dict.pairItems;refine uk (wpAny_typeOf (T:="tuple") ⟨_,eo1,oc⟩ ?_);show wpAny _ A.in1 (if((Value.type "tuple"== Value.type "list")||(Value.type "tuple"== Value.type "tuple"))=true then _ else _) _ _ _;rw[vd (by decide)];refine uk (wpAny_seqItems eo1 od ?_);refine uh ?_;show wpAny _ A.in1 (holding [key,kv.2] (dictSet d key kv.2)) _ _ _;have hd1:h1.DictOf knd d acc:=hd.extBut (fun b o hb e=>(sb.2 b hb).trans e) hdi;refine wpAny_holding (wpAny_dictSet_pairs (s:={s with heap:=h1}) hk hd1 (fun h2 hd2 sb2=>?_) (by simp at hz;lia));show wpAny _ A.in1 (again _) _ _ _;refine uh ⟨plainId_quiet Z7 _,?_⟩;have kp:∀b o,b≠d->b≠it->s.heap.get? b=some o->h2.get? b=some o:=fun b o h1' h2' e=>(sb2.2 b h1').trans ((sb.2 b h2').trans e)
  have sl:=j1U acc kv.1 kv.2;refine dul hh hdi hdl hil ps (i+1) (stored acc kv.1 kv.2) _ (hit1.at fun o e=>(sb2.2 it hdi.symm).trans e) (hl.at fun o e=>kp l o hdl.symm hil.symm e) (by simp at hn;lia) (fun j kv' hj=>?_) hd2 (by simp at hz;lia) fun h3 tk k3 hd3=>?_
  ·obtain⟨a',key',ha',ht',hk',had',hai'⟩:=hp (j+1) kv' (by simpa using hj);obtain⟨o',e',r'⟩:=ht';exact⟨a',key',by rw[<-ha'];congr 1;lia,⟨o',kp _ _ had' hai' e',r'⟩,hk',had',hai'⟩
  ·exact hR h3 tk (fun b o h1' h2' e=>k3 b o h1' h2' (kp b o h1' h2' e)) hd3
end
open PySem PySem.W PyProof.Rows
section
variable{n:Nat}{key:Nat->Int}{p:Array Nat}
noncomputable def Tw(n:Nat)(key:Nat->Int){α:Type}:KasT α->(α->Prop)->Prop
 | .ret a,Q=>Q a
 | .ask i j k,Q=>i<n/\j<n/\Tw n key (k (decide (key i<key j))) Q
theorem Tw.bind{α β:Type}{f:α->KasT β}{Q:β->Prop}:∀{t:KasT α},Tw n key t (fun a=>Tw n key (f a) Q)->Tw n key (t.bind f) Q
 | .ret _,h=>h
 | .ask _ _ _,h=>⟨h.1,h.2.1,Tw.bind h.2.2⟩
theorem Tw.mono{α:Type}{Q Q':α->Prop}(hq:∀a,Q a->Q' a):∀{t:KasT α},Tw n key t Q->Tw n key t Q'
 | .ret _,h=>hq _ h
 | .ask _ _ _,h=>⟨h.1,h.2.1,Tw.mono hq h.2.2⟩
theorem Tw.run{α:Type}{cmp:Nat->Nat->(Bool->Shared->Prop)->Shared->Prop}{Q:α->Shared->Prop}{s:Shared}(hc:∀i j C,i<n->j<n->C (decide (key i<key j)) s->cmp i j C s) :
  ∀{t:KasT α},Tw n key t (fun a=>Q a s)->t.kasWp cmp Q s
 | .ret _,h=>h
 | .ask i j k,h=>hc i j _ h.1 h.2.1 (Tw.run hc h.2.2)
theorem Tw.asks{α:Type}{i j:Nat}{k:Bool->KasT α}{Q:α->Prop}(hi:i<n)(hj:j<n)(h1:key i<key j->Tw n key (k true) Q)(h2:¬key i<key j->Tw n key (k false) Q):Tw n key (.ask i j k) Q:=by
 refine⟨hi,hj,?_⟩;by_cases c:key i<key j
 ·rw[vG c];exact h1 c
 ·rw[vH c];exact h2 c
def Pk(n:Nat)(p:Array Nat):Prop:=p.toList.Perm (List.range n)
noncomputable def kv(key:Nat->Int)(p:Array Nat)(i:Nat):Int:=key (p.getD i 0)
def Up(key:Nat->Int)(p:Array Nat)(k:Nat):Prop:=∀i j,i<=j->j<k->kv key p i<=kv key p j
def Dn(key:Nat->Int)(p:Array Nat)(k:Nat):Prop:=∀i j,i<=j->j<k->kv key p j<=kv key p i
def Eqs(key:Nat->Int)(p:Array Nat)(m q:Nat):Prop:=∀k,m-(q+1)<=k->k<m->kv key p k=kv key p (m-1)
theorem Pk.size(h:Pk n p):p.size=n:=by have:=h.length_eq;simpa using this
theorem Pk.lt(h:Pk n p)(h0:0<n)(i:Nat):p.getD i 0<n:=by
 rw[Array.getD_eq_getD_getElem?];cases e:p[i]? with
 | none=>exact h0
 | some x=>exact v2.mp (h.mem_iff.mp (Array.mem_toList_iff.mpr (Array.mem_of_getElem? e)))
theorem Pk.of(h:Pk n p){q:Array Nat}(hq:q.Perm p):Pk n q:=(Array.perm_iff_toList_perm.mp hq).trans h
theorem j0t{a b:Array Nat}{i j:Nat}(h:a[i]?=b[j]?):kv key a i=kv key b j:=by
 unfold kv;rw[Array.getD_eq_getD_getElem?,Array.getD_eq_getD_getElem?,h]
theorem j1u{i j:Nat}(hj:j<=p.size)(k:Nat):kv key (kas_rev p i j) k=if i<=k/\k<j then kv key p (i+j-1-k)else kv key p k:=by
 have h:=getElem?_mirror_all (xs:=p) (i:=i) hj k;split
 ·rename_i c;rw[vd c]at h;exact j0t h
 ·rename_i c;rw[vc c]at h;exact j0t h
theorem j6p{src d:Nat}(hs:src<p.size)(hd:d<=src)(k:Nat):kv key (bubble p src d) k=if k=src-d then kv key p src else if src-d<k/\k<=src then kv key p (k-1)else kv key p k:=by
 have h:=getElem?_bubble (xs:=p) hs d hd k;split
 ·rename_i c;rw[vd c]at h;exact j0t h
 ·rename_i c;rw[vc c]at h;split
  ·rename_i c';rw[vd c']at h;exact j0t h
  ·rename_i c';rw[vc c']at h;exact j0t h
theorem Up.snoc{m:Nat}(h:Up key p m)(h1:1<=m)(hc:¬kv key p m<kv key p (m-1)):Up key p (m+1):=fun i j hij hj=>by
 by_cases e:j<m
 ·exact h i j hij e
 ·have ej:j=m:=by lia
  subst ej;by_cases ei:i=j
  ·rw[ei];exact vA _
  ·have:=h i (j-1) (by lia) (by lia);lia
theorem Dn.snoc{m:Nat}(h:Dn key p m)(h1:1<=m)(hc:kv key p m<=kv key p (m-1)):Dn key p (m+1):=fun i j hij hj=>by
 by_cases e:j<m
 ·exact h i j hij e
 ·have ej:j=m:=by lia
  subst ej;by_cases ei:i=j
  ·rw[ei];exact vA _
  ·have:=h i (j-1) (by lia) (by lia);lia
theorem j51(hp:Pk n p):∀f m,1<=m->m+f<=n->Up key p m->Tw n key (kas_asc p f m) fun r=>m<=r/\r<=m+f/\Up key p r/\(r<m+f->kv key p r<kv key p (r-1))
 | 0,m,h1,hn,hu=>⟨vb _,vb _,hu,fun h=>ug h (Nat.lt_irrefl _)⟩
 | f+1,m,h1,hn,hu=>by
  refine Tw.asks (hp.lt (by lia) _) (hp.lt (by lia) _) (fun c=>?_) (fun c=>?_)<;>simp only[Bool.false_eq_true,if_true,if_false]
  ·exact⟨vb _,by lia,hu,fun _=>c⟩
  ·exact Tw.mono (fun r h=>⟨by lia,by lia,h.2.2.1,fun hr=>h.2.2.2 (by lia)⟩) (j51 hp f (m+1) (by lia) (by lia) (hu.snoc h1 c))
theorem j2p{m q:Nat}(hm:m<=p.size)(he:Eqs key p m q)(k:Nat):kv key (kas_rev p (m-(q+1)) m) k=kv key p k:=by
 rw[j1u hm];split
 ·rename_i c;rw[he k c.1 c.2,he _ (by lia) (by lia)]
 ·rfl
theorem X2:∀f (p:Array Nat) m q,Pk n p->1<=m->m+f<=n->q+1<=m->Dn key p m->Eqs key p m q->
  Tw n key (kas_desc f p m q) fun r=>Pk n r.1/\m<=r.2.1/\r.2.1<=m+f/\Dn key r.1 r.2.1/\r.2.2+1<=r.2.1/\Eqs key r.1 r.2.1 r.2.2
 | 0,p,m,q,hp,h1,hn,hq,hd,he=>⟨hp,vb _,vb _,hd,hq,he⟩
 | f+1,p,m,q,hp,h1,hn,hq,hd,he=>by
  have sz:=hp.size;refine Tw.asks (hp.lt (by lia) _) (hp.lt (by lia) _) (fun c=>?_) (fun c=>?_)<;>simp only[Bool.false_eq_true,if_true,if_false]
  ·have c:kv key p m<kv key p (m-1):=c;split
   ·have hk:=j2p (key:=key) (p:=p) (m:=m) (q:=q) (by lia) he;have hp':Pk n (kas_rev p (m-(q+1)) m):=hp.of (mirror_perm _ _ _ _);refine Tw.mono (fun r h=>⟨h.1,by lia,by lia,h.2.2.2⟩) (X2 f _ (m+1) 0 hp' (by lia) (by lia) (by lia) (fun i j hij hj=>?_) fun k k1 k2=>?_)
    ·rw[hk,hk];exact hd.snoc h1 (by lia) i j hij hj
    ·rw[show k=m+1-1 by lia]
   ·refine Tw.mono (fun r h=>⟨h.1,by lia,by lia,h.2.2.2⟩) (X2 f p (m+1) 0 hp (by lia) (by lia) (by lia) (hd.snoc h1 (by lia)) fun k k1 k2=>?_);rw[show k=m+1-1 by lia]
  ·have c:¬kv key p m<kv key p (m-1):=c;refine Tw.asks (hp.lt (by lia) _) (hp.lt (by lia) _) (fun c2=>?_) (fun c2=>?_)<;>simp only[Bool.false_eq_true,if_true,if_false]
   ·exact⟨hp,vb _,Nat.le_add_right m (f+1),hd,hq,he⟩
   ·have c2:¬kv key p (m-1)<kv key p m:=c2;refine Tw.mono (fun r h=>⟨h.1,by lia,by lia,h.2.2.2⟩) (X2 f p (m+1) (q+1) hp (by lia) (by lia) (by lia) (hd.snoc h1 (by lia)) fun k k1 k2=>?_);rw[Nat.add_sub_cancel];by_cases e:k=m
    ·rw[e]
    ·rw[he k (by lia) (by lia)];lia
theorem j53{m:Nat}(hp:Pk n p)(h1:1<=m)(hn:m<=n)(hd:Dn key p m):Tw n key (kas_tail3 m n p) fun r=>Pk n r.2/\1<=r.1/\r.1<=n/\Up key r.2 r.1:=by
 have sz:=hp.size;have hp':Pk n (kas_rev p 0 m):=hp.of (mirror_perm _ _ _ _);have hk:=j1u (key:=key) (p:=p) (i:=0) (j:=m) (by lia);refine Tw.bind (Tw.mono (fun r h=>?_) (j51 hp' (n-m) m h1 (by lia) fun i j hij hj=>?_))
 ·exact⟨hp',by lia,by lia,h.2.2.1⟩
 ·rw[hk,hk,vd ⟨va _,by lia⟩,vd ⟨va _,hj⟩];exact hd _ _ (by lia) (by lia)
theorem j52{m:Nat}(hp:Pk n p)(hn:m+1<=n)(hd:Dn key p (m+1)):Tw n key (kas_descPart m n p) fun r=>Pk n r.2/\1<=r.1/\r.1<=n/\Up key r.2 r.1:=by
 refine Tw.bind (Tw.mono (fun r h=>?_) (X2 (n-(m+1)) p (m+1) 0 hp (by lia) (by lia) (by lia) hd fun k k1 k2=>by rw[show k=m+1-1 by lia]));obtain⟨a,b,c,d,e,g⟩:=h;have sz:=a.size;split
 ·have hk:=j2p (key:=key) (p:=r.1) (m:=r.2.1) (q:=r.2.2) (by lia) g;exact j53 (a.of (mirror_perm _ _ _ _)) (by lia) (by lia) fun i j hij hj=>by rw[hk,hk];exact d i j hij hj
 ·exact j53 a (by lia) (by lia) d
theorem j5U(hp:Pk n p)(h1:1<=n):Tw n key (kas_count n p) fun r=>Pk n r.2/\1<=r.1/\r.1<=n/\Up key r.2 r.1:=by
 have sz:=hp.size;refine Tw.bind (Tw.mono (fun r h=>?_) (j51 (key:=key) hp (n-1) 1 (by lia) (by lia) fun i j hij hj=>by rw[show i=j by lia];exact vA _));obtain⟨a,b,c,d⟩:=h;split
 ·exact⟨hp,a,by lia,c⟩
 rename_i hne;have hrn:r<n:=by
  have:r≠n:=fun e=>hne (by rw[e];simp)
  lia
 have d:=d (by lia);split
 ·refine Tw.asks (hp.lt (by lia) _) (hp.lt (by lia) _) (fun q=>?_) (fun q=>?_)<;>simp only[Bool.false_eq_true,if_true,if_false]
  ·exact⟨hp,a,by lia,c⟩
  ·have q:¬kv key p 0<kv key p (r-1):=q;have hk:=j1u (key:=key) (p:=p) (i:=0) (j:=r) (by lia);have eqs:∀i,i<r->kv key p i=kv key p (r-1):=fun i hi=>by
    have h1:=c 0 i (va _) hi;have h2:=c i (r-1) (by lia) (by lia);lia
   have eqk:∀i,kv key (kas_rev p 0 r) i=kv key p i:=fun i=>by
    rw[hk];split
    ·rename_i q';rw[eqs _ q'.2,eqs _ (by lia)]
    ·rfl
   refine j52 (hp.of (mirror_perm _ _ _ _)) (by lia) fun i j hij hj=>?_
   rw[eqk,eqk];by_cases e:j=r
   ·by_cases e2:i=r
    ·rw[e,e2];exact vA _
    ·rw[e,eqs i (by lia)];lia
   ·rw[eqs i (by lia),eqs j (by lia)];exact vA _
 ·have er:r=1:=by lia
  subst er;refine j52 hp (by lia) fun i j hij hj=>?_
  rcases(by lia:(i=0/\j=0)\/(i=0/\j=1)\/(i=1/\j=1))with⟨rfl,rfl⟩ | ⟨rfl,rfl⟩ | ⟨rfl,rfl⟩
  ·exact vA _
  ·have:kv key p 1<kv key p (1-1):=d;exact Int.le_of_lt this
  ·exact vA _
theorem X3{k:Nat}(hp:Pk n p)(hkn:k<n)(hu:Up key p k):∀f l r,l<=r->r<=k->r-l<=f->(∀i,i<l->kv key p i<=kv key p k)->(∀i,r<=i->i<k->kv key p k<kv key p i)->
  Tw n key (kas_place p k f l r) fun m=>m<=k/\(∀i,i<m->kv key p i<=kv key p k)/\∀i,m<=i->i<k->kv key p k<kv key p i
 | 0,l,r,h1,h2,h3,a,b=>⟨by lia,a,fun i hi=>b i (by lia)⟩
 | f+1,l,r,h1,h2,h3,a,b=>by
  unfold kas_place;split
  ·exact⟨by lia,a,fun i hi=>b i (by lia)⟩
  refine Tw.asks (hp.lt (by lia) _) (hp.lt (by lia) _) (fun q=>?_) (fun q=>?_)<;>simp only[Bool.false_eq_true,if_true,if_false]
  ·have q:kv key p k<kv key p ((l+r)/2):=q;exact X3 hp hkn hu f l _ (by lia) (by lia) (by lia) a fun i hi hk=>by
    have:=hu ((l+r)/2) i hi hk;lia
  ·have q:¬kv key p k<kv key p ((l+r)/2):=q;exact X3 hp hkn hu f _ r (by lia) h2 (by lia) (fun i hi=>by
    have:=hu i ((l+r)/2) (by lia) (by lia);lia) b
theorem j65:∀f (p:Array Nat) k,Pk n p->k+f<=n->Up key p k->Tw n key (kas_bin f p k) fun q=>Pk n q/\Up key q (k+f)
 | 0,p,k,hp,hn,hu=>⟨hp,hu⟩
 | f+1,p,k,hp,hn,hu=>by
  have sz:=hp.size;refine Tw.bind (Tw.mono (fun l h=>?_) (X3 hp (by lia) hu k 0 k (va _) (vb _) (by lia) (fun i hi=>ug hi (Nat.not_lt_zero _)) fun i h1 h2=>ug h1 (by lia)));obtain⟨a,b,c⟩:=h;have hk:=j6p (key:=key) (p:=p) (src:=k) (d:=k-l) (by lia) (by lia);refine Tw.mono (fun q h=>⟨h.1,by rw[show k+(f+1)=k+1+f by lia];exact h.2⟩) (j65 f _ (k+1) (hp.of (bubble_perm _ _ _)) (by lia) fun i j hij hj=>?_);rw[hk,hk,show k-(k-l)=l by lia]
  repeat' split
  all_goals first
   | exact vA _
   | (exfalso;lia)
   | exact Int.le_of_lt (c _ (by lia) (by lia))
   | exact b _ (by lia)
   | exact hu _ _ (by lia) (by lia)
   | (have h1:=b i (by lia);have h2:=c (j-1) (by lia) (by lia);lia)
theorem j6J(h2:1<=n):Tw n key (kas_sort n) fun q=>Pk n q/\Up key q n:=by
 have hp:Pk n (List.toArray (List.range n)):=List.Perm.refl _;refine Tw.bind (Tw.mono (fun r h=>?_) (j5U (key:=key) hp h2));obtain⟨a,b,c,d⟩:=h;split
 ·refine Tw.mono (fun q h=>⟨h.1,?_⟩) (j65 (n-max r.1 1) r.2 (max r.1 1) a (by lia) (by rw[show max r.1 1=r.1 by lia];exact d));have e:max r.1 1+(n-max r.1 1)=n:=by lia
  rw[e]at h;exact h.2
 ·have e:r.1=n:=by lia
  exact⟨a,by rw[<-e];exact d⟩
end
section
variable{prog:Program}{w:World}{A:Around}{E:Value->Shared->Prop}{s:Shared}
def PrAt(h:Heap)(as:List Addr)(key:Nat->Int):Prop:=∀i a,as[i]?=some a->∃o t u n,h.get? a=some o/\o.cls = .type "tuple"/\o.data = .seq #[.int (key i) t,u] n
theorem PrAt.keep{h h':Heap}{as:List Addr}{key:Nat->Int}(x:PrAt h as key)(k:∀a∈as,∀o,h.get? a=some o->h'.get? a=some o):PrAt h' as key:=fun i a e=>by
 obtain⟨o,t,u,n,q,r⟩:=x i a e;exact⟨o,t,u,n,k a (vm e) _ q,r⟩
theorem j6W{as:List Addr}{key:Nat->Int}(x:PrAt s.heap as key)(inj:∀i j,i<as.length->j<as.length->key i=key j->i=j){i j:Nat}{C:Bool->Shared->Prop}(hi:i<as.length)(hj:j<as.length)
  (h:C (decide (key i<key j)) s):kas_ask prog w A (tuples' true) (as.map Value.ref) i j C s:=by
 unfold kas_ask;obtain⟨o,t,u,n,q1,c1,d1⟩:=x i _ (vz hi);obtain⟨o',t',u',n',q2,c2,d2⟩:=x j _ (vz hj);have e1:(as.map Value.ref).getD i Value.none = .ref as[i]:=by rw[vy,vv,vz hi];rfl
 have e2:(as.map Value.ref).getD j Value.none = .ref as[j]:=by rw[vy,vv,vz hj];rfl
 rw[e1,e2];refine kat_lt q1 d1 q2 d2 ?_;show KatLex prog w A true _ C [(.int (key i) t,.int (key j) t'),(u,u')] 0 s;refine kat_cons (wpAny_eqBool_int ?_);by_cases c:key i=key j
 ·have ij:=inj i j hi hj c;subst ij;rw[beq_self_eq_true];have eu:u=u':=by
   have e:o=o':=vL (q1.symm.trans q2);subst e;have e:=d1.symm.trans d2;injection e with e _;have:=congrArg (fun a:Array Value=>a[1]?) e;simpa using this
  subst eu;refine kat_yes (kat_cons (SeqAt.EqAt.same _ _ _ _ _ ?_));refine kat_yes (kat_nil ?_);rw[vH (Int.lt_irrefl _)]at h;exact h
 ·rw[beq_false_of_ne c];exact kat_no (oneLt_int h)
theorem j2A{h:Heap}{key:Nat->Int}:∀{as:List Addr} (_:PrAt h as key),∃fs,KatTups h (as.map Value.ref) fs/\fs.length=as.length/\∀v∈fs,∃n t,v=Value.int n t
 | [],_=>⟨[],KatTups.nil,rfl,fun v hv=>nomatch hv⟩
 | a::r,x=>by
  obtain⟨o,t,u,n,q,c,d⟩:=x 0 a rfl;obtain⟨fs,k,l,f⟩:=j2A (key:=fun i=>key (i+1)) (as:=r) fun i b e=>x (i+1) b (by simpa using e)
  refine⟨.int (key 0) t::fs,KatTups.cons q c d rfl k,by rw[vP,l,vP],fun v hv=>?_⟩;rcases mem_cons.mp hv with rfl | hv
  ·exact⟨_,_,rfl⟩
  ·exact f v hv
theorem j5W(vs:List Value):(vs.toArray.zip vs.toArray).map (·.2)=vs.toArray:=by
 apply Array.toList_inj.mp;rw[Array.toList_map,Array.toList_zip];exact List.map_snd_zip (vb _)
theorem j3B(vs:List Value):(List.range vs.length).map (fun i=>vs.getD i Value.none)=vs:=by
 refine ext_getElem (by simp) fun i h1 h2=>?_
 rw[getElem_map,getElem_range,vy,vz h2];rfl
theorem j4G:∀{l:List Int},l.length<2->l.Pairwise (·<=·)
 | [],_=>.nil
 | [_],_=>pairwise_singleton _ _
 | _::_::_,h=>ug h (by rw[vP,vP];lia)
theorem j4Y{a:Addr}{as:List Addr}{key:Nat->Int}{c0:Nat}{P:PySem.Fin->Shared->Prop}(hob:s.heap.get? a=some (seqObj "list" (as.map Value.ref).toArray c0))(hna:a∉as)(x:PrAt s.heap as key)
  (inj:∀i j,i<as.length->j<as.length->key i=key j->i=j) (h64:as.length<64)
  (hend:∀(q:List Nat) (h':Heap) (c:Nat),q.Perm (List.range as.length)->(q.map key).Pairwise (·<=·)->(∀b o,b≠a->s.heap.get? b=some o->h'.get? b=some o)->
   h'.get? a=some (seqObj "list" ((q.map fun i=>as.getD i 0).map Value.ref).toArray c)->P (.done (.ret .none)) {s with heap:=h'}) :
  wpAny (model prog w) A (Builtin.«list.sort» ⟨[.ref a],[]⟩) P E s:=by
 have hlt:a<s.heap.objs.size:=vI hob;obtain⟨c1,hob1⟩:∃c1,(s.heap.update a (Obj.mapSeq fun _=>(#[]:Array Value))).get? a=some (seqObj "list" #[] c1):=⟨_,get?_update_seq hob fun _=>#[]⟩
 have sb1:=Heap.SameBut.update s.heap a (Obj.mapSeq fun _=>(#[]:Array Value));rw[list_sort_plain];refine uk (listItems_at (s:=s) hob rfl ?_);refine uk (listUpdate_at (s:=s) hob rfl ?_ (by rw[size_toArray,vt,sizeLine_eq];lia) (va _));refine uk (seqEpoch_at (n:=c1) hob1 rfl ?_);refine uk (wpAny_newTuple ?_ (by show(as.map Value.ref).length<=_;rw[vt,sizeLine_eq];lia));refine uk (wpAny_newList ?_ (va (sizeLine)));refine wpAny_holding ?_;generalize hH:((s.heap.update a (Obj.mapSeq fun _=>(#[]:Array Value))).push (seqObj "tuple" (as.map Value.ref).toArray 0)).push (seqObj "list" #[] 0)=hX;have kX:∀b o,b≠a->s.heap.get? b=some o->hX.get? b=some o:=fun b o hb e=>by
  rw[<-hH];exact vJ _ (vJ _ ((sb1.2 b hb).trans e))
 have oX:hX.get? a=some (seqObj "list" #[] c1):=by
  rw[<-hH];exact vJ _ (vJ _ hob1)
 have xX:PrAt hX as key:=x.keep fun b hb o e=>kX b o (fun z=>hna (z▸hb)) e
 show wpAny (model prog w) A _ P E {s with heap:=hX};dsimp only;have szv:(as.map Value.ref).toArray.size=as.length:=by rw[size_toArray,vt]
 have outE:∀q:List Nat,q.Perm (List.range as.length)->(List.map (fun i=>(as.map Value.ref).getD i Value.none) q)=(q.map fun i=>as.getD i 0).map Value.ref:=fun q hq=>by
  rw[map_map];refine map_congr_left fun i hi=>?_
  have hl:i<as.length:=v2.mp (hq.mem_iff.mp hi);show(as.map Value.ref).getD i Value.none=Value.ref (as.getD i 0);rw[vy,vy,vv,vz hl];rfl
 have done:∀(q:List Nat),q.Perm (List.range as.length)->(q.map key).Pairwise (·<=·)->∀out:Array Value,out=(List.map (fun i=>(as.map Value.ref).getD i Value.none) q).toArray->
   P (.done (.ret .none)) {s with heap:=hX.update a (Obj.mapSeq fun _=>out)}:=fun q hq hs out ho=>by
  subst ho;have o2:=get?_update_seq oX fun _=>(List.map (fun i=>(as.map Value.ref).getD i Value.none) q).toArray
  have sb2:=Heap.SameBut.update hX a (Obj.mapSeq fun _=>(List.map (fun i=>(as.map Value.ref).getD i Value.none) q).toArray);rw[outE q hq]at o2 sb2|-;exact hend q _ _ hq hs (fun b o hb e=>(sb2.2 b hb).trans (kX b o hb e)) o2
 by_cases h2:(as.map Value.ref).toArray.size<2
 ·rw[vd h2,vd h2];refine uk (uh ?_);rw[StateT.run_pure];refine uk (uh ?_);dsimp only;refine uk (seqEpoch_at (n:=c1) oX rfl ?_);have eo:(arrOf (SortSt.mk' general' ((as.map Value.ref).toArray.zip (as.map Value.ref).toArray) #[] 7 none)).map (·.2)=(List.map (fun i=>(as.map Value.ref).getD i Value.none) (List.range as.length)).toArray:=by
   have e:=j3B (as.map Value.ref);rw[vt]at e;rw[e];exact j5W _
  rw[eo];refine uk (listUpdate_at (s:={s with heap:=hX}) oX rfl ?_ (va _) (by rw[size_toArray,vt,length_range,sizeLine_eq];lia));simp only[bne_self_eq_false,Bool.false_eq_true,if_false];refine uh (done (List.range as.length) (List.Perm.refl _) ?_ _ rfl);rw[szv]at h2;exact j4G (by rw[vt,length_range];exact h2)
 ·rw[vc h2,vc h2];rw[szv]at h2;obtain⟨fs,kt,kl,ki⟩:=j2A xX;have hX':hX=({s with heap:=hX}:Shared).heap:=rfl;refine uk (kat_kind (s:={s with heap:=hX}) (T:=Value.type "int") kt (by lia) (fun v hv=>?_) (by decide) ?_)
  ·obtain⟨m,t,rfl⟩:=ki v hv;exact Looks.of_pure rfl
  refine uk (wpAny_mono (kat_run (s:={s with heap:=hX}) (ks:=as.map Value.ref) (vs:=as.map Value.ref) (κ:=tuples' true) (Q:=fun st' s'=>∃p:Array Nat,Pk as.length p/\Up key p as.length/\arrOf st'=p.map (kas_item ((as.map Value.ref).toArray.zip (as.map Value.ref).toArray))/\failedOf st'=none/\s'={s with heap:=hX}) (G:=fun p s'=>Pk as.length p/\Up key p as.length/\s'={s with heap:=hX})
   rfl (by rw[vt];lia) (by rw[vt];exact h64) (fun p st' s' _ a2 a3 a4=>⟨p,a4.1,a4.2.1,a2,a3,a4.2.2⟩) ?_) ?_ fun _ _ e=>e)
  ·rw[vt];exact Tw.run (n:=as.length) (key:=key) (fun i j C hi hj hC=>j6W xX inj hi hj hC) (Tw.mono (fun q h=>⟨h.1,h.2,rfl⟩) (j6J (key:=key) (by lia)))
  rintro⟨⟨⟩,st'⟩ s' ⟨p,hp,hu,har,hf,rfl⟩;dsimp only;rw[kat_snds rfl har];refine uk (seqEpoch_at (n:=c1) oX rfl ?_);have psz:=hp.size;refine uk (listUpdate_at (s:={s with heap:=hX}) oX rfl ?_ (va _) (by rw[size_toArray,vt,Array.length_toList,psz,sizeLine_eq];lia));rw[hf];simp only[bne_self_eq_false,Bool.false_eq_true,if_false];refine uh (done p.toList hp ?_ _ rfl);refine pairwise_map.mpr (List.pairwise_iff_getElem.mpr fun i j hi hj hij=>?_);rw[Array.length_toList]at hi hj;have:=hu i j (by lia) (by lia);unfold kv at this;rw[Array.getD_eq_getD_getElem?,Array.getD_eq_getD_getElem?,Array.getElem?_eq_getElem hi,Array.getElem?_eq_getElem hj]at this;exact this
end
open PySem PySem.Spec PySem.W PyProof.Rows
section
variable{X:Cx}{pins:List (Addr×Obj)}{σ:St}{H:Hp}{s:Shared}
def NewA(X:Cx)(pins:List (Addr×Obj))(T:Addr):Prop:=X.s₀.heap.objs.size<=T/\T≠X.env.locals/\(∀x c,X.env.cells.lookup x=some c->c≠T)/\∀p∈X.pn++pins,p.1≠T
theorem Inv.newA(I:Inv X pins σ H s){T:Addr}(hT:s.heap.objs.size<=T):NewA X pins T:=by
 obtain⟨_,f1,_,_,f4,f5⟩:=I.fpOk (H':=fun _=>none) hT rfl;exact⟨vV I.sz hT,f1,f4,f5⟩
theorem ObjOk.obj{P:Program}{w:World}{h:Heap}{a:Addr}{o:HO}(x:ObjOk P w H h a o):∃u,h.get? a=some u:=by
 cases o with
 | lst xs=>obtain⟨_,_,_,_,e⟩:=x;exact⟨_,e⟩
 | tup xs=>obtain⟨_,_,_,u,e,_⟩:=x;exact⟨u,e⟩
 | dK kvs=>obtain⟨_,_,_,_,u,_,_,e,_⟩:=x;exact⟨u,e⟩
 | dT kvs=>obtain⟨_,_,_,_,u,_,_,e,_⟩:=x;exact⟨u,e⟩
 | set S n=>obtain⟨u,_,_,_,e,_⟩:=x;exact⟨u,e⟩
 | ins C dx fs=>obtain⟨_,_,_,e,_⟩:=x;exact⟨_,e⟩
 | own y=>exact x
 | xd fs=>obtain⟨_,⟨u,_,_,e,_⟩,_⟩:=x;exact⟨u,e⟩
 | rng lo hi=>obtain⟨_,_,_,e⟩:=x;exact⟨_,e⟩
 | frz u v=>exact⟨_,x.1⟩
 | tbl ps=>exact⟨_,x⟩
 | met f y=>exact⟨_,x⟩
 | ext φ=>exact x.2.1
theorem Inv.none_at{h1:Heap}(I:Inv X pins σ H s)(hk:∀b o,s.heap.get? b=some o->h1.get? b=some o):H h1.objs.size=none:=by
 cases e:H h1.objs.size with
 | none=>rfl
 | some u=>
  obtain⟨v,q⟩:=(I.hok _ _ e).obj;exact ug (vI (hk _ _ q)) (Nat.lt_irrefl _)
theorem Inv.newB{h1:Heap}(I:Inv X pins σ H s)(hk:∀b o,s.heap.get? b=some o->h1.get? b=some o):NewA X pins h1.objs.size:=by
 have lt:∀b o,s.heap.get? b=some o->b<h1.objs.size:=fun b o e=>vI (hk b o e)
 obtain⟨m,⟨o,_,_,ho,_⟩,_⟩:=I.loc;have hL:=lt _ _ ho;refine⟨vX (vD I.ok.above hL),vN hL,fun x c e=>?_,fun p hp=>vE (lt _ _ (I.pin p hp).1)⟩;obtain⟨v,o,ho,_⟩:=I.cell x c e;exact vE (lt _ _ ho)
theorem Inv.track{T:Addr}{o:HO}(I:Inv X pins σ H s)(h0:H T=none)(hn:NewA X pins T)(new:ObjOk X.prog X.w (upd H T o) s.heap T o):Inv X pins σ (upd H T o) s:=by
 have ne:∀b u,H b=some u->b≠T:=fun b u e z=>by rw[z,h0]at e;cases e
 refine I.step (h':=s.heap) (H':=upd H T o) (g':=s.gens) (d':=s.drawn) (t':=s.toks) (ch:=[T]) (fun b hb=>?_) (fun b o _ _ _ e _=>e) (fun b o _ _ _ e _=>⟨o.slots,e⟩) (fun b u hb _ n=>?_) (fun b u _ e=>⟨u,e⟩)
  (fun b xs e=>(jg (ne _ _ e)).trans e) (fun b u v e=>(jg (ne _ _ e)).trans e) (fun b ps e=>⟨#[],by rw[jg (ne _ _ e),e];simp⟩) (fun m hm=>hm) (fun b u e=>?_) I.bare
 ·have e:b=T:=by simpa using hb
  subst e;exact⟨.inr hn.1,hn.2.1,hn.2.2.1,hn.2.2.2⟩
 ·exact(jg fun z=>hb (by simp[z])).trans n
 ·by_cases z:b=T
  ·subst z;rw[jC]at e;cases e;exact new
  ·rw[jg z]at e;exact(I.hok b u e).stay (fun c v _ q=>q) (fun c q=>(jg (ne _ _ q)).trans q) fun c ys q=>(jg (ne _ _ q)).trans q
theorem Inv.trackAll:∀(ws:List (Addr×HO)) {H:Hp},Inv X pins σ H s->(∀p∈ws,H p.1=none/\NewA X pins p.1/\∀H',ObjOk X.prog X.w H' s.heap p.1 p.2)->(ws.map (·.1)).Nodup->∃H',Inv X pins σ H' s/\Same H H'/\∀p∈ws,H' p.1=some p.2
 | [],H,I,_,_=>⟨H,I,Same.refl _,fun p hp=>nomatch hp⟩
 | w::r,H,I,h,nd=>by
  obtain⟨a,b,c⟩:=h w vq;rw[v7,ur]at nd;have I1:=I.track a b (c _);obtain⟨H',I2,s2,k2⟩:=Inv.trackAll r I1 (fun p hp=>by
   obtain⟨a',b',c'⟩:=h p (vp _ hp);exact⟨(jg fun z:p.1=w.1=>nd.1 (by rw[<-z];exact vK.mpr ⟨p,hp,rfl⟩)).trans a',b',c'⟩) nd.2
  have s1:Same H (upd H w.1 w.2):=fun b u q=>(jg (je q a)).trans q
  refine⟨H',I2,s1.trans s2,fun p hp=>?_⟩;rcases mem_cons.mp hp with rfl | hp
  ·exact s2 _ _ jC
  ·exact k2 p hp
end
section
variable{X:Cx}
theorem valsR:∀as:List Addr,Vals (as.map V.ref) (as.map Value.ref)
 | []=>.nil
 | _::r=>.cons rfl (valsR r)
theorem KV.get{κ:Type}:∀{kvs:List (κ×V)} {vs:List (κ×Value)} {i:Nat} {p:κ×V},KV kvs vs->kvs[i]?=some p->∃q,vs[i]?=some q/\p.1=q.1/\RelV p.2 q.2
 | _,_,_,_,.nil,e=>by simp at e
 | _,_,0,_,.cons r _,e=>by simp at e;subst e;exact⟨_,rfl,r⟩
 | _,_,i+1,p,.cons _ t,e=>by
  obtain⟨q,h1,h2⟩:=KV.get (i:=i) (p:=p) t (by simpa using e);exact⟨q,by simpa using h1,h2⟩
theorem j3r:MtR X "dict.update" (fun x vs H Q=>∃d o kvs more,x = .ref d/\vs=[.ref o]/\H d=some (.dK kvs)/\H o=some (.dK more)/\d≠o/\kvs.length+more.length<=sizeLine/\Q .non (upd H d (.dK (mergeK kvs more)))):=by
 intro pins s σ H x vs v us Q I rx rv h;obtain⟨d,o,kvs,more,rfl,rfl,ed,eo,hne,hz,q⟩:=h;cases rx;obtain⟨u,rfl,ru⟩:=vals1 rv;cases ru;obtain⟨z1,hd1,vs1,r1,dd1⟩:=xp I.hok ed;obtain⟨z2,hd2,vs2,r2,dd2⟩:=xp I.hok eo;refine call_meetsIn PySem.F.slot_dict_update dd1.typeIs PySem.F.entry_dict_update (PySem.F.args_dict_update_2 _ _) (meets_dict_update (mixKind X.prog X.w) d o hne hd2) ⟨vs1,vs2,dd1,dd2,by rw[<-r1.length,<-r2.length];exact hz,fun h' dd' _ hs=>?_⟩;have he:∃q,h'.get? d=some q:=let ⟨q,_,_,hq,_⟩:=dd';⟨q,hq⟩;have hl:=zr more kvs;exact⟨.non,_,Xk (t':=s.toks) I (by rw[ed];exact True.intro) hs he (Xl (by lia) hd1 (r2.merge r1) dd'),rfl,q⟩
noncomputable def IView(v d:Addr):HO:=.ext fun h=>h.get? v=some {cls:=.type "dict_items",data:=.fields #[.ref d]}
theorem j4l:MtR X "dict.items" (fun x vs H Q=>∃d kvs,x = .ref d/\vs=[]/\H d=some (.dK kvs)/\∀v,H v=none->Q (.ref v) (upd H v (IView v d))):=by
 intro pins s σ H x vs v us Q I rx rv h;obtain⟨d,kvs,rfl,rfl,ed,q⟩:=h;cases rx;have hus:=rv.zero;subst hus;obtain⟨z1,hd1,vs1,r1,dd1⟩:=xp I.hok ed;refine call_meetsIn PySem.F.slot_dict_items dd1.typeIs PySem.F.entry_dict_items (PySem.F.args_dict_items_1 (.ref d)) (meets_dict_items (mixKind X.prog X.w) d hd1) ⟨⟨vs1,dd1⟩,?_⟩;have e:(s.heap.push {cls:=.type "dict_items",data:=.fields #[.ref d]}).get? s.heap.objs.size=some {cls:=.type "dict_items",data:=.fields #[.ref d]}:=Heap.get?_push_size _ rfl;exact⟨.ref s.heap.objs.size,_,I.laid (t':=s.toks) (o:=IView s.heap.objs.size d) (fun b u q=>vJ _ q) (vb _) (show ObjOk X.prog X.w _ _ _ (IView s.heap.objs.size d)from⟨e,⟨_,e⟩,fun h1 h2 q k=>k _ q⟩),rfl,q _ (I.hok.fresh (vb _))⟩
noncomputable def iiK(p:Int×Int):Key×V:=(Sum.inl p.1,.int p.2)
theorem Xi(hc:X.calm=true):CallR X (.builtin "sorted") (fun xs H Q=>∃(v d:Addr) (kvs:List (Int×Int)),xs=[.ref v]/\H v=some (IView v d)/\H d=some (.dK (kvs.map iiK))/\kvs.length<64/\
  ∀(l:Addr) (as:List Addr) (ms:List (Int×Int)) (H':Hp),Same H H'->H l=none->H' l=some (.lst (as.map V.ref))->(∀a∈as,H a=none)->ms.Perm kvs->(ms.map (·.1)).Pairwise (·<=·)->as.length=ms.length->(∀(i:Nat) (a:Addr) (p:Int×Int),as[i]?=some a->ms[i]?=some p->H' a=some (.tup [.int p.1,.int p.2]))->Q (.ref l) H'):=by
 intro pins s σ H xs us Q I r h;obtain⟨v,d,kvs,rfl,ev,ed,h64,q⟩:=h;obtain⟨u,rfl,ru⟩:=vals1 r;cases ru;obtain⟨z1,hd1,vs1,r1,dd1⟩:=xp I.hok ed;have hv:s.heap.get? v=some {cls:=.type "dict_items",data:=.fields #[.ref d]}:=(I.hok v _ ev).1;obtain⟨ep,da⟩:=dd1.dictAt;have lv:=r1.length;rw[vt]at lv;have nd:(kvs.map (·.1)).Nodup:=by
  have n1:(vs1.map (·.1)).Nodup:=let ⟨_,_,_,_,_,_,_,_,hn⟩:=dd1;hn;rw[<-r1.keys,map_map]at n1;refine pairwise_map.mpr ((pairwise_map.mp n1).imp fun {a b} h e=>h ?_);show(Sum.inl a.1:Key)=Sum.inl b.1;rw[e]
 refine Calls.call_function_entry kind_sorted plain_sorted entry_sorted (args_sorted1 (.ref v)) ?_;unfold Builtin.«sorted»;refine uk (m:=checkCount "sorted" 1 1 1) (uh ?_);refine uk (kdx_collect (knd:=mixKind X.prog X.w) (kvs:=vs1) (ep:=ep) (A:=X.A.in1) (I.ok.hd hc) ⟨_,hv,rfl,rfl⟩ da (by rw[<-lv,sizeLine_eq];lia) fun h1 tk as hk hl hG=>?_);rw[<-lv]at hl;refine uk (wpAny_newList ?_ (by rw[vt,hl,sizeLine_eq];lia));have hoL:(h1.push (seqObj "list" (as.map Value.ref).toArray 0)).get? h1.objs.size=some (seqObj "list" (as.map Value.ref).toArray 0):=Heap.get?_push_size _ rfl;have hna:h1.objs.size∉as:=fun z=>Nat.lt_irrefl _ (hG.there z)
 have key:∀i p,kvs[i]?=some p->(fun i=>(kvs.getD i (0,0)).1) i=p.1/\(fun i=>(kvs.getD i (0,0)).2) i=p.2:=fun i p e=>by
  dsimp only;rw[vy,e];exact⟨rfl,rfl⟩
 have xQ:∀i a,as[i]?=some a->∃t u,(h1.push (seqObj "list" (as.map Value.ref).toArray 0)).get? a=some {cls:=.type "tuple",data:=.seq #[.int ((fun i=>(kvs.getD i (0,0)).1) i) t,.int ((fun i=>(kvs.getD i (0,0)).2) i) u]}:=fun i a e=>by
  obtain⟨ky,k,x,e1,e2,e3⟩:=hG.pairs i a e;have hi:i<kvs.length:=by rw[<-hl];exact(vx.mp e).1
  obtain⟨w',e4,rw'⟩:=KV.get r1 (i:=i) (p:=iiK kvs[i]) (by rw[vv,vz hi];rfl);rw[e1]at e4;cases e4;obtain⟨ek,t2,ex⟩:=rw';have ek':k=Sum.inl kvs[i].1:=ek.symm;subst ek';have ex':x = .int kvs[i].2 t2:=ex;subst ex';obtain⟨g1,g2⟩:=key i _ (vz hi);rw[show(fun i=>(kvs.getD i (0,0)).1) i=kvs[i].1 from g1,show(fun i=>(kvs.getD i (0,0)).2) i=kvs[i].2 from g2];rcases JO (show keyIs (Sum.inl kvs[i].1) ky=true from e2)with⟨n,t,q1,q2⟩ | ⟨n,t,q1,q2⟩
  ·cases q1;subst q2;exact⟨t,t2,vJ _ e3⟩
  ·cases q1
 have xP:PrAt (h1.push (seqObj "list" (as.map Value.ref).toArray 0)) as (fun i=>(kvs.getD i (0,0)).1):=fun i a e=>by
  obtain⟨t,u,z⟩:=xQ i a e;exact⟨_,t,_,_,z,rfl,rfl⟩
 have inj:∀i j,i<as.length->j<as.length->(fun i=>(kvs.getD i (0,0)).1) i=(fun i=>(kvs.getD i (0,0)).1) j->i=j:=fun i j hi hj e=>by
  rw[hl]at hi hj;obtain⟨g1,_⟩:=key i _ (vz hi);obtain⟨g2,_⟩:=key j _ (vz hj);rw[g1,g2]at e;rcases Nat.lt_trichotomy i j with z | z | z
  ·exact ug e (by have:=List.pairwise_iff_getElem.mp nd i j (by rw[vt];exact hi) (by rw[vt];exact hj) z;simpa using this)
  ·exact z
  ·exact ug e.symm (by have:=List.pairwise_iff_getElem.mp nd j i (by rw[vt];exact hj) (by rw[vt];exact hi) z;simpa using this)
 refine uk (wpAny_holding (wpAny_call_entry slot_list_sort ⟨_,hoL,rfl⟩ entry_list_sort (j4Y (s:={s with heap:=h1.push (seqObj "list" (as.map Value.ref).toArray 0),toks:=tk}) hoL hna xP inj (by rw[hl];exact h64) fun qs h2 c hq hs kk o2=>⟨_,rfl,?_⟩) (args_list_sort _)));refine uh ⟨_,rfl,?_⟩;have ltB:∀b o,s.heap.get? b=some o->b<h1.objs.size:=fun b o e=>vI (hk b o e)
 have k2:∀b o,s.heap.get? b=some o->h2.get? b=some o:=fun b o e=>kk b o (vE (ltB b o e)) (vJ _ (hk b o e))
 have I2:Inv X pins σ H {s with heap:=h2,toks:=tk}:=I.kept (t':=tk) k2;have hB:H h1.objs.size=none:=I.none_at hk;have nB:=I.newB hk;have ha:∀a∈as,H a=none/\NewA X pins a:=fun a h=>⟨I.hok.fresh (vX (hG.above a h)),I.newA (vX (hG.above a h))⟩
 have qlt:∀i∈qs,i<as.length:=fun i hi=>v2.mp (hq.mem_iff.mp hi)
 have ndw:(((h1.objs.size,HO.lst ((qs.map fun i=>as.getD i 0).map V.ref))::(List.range as.length).map fun i=>(as.getD i 0,HO.tup [.int (kvs.getD i (0,0)).1,.int (kvs.getD i (0,0)).2])).map (·.1)).Nodup:=by
  rw[v7,ur,map_map];have e2:(List.range as.length).map ((fun x=>x.1)∘fun i=>(as.getD i 0,HO.tup [.int (kvs.getD i (0,0)).1,.int (kvs.getD i (0,0)).2]))=as:=ext_getElem (by simp) fun i h1 h2=>by
   rw[getElem_map,getElem_range];show as.getD i 0=_;rw[vy,vz h2];rfl
  rw[e2];exact⟨hna,hG.rise.imp fun h=>vE h⟩
 obtain⟨H',I3,s3,k3⟩:=I2.trackAll ((h1.objs.size,HO.lst ((qs.map fun i=>as.getD i 0).map V.ref))::(List.range as.length).map fun i=>(as.getD i 0,HO.tup [.int (kvs.getD i (0,0)).1,.int (kvs.getD i (0,0)).2])) (fun p hp=>by
  rcases mem_cons.mp hp with rfl | hp
  ·refine⟨hB,nB,fun H'=>⟨?_,_,c,valsR _,o2⟩⟩;rw[vt,vt,hq.length_eq,length_range,hl,sizeLine_eq];lia
  ·obtain⟨i,hi,rfl⟩:=vK.mp hp;have hi:=v2.mp hi;have e:as[i]?=some (as.getD i 0):=by rw[vy,vz hi];rfl
   obtain⟨t1,t2,eo⟩:=xQ i _ e;have hm:=vm e;obtain⟨n1,n2⟩:=ha _ hm;exact⟨n1,n2,fun H'=>⟨(by show 2<=sizeLine;decide),[_,_],.cons ⟨t1,rfl⟩ (.cons ⟨t2,rfl⟩ .nil),⟨_,kk _ _ (fun z=>hna (z▸hm)) eo,rfl,_,rfl⟩⟩⟩) ndw
 ·refine⟨.ref h1.objs.size,H',I3,rfl,q h1.objs.size (qs.map fun i=>as.getD i 0) (qs.map fun i=>kvs.getD i (0,0)) H' s3 hB (k3 _ vq) (fun a h=>?_) ?_ ?_ (by rw[vt,vt]) fun i a p e1 e2=>?_⟩
  ·obtain⟨i,hi,rfl⟩:=vK.mp h;have e:as[i]?=some (as.getD i 0):=by rw[vy,vz (qlt i hi)];rfl
   exact(ha _ (vm e)).1
  ·have e:=hq.map fun i=>kvs.getD i (0,0)
   rw[hl]at e;have e2:(List.range kvs.length).map (fun i=>kvs.getD i (0,0))=kvs:=ext_getElem (by simp) fun i h1 h2=>by
    rw[getElem_map,getElem_range,vy,vz h2];rfl
   rw[e2]at e;exact e
  ·rw[map_map];exact hs
  ·rw[vv]at e1 e2;obtain⟨j,hj,rfl⟩:=vg.mp e1;rw[hj]at e2;cases e2;exact k3 _ (vp _ (vK.mpr ⟨j,v2.mpr (qlt j (vm hj)),rfl⟩))
end
theorem Yy:∀{as:List Addr} {us:List Value},Vals (as.map V.ref) us->us=as.map Value.ref
 | [],_,r=>by cases r;rfl
 | a::as,_,r=>by
  cases r with
  | cons r1 r2=>rw[Yy r2,show _=Value.ref a from r1];rfl
theorem j0K{h:Heap}:∀{as:List Addr} {kvs:List (Int×Int)},as.length=kvs.length->(∀(i:Nat) (a:Addr) (q:Int×Int),as[i]?=some a->kvs[i]?=some q->∃t u,IsTup h a #[.int q.1 t,.int q.2 u])->
  ∃ps:List (Key×Value),KV (kvs.map iiK) ps/\ps.length=kvs.length/\∀(j:Nat) (kv:Key×Value),ps[j]?=some kv->∃a key,as[j]?=some a/\IsTup h a #[key,kv.2]/\keyIs kv.1 key=true
 | [],[],_,_=>⟨[],.nil,rfl,fun j kv e=>by simp at e⟩
 | [],_::_,l,_=>by simp at l
 | _::_,[],l,_=>by simp at l
 | a::as,q::kvs,l,f=>by
  obtain⟨ps,h1,h2,h3⟩:=j0K (as:=as) (kvs:=kvs) (by simpa using l) fun i a q e1 e2=>f (i+1) a q (by simpa using e1) (by simpa using e2)
  obtain⟨t,u,e⟩:=f 0 a q rfl rfl;refine⟨(Sum.inl q.1,.int q.2 u)::ps,.cons ⟨rfl,u,rfl⟩ h1,by rw[vP,h2,vP],fun j kv ej=>?_⟩;cases j with
  | zero=>simp at ej;subst ej;exact⟨a,_,rfl,e,KE _ _⟩
  | succ j=>obtain⟨b,ky,b1,b2,b3⟩:=h3 j kv (by simpa using ej);exact⟨b,ky,by simpa using b1,b2,b3⟩
section
variable{X:Cx}
theorem Wd(hc:X.calm=true):CallR X (.type "dict") (fun xs H Q=>∃(p:Addr) (as:List Addr) (kvs:List (Int×Int)),xs=[.ref p]/\H p=some (.lst (as.map V.ref))/\as.length=kvs.length/\
  (∀(i:Nat) (a:Addr) (q:Int×Int),as[i]?=some a->kvs[i]?=some q->H a=some (.tup [.int q.1,.int q.2]))/\∀d,H d=none->Q (.ref d) (upd H d (.dK (mergeK [] (kvs.map iiK))))):=by
 intro pins s σ H xs us Q I r h;obtain⟨p,as,kvs,rfl,ep,hl,ht,q⟩:=h;obtain⟨u,rfl,ru⟩:=vals1 r;cases ru;obtain⟨z,its,n,rv,lv,e⟩:=I.lstM ep;have ei:=Yy rv;subst ei;rw[vt]at z;have hp:p<s.heap.objs.size:=vI e;obtain⟨ps,kp,pl,pt⟩:=j0K (h:=s.heap) hl fun i a q e1 e2=>by
  obtain⟨_,its,r',t'⟩:=I.hok a _ (ht i a q e1 e2);cases r' with
  | cons ra rr=>
   cases rr with
   | cons rb rr=>
    cases rr;obtain⟨t1,rfl⟩:=ra;obtain⟨t2,rfl⟩:=rb;exact⟨t1,t2,t'⟩
 refine callType_codes (Q₁:=fun obj s₁=>obj = .ref s.heap.objs.size/\s₁={s with heap:=s.heap.push {cls:=.type "dict",data:=.dict #[]}}) PySem.F.kt_called_dict (PySem.F.kt_typeCall_dict_1 (.ref p)) PySem.F.entry_dict_init (kt_code_dict_new (.ref p) ⟨rfl,rfl⟩) ?_;rintro obj s₁ ⟨rfl,rfl⟩;have hnew:(s.heap.push {cls:=.type "dict",data:=.dict #[]}).DictOf (mixKind X.prog X.w) s.heap.objs.size []:=Heap.DictOf.new s.heap;have k0:∀b o,s.heap.get? b=some o->(s.heap.push {cls:=.type "dict",data:=.dict #[]}).get? b=some o:=fun b o e=>vJ _ e
 generalize s.heap.push {cls:=.type "dict",data:=.dict #[]}=h0 at hnew k0;refine⟨hnew.typeIs (s:={s with heap:=h0}),PySem.F.args_dict_init_2 _ _,?_⟩;unfold Builtin.«dict.__init__»;refine uk ?_;unfold Builtin.Dict.selfAndRest;refine uk (wpAny_notOrdered_dict (hnew.typeIs (s:={s with heap:=h0})) ?_);show wpAny (model X.prog X.w) _ (pure (s.heap.objs.size,[Value.ref p])) _ _ _;refine uh ?_;show wpAny (model X.prog X.w) _ (Builtin.Dict.updateFrom "dict.__init__" s.heap.objs.size (.ref p) [] .none) _ _ _;unfold Builtin.Dict.updateFrom;refine uk (wpAny_typeOf (T:="list") ⟨_,k0 _ _ e,rfl⟩ ?_);rw[vd (by decide)];refine uk (noKeys (s:={s with heap:=h0}) (k0 _ _ e) rfl rfl rfl (I.ok.hd hc) fun h1 tk k1=>?_);rw[vd (show(none:Option Value).isNone=true from rfl)];have k01:∀b o,s.heap.get? b=some o->h1.get? b=some o:=fun b o e=>k1 b o (k0 b o e)
 have dd1:h1.DictOf (mixKind X.prog X.w) s.heap.objs.size []:=hnew.keep k1;have ld:s.heap.objs.size<h1.objs.size:=by obtain⟨_,_,_,hg,_⟩:=dd1;exact vI hg
 have lp:p<h1.objs.size:=vY hp ld;refine uk (wpAny_rule ?_);refine uk (wpAny_pyIter_list (l:=p) (items:=(as.map Value.ref).toArray) ⟨_,k01 _ _ e,rfl,n,rfl⟩ ?_);refine uh ⟨plainId_quiet Z7 _,?_⟩;refine dul (knd:=mixKind X.prog X.w) (A:=X.A.in1) (d:=s.heap.objs.size) (it:=h1.objs.size) (l:=p) (items:=as.map Value.ref) (res:=.none) (I.ok.hd hc) (vE ld) (vN hp) (vN lp) ps 0 [] _
  ⟨_,Heap.get?_push_size _ rfl,rfl,rfl⟩ ⟨_,vJ _ (k01 _ _ e),rfl,n,rfl⟩ (by rw[vt,hl,pl,Nat.zero_add]) (fun j kv ej=>?_) (dd1.push _) (by rw[length_nil,pl,<-hl,Nat.zero_add];exact z) fun h2 tk2 k2 dd2=>?_
 ·obtain⟨a,ky,b1,⟨o,b2,b3⟩,b4⟩:=pt j kv ej;have la:a<s.heap.objs.size:=vI b2;exact⟨a,ky,by rw[Nat.zero_add,vv,b1];rfl,⟨o,vJ _ (k01 _ _ b2),b3⟩,b4,vE la,vE (vY la ld)⟩
 ·refine⟨rfl,.ref s.heap.objs.size,upd H s.heap.objs.size (.dK (mergeK [] (kvs.map iiK))),I.laid (t':=tk2) (fun b o eb=>k2 b o (vE (vI eb)) (vE (vY (vI eb) ld)) (vJ _ (k01 _ _ eb))) (vb _) ?_,rfl,q _ (I.hok.fresh (vb _))⟩;have hm:=zr (kvs.map iiK) [];rw[length_nil,vt]at hm;have hns:(s.heap.objs.size==sysModules)=false:=by
   rw[beq_eq_false_iff_ne];exact vN I.big
  exact Xl (by lia) hns (kp.merge .nil) dd2
end
theorem j2e{H:Hp}:∀(ks:List Int),DVs H (ks.map V.int) (ks.map PyData.int)
 | []=>.nil
 | k::r=>.cons (.int k) (j2e r)
theorem j5o(ks:List Int):PyData.eqv (.list (ks.map PyData.int)) (.list [])=decide (ks=[]):=by
 cases ks<;>simp[PyData.eqv,PyData.eqvAll]
theorem j6w{X:Cx}(hu:X.A.units+64<cLine):OpR X (compareOp .In) (fun x y H Q=>∃(a l:Addr) (as:List Addr) (hs:List (List Int)),x = .ref a/\y = .ref l/\H a=some (.lst [])/\H l=some (.lst (as.map V.ref))/\as.length=hs.length/\
  (∀(i:Nat) (b:Addr) (ks:List Int),as[i]?=some b->hs[i]?=some ks->H b=some (.lst (ks.map V.int)))/\Q (.bl (hs.any fun ks=>decide (ks=[]))) H):=by
 intro pins s σ H x y v u Q I rx ry h;obtain⟨a,l,as,hs,rfl,rfl,ea,el,hl,hh,q⟩:=h;cases rx;cases ry;obtain⟨its,r,pl,hz⟩:=I.list (SqL.of el);have ei:=Yy r;subst ei;obtain⟨ba,ra⟩:=Zr I (DV.lst ea .nil) (show RelV (.ref a) (.ref a)from rfl)
 classical
 have rd:∀(i:Nat) (b:Addr) (ks:List Int),as[i]?=some b->hs[i]?=some ks->∃bb,Reads s.heap (.ref b) (.list (ks.map PyData.int)) bb:=fun i b ks e1 e2=>Zr I (DV.lst (hh i b ks e1 e2) (j2e ks)) (show RelV (.ref b) (.ref b)from rfl)
 have fe:∀(i:Nat) (b:Addr) (ks:List Int),as[i]?=some b->hs[i]?=some ks->decide (∃bb,Reads s.heap (.ref b) (.list []) bb)=decide (ks=[]):=fun i b ks e1 e2=>by
  obtain⟨bb,rb⟩:=rd i b ks e1 e2;rw[decide_eq_decide];constructor
  ·rintro⟨cc,rc⟩;have e:=SeqAt.Reads.unique _ _ _ _ _ (show PyData.canLay0 (.list [])=true from rfl) rc rb;cases ks with
   | nil=>rfl
   | cons k r=>simp at e
  ·rintro rfl;exact⟨bb,rb⟩
 refine SeqAt.in_listAt (fun w=>decide (∃bb,Reads s.heap w (.list []) bb)) pl.isList (fun w hw=>?_) ⟨.bl _,H,I,rfl,?_⟩
 ·obtain⟨i,hi,e⟩:=mem_iff_getElem.mp (show w∈as.map Value.ref by simpa using hw);rw[getElem_map]at e;rw[vt]at hi;subst e;have e1:as[i]?=some as[i]:=vz hi;have e2:hs[i]?=some hs[i]:=vz (by lia);obtain⟨bb,rb⟩:=rd i _ _ e1 e2;have z:=SeqAt.eqAt_reads _ _ X.A.in1 s _ _ _ _ rb ra (by show PyData.canLayAll0 _=true;exact ke_canLayAll0 _) rfl (by
   show X.A.in1.units+min (PyData.depthAll _+1) (0+1)<cLine;have h1:X.A.in1.units=X.A.units+1:=rfl;lia)
  rw[j5o,<-fe i _ _ e1 e2]at z;exact z
 ·have e:(as.map Value.ref).toArray.any (fun w=>decide (∃bb,Reads s.heap w (.list []) bb))=hs.any fun ks=>decide (ks=[]):=by
   rw[List.any_toArray,List.any_map,Bool.eq_iff_iff,any_eq_true,any_eq_true];constructor
   ·rintro⟨b,hb,hw⟩;obtain⟨i,hi,rfl⟩:=mem_iff_getElem.mp hb;exact⟨hs[i],List.getElem_mem _,by rw[<-fe i _ _ (vz hi) (vz (by lia))];exact hw⟩
   ·rintro⟨ks,hk,hw⟩;obtain⟨i,hi,rfl⟩:=mem_iff_getElem.mp hk;refine⟨as[i],List.getElem_mem _,?_⟩;show decide _=true;rw[fe i _ _ (vz (by lia)) (vz hi)];exact hw
  rw[e];exact q
def Itv(K:Frg)(a:Addr)(n:Nat):It:=
 ⟨fun i H=>∃xs x,SqL K H a xs/\i<n/\xs[n-1-i]?=some x,fun i H x H'=>H'=H/\∀xs,SqL K H a xs->xs[n-1-i]?=some x,fun i _=>i=n⟩
theorem j56{P:Program}{w:World}{K:Frg}{tg:Expr}(a it:Addr)(n:Nat):Turn P w K tg (Itv K a n) [it] it (fun i h=>h.IsRevIter it a ((n:Int)-1-(i:Nat))) where
 mem:=by simp
 obj:=fun i h st b hb=>by
  have e:b=it:=by simpa using hb
  subst e;obtain⟨o,e,c,d⟩:=st;exact⟨o,e,fun v z=>by rw[d]at z;cases z⟩
 keep:=fun i h h' st k=>st.at fun o e=>k it (by simp) o e
 item:=by
  intro X hP hw hK hc i pins s σ H E I hf st hg;subst hP hw hK;obtain⟨xs,x,hq,hlt,hx⟩:=hg;obtain⟨its,rv,p,hz⟩:=I.list hq;obtain⟨u,hu,ru⟩:=rv.get hx;obtain⟨f0,f1,f2,f3,f4,f5⟩:=hf it (by simp);have e:((n:Int)-1-(i:Nat))=((n-1-i:Nat):Int):=by lia
  rw[e]at st;refine wpAny_pyNext_rev_item st p.isList (x:=u) (by simpa using hu) fun h' st' sb=>?_
  have I1:Inv X pins σ H {s with heap:=h'}:=I.turned (t':=s.toks) (fun b o hb e=>(sb.2 b hb).trans e) f0 f1 f3 f4 f5;have e2:(((n-1-i:Nat):Int)-1)=((n:Int)-1-((i+1:Nat):Int)):=by lia
  rw[e2]at st';obtain⟨o,eo,c,d⟩:=id st';exact⟨u,rfl,j0o (s:={s with heap:=h'}) eo c d (by decide) ⟨x,H,I1,ru,⟨rfl,fun ys hy=>by rw[I.list_inj hy hq];exact hx⟩,st',fun b hb=>(hf b hb).1⟩⟩
 done:=by
  intro X hP hw hK hc i pins s σ H E I hf st hg;subst hP hw hK;have hg:i=n:=hg;subst hg;obtain⟨f0,f1,f2,f3,f4,f5⟩:=hf it (by simp);rw[show((i:Int)-1-(i:Nat)) = -1 by lia]at st;exact wpAny_pyNext_rev_end (I.ok.hd hc) st fun h' eb=>⟨rfl,I.turned (t':=s.toks) (fun b o hb e=>eb b o hb e) f0 f1 f3 f4 f5⟩
 self:=fun _ _ _ _ _ st h=>wpAny_pyIter_revIter st h
def iRev(K:Frg)(ta:TA):TI:=fun σ H R=>ta σ H fun vs H1=>∃a xs,vs=[.ref a]/\SqL K H1 a xs/\R (Itv K a xs.length) H1
theorem j6C{X:Cx}{tg a:Expr}{ta:TA}{p pos:Pos}(hg:Gl X "reversed")(hm:X.mg "reversed"= none)(ha:PA X [a] ta)(hs:starEach [a] X.env=[(false,eval a X.env)]:=by rfl) :
  PI X tg (.Call (.Name "reversed" p) [a] [] pos) (iRev X.K ta):=by
 intro pins s σ H R I h;refine Call_ (yX I hg hm j09 (PyProof.Rows.callWith_type1 (thn (ha pos pins s σ H _ I h) fun us s1 ⟨vs,H1,I1,r1,q1⟩=>?_) hs rfl));obtain⟨b,xs,rfl,hq,q⟩:=q1;obtain⟨u,rfl,ru⟩:=vals1 r1;cases ru;obtain⟨its,rv,p,hz⟩:=I1.list hq;have hl:=rv.length;refine call_reversed_list p.isList ?_;have hit:(s1.heap.push (revObj b ((its.toArray.size:Int)-1))).IsRevIter s1.heap.objs.size b ((xs.length:Int)-1-((0:Nat):Int)):=⟨_,Heap.get?_push_size _ rfl,rfl,by rw[hl];simp[revObj]⟩
 refine wpAny_pyIter_revIter (s:={s1 with heap:=s1.heap.push (revObj b ((its.toArray.size:Int)-1))}) hit ?_;refine⟨s1.heap.objs.size,[s1.heap.objs.size],_,_,H1,rfl,I1.kept (t':=s1.toks) fun b o e=>vJ _ e,j56 b _ xs.length,hit,fun c hc=>?_,q⟩;have e:c=s1.heap.objs.size:=by simpa using hc
 subst e;exact I1.fpOk (vb _) (I1.hok.fresh (vb _))
theorem j5p{K:Frg}{a:Addr}{xs:List V}{g:TG}{tb:TS}{D:Ends}{σ:St}{H:Hp}(Pv:Nat->St->Hp->Prop)(h0:Pv 0 σ H)(hl:∀i σ H,i<=xs.length->Pv i σ H->SqL K H a xs)
  (hs:∀i x σ H,i<xs.length->xs[xs.length-1-i]?=some x->Pv i σ H->g x σ H fun σ2 H2=>tb {D with nx:=Pv (i+1),ct:=Pv (i+1),bk:=D.nx} σ2 H2) (hd:∀σ H,Pv xs.length σ H->D.nx σ H) :
  ∃W:Nat->Nat->St->Hp->Prop,(∃m,W 0 m σ H)/\∀i m σ H,W i m σ H->
   ((Itv K a xs.length).stop i H/\D.nx σ H)\/((Itv K a xs.length).go i H/\∃N:St->Hp->Prop,(∀σ' H',N σ' H'->∃m',m'<m/\W (i+1) m' σ' H')/\∀x H',(Itv K a xs.length).yld i H x H'->g x σ H' fun σ2 H2=>tb {D with nx:=N,ct:=N,bk:=D.nx} σ2 H2):=by
 refine⟨fun i m σ H=>m=xs.length-i/\i<=xs.length/\Pv i σ H,⟨xs.length,by simp,va _,h0⟩,?_⟩;rintro i m σ H ⟨rfl,hi,p⟩;have q:=hl i σ H hi p;by_cases hlt:i<xs.length
 ·refine .inr ⟨⟨xs,xs[xs.length-1-i],q,hlt,vz (by lia)⟩,Pv (i+1),fun σ' H' p'=>⟨xs.length-(i+1),by lia,rfl,hlt,p'⟩,fun x H' y=>?_⟩;obtain⟨e,y⟩:=y;subst e;exact hs i x σ _ hlt (y xs q) p
 ·have e:i=xs.length:=by lia
  subst e;exact .inl ⟨rfl,hd σ H p⟩
theorem rd_iRev{K:Frg}{ta:TA}{σ:St}{H:Hp}{R:It->Hp->Prop}(h:ta σ H fun vs H1=>∃a xs,vs=[.ref a]/\SqL K H1 a xs/\R (Itv K a xs.length) H1):iRev K ta σ H R:=h
section
variable{X:Cx}
def tTru(K:Frg)(ta:TE):TT:=fun σ H Q=>ta σ H fun x H'=>∃k,TruV K x H' k/\Q k H'
theorem j6F{a:Expr}{ta:TE}(ha:PE X a ta)(he:∀whole,isTrue a X.env whole=(do let v <-whole;standAt a.pos;holding [v] (truthy v))):PT X a (tTru X.K ta):=j4E ha he
end
theorem rd_tru{K:Frg}{ta:TE}{σ:St}{H:Hp}{Q:Bool->Hp->Prop}(h:ta σ H fun x H'=>∃k,TruV K x H' k/\Q k H'):tTru K ta σ H Q:=h
theorem j3U{K:Frg}{a b:Addr}{xs zs:List V}{k:Nat}{ci:List Nat}{g:TG}{tf:TT}{te:TE}{σ:St}{H:Hp}{Z:Addr->List V->Hp->Prop}(Pv:Nat->List V->Hp->Prop)(hlen:xs.length=zs.length)(h0:Pv 0 [] H)(hl:∀i ys H,i<=xs.length->Pv i ys H->SqL K H a xs/\SqL K H b zs)
  (hs:∀i u v ys H T H',xs[i]?=some u->zs[i]?=some v->Pv i ys H->Same H H'->H' T=some (.tup [u,v])->g (.ref T) (capS k ci σ) H' fun σ2 H2=>tf σ2 H2 fun b H3=>if b=true then te σ2 H3 fun v H4=>ys.length<sizeLine/\Pv (i+1) (ys++[v]) H4 else Pv (i+1) ys H3)
  (hd:∀ys H,Pv xs.length ys H->ys.length<=sizeLine/\∀p,H p=none->Z p ys H) :
  ∃W:Nat->Nat->List V->Hp->Prop,(∃m,W 0 m [] H)/\∀i m ys H,W i m ys H->
   ((Itz K a b).stop i H/\ys.length<=sizeLine/\∀p,H p=none->Z p ys H)\/
   ((Itz K a b).go i H/\∃N:List V->Hp->Prop,(∀ys' H',N ys' H'->∃m',m'<m/\W (i+1) m' ys' H')/\∀x H',(Itz K a b).yld i H x H'->g x (capS k ci σ) H' fun σ2 H2=>tf σ2 H2 fun b H3=>
    if b=true then te σ2 H3 fun v H4=>ys.length<sizeLine/\N (ys++[v]) H4 else N ys H3):=by
 refine⟨fun i m ys H=>m=xs.length-i/\i<=xs.length/\Pv i ys H,⟨xs.length,by simp,va _,h0⟩,?_⟩;rintro i m ys H ⟨rfl,hi,p⟩;obtain⟨q,q'⟩:=hl i ys H hi p;by_cases hlt:i<xs.length
 ·refine .inr ⟨⟨xs,xs[i],zs,zs[i],q,by simp[hlt],q',by simp⟩,Pv (i+1),fun ys' H' p'=>⟨xs.length-(i+1),by lia,rfl,hlt,p'⟩,fun x H' y=>?_⟩;obtain⟨T,u,v,rfl,hT,e,y,y'⟩:=y;exact hs i u v ys H T H' (y xs q) (y' zs q') p (fun b o h=>by rw[e,jg (je h hT)];exact h) (by rw[e];exact jC)
 ·have e:i=xs.length:=by lia
  subst e;exact .inl ⟨⟨xs,zs,q,q',.inl (vb _)⟩,hd ys H p⟩
section
variable{X:Cx}{e:Expr}{te:TE}
def tRevS(K:Frg)(te:TE)(ts:TO):TE:=fun σ H Q=>te σ H fun x H1=>ts σ H1 fun st H2=>st=some (-1)/\∃a xs,x = .ref a/\SqL K H2 a xs/\∀p,H2 p=none->Q (.ref p) (upd H2 p (.lst xs.reverse))
theorem j5a{xs:List V}{us:List Value}(h:Vals xs us):Vals xs.reverse us.reverse:=by
 induction h with
 | nil=>exact .nil
 | cons r _ ih=>rw[reverse_cons,reverse_cons];exact ih.append (.cons r .nil)
theorem j6A{st:Expr}{ts:TO}{p2 pos:Pos}(he:PE X e te)(hs:PO X (some st) ts):PE X (.Subscript e (.Slice none none (some st) p2) pos) (tRevS X.K te ts):=by
 intro pins s σ H Q I h;refine Subscript_ (thn (he pins s σ H _ I h) fun v s1 ⟨x,H1,I1,r1,q1⟩=>?_);refine wpAny_Slice ?_;rw[evalPart_none];refine uh ?_;refine uh ?_;refine thn (hs pins s1 σ H1 _ I1 q1) fun vk s2 ⟨so,H2,I2,pk,est,a,xs,ex,hx,q⟩=>?_
 subst est ex;cases r1;have I3:Inv X pins σ H2 {s2 with heap:=s2.heap.push {cls:=.type "slice",data:=.fields #[.none,.none,vk]}}:=I2.kept (t':=s2.toks) fun b ob q=>vJ _ q
 obtain⟨its,r,ht,hz⟩:=I3.list hx;have hlen:=r.length;show wpAny (model X.prog X.w) X.A (subscriptTail e (.Slice none none (some st) p2) (.ref a) (.ref s2.heap.objs.size)) (EP X pins σ Q) X.xe {s2 with heap:=s2.heap.push {cls:=.type "slice",data:=.fields #[.none,.none,vk]}};refine tail_any (ops:=[.ref a,.ref s2.heap.objs.size]) ht.isList.typeIs slot_list_getitem.lookup ?_ (by with_unfolding_all rfl);refine wpAny_getItem_list_slice ht.isList (Heap.IsSliceOf.new ..) .none .none pk (by decide) ?_ (by rw[size_toArray]<;>lia);rw[PySem.W.krv_pick];refine⟨.ref (s2.heap.push {cls:=.type "slice",data:=.fields #[.none,.none,vk]}).objs.size,_,I3.laid (t':=s2.toks) (o:=.lst xs.reverse) (fun b ob q=>vJ _ q) (vb _) ?_,rfl,q _ (I3.hok.fresh (vb _))⟩;exact⟨by rw[List.length_reverse];exact hz,_,0,j5a r,Heap.get?_push_size _ rfl⟩
end
theorem rd_revS{K:Frg}{te:TE}{ts:TO}{σ:St}{H:Hp}{Q:VK}(h:te σ H fun x H1=>ts σ H1 fun st H2=>st=some (-1)/\∃a xs,x = .ref a/\SqL K H2 a xs/\∀p,H2 p=none->Q (.ref p) (upd H2 p (.lst xs.reverse))):tRevS K te ts σ H Q:=h
theorem j4J{K:Frg}{i j k:Nat}{a:Addr}{x y z:V}{σ:St}{H:Hp}{R:St->Hp->Prop}(e:SqT K H a [x,y,z])(h:gName i x σ H fun σ' H'=>gName j y σ' H' fun σ' H'=>gName k z σ' H' R):gTup K 3 (gCons (gName i) (gCons (gName j) (gCons (gName k) gNil))) (.ref a) σ H R:=
 ⟨a,[x,y,z],rfl,e,rfl,x,[y,z],rfl,y,[z],rfl,z,[],rfl,rfl,h⟩
theorem j4K{K:Frg}{i j k l:Nat}{a:Addr}{x y z w:V}{σ:St}{H:Hp}{R:St->Hp->Prop}(e:SqT K H a [x,y,z,w])(h:gName i x σ H fun σ' H'=>gName j y σ' H' fun σ' H'=>gName k z σ' H' fun σ' H'=>gName l w σ' H' R):gTup K 4 (gCons (gName i) (gCons (gName j) (gCons (gName k) (gCons (gName l) gNil)))) (.ref a) σ H R:=
 ⟨a,[x,y,z,w],rfl,e,rfl,x,[y,z,w],rfl,y,[z,w],rfl,z,[w],rfl,w,[],rfl,rfl,h⟩
section
variable{prog:Program}{w:World}{A:Around}{E:Value->Shared->Prop}{s:Shared}
end
def Itd(lo:Int)(n:Nat):It:=⟨fun i _=>i<n,fun i H x H'=>H'=H/\x = .int (lo-i),fun i _=>n<=i⟩
theorem j0X{P:Program}{w:World}{K:Frg}{tg:Expr}(it:Addr)(lo:Int)(n:Nat):Turn P w K tg (Itd lo n) [it] it (fun i h=>IsRangeIter h it (lo+(i:Nat)*(-1)) ((n:Int)-(i:Nat)) (-1)) where
 mem:=by simp
 obj:=fun i h st b hb=>by
  have e:b=it:=by simpa using hb
  subst e;exact⟨_,st,fun v z=>by
   have z':Data.fields _=Data.cell v:=z;cases z'⟩
 keep:=fun i h h' st k=>k it (by simp) _ st
 item:=by
  intro X hP hw hK hc i pins s σ H E I hf st hg;subst hP hw hK;obtain⟨f0,f1,f2,f3,f4,f5⟩:=hf it (by simp);have W:=Walks.range (prog:=X.prog) (w:=X.w) (I.ok.hd hc) it lo (-1) n;refine W.item i s _ _ hg st fun v h' tk hv st' kk=>?_
  obtain⟨t,rfl⟩:=hv;have I1:Inv X pins σ H {s with heap:=h',toks:=tk}:=I.turned (fun b o hb e=>kk b o (by simpa using hb) e) f0 f1 f3 f4 f5;refine⟨_,rfl,j0o (s:={s with heap:=h',toks:=tk}) (n:="range_iterator") st' rfl rfl (by decide) ⟨.int (lo-i),H,I1,⟨t,?_⟩,⟨rfl,rfl⟩,st',fun b hb=>(hf b hb).1⟩⟩;rw[show lo+(i:Int)*(-1)=lo-i by lia]
 done:=by
  intro X hP hw hK hc i pins s σ H E I hf st hg;subst hP hw hK;obtain⟨f0,f1,f2,f3,f4,f5⟩:=hf it (by simp);exact wpAny_pyNext_range_end (I.ok.hd hc) st (by have:n<=i:=hg;lia) fun h' eb=>⟨rfl,I.turned (t':=s.toks) (fun b o hb e=>eb b o hb e) f0 f1 f3 f4 f5⟩
 self:=fun _ _ _ _ _ st h=>wpAny_pyIter_rangeiter st h
section
variable{X:Cx}{tg:Expr}
theorem YI(a b:Int):Builtin.Range.rangeSize a b (-1)=if b<a then a-b else 0:=by
 unfold Builtin.Range.rangeSize;simp only[show¬((-1:Int)>0) by decide,if_false,show(- -1:Int)=1 by decide,Int.ediv_one];split<;>lia
theorem j3F{a b:Int}(h1 : -(2^61)<=a)(h2:a<2^61)(h3 : -(2^61)<=b)(h4:b<2^61):Builtin.Range.small a b (-1)=true:=by
 have f:∀x:Int,-(2^62)<=x->x<2^62->Builtin.Range.rangeFitsLong x=true:=fun x h1 h2=>by
  unfold Builtin.Range.rangeFitsLong;simp;lia
 unfold Builtin.Range.small;rw[YI];have g : -(2^62)<=(if b<a then a-b else 0)/\(if b<a then a-b else 0)<2^62:=by split<;>lia
 rw[f a (by lia) (by lia),f b (by lia) (by lia),f (-1) (by decide) (by decide),f _ g.1 g.2,vc (show¬((-1:Int)>0) by decide),f (b+(-1+1)) (by lia) (by lia)];simp
theorem j3C{pins:List (Addr×Obj)}{σ:St}{H:Hp}{s:Shared}{R:It->Hp->Prop}{E:Value->Shared->Prop}{lo hi:Int}{t u v:Tok}{tk:Nat}(I:Inv X pins σ H s)(h1 : -(2^61)<=lo)(h2:lo<2^61)(h3 : -(2^61)<=hi)(h4:hi<2^61)
  (q:R (Itd lo (lo-hi).toNat) H):wpAny (model X.prog X.w) X.A (pyIter (.ref s.heap.objs.size)) (PIE X pins σ tg R) E {s with heap:=s.heap.push {cls:=.type "range",data:=.fields #[.int lo t,.int hi u,.int (-1) v]},toks:=tk}:=by
 refine wpAny_pyIter_range (IsRange.new ..) (j3F h1 h2 h3 h4) ?_;have I1:Inv X pins σ H {s with heap:=s.heap.push {cls:=.type "range",data:=.fields #[.int lo t,.int hi u,.int (-1) v]},toks:=tk}:=I.kept fun b o e=>vJ _ e
 refine⟨(s.heap.push {cls:=.type "range",data:=.fields #[.int lo t,.int hi u,.int (-1) v]}).objs.size,[(s.heap.push {cls:=.type "range",data:=.fields #[.int lo t,.int hi u,.int (-1) v]}).objs.size],_,_,H,rfl,
  I1.kept (t':=tk) fun b o e=>vJ _ e,j0X _ lo (lo-hi).toNat,?_,fun b hb=>?_,q⟩
 ·have e1:lo+((0:Nat):Int)*(-1)=lo:=by simp
  have e2:(((lo-hi).toNat:Nat):Int)-((0:Nat):Int)=Builtin.Range.rangeSize lo hi (-1):=by rw[YI];split<;>lia
  show IsRangeIter _ _ (lo+((0:Nat):Int)*(-1)) ((((lo-hi).toNat:Nat):Int)-((0:Nat):Int)) (-1);rw[e1,e2];exact Heap.get?_push_size _ rfl
 ·have e:b=(s.heap.push {cls:=.type "range",data:=.fields #[.int lo t,.int hi u,.int (-1) v]}).objs.size:=by simpa using hb
  subst e;exact I1.fpOk (vb _) (I1.hok.fresh (vb _))
def iRngD(ta:TA):TI:=fun σ H R=>ta σ H fun vs H1=>∃i j:Int,vs=[.int i,.int j,.int (-1)]/\(-(2^61)<=i/\i<2^61/\-(2^61)<=j/\j<2^61)/\R (Itd i (i-j).toNat) H1
theorem j3x{a b c:Expr}{ta:TA}{p pos:Pos}(hg:Gl X "range")(hm:X.mg "range"= none)(ha:PA X [a,b,c] ta)(hs:starEach [a,b,c] X.env=(false,eval a X.env)::starEach [b,c] X.env:=by rfl)(hs2:(backTo pos (starEach [b,c] X.env)).any (·.1)=false:=by rfl) :
  PI X tg (.Call (.Name "range" p) [a,b,c] [] pos) (iRngD ta):=by
 intro pins s σ H R I h;refine Call_ (yX I hg hm boot_range (PyProof.Rows.callWith_type1 (thn (ha pos pins s σ H _ I h) fun us s1 ⟨vs,H1,I1,r1,q1⟩=>?_) hs hs2));obtain⟨i,j,e,⟨q1,q2,q3,q4⟩,q⟩:=q1;subst e;cases r1 with
 | cons r rr=>
  cases rr with
  | cons r' rr=>
   cases rr with
   | cons r'' rr=>
    cases rr;obtain⟨t,rfl⟩:=r;obtain⟨t',rfl⟩:=r';obtain⟨t'',rfl⟩:=r'';exact call_range_3 (by decide) (j3C I1 q1 q2 q3 q4 q) (.inl (PyProof.noPylong_small (by lia)))
end
theorem rd_rngD{ta:TA}{σ:St}{H:Hp}{R:It->Hp->Prop}(h:ta σ H fun vs H1=>∃i j:Int,vs=[.int i,.int j,.int (-1)]/\(-(2^61)<=i/\i<2^61/\-(2^61)<=j/\j<2^61)/\R (Itd i (i-j).toNat) H1):iRngD ta σ H R:=h
theorem j40{lo:Int}{n:Nat}{g:TG}{tb:TS}{D:Ends}{σ:St}{H:Hp}(Pv:Nat->St->Hp->Prop)(h0:Pv 0 σ H)(hs:∀i σ H,i<n->Pv i σ H->g (.int (lo-i)) σ H fun σ2 H2=>tb {D with nx:=Pv (i+1),ct:=Pv (i+1),bk:=D.nx} σ2 H2)(hd:∀σ H,Pv n σ H->D.nx σ H) :
  ∃W:Nat->Nat->St->Hp->Prop,(∃m,W 0 m σ H)/\∀i m σ H,W i m σ H->
   ((Itd lo n).stop i H/\D.nx σ H)\/((Itd lo n).go i H/\∃N:St->Hp->Prop,(∀σ' H',N σ' H'->∃m',m'<m/\W (i+1) m' σ' H')/\∀x H',(Itd lo n).yld i H x H'->g x σ H' fun σ2 H2=>tb {D with nx:=N,ct:=N,bk:=D.nx} σ2 H2):=by
 refine⟨fun i m σ H=>m=n-i/\i<=n/\Pv i σ H,⟨n,by simp,va _,h0⟩,?_⟩;rintro i m σ H ⟨rfl,hi,p⟩;by_cases hlt:i<n
 ·refine .inr ⟨hlt,Pv (i+1),fun σ' H' p'=>⟨n-(i+1),by lia,rfl,hlt,p'⟩,fun x H' y=>?_⟩;obtain⟨e,y⟩:=y;subst e y;exact hs i σ _ hlt p
 ·have e:i=n:=by lia
  subst e;exact .inl ⟨vb _,hd σ H p⟩
section
variable{X:Cx}
theorem xD:MtR X "list.index" (fun x vs H Q=>∃(p:Addr) (xs:List V) (y z:V) (j:Nat),x = .ref p/\vs=[y]/\SqL X.K H p xs/\flatV y=true/\xs.all flatV=true/\xs[j]?=some z/\eqV z y=true/\(∀(m:Nat) (z':V),m<j->xs[m]?=some z'->eqV z' y=false)/\Q (.int j) H):=by
 intro pins s σ H x vs v us Q I rx rv h;obtain⟨p,xs,y,z,j,rfl,rfl,hx,fy,fx,hj,ez,hno,q⟩:=h;cases rx;obtain⟨u,rfl,ru⟩:=vals1 rv;obtain⟨its,r,pl,hz⟩:=I.list hx;have lx:=r.length;have jl:=(vx.mp hj).1;obtain⟨w',hw,rw'⟩:=r.get hj;have fz:flatV z=true:=all_eq_true.mp fx z (vm hj);obtain⟨⟨cls,dd,data,sl⟩,ho,hc,n,hd⟩:=id pl.isList;simp only at hc hd;subst hc hd;have hj':j<its.toArray.size:=by rw[size_toArray];lia
 have sl62:sizeLine<2^62:=by decide
 have j62:(j:Int)<2^63-1:=by lia
 refine call_meets F.slot_list_index pl.isList.typeIs F.entry_list_index (F.args_list_index_2 _ _) (SeqAt.list_indexAt p its.toArray n dd sl u (eqU y) j hj' j62 ?_ ?_) ⟨ho,fun y' hy'=>Z3 ru fy r fx y' (by simpa using hy'),⟨.int j,H,I.tok _,⟨_,rfl⟩,q⟩⟩
 ·have e:its.toArray[j]=w':=by
   have:=vx.mp hw;obtain⟨h,e⟩:=this;simpa using e
  rw[e,Xm rw' fz];exact ez
 ·intro m hm hmj;have hm':m<its.length:=by rw[size_toArray]at hm;exact hm
  obtain⟨z',hz'⟩:∃z',xs[m]?=some z':=⟨_,vz (by lia)⟩
  obtain⟨w2,hw2,rw2⟩:=r.get hz';have e:its.toArray[m]=w2:=by
   obtain⟨h,e⟩:=vx.mp hw2;simpa using e
  rw[e,Xm rw2 (all_eq_true.mp fx z' (vm hz'))];exact hno m z' hmj hz'
end
section
variable{prog:Program}{w:World}{A:Around}{E:Value->Shared->Prop}{s:Shared}
end
section
variable{X:Cx}{pos:Pos}
end
section
variable{σ:St}{H:Hp}{D:Ends}{Q:VK}{ta tb te:TE}
theorem rd_seq{t u:TS}(h:t {D with nx:=u D} σ H):tSeq t u D σ H:=h
theorem rd_asg{g:TG}(h:te σ H fun x H1=>g x σ H1 D.nx):tAsg te g D σ H:=h
theorem rd_v0{v:V}{r:St}(h:Q v H):tVar 0 (some v::r) H Q:=⟨v,rfl,h⟩
theorem rd_n0{a0:Option V}{v:V}{r:St}{R:St->Hp->Prop}(h:R (some v::r) H):gName 0 v (a0::r) H R:=h
theorem rd_v1{a0:Option V}{v:V}{r:St}(h:Q v H):tVar 1 (a0::some v::r) H Q:=⟨v,rfl,h⟩
theorem rd_n1{a0 a1:Option V}{v:V}{r:St}{R:St->Hp->Prop}(h:R (a0::some v::r) H):gName 1 v (a0::a1::r) H R:=h
theorem rd_v2{a0 a1:Option V}{v:V}{r:St}(h:Q v H):tVar 2 (a0::a1::some v::r) H Q:=⟨v,rfl,h⟩
theorem rd_n2{a0 a1 a2:Option V}{v:V}{r:St}{R:St->Hp->Prop}(h:R (a0::a1::some v::r) H):gName 2 v (a0::a1::a2::r) H R:=h
theorem rd_v3{a0 a1 a2:Option V}{v:V}{r:St}(h:Q v H):tVar 3 (a0::a1::a2::some v::r) H Q:=⟨v,rfl,h⟩
theorem rd_n3{a0 a1 a2 a3:Option V}{v:V}{r:St}{R:St->Hp->Prop}(h:R (a0::a1::a2::some v::r) H):gName 3 v (a0::a1::a2::a3::r) H R:=h
theorem rd_v4{a0 a1 a2 a3:Option V}{v:V}{r:St}(h:Q v H):tVar 4 (a0::a1::a2::a3::some v::r) H Q:=⟨v,rfl,h⟩
theorem rd_n4{a0 a1 a2 a3 a4:Option V}{v:V}{r:St}{R:St->Hp->Prop}(h:R (a0::a1::a2::a3::some v::r) H):gName 4 v (a0::a1::a2::a3::a4::r) H R:=h
theorem rd_v5{a0 a1 a2 a3 a4:Option V}{v:V}{r:St}(h:Q v H):tVar 5 (a0::a1::a2::a3::a4::some v::r) H Q:=⟨v,rfl,h⟩
theorem rd_n5{a0 a1 a2 a3 a4 a5:Option V}{v:V}{r:St}{R:St->Hp->Prop}(h:R (a0::a1::a2::a3::a4::some v::r) H):gName 5 v (a0::a1::a2::a3::a4::a5::r) H R:=h
theorem rd_v6{a0 a1 a2 a3 a4 a5:Option V}{v:V}{r:St}(h:Q v H):tVar 6 (a0::a1::a2::a3::a4::a5::some v::r) H Q:=⟨v,rfl,h⟩
theorem rd_n6{a0 a1 a2 a3 a4 a5 a6:Option V}{v:V}{r:St}{R:St->Hp->Prop}(h:R (a0::a1::a2::a3::a4::a5::some v::r) H):gName 6 v (a0::a1::a2::a3::a4::a5::a6::r) H R:=h
theorem rd_v7{a0 a1 a2 a3 a4 a5 a6:Option V}{v:V}{r:St}(h:Q v H):tVar 7 (a0::a1::a2::a3::a4::a5::a6::some v::r) H Q:=⟨v,rfl,h⟩
theorem rd_n7{a0 a1 a2 a3 a4 a5 a6 a7:Option V}{v:V}{r:St}{R:St->Hp->Prop}(h:R (a0::a1::a2::a3::a4::a5::a6::some v::r) H):gName 7 v (a0::a1::a2::a3::a4::a5::a6::a7::r) H R:=h
theorem rd_v8{a0 a1 a2 a3 a4 a5 a6 a7:Option V}{v:V}{r:St}(h:Q v H):tVar 8 (a0::a1::a2::a3::a4::a5::a6::a7::some v::r) H Q:=⟨v,rfl,h⟩
theorem rd_n8{a0 a1 a2 a3 a4 a5 a6 a7 a8:Option V}{v:V}{r:St}{R:St->Hp->Prop}(h:R (a0::a1::a2::a3::a4::a5::a6::a7::some v::r) H):gName 8 v (a0::a1::a2::a3::a4::a5::a6::a7::a8::r) H R:=h
theorem rd_v9{a0 a1 a2 a3 a4 a5 a6 a7 a8:Option V}{v:V}{r:St}(h:Q v H):tVar 9 (a0::a1::a2::a3::a4::a5::a6::a7::a8::some v::r) H Q:=⟨v,rfl,h⟩
theorem rd_n9{a0 a1 a2 a3 a4 a5 a6 a7 a8 a9:Option V}{v:V}{r:St}{R:St->Hp->Prop}(h:R (a0::a1::a2::a3::a4::a5::a6::a7::a8::some v::r) H):gName 9 v (a0::a1::a2::a3::a4::a5::a6::a7::a8::a9::r) H R:=h
theorem rd_v10{a0 a1 a2 a3 a4 a5 a6 a7 a8 a9:Option V}{v:V}{r:St}(h:Q v H):tVar 10 (a0::a1::a2::a3::a4::a5::a6::a7::a8::a9::some v::r) H Q:=⟨v,rfl,h⟩
theorem rd_n10{a0 a1 a2 a3 a4 a5 a6 a7 a8 a9 a10:Option V}{v:V}{r:St}{R:St->Hp->Prop}(h:R (a0::a1::a2::a3::a4::a5::a6::a7::a8::a9::some v::r) H):gName 10 v (a0::a1::a2::a3::a4::a5::a6::a7::a8::a9::a10::r) H R:=h
theorem rd_v11{a0 a1 a2 a3 a4 a5 a6 a7 a8 a9 a10:Option V}{v:V}{r:St}(h:Q v H):tVar 11 (a0::a1::a2::a3::a4::a5::a6::a7::a8::a9::a10::some v::r) H Q:=⟨v,rfl,h⟩
theorem rd_n11{a0 a1 a2 a3 a4 a5 a6 a7 a8 a9 a10 a11:Option V}{v:V}{r:St}{R:St->Hp->Prop}(h:R (a0::a1::a2::a3::a4::a5::a6::a7::a8::a9::a10::some v::r) H):gName 11 v (a0::a1::a2::a3::a4::a5::a6::a7::a8::a9::a10::a11::r) H R:=h
theorem rd_v12{a0 a1 a2 a3 a4 a5 a6 a7 a8 a9 a10 a11:Option V}{v:V}{r:St}(h:Q v H):tVar 12 (a0::a1::a2::a3::a4::a5::a6::a7::a8::a9::a10::a11::some v::r) H Q:=⟨v,rfl,h⟩
theorem rd_n12{a0 a1 a2 a3 a4 a5 a6 a7 a8 a9 a10 a11 a12:Option V}{v:V}{r:St}{R:St->Hp->Prop}(h:R (a0::a1::a2::a3::a4::a5::a6::a7::a8::a9::a10::a11::some v::r) H):gName 12 v (a0::a1::a2::a3::a4::a5::a6::a7::a8::a9::a10::a11::a12::r) H R:=h
theorem rd_v13{a0 a1 a2 a3 a4 a5 a6 a7 a8 a9 a10 a11 a12:Option V}{v:V}{r:St}(h:Q v H):tVar 13 (a0::a1::a2::a3::a4::a5::a6::a7::a8::a9::a10::a11::a12::some v::r) H Q:=⟨v,rfl,h⟩
theorem rd_n13{a0 a1 a2 a3 a4 a5 a6 a7 a8 a9 a10 a11 a12 a13:Option V}{v:V}{r:St}{R:St->Hp->Prop}(h:R (a0::a1::a2::a3::a4::a5::a6::a7::a8::a9::a10::a11::a12::some v::r) H):gName 13 v (a0::a1::a2::a3::a4::a5::a6::a7::a8::a9::a10::a11::a12::a13::r) H R:=h
theorem rd_v14{a0 a1 a2 a3 a4 a5 a6 a7 a8 a9 a10 a11 a12 a13:Option V}{v:V}{r:St}(h:Q v H):tVar 14 (a0::a1::a2::a3::a4::a5::a6::a7::a8::a9::a10::a11::a12::a13::some v::r) H Q:=⟨v,rfl,h⟩
theorem rd_n14{a0 a1 a2 a3 a4 a5 a6 a7 a8 a9 a10 a11 a12 a13 a14:Option V}{v:V}{r:St}{R:St->Hp->Prop}(h:R (a0::a1::a2::a3::a4::a5::a6::a7::a8::a9::a10::a11::a12::a13::some v::r) H):gName 14 v (a0::a1::a2::a3::a4::a5::a6::a7::a8::a9::a10::a11::a12::a13::a14::r) H R:=h
theorem rd_v15{a0 a1 a2 a3 a4 a5 a6 a7 a8 a9 a10 a11 a12 a13 a14:Option V}{v:V}{r:St}(h:Q v H):tVar 15 (a0::a1::a2::a3::a4::a5::a6::a7::a8::a9::a10::a11::a12::a13::a14::some v::r) H Q:=⟨v,rfl,h⟩
theorem rd_n15{a0 a1 a2 a3 a4 a5 a6 a7 a8 a9 a10 a11 a12 a13 a14 a15:Option V}{v:V}{r:St}{R:St->Hp->Prop}(h:R (a0::a1::a2::a3::a4::a5::a6::a7::a8::a9::a10::a11::a12::a13::a14::some v::r) H):gName 15 v (a0::a1::a2::a3::a4::a5::a6::a7::a8::a9::a10::a11::a12::a13::a14::a15::r) H R:=h
theorem rd_v16{a0 a1 a2 a3 a4 a5 a6 a7 a8 a9 a10 a11 a12 a13 a14 a15:Option V}{v:V}{r:St}(h:Q v H):tVar 16 (a0::a1::a2::a3::a4::a5::a6::a7::a8::a9::a10::a11::a12::a13::a14::a15::some v::r) H Q:=⟨v,rfl,h⟩
theorem rd_n16{a0 a1 a2 a3 a4 a5 a6 a7 a8 a9 a10 a11 a12 a13 a14 a15 a16:Option V}{v:V}{r:St}{R:St->Hp->Prop}(h:R (a0::a1::a2::a3::a4::a5::a6::a7::a8::a9::a10::a11::a12::a13::a14::a15::some v::r) H):gName 16 v (a0::a1::a2::a3::a4::a5::a6::a7::a8::a9::a10::a11::a12::a13::a14::a15::a16::r) H R:=h
theorem rd_const{v:V}(h:Q v H):tC v σ H Q:=h
theorem rd_op{r:R2}(h:ta σ H fun x H1=>tb σ H1 fun y H2=>r x y H2 Q):tOp r ta tb σ H Q:=h
theorem rd_un{r:V->Hp->VK->Prop}(h:ta σ H fun x H1=>r x H1 Q):tUn r ta σ H Q:=h
theorem rd_i0{g:Int->Int->V}{i j:Int}(h:Q (g i j) H):rI0 g (.int i) (.int j) H Q:=⟨i,j,rfl,rfl,h⟩
theorem j72{C:Int->Int->Prop}{g:Int->Int->V}{i j:Int}(c:C i j)(h:Q (g i j) H):rI C g (.int i) (.int j) H Q:=⟨i,j,rfl,rfl,c,h⟩
theorem rd_u{g:Int->V}{i:Int}(h:Q (g i) H):rU g (.int i) H Q:=⟨i,rfl,h⟩
theorem rd_eqI{i j:Int}(h:Q (.bl (decide (i=j))) H):rEq (.int i) (.int j) H Q:=by
 refine⟨rfl,?_⟩;rw[show decide (V.int i=V.int j)=decide (i=j) by simp];exact h
theorem rd_neI{i j:Int}(h:Q (.bl (!decide (i=j))) H):rNe (.int i) (.int j) H Q:=by
 refine⟨rfl,?_⟩;rw[show decide (V.int i=V.int j)=decide (i=j) by simp];exact h
theorem rd_eqS{i j:Str}(h:Q (.bl (decide (i=j))) H):rEq (.str i) (.str j) H Q:=by
 refine⟨rfl,?_⟩;rw[show decide (V.str i=V.str j)=decide (i=j) by simp];exact h
theorem rd_if{c:TT}{t u:TS}(h:c σ H fun b H1=>if b=true then t D σ H1 else u D σ H1):tIfS c t u D σ H:=h
theorem rd_test{R:Bool->Hp->Prop}(h:te σ H fun x H'=>∃k,x = .bl k/\R k H'):tTest te σ H R:=h
theorem rd_tB{R:Bool->Hp->Prop}(h:te σ H fun x H'=>∃k,x = .bl k/\R k H'):tB te σ H R:=h
theorem rd_blP{k:Bool}{R:Bool->Prop}(h:R k):∃k',V.bl k = .bl k'/\R k':=⟨k,rfl,h⟩
theorem rd_not{t:TT}{R:Bool->Hp->Prop}(h:t σ H fun c H1=>R (!c) H1):tNot t σ H R:=h
theorem rd_and{t u:TT}{R:Bool->Hp->Prop}(h:t σ H fun c H1=>if c=true then u σ H1 R else R false H1):tAnd t u σ H R:=h
theorem rd_or{t u:TT}{R:Bool->Hp->Prop}(h:t σ H fun c H1=>if c=true then R true H1 else u σ H1 R):tOr t u σ H R:=h
theorem rd_andV(h:ta σ H fun x H1=>∃c,x = .bl c/\if c=true then tb σ H1 Q else Q (.bl false) H1):tAndV ta tb σ H Q:=h
theorem rd_notV(h:ta σ H fun x H1=>∃c,x = .bl c/\Q (.bl (!c)) H1):tNotV ta σ H Q:=h
theorem rd_ifE{t:TT}(h:t σ H fun c H1=>if c=true then ta σ H1 Q else tb σ H1 Q):tIf t ta tb σ H Q:=h
theorem rd_ret(h:te σ H D.rt):tRet te D σ H:=h
theorem rd_next(h:D.nx σ H):tNext D σ H:=h
theorem rd_drop(h:te σ H fun _ H1=>D.nx σ H1):tDrop te D σ H:=h
theorem rd_cb{r:List V->Hp->VK->Prop}{t:TA}(h:t σ H fun vs H1=>r vs H1 Q):tCB r t σ H Q:=h
theorem rd_call{sp:Sp}{dvs:List V}{E:XK}{t:TA}(h:t σ H fun vs H1=>sp (vs++dvs) H1 Q E):tCall sp dvs E t σ H Q:=h
theorem rd_fld{K:Frg}{f:Str}(h:ta σ H fun x H1=>∃a C dx fs v,x = .ref a/\H1 a=some (.ins C dx fs)/\Cls K C/\NoAttr K C f/\fs.lookup f=some v/\Q v H1):tFld K ta f σ H Q:=h
theorem rd_sfld{K:Frg}{f:Str}(h:tb σ H fun y H1=>ta σ H1 fun x H2=>∃a C dx fs,x = .ref a/\H2 a=some (.ins C dx fs)/\Cls K C/\NoAttr K C f/\fs.length<1000/\D.nx σ (upd H2 a (.ins C dx (putF f y fs)))):sFld K ta tb f D σ H:=h
theorem rd_meth{C:Addr}{m:Str}{sp:Sp}{dvs:List V}{E:XK}{t:TA}(h:ta σ H fun x H1=>∃a dx fs,x = .ref a/\H1 a=some (.ins C dx fs)/\fs.lookup m=none/\t σ H1 fun vs H2=>sp (x::(vs++dvs)) H2 Q E):tMeth C m sp dvs E ta t σ H Q:=h
theorem rd_make{C:Addr}{sp:Sp}{dvs:List V}{E:XK}{t:TA}(h:t σ H fun vs H1=>∀x dx,H1 x=none->H1 dx=none->dx≠x->sp (.ref x::(vs++dvs)) (upd (upd H1 dx (.own x)) x (.ins C dx [])) (fun v H2=>v = .non/\Q (.ref x) H2) E):tMake C sp dvs E t σ H Q:=h
theorem rd_nil{R:List V->Hp->Prop}(h:R [] H):tNil σ H R:=h
theorem rd_cons{tr:TA}{R:List V->Hp->Prop}(h:ta σ H fun x H1=>tr σ H1 fun xs H2=>R (x::xs) H2):tCons ta tr σ H R:=h
theorem rd_lst{t:TA}(h:t σ H fun xs H1=>xs.length<=sizeLine/\∀p,H1 p=none->Q (.ref p) (upd H1 p (.lst xs))):tLst t σ H Q:=h
theorem rd_tup{t:TA}(h:t σ H fun xs H1=>xs.length<=sizeLine/\∀p,H1 p=none->Q (.ref p) (upd H1 p (.tup xs))):tTup t σ H Q:=h
theorem rd_chain{r r':R2}{tc:TE}(h:ta σ H fun x H1=>tb σ H1 fun y H2=>r x y H2 fun z H3=>∃k,z = .bl k/\(if k=true then tc σ H3 fun w' H4=>r' y w' H4 Q else Q (.bl false) H3)):tChain r r' ta tb tc σ H Q:=h
theorem rd_bm{K:Frg}{T:String}{r:V->List V->Hp->VK->Prop}{t:TA}(h:te σ H fun x H1=>tyV K T x H1/\t σ H1 fun xs H2=>r x xs H2 Q):tBM K T r te t σ H Q:=h
theorem rd_sl{r:V->Option Int->Option Int->Hp->VK->Prop}{tl th:TO}(h:te σ H fun x H1=>tl σ H1 fun l H2=>th σ H2 fun u H3=>r x l u H3 Q):tSl r te tl th σ H Q:=h
theorem rd_nopart{R:Option Int->Hp->Prop}(h:R none H):tNoPart σ H R:=h
theorem rd_part{R:Option Int->Hp->Prop}(h:te σ H fun x H1=>∃i,x = .int i/\R (some i) H1):tPart te σ H R:=h
theorem rd_int{i:Int}{R:Int->Prop}(h:R i):∃i',V.int i = .int i'/\R i':=⟨i,rfl,h⟩
theorem iteD{p A B:Prop}[Decidable p](h1:p->A)(h2:¬p->B):if decide p=true then A else B:=by
 by_cases h:p
 ·rw[vd (vG h)];exact h1 h
 ·rw[vc (by simpa using h)];exact h2 h
theorem iteN{p A B:Prop}[Decidable p](h1:¬p->A)(h2:p->B):if(!decide p)=true then A else B:=by
 by_cases h:p
 ·rw[vc (by simpa using h)];exact h2 h
 ·rw[vd (by simpa using h)];exact h1 h
theorem rd_rng1{ta:TA}{R:It->Hp->Prop}(h:ta σ H fun vs H1=>∃j:Int,vs=[.int j]/\-(2^62)<=j/\j<2^62/\R (Itr 0 j.toNat) H1):iRng1 ta σ H R:=h
theorem rd_iList{K:Frg}{R:It->Hp->Prop}(h:te σ H fun x H1=>∃a,x = .ref a/\(∃xs,SqL K H1 a xs)/\R (Itl K a) H1):iList K te σ H R:=h
theorem rd_p18(h:Q (.int (10^18)) H):rI CPow (fun i j=>.int (i^j.toNat)) (.int 10) (.int 18) H Q:=⟨10,18,rfl,rfl,⟨by decide,by decide,by decide⟩,h⟩
theorem rd_p30(h:Q (.int (10^30)) H):rI CPow (fun i j=>.int (i^j.toNat)) (.int 10) (.int 30) H Q:=⟨10,30,rfl,rfl,⟨by decide,by decide,by decide⟩,h⟩
theorem rd_p60(h:Q (.int (10^60)) H):rI CPow (fun i j=>.int (i^j.toNat)) (.int 10) (.int 60) H Q:=⟨10,60,rfl,rfl,⟨by decide,by decide,by decide⟩,h⟩
theorem rd_aug{i:Nat}{ti:TIp}(h:tVar i σ H fun x H0=>te σ H0 fun y H1=>ti x y H1 fun z H2=>gName i z σ H2 D.nx):tAug i te ti D σ H:=h
theorem rd_ipI{f:Int->Int->Int}{i j:Int}(h:Q (.int (f i j)) H):ipI f (.int i) (.int j) H Q:=⟨i,j,rfl,rfl,h⟩
theorem rd_for{wi:TI}{g:TG}{tb:TS} (h:wi σ H fun J H1=>∃W:Nat->Nat->St->Hp->Prop,(∃m,W 0 m σ H1)/\∀i m σ H,W i m σ H->
 (J.stop i H/\D.nx σ H)\/(J.go i H/\∃N:St->Hp->Prop,(∀σ' H',N σ' H'->∃m',m'<m/\W (i+1) m' σ' H')/\∀x H',J.yld i H x H'->g x σ H' fun σ2 H2=>tb {D with nx:=N,ct:=N,bk:=D.nx} σ2 H2)):tFor wi g tb D σ H:=h
theorem rd_comp{wi:TI}{n:Nat}{ci:List Nat}{g:TG}{tf:TT} (h:wi σ H fun J H1=>∃W:Nat->Nat->List V->Hp->Prop,(∃m,W 0 m [] H1)/\∀i m ys H,W i m ys H->
 (J.stop i H/\ys.length<=sizeLine/\∀p,H p=none->Q (.ref p) (upd H p (.lst ys)))\/
 (J.go i H/\∃N:List V->Hp->Prop,(∀ys' H',N ys' H'->∃m',m'<m/\W (i+1) m' ys' H')/\∀x H',J.yld i H x H'->g x (capS n ci σ) H' fun σ2 H2=>tf σ2 H2 fun b H3=>
  if b=true then te σ2 H3 fun v H4=>ys.length<sizeLine/\N (ys++[v]) H4 else N ys H3)):tComp wi n ci g tf te σ H Q:=h
theorem rd_yes{R:Bool->Hp->Prop}(h:R true H):tYes σ H R:=h
theorem qQ{n:Nat}{ci:List Nat}{g:TG}{x:V}{σ':St}{R:St->Hp->Prop}(e:capS n ci σ=σ')(h:g x σ' H R):g x (capS n ci σ) H R:=by rw[e];exact h
theorem jz{t:TS}{σ':St}(e:σ=σ')(h:t D σ' H):t D σ H:=by subst e;exact h
theorem j2f{x b B:Int}(hb:0<b)(h1 : -B<=x)(h2:x<=B) : -B<=x/b/\x/b<=B:=by
 have hB:0<=B:=by lia
 constructor
 ·rw[Int.le_ediv_iff_mul_le hb];have:=Int.mul_le_mul_of_nonneg_left (show(1:Int)<=b by lia) hB;rw[Int.neg_mul];lia
 ·have:x/b<B+1:=by
   rw[Int.ediv_lt_iff_lt_mul hb];have:=Int.mul_le_mul_of_nonneg_left (show(1:Int)<=b by lia) (show 0<=B+1 by lia);lia
  lia
theorem j4m{x y A B:Int}(h1 : -A<=x)(h2:x<=A)(h3 : -B<=y)(h4:y<=B) : -(A*B)<=x*y/\x*y<=A*B:=by
 have hx:x.natAbs<=A.toNat:=by lia
 have hy:y.natAbs<=B.toNat:=by lia
 have h:=Nat.mul_le_mul hx hy;rw[<-Int.natAbs_mul]at h;have e:((A.toNat*B.toNat:Nat):Int)=A*B:=by
  rw[Int.natCast_mul,Int.toNat_of_nonneg (by lia),Int.toNat_of_nonneg (by lia)]
 have h':((x*y).natAbs:Int)<=A*B:=by rw[<-e];exact Int.ofNat_le.mpr h
 lia
theorem j5P{H H':Hp}{p:Addr}{o:HO}(h:H p=none)(e:upd H p o=H'):Same H H':=fun b u q=>by rw[<-e,jg (je q h)];exact q
theorem qp{H H':Hp}{p:Addr}{o:HO}(e:upd H p o=H'):H' p=some o:=by rw[<-e];exact jC
end
theorem ixLm{K:Frg}{p:Addr}{xs:List V}{i:Int}{v:V}{H:Hp}{Q:VK}(h:SqL K H p xs)(e:atI xs i=some v)(q:Q v H):rIxL K (.ref p) (.int i) H Q:=⟨p,xs,i,v,rfl,rfl,h,e,q⟩
theorem ixTm{K:Frg}{p:Addr}{xs:List V}{i:Int}{v:V}{H:Hp}{Q:VK}(h:SqT K H p xs)(e:atI xs i=some v)(q:Q v H):rIxT K (.ref p) (.int i) H Q:=⟨p,xs,i,v,rfl,rfl,h,e,q⟩
end L2
local macro_rules | `(tactic| walk_at "side") => `(tactic| first | with_reducible assumption | exact L2.cdivB (by lia) (by lia) | exact L2.mulOk (by lia) (by lia) (by lia) (by lia) | exact L2.mulOkC (by first | assumption | exact L2.bits_ediv (by assumption) _) (by lia) (by lia) | lia)
local macro_rules | `(tactic| walk_at $s:str) => do
 let ws:=s.getString.splitOn " "
 if ws.head?==some "f" then
  let vs:=if ws.length==3 then["p"++ws.getD 1 "","hp"++ws.getD 1 "","H"++ws.getD 1 "","s"++ws.getD 1 "",ws.getD 2 ""++ws.getD 1 ""]else ws.drop 1
  let i:=fun(k:Nat)=>Lean.mkIdent (Lean.Name.mkSimple (vs.getD k ""))
  return <-`(tactic| (intro $(i 0):ident $(i 1):ident;generalize eH:L2.upd _ $(i 0) _ = $(i 2):ident;have $(i 3):ident:=L2.j5P $(i 1) eH;have $(i 4):ident:=L2.qp eH;clear eH))
 if s.getString != "g" then Lean.Macro.throwUnsupported
 let as <-("rd_seq rd_asg rd_op rd_const rd_i0 rd_cons rd_nil rd_call rd_ret rd_if rd_test rd_tB rd_blP rd_not rd_next rd_v0 rd_v1 rd_v2 rd_v3 rd_v4 rd_v5 rd_v6 rd_v7 rd_v8 rd_v9 rd_v10 rd_v11 rd_v12 rd_v13 rd_v14 rd_v15 rd_v16 rd_un rd_u rd_and rd_or rd_andV rd_notV rd_ifE rd_drop rd_cb rd_lst rd_tup rd_chain rd_bm rd_sl rd_nopart rd_part rd_eqI rd_neI rd_eqS rd_str rd_int rd_rng1 rd_iList rd_ipI rd_aug rd_for rd_comp rd_yes rd_dget rd_iTup rd_sub rd_iEnum rd_iZip rd_dnew rd_dput rd_bm0 rd_iRev rd_tru rd_revS rd_rngD rd_fld rd_sfld rd_meth rd_make rd_n0 rd_n1 rd_n2 rd_n3 rd_n4 rd_n5 rd_n6 rd_n7 rd_n8 rd_n9 rd_n10 rd_n11 rd_n12 rd_n13 rd_n14 rd_n15 rd_n16 rd_p18 rd_p30 rd_p60".splitOn " ").toArray.mapM λn=>`(Lean.Parser.Tactic.tacticSeq| refine $(Lean.mkIdent (Lean.Name.mkStr2 "L2" n)) ?_)
 `(tactic| repeat first | with_reducible (first $[| $as]*) | (with_reducible refine L2.j72 ?c ?_; (case c => ((try dsimp only); walk_at "side"))))
local macro_rules | `(tactic| exists $e) => `(tactic| (walk_at "g"; refine $e))
namespace Fs
noncomputable def G(b s:Nat):Nat->Nat->Nat
 | 0,_=>0
 | m+1,r=>G b s m r+(b*m+r)/s
theorem j3N{b s:Nat}(hs:0<s)(r:Nat):∀m,G b s m (r+s)=G b s m r+m
 | 0=>rfl
 | m+1=>by
  have h:=j3N (b:=b) hs r m;have e:(b*m+(r+s))/s=(b*m+r)/s+1:=by
   rw[<-Nat.add_assoc,Nat.add_div_right _ hs]
  simp only[G];rw[h,e];lia
theorem j22(b s r:Nat):∀m,G b s (m+1) r=r/s+G b s m (b+r)
 | 0=>by simp[G]
 | m+1=>by
  have h:=j22 b s r m;have e:b*(m+1)+r=b*m+(b+r):=by rw[Nat.mul_add];lia
  rw[G,h,e];simp only[G];lia
noncomputable def F(s q b:Nat):Nat->Nat
 | 0=>0
 | n+1=>F s q b n+(s*n+q)/b
theorem recip{b s q:Nat}(hsb:s<b)(hq:q<b):∀n,F s q b n=G b s ((s*n+q)/b) ((s*n+q)%b)
 | 0=>by
  have e:(s*0+q)/b=0:=by rw[Nat.mul_zero,Nat.zero_add];exact Nat.div_eq_of_lt hq
  rw[e];rfl
 | n+1=>by
  have h:=recip hsb hq n;have hb:0<b:=by lia
  have e:s*(n+1)+q=s*n+q+s:=by rw[Nat.mul_add];lia
  simp only[F];rw[h,e];generalize hx:s*n+q=x;have hd:=Nat.div_add_mod x b;have hm:=Nat.mod_lt x hb;generalize hM:x/b=M at *;generalize hr:x%b=r at *;by_cases hc:r+s<b
  ·have e1:(x+s)/b=M:=by
    rw[show x+s=(r+s)+b*M by lia,Nat.add_mul_div_left _ _ hb,Nat.div_eq_of_lt hc,Nat.zero_add]
   have e2:(x+s)%b=r+s:=by
    rw[show x+s=(r+s)+b*M by lia,Nat.add_mul_mod_self_left,Nat.mod_eq_of_lt hc]
   rw[e1,e2];by_cases hs:0<s
   ·rw[j3N hs]
   ·have hs0:s=0:=by lia
    subst hs0;have hxq:x=q:=by rw[<-hx];simp
    have hM0:M=0:=by rw[<-hM,hxq];exact Nat.div_eq_of_lt hq
    rw[hM0];rfl
  ·have hs:0<s:=by lia
   have e1:(x+s)/b=M+1:=by
    rw[show x+s=(r+s-b)+b*(M+1) by rw[Nat.mul_add];lia,Nat.add_mul_div_left _ _ hb,Nat.div_eq_of_lt (by lia),Nat.zero_add]
   have e2:(x+s)%b=r+s-b:=by
    rw[show x+s=(r+s-b)+b*(M+1) by rw[Nat.mul_add];lia,Nat.add_mul_mod_self_left,Nat.mod_eq_of_lt (by lia)]
   rw[e1,e2,j22,Nat.div_eq_of_lt (by lia),show b+(r+s-b)=r+s by lia,j3N hs];lia
noncomputable def fs:Nat->Int->Int->Int->Int
 | 0,_,_,_=>0
 | n+1,t,p,b=>fs n t p b+(t*(n:Int)+p)/b
noncomputable def fsum(many t p b:Int):Int:=fs many.toNat t p b
theorem j41(s q b:Nat):∀n,fs n (s:Int) (q:Int) (b:Int)=(F s q b n:Nat)
 | 0=>rfl
 | n+1=>by
  rw[fs,F,j41 s q b n]
  norm_cast
theorem j6N(b s r:Nat):∀m,(G b s m r:Nat)=fs m (b:Int) (r:Int) (s:Int)
 | 0=>rfl
 | m+1=>by
  rw[fs,G,<-j6N b s r m]
  norm_cast
noncomputable def tri(n:Nat):Int:=((n:Int)*((n:Int)-1))/2
theorem j54(n:Nat):tri (n+1)=tri n+n:=by
 unfold tri;have e:((n+1:Nat):Int)*(((n+1:Nat):Int)-1)=(n:Int)*((n:Int)-1)+n*2:=by
  have:((n+1:Nat):Int)=(n:Int)+1:=by lia
  rw[this,show(n:Int)+1-1=n by lia,Int.add_mul,Int.mul_sub,uw,Int.mul_one];lia
 rw[e,Int.add_mul_ediv_right _ _ (by decide)]
theorem j1T{b:Int}(hb:0<b)(t p j:Int) :
  (t*j+p)/b=j*(t/b)+p/b+(t%b*j+p%b)/b:=by
 have h1:=Int.mul_ediv_add_emod t b;have h2:=Int.mul_ediv_add_emod p b;have e:t*j+p=(t%b*j+p%b)+b*(j*(t/b)+p/b):=by
  have h3:t*j=(b*(t/b)+t%b)*j:=by rw[h1]
  have h4:b*(t/b)*j=b*(j*(t/b)):=by rw[Int.mul_assoc,Int.mul_comm (t/b) j]
  rw[h3,Int.add_mul,Int.mul_add,h4];lia
 rw[e,Int.add_mul_ediv_left _ _ (by lia)];have h5:(t%b*j+p%b+b*(j*(t/b)+p/b))=t*j+p:=e.symm;lia
theorem j0m{b:Int}(hb:0<b)(t p:Int):∀n,fs n t p b=tri n*(t/b)+(n:Int)*(p/b)+fs n (t%b) (p%b) b
 | 0=>by
  have:tri 0=0:=by decide
  rw[this];simp[fs]
 | n+1=>by
  rw[fs,fs,j0m hb t p n,j1T hb,j54,Int.add_mul];have:((n+1:Nat):Int)=(n:Int)+1:=by lia
  rw[this,Int.add_mul,uw];lia
theorem j5r{b:Int}(hb:0<b)(t p:Int){m:Int}(hm:0<=m) :
  fsum m t p b=(m*(m-1))/2*(t/b)+m*(p/b)
   + fsum ((t%b*m+p%b)/b) b ((t%b*m+p%b)%b) (t%b):=by
 have h:=j0m hb t p m.toNat;have hmm:((m.toNat:Nat):Int)=m:=by lia
 unfold fsum;rw[h];unfold tri;rw[hmm];have s0:=ve t (show b≠0 by lia);have s1:=vf t hb;have q0:=ve p (show b≠0 by lia);have q1:=vf p hb;generalize t%b=s at *;generalize p%b=q at *;have key:fs m.toNat s q b=fs ((s*m+q)/b).toNat b ((s*m+q)%b) s:=by
  have eb:((b.toNat:Nat):Int)=b:=by lia
  have es:((s.toNat:Nat):Int)=s:=by lia
  have eq:((q.toNat:Nat):Int)=q:=by lia
  have r:=recip (b:=b.toNat) (s:=s.toNat) (q:=q.toNat) (by lia) (by lia) m.toNat;have f:=j41 s.toNat q.toNat b.toNat m.toNat;rw[eb,es,eq,r,j6N,eb,es]at f;have ed:(s*m+q)/b=(((s.toNat*m.toNat+q.toNat)/b.toNat:Nat):Int):=by
   push_cast
   rw[eb,es,eq,hmm]
  have em:(s*m+q)%b=(((s.toNat*m.toNat+q.toNat)%b.toNat:Nat):Int):=by
   push_cast
   rw[eb,es,eq,hmm]
  rw[ed,em];exact f
 rw[key]
theorem xu{m:Int}(h:m<=0)(t p b:Int):fsum m t p b=0:=by
 unfold fsum;rw[show m.toNat=0 by lia];rfl
theorem j39{m:Int}(h:0<=m)(t p b:Int):fsum (m+1) t p b=fsum m t p b+(t*m+p)/b:=by
 unfold fsum;rw[show(m+1).toNat=m.toNat+1 by lia,fs,show((m.toNat:Nat):Int)=m by lia]
theorem round{b t p m:Int}(hb:0<b)(hm:0<m) :
  0<=(t%b*m+p%b)/b/\(t%b*m+p%b)/b<=m/\0<=(t%b*m+p%b)%b/\(t%b*m+p%b)%b<b/\0<=t%b/\t%b<b/\(0<(t%b*m+p%b)/b->0<t%b)/\0<=t%b*m+p%b:=by
 have s0:=ve t (show b≠0 by lia);have s1:=vf t hb;have q0:=ve p (show b≠0 by lia);have q1:=vf p hb;generalize t%b=s at *;generalize p%b=q at *;have sm0:0<=s*m:=vM s0 (Int.le_of_lt hm);have sm1:s*m<=(b-1)*m:=vT (by lia) (Int.le_of_lt hm);rw[Int.sub_mul,uw]at sm1;have r0:=ve (s*m+q) (show b≠0 by lia);have r1:=vf (s*m+q) hb;have d0:0<=(s*m+q)/b:=Int.ediv_nonneg (by lia) (by lia);have e:=Int.mul_ediv_add_emod (s*m+q) b;have d1:(s*m+q)/b<=m:=by
  have:(s*m+q)/b<m+1:=by
   refine Int.lt_of_mul_lt_mul_left (a:=b) ?_ (by lia);rw[Int.mul_add,Int.mul_one];lia
  lia
 refine⟨d0,d1,r0,r1,s0,s1,fun hp=>?_,by lia⟩;rcases(by lia:s=0\/0<s)with hs | hs
 ·subst hs;have:(0*m+q)/b=0:=by
   rw[Int.zero_mul,uz];exact Int.ediv_eq_zero_of_lt q0 q1
  lia
 ·exact hs
end Fs
namespace Rp
noncomputable def ramp(s g b j:Int):Int:=s+(g-s)*j/b
noncomputable def reached(s g b h:Int):Int:=if g>s then -((s-h)*b/(g-s))else(s-h-1)*b/(s-g)+1
theorem Xt{x y q:Int}(hy:0<y):q<=x/y↔q*y<=x:=Int.le_ediv_iff_mul_le hy
theorem j2h{x y q:Int}(hy:0<y):x/y<q↔x<q*y:=by
 have h:=Xt (x:=x) (q:=q) hy;lia
theorem up{s g b h j:Int}(hb:0<b)(hg:s<g):reached s g b h<=j↔h<=ramp s g b j:=by
 unfold reached ramp;rw[vd hg];have h1:=Xt (x:=(g-s)*j) (y:=b) (q:=h-s) hb;have h2:=Xt (x:=(s-h)*b) (y:=g-s) (q:=-j) (by lia);have e1 : -j*(g-s) = -((g-s)*j):=by rw[Int.neg_mul,Int.mul_comm]
 have e2:(s-h)*b = -((h-s)*b):=by rw[show s-h = -(h-s) by lia,Int.neg_mul]
 rw[e1,e2]at h2;rw[e2];lia
theorem down{s g b h j:Int}(hb:0<b)(hg:g<s):reached s g b h<=j↔ramp s g b j<=h:=by
 unfold reached ramp;rw[vc (by lia)];have h1:=j2h (x:=(g-s)*j) (y:=b) (q:=h-s+1) hb;have h2:=j2h (x:=(s-h-1)*b) (y:=s-g) (q:=j) (by lia);have e1:(g-s)*j = -(j*(s-g)):=by rw[show g-s = -(s-g) by lia,Int.neg_mul,Int.mul_comm]
 have e2:(h-s+1)*b = -((s-h-1)*b):=by rw[show h-s+1 = -(s-h-1) by lia,Int.neg_mul]
 rw[e1,e2]at h1;rw[e1];lia
noncomputable def beyond(s g h:Int):Int:=if g>s then h+1 else h-1
theorem j6b{s g b h j:Int}(hb:0<b)(hg:g≠s):ramp s g b j=h↔reached s g b h<=j/\j<reached s g b (beyond s g h):=by
 unfold beyond;rcases(by lia:s<g\/g<s)with q | q
 ·rw[vd q];have a:=up (h:=h) (j:=j) hb q;have c:=up (h:=h+1) (j:=j) hb q;lia
 ·rw[vc (by lia)];have a:=down (h:=h) (j:=j) hb q;have c:=down (h:=h-1) (j:=j) hb q;lia
theorem flat{s b j:Int}:ramp s s b j=s:=by
 unfold ramp;rw[Int.sub_self,Int.zero_mul,Int.zero_ediv,Int.add_zero]
theorem ends{s g b:Int}(hb:0<b):ramp s g b b=g:=by
 unfold ramp;rw[Int.mul_ediv_cancel _ (by lia)];lia
noncomputable def imax(a b:Int):Int:=if b>a then b else a
noncomputable def imin(a b:Int):Int:=if b<a then b else a
noncomputable def fst(s g b h:Int):Int:=if g=s then 0 else imax (reached s g b h) 0
noncomputable def lst(s g b h m:Int):Int:=if g=s then(if h=s then m else 0)else imax (fst s g b h) (imin (reached s g b (beyond s g h)) m)
noncomputable def count(s g b h m:Int):Int:=lst s g b h m-fst s g b h
theorem j1l{s g b h:Int}:count s g b h 0=0:=by
 unfold count lst fst imax imin;split
 ·split<;>rfl
 ·split<;>split<;>lia
theorem j1k{s g b h m:Int}(hb:0<b)(hm:0<=m):count s g b h (m+1)-count s g b h m=if ramp s g b m=h then 1 else 0:=by
 unfold count lst fst;by_cases e:g=s
 ·subst e;rw[vd rfl,vd rfl,vd rfl,flat];by_cases q:h=g
  ·rw[vd q,vd q,vd q.symm];lia
  ·rw[vc q,vc q,vc (fun z=>q z.symm)];lia
 ·rw[vc e,vc e,vc e];have a:=j6b (h:=h) (j:=m) hb e;unfold imax imin;by_cases q:ramp s g b m=h
  ·rw[vd q];have a':=a.mp q
   (repeat' split)<;>lia
  ·rw[vc q];have a':¬(reached s g b h<=m/\m<reached s g b (beyond s g h)):=fun z=>q (a.mpr z)
   (repeat' split)<;>lia
end Rp
namespace Rp
end Rp
namespace Pr
open PySem L2
noncomputable def cell(ns:List Int)(k:Int):Int:=ns.getD k.toNat 0
inductive sp_cell_at(K:Frg)(vs:List V)(H:Hp)(Q:VK)(xk:XK):Prop
 | mk (a:Addr) (ns:List Int) (k:Int) (_:vs=[.ref a,.int k]) (_:SqL K H a (ns.map V.int)) (_:ns.length<=63) (_:0<=k) (_:Q (.int (cell ns k)) H):sp_cell_at K vs H Q xk
def j0U:Sp:=fun vs H Q _=>∃i,vs=[.int i]/\Q (.bl true) H
theorem j5h{ns:List Int}{k:Int}(h0:0<=k)(h:k<(ns.length:Int)):atI (ns.map V.int) k=some (.int (cell ns k)):=by
 have ek:k=((k.toNat:Nat):Int):=by lia
 have hk:k.toNat<ns.length:=by lia
 have q:atI (ns.map V.int) ((k.toNat:Nat):Int)=some (.int ns[k.toNat]):=jL (by rw[vv,vz hk]<;>rfl);rw[<-ek]at q;rw[q];unfold cell;rw[vy,vz hk];rfl
end Pr
namespace Pr
open PySem L2
inductive sp_law(K:Frg)(vs:List V)(H:Hp)(Q:VK)(xk:XK):Prop
 | mk (a:Addr) (ns:List Int) (_:vs=[.ref a]) (_:SqL K H a (ns.map V.int)) (_:ns.length<=63) (_:(∀x∈ns,Builtin.Int.intBits x<=1048576)) (_:∀H',Q (.bl true) H'):sp_law K vs H Q xk
end Pr
namespace Pr
open PySem L2
end Pr
namespace Pr
open PySem L2
theorem Kc{H:Hp}{p:Addr}(h:H p=none)(o:HO):Same H (upd H p o):=fun b u q=>by rw[jg (je q h)];exact q
end Pr
namespace Pr
open PySem L2
end Pr
namespace Pr
open PySem L2
def Kg:Sp:=fun vs H Q _=>∃m t p b:Int,vs=[.int m,.int t,.int p,.int b]/\(0<=m/\m<=10^100/\-10^125<=t/\t<=10^125/\-10^125<=p/\p<=10^125/\0<b/\b<=10^125)/\Q (.int (Fs.fsum m t p b)) H
end Pr
namespace Pr
open PySem L2
def B4(s g b j:Int):Prop:=-10^61<=s/\s<=10^61/\-10^61<=g/\g<=10^61/\0<b/\b<=10^61/\-10^61<=j/\j<=10^61
def j2J:Sp:=fun vs H Q _=>∃s g b j:Int,vs=[.int s,.int g,.int b,.int j]/\B4 s g b j/\Q (.int (Rp.ramp s g b j)) H
noncomputable def rsum(s g b m:Int):Int:=s*m+Fs.fsum m (g-s) 0 b
def wt:Sp:=fun vs H Q _=>∃s g b m:Int,vs=[.int s,.int g,.int b,.int m]/\B4 s g b m/\0<=m/\Q (.int (rsum s g b m)) H
def WK:Sp:=fun vs H Q _=>∃s g b h:Int,vs=[.int s,.int g,.int b,.int h]/\B4 s g b h/\g≠s/\Q (.int (Rp.reached s g b h)) H
def WL:Sp:=fun vs H Q _=>∃s g b h m:Int,vs=[.int s,.int g,.int b,.int h,.int m]/\B4 s g b h/\-10^60*2<=h/\h<=10^60*2/\
 ∀p H',Same H H'->H' p=some (.tup [.int (Rp.fst s g b h),.int (Rp.lst s g b h m)])->Q (.ref p) H'
def YM:Sp:=fun vs H Q _=>∃s g b h m:Int,vs=[.int s,.int g,.int b,.int h,.int m]/\B4 s g b h/\-10^60*2<=h/\h<=10^60*2/\∀H',Same H H'->Q (.int (Rp.count s g b h m)) H'
end Pr
namespace Pr
open PySem L2
end Pr
namespace Ws
open PySem PySem.NumText L2
noncomputable def lets:Str:="abcdefghijklmnopqrstuvwxyz"
noncomputable def among(x z:Str):Bool:=decide (∀c∈x.cps.toList,c∈z.cps.toList)
noncomputable def isW(x:Str):Bool:=decide (1<=x.length/\x.length<=8)&&among x lets
end Ws
namespace Ws
open PySem PySem.NumText L2
end Ws
namespace Ws
open PySem L2
end Ws
namespace Rm
open PySem PySem.NumText PyProof.Rows L2
theorem j5k{x:Str}{lo hi:Option Int}:(Txt.slice x lo hi).length<=x.length:=Txt.slice_le x lo hi
theorem j4h{c:Nat}:c∈Ws.lets.cps.toList↔97<=c/\c<=122:=by
 rw[show Ws.lets.cps.toList=List.range' 97 26 by decide +kernel,List.mem_range'_1];lia
open PySem L2
theorem none_of{H H':Hp}{p:Addr}(s:Same H H')(h:H' p=none):H p=none:=by
 cases e:H p with
 | none=>rfl
 | some u=>rw[s _ _ e]at h;cases h
inductive Fm where
 | hold (n:Int) | ring (x:Str) (n:Int) | rise (x:Str) (h n:Int) | row (ps:List Str) | side (ps:List Str) | again (k:Int) (x:Str)
noncomputable def FormAt(H:Hp)(a:Addr):Fm->Prop
 | .hold n=>H a=some (.tup [.str "hold",.int n])
 | .ring x n=>H a=some (.tup [.str "ring",.str x,.int n])
 | .rise x h n=>H a=some (.tup [.str "raise",.str x,.int h,.int n])
 | .row ps=>∃b,H a=some (.tup [.str "row",.ref b])/\H b=some (.tup (ps.map V.str))
 | .side ps=>∃b,H a=some (.tup [.str "side",.ref b])/\H b=some (.tup (ps.map V.str))
 | .again k x=>H a=some (.tup [.str "again",.int k,.str x])
def PartAt(H:Hp)(a:Addr)(p:Str×Fm):Prop:=∃b,H a=some (.tup [.str p.1,.ref b])/\FormAt H b p.2
def LimbAt(H:Hp)(a:Addr)(p:Str×Int):Prop:=H a=some (.tup [.str p.1,.int p.2])
def All2{α:Type}(R:Addr->α->Prop)(as:List Addr)(xs:List α):Prop:=as.length=xs.length/\∀(i:Nat) (a:Addr) (x:α),as[i]?=some a->xs[i]?=some x->R a x
theorem All2.nil{α:Type}{R:Addr->α->Prop}:All2 R [] []:=⟨rfl,fun i a x h=>by simp at h⟩
theorem All2.mono{α:Type}{R S:Addr->α->Prop}{as:List Addr}{xs:List α}(h:All2 R as xs)(k:∀a x,R a x->S a x):All2 S as xs:=⟨h.1,fun i a x h1 h2=>k a x (h.2 i a x h1 h2)⟩
theorem All2.snoc{α:Type}{R:Addr->α->Prop}{as:List Addr}{xs:List α}{a:Addr}{x:α}(h:All2 R as xs)(hx:R a x):All2 R (as++[a]) (xs++[x]):=by
 have hl:=h.1;refine⟨by simp[hl],fun i b y h1 h2=>?_⟩;by_cases hi:i<as.length
 ·rw[vB hi]at h1;rw[vB (by lia)]at h2;exact h.2 i b y h1 h2
 ·rw[vC (by lia)]at h1;rw[vC (by lia)]at h2;have e:i-as.length=0:=by
   have:=(vx.mp h1).1;simp at this;lia
  rw[e]at h1;rw[show i-xs.length=0 by lia]at h2;simp at h1 h2;subst h1 h2;exact hx
theorem All2.get{α:Type}{R:Addr->α->Prop}{as:List Addr}{xs:List α}{i:Nat}{x:α}(h:All2 R as xs)(hx:xs[i]?=some x):∃a,as[i]?=some a/\R a x:=by
 have hi:=(vx.mp hx).1;have hl:=h.1;have ha:as[i]?=some as[i]:=vz (by lia);exact⟨_,ha,h.2 i _ _ ha hx⟩
section
variable{H H':Hp}{z:Ra}{m:Rr}
end
section
variable{m:Rr}{f:Fm}{ks:List Int}{g:Int}
theorem getD_snoc{α:Type}{l:List α}{x d:α}{j:Nat}(h:j<l.length):(l++[x]).getD j d=l.getD j d:=by
 rw[vy,vy,vB h]
end
theorem Yo{as:List Addr}{i:Int}{a:Addr}(h0:0<=i)(h:as[i.toNat]?=some a):atI (as.map V.ref) i=some (.ref a):=by
 have e:atI (as.map V.ref) ((i.toNat:Nat):Int)=some (.ref a):=jL (by rw[vv,h];rfl);rw[Int.toNat_of_nonneg h0]at e;exact e
open PySem PySem.Spec PyProof.Rows L2
theorem KG:∀{ks:List Int} {lo hi:Int},ks.Pairwise (· < ·)->(∀k∈ks,lo<=k/\k<hi)->ks.length<=(hi-lo).toNat
 | [],_,_,_,_=>va _
 | k::r,lo,hi,h,b=>by
  have h1:=KG (ks:=r) (lo:=k+1) (hi:=hi) (vU.mp h).2 fun x hx=>⟨(vU.mp h).1 x hx,(b x (vp _ hx)).2⟩
  have h2:=b k vq;rw[vP];lia
theorem j35{H:Hp}{a:Addr}(h:H a=some (.lst [])):DV H (.ref a) (.list []):=.lst h .nil
theorem shp0:SeqAt.shaped (.list [])=true:=PySem.W.ke_shaped_ints []
theorem j2j(n:Int):∀hs:List Int,inV (.int n) (hs.map V.int)=decide (n∈hs)
 | []=>rfl
 | h::r=>by
  have ih:=j2j n r;unfold inV at ih|-;rw[v7,any_cons,ih];have e:eqV (.int h) (.int n)=decide (h=n):=by
   show decide _=_;simp
  rw[e,Bool.eq_iff_iff];simp only[Bool.or_eq_true,decide_eq_true_eq,mem_cons];constructor
  ·rintro(x | x)
   ·exact .inl x.symm
   ·exact .inr x
  ·rintro(x | x)
   ·exact .inl x.symm
   ·exact .inr x
theorem inI(n:Int)(hs:List Int):(if false=true then !inV (.int n) (hs.map V.int)else inV (.int n) (hs.map V.int))=decide (n∈hs):=by rw[vc (by decide),j2j]
theorem flats:∀hs:List Int,(hs.map V.int).all flatV=true
 | []=>rfl
 | h::r=>by rw[v7,all_cons,flats r];rfl
theorem take_snoc{α:Type}{l:List α}{i:Nat}{x:α}(h:l[i]?=some x):l.take (i+1)=l.take i++[x]:=by
 rw[List.take_add_one,h];rfl
theorem j3G{ms hs:List Int}(hp:ms.Perm hs)(nd:hs.Nodup)(ho:ms.Pairwise (·<=·)):ms.Pairwise (· < ·):=
 (List.Pairwise.and ho (hp.nodup_iff.mpr nd)).imp fun {a b} h=>by have h1:=h.1;have h2:a≠b:=h.2;lia
def Shp(n:Nat)(d:PyData):Prop:=d.canLay0=true/\d.depth<=n
theorem Shp.str{x:Str}(h:PyData.strOk x=true):Shp 0 (.str x):=⟨h,vb _⟩
theorem Shp.mono{n k:Nat}{d:PyData}(h:Shp n d)(hk:n<=k):Shp k d:=⟨h.1,vV h.2 hk⟩
theorem X0{n:Nat}:∀{ds:List PyData},(∀d∈ds,Shp n d)->PyData.canLayAll0 ds=true/\PyData.depthAll ds<=n
 | [],_=>⟨rfl,va _⟩
 | d::r,h=>by
  have h1:=h d vq;have h2:=X0 (ds:=r) fun x hx=>h x (vp _ hx)
  constructor
  ·show(d.canLay0&&PyData.canLayAll0 r)=true;rw[h1.1,h2.1];rfl
  ·show max d.depth (PyData.depthAll r)<=n;exact Nat.max_le.mpr ⟨h1.2,h2.2⟩
theorem Shp.lst{n:Nat}{ds:List PyData}(h:∀d∈ds,Shp n d):Shp (n+1) (.list ds):=⟨(X0 h).1,Nat.succ_le_succ (X0 h).2⟩
theorem Shp.ok{n:Nat}{d:PyData}(h:Shp n d)(hn:n<=64):SeqAt.shaped d=true:=by
 unfold SeqAt.shaped;rw[h.1,Bool.true_and];exact vG (vV h.2 hn)
theorem j5S{x:Str}(h:Ws.isW x=true):PyData.strOk x=true:=by
 unfold Ws.isW Ws.among at h;rw[Bool.and_eq_true]at h;have h2:=of_decide_eq_true h.2;unfold PyData.strOk;rw[Array.all_eq_true_iff_forall_mem];intro c hc;have:=j4h.mp (h2 c (by simpa using hc));exact vG (by lia)
theorem yn{H:Hp}:∀(xs:List Str),DVs H (xs.map V.str) (xs.map PyData.str)
 | []=>.nil
 | x::r=>.cons (.str x) (yn r)
theorem All2.tail{α:Type}{R:Addr->α->Prop}{a:Addr}{x:α}{as:List Addr}{xs:List α}(h:All2 R (a::as) (x::xs)):R a x/\All2 R as xs:=
 ⟨h.2 0 a x rfl rfl,Nat.succ.inj h.1,fun i b y h1 h2=>h.2 (i+1) b y (by simpa using h1) (by simpa using h2)⟩
theorem j4T{n:Nat}{xs:List Str}(h:∀x∈xs,Ws.isW x=true):∀d∈xs.map PyData.str,Shp n d:=fun d hd=>by
 obtain⟨x,hx,rfl⟩:=vK.mp hd;exact(Shp.str (j5S (h x hx))).mono (va _)
structure BookAt(H:Hp)(b pl pp:Addr)(las pas:List Addr)(ls:List (Str×Int))(ps:List (Str×Fm)):Prop where
 t:H b=some (.tup [.ref pl,.ref pp])
 l:H pl=some (.lst (las.map V.ref))
 la:All2 (LimbAt H) las ls
 p:H pp=some (.lst (pas.map V.ref))
 pa:All2 (PartAt H) pas ps
theorem FormAt.same{H H':Hp}{a:Addr}{f:Fm}(s:Same H H')(h:FormAt H a f):FormAt H' a f:=by
 cases f with
 | row ps=>obtain⟨b,h1,h2⟩:=h;exact⟨b,s _ _ h1,s _ _ h2⟩
 | side ps=>obtain⟨b,h1,h2⟩:=h;exact⟨b,s _ _ h1,s _ _ h2⟩
 | hold n=>exact s _ _ h
 | ring x n=>exact s _ _ h
 | rise x g n=>exact s _ _ h
 | again x n=>exact s _ _ h
theorem PartAt.same{H H':Hp}{a:Addr}{p:Str×Fm}(s:Same H H')(h:PartAt H a p):PartAt H' a p:=by
 obtain⟨b,h1,h2⟩:=h;exact⟨b,s _ _ h1,FormAt.same s h2⟩
theorem BookAt.same{H H':Hp}{b pl pp:Addr}{las pas:List Addr}{ls:List (Str×Int)}{ps:List (Str×Fm)}(B:BookAt H b pl pp las pas ls ps)(s:Same H H'):BookAt H' b pl pp las pas ls ps:=
 ⟨s _ _ B.t,s _ _ B.l,B.la.mono fun a x h=>s _ _ h,s _ _ B.p,B.pa.mono fun a x h=>PartAt.same s h⟩
open PyProof.Rows.KTD (inKeys Dat)
theorem at0{x:V}{xs:List V}:atI (x::xs) 0=some x:=jL (j:=0) rfl
theorem iteB0{b:Bool}{A B:Prop}(e:b=false)(h:B):if b=true then A else B:=by rw[e];exact h
theorem iteB1{b:Bool}{A B:Prop}(e:b=true)(h:A):if b=true then A else B:=by rw[e];exact h
theorem All2.at_ref{α:Type}{R:Addr->α->Prop}{as:List Addr}{xs:List α}{i:Nat}{v:V}(h:All2 R as xs)(hv:(as.map V.ref)[i]?=some v):∃a x,v = .ref a/\xs[i]?=some x/\R a x:=by
 rw[vv]at hv;obtain⟨a,ha,rfl⟩:=vg.mp hv;have hi:=(vx.mp ha).1;have hl:=h.1;have hx:xs[i]?=some xs[i]:=vz (by lia);exact⟨a,_,rfl,hx,h.2 i a _ ha hx⟩
theorem Yt:∀{n:Nat} {hs:List Int},hs.Nodup->(∀k∈hs,0<=k/\k<(n:Int))->hs.length<=n
 | 0,hs,_,h=>by
  cases hs with
  | nil=>exact vb _
  | cons k r=>have:=h k vq;lia
 | n+1,hs,nd,h=>by
  by_cases e:(n:Int)∈hs
  ·have i:=Yt (n:=n) (nd.erase (n:Int)) fun k hk=>by
    have h1:=h k (List.mem_of_mem_erase hk);have h2:k≠(n:Int):=fun z=>nd.not_mem_erase (z▸hk)
    lia
   have l:=List.length_erase_of_mem e;lia
  ·have i:=Yt (n:=n) nd fun k hk=>by
    have h1:=h k hk;have h2:k≠(n:Int):=fun z=>e (z▸hk)
    lia
   lia
noncomputable def Fm.ns:Fm->List Str
 | .row ps=>ps
 | .side ps=>ps
 | .again _ x=>[x]
 | _=>[]
noncomputable def numK(xs:List Str):List (Key×V):=xs.zipIdx.map fun p=>(Sum.inr p.1,.int (p.2:Nat))
theorem j3s(xs:List Str)(x:Str):numK (xs++[x])=numK xs++[(Sum.inr x,.int (xs.length:Nat))]:=by
 unfold numK;rw[List.zipIdx_append,vj];simp
theorem j4t(xs:List Str):(numK xs).length=xs.length:=by simp[numK]
theorem xI(xs:List Str):(numK xs).map (·.1)=xs.map Sum.inr:=by
 unfold numK;rw[map_map];have e:∀(k:Nat) (xs:List Str),(xs.zipIdx k).map ((fun x=>x.1)∘fun p:Str×Nat=>((Sum.inr p.1:Key),V.int (p.2:Nat)))=xs.map Sum.inr:=fun k xs=>by
  induction xs generalizing k with
  | nil=>rfl
  | cons x r ih=>rw[List.zipIdx_cons,v7,v7,ih];rfl
 exact e 0 xs
theorem j5E{xs:List Str}{j:Nat}{x:Str}(h:xs[j]?=some x):(numK xs)[j]?=some (Sum.inr x,.int (j:Nat)):=by
 unfold numK;rw[vv,List.getElem?_zipIdx,h];simp
theorem j1Y:∀{kvs:List (Key×V)} {j:Nat} {k:Key} {v:V},(kvs.map (·.1)).Nodup->kvs[j]?=some (k,v)->valV kvs k=some v
 | [],j,k,v,_,h=>by simp at h
 | p::r,0,k,v,_,h=>by
  simp at h;subst h;unfold valV;simp
 | p::r,j+1,k,v,nd,h=>by
  rw[v7,ur]at nd;have h':r[j]?=some (k,v):=by simpa using h
  have ne:p.1≠k:=fun e=>nd.1 (e▸vK.mpr ⟨(k,v),vm h',rfl⟩)
  have ih:=j1Y nd.2 h';unfold valV at ih|-;rw[List.find?_cons,vH ne];exact ih
theorem kN{xs:List Str}(nd:xs.Nodup){j:Nat}{x:Str}(h:xs[j]?=some x):valV (numK xs) (Sum.inr x)=some (.int (j:Nat)):=
 j1Y (by rw[xI];exact pairwise_map.mpr (nd.imp fun h e=>h (Sum.inr.inj e))) (j5E h)
theorem Ka{kvs:List (Key×V)}{k:Key}{v:V}(h:k∉kvs.map (·.1)):putK kvs k v=kvs++[(k,v)]:=by
 unfold putK;rw[vc];intro e;obtain⟨p,hp,hk⟩:=any_eq_true.mp e;exact h (vK.mpr ⟨p,hp,of_decide_eq_true hk⟩)
noncomputable def ixOf:List Str->Str->Nat
 | [],_=>0
 | y::r,x=>if y=x then 0 else ixOf r x+1
theorem qb:∀{xs:List Str} {j:Nat} {x:Str},xs.Nodup->xs[j]?=some x->ixOf xs x=j
 | [],j,x,_,h=>by simp at h
 | y::r,0,x,_,h=>by
  simp at h;subst h;exact vd rfl
 | y::r,j+1,x,nd,h=>by
  rw[ur]at nd;have h':r[j]?=some x:=by simpa using h
  have ne:y≠x:=fun e=>nd.1 (e▸vm h')
  show(if y=x then 0 else ixOf r x+1)=j+1;rw[vc ne,qb nd.2 h']
noncomputable def nmsOf{α:Type}(ps:List (Str×α)):List Str:=ps.map (·.1)
noncomputable def inP(ps:List (Str×Fm))(f:Fm):List Nat:=f.ns.map (ixOf (nmsOf ps))
structure WfB(ls:List (Str×Int))(ps:List (Str×Fm)):Prop where
 ln:(nmsOf ls).Nodup
 l8:ls.length<=8
 pn:(nmsOf ps).Nodup
 p61:ps.length<=61
 f:∀(i:Nat) (p:Str×Fm),ps[i]?=some p->(∀x∈p.2.ns,∃j,j<i/\(nmsOf ps)[j]?=some x)/\p.2.ns.length<=8
 r:∀(i:Nat) (y x:Str) (h n:Int),ps[i]?=some (y,.rise x h n)->∃j:Nat,(nmsOf ls)[j]?=some x
theorem WfB.inP_lt{ls:List (Str×Int)}{ps:List (Str×Fm)}(W:WfB ls ps){i:Nat}{p:Str×Fm}(h:ps[i]?=some p){j:Nat}(hj:j∈inP ps p.2):j<i:=by
 obtain⟨x,hx,rfl⟩:=vK.mp hj;obtain⟨k,hk,e⟩:=(W.f i p h).1 x hx;rw[qb W.pn e];exact hk
inductive sp_numbers_of(vs:List V)(H:Hp)(Q:VK)(xk:XK):Prop
 | mk (l:Addr) (as:List Addr) (xs:List Str) (_:vs=[.ref l]) (_:H l=some (.lst (as.map V.ref))) (_:as.length=xs.length) (_:(∀(i:Nat) (a:Addr) (x:Str),as[i]?=some a->xs[i]?=some x->∃r,H a=some (.tup [.str x,r]))) (_:xs.Nodup) (_:xs.length<=100) (_:∀(d:Addr) (H':Hp),Same H H'->H d=none->H' d=some (.dK (numK xs))->Q (.ref d) H'):sp_numbers_of vs H Q xk
inductive sp_names_in(vs:List V)(H:Hp)(Q:VK)(xk:XK):Prop
 | mk (a:Addr) (f:Fm) (_:vs=[.ref a]) (_:FormAt H a f) (_:∀(b:Addr) (H':Hp),Same H H'->H' b=some (.tup (f.ns.map V.str))->Q (.ref b) H'):sp_names_in vs H Q xk
def ListsAt(H:Hp)(as:List Addr)(M:List (List Int)):Prop:=All2 (fun a ks=>H a=some (.lst (ks.map V.int))) as M
theorem All2.monoM{α:Type}{R S:Addr->α->Prop}{as:List Addr}{xs:List α}(h:All2 R as xs)(k:∀a∈as,∀x,R a x->S a x):All2 S as xs:=⟨h.1,fun i a x h1 h2=>k a (vm h1) x (h.2 i a x h1 h2)⟩
inductive sp_inner(vs:List V)(H:Hp)(Q:VK)(xk:XK):Prop
 | mk (b pl pp:Addr) (las pas:List Addr) (ls:List (Str×Int)) (ps:List (Str×Fm)) (_:vs=[.ref b]) (_:BookAt H b pl pp las pas ls ps) (_:WfB ls ps) (_:∀(l:Addr) (as:List Addr) (H':Hp),Same H H'->H l=none->H' l=some (.lst (as.map V.ref))->(∀a∈as,H a=none)->ListsAt H' as (ps.map fun p=>(inP ps p.2).map fun j:Nat=>(j:Int))->Q (.ref l) H'):sp_inner vs H Q xk
def PrsAt(H:Hp)(bs:List Addr)(e:List (Int×Int)):Prop:=All2 (fun b q=>H b=some (.tup [.int q.1,.int q.2])) bs e
def EndsAt(H:Hp)(as:List Addr)(E:List (List (Int×Int))):Prop:=All2 (fun a e=>∃bs,H a=some (.lst (bs.map V.ref))/\PrsAt H bs e) as E
def LastIn(E:List (List (Int×Int)))(is:List Nat)(k v:Int):Prop:=∃pre j post,is=pre++j::post/\(k,v)∈E.getD j []/\∀j'∈post,∀v',(k,v')∉E.getD j' []
def EndIs(ls:List (Str×Int))(ps:List (Str×Fm))(E:List (List (Int×Int)))(f:Fm)(k v:Int):Prop:=LastIn E (inP ps f) k v\/∃x n,f = .rise x v n/\k=(ixOf (nmsOf ls) x:Nat)
def EndOk(ls:List (Str×Int))(ps:List (Str×Fm))(E:List (List (Int×Int))):Prop:=∀(i:Nat) (p:Str×Fm) (e:List (Int×Int)),ps[i]?=some p->E[i]?=some e->(e.map (·.1)).Pairwise (· < ·)/\∀k v,(k,v)∈e↔EndIs ls ps E p.2 k v
inductive sp_ends(vs:List V)(H:Hp)(Q:VK)(xk:XK):Prop
 | mk (b pl pp:Addr) (las pas:List Addr) (ls:List (Str×Int)) (ps:List (Str×Fm)) (_:vs=[.ref b]) (_:BookAt H b pl pp las pas ls ps) (_:WfB ls ps) (_:∀(l:Addr) (as:List Addr) (E:List (List (Int×Int))) (H':Hp),Same H H'->H l=none->H' l=some (.lst (as.map V.ref))->(∀a∈as,H a=none)->E.length=ps.length->EndsAt H' as E->EndOk ls ps E->Q (.ref l) H'):sp_ends vs H Q xk
def MovOk(ls:List (Str×Int))(ps:List (Str×Fm))(M:List (List Int)):Prop:=∀(i:Nat) (p:Str×Fm) (ks:List Int),ps[i]?=some p->M[i]?=some ks->ks.Pairwise (· < ·)/\∀k,k∈ks↔(∃j∈inP ps p.2,k∈M.getD j [])\/∃x h n,p.2 = .rise x h n/\k=(ixOf (nmsOf ls) x:Nat)
inductive sp_moved(vs:List V)(H:Hp)(Q:VK)(xk:XK):Prop
 | mk (b pl pp:Addr) (las pas:List Addr) (ls:List (Str×Int)) (ps:List (Str×Fm)) (_:vs=[.ref b]) (_:BookAt H b pl pp las pas ls ps) (_:WfB ls ps) (_:∀(l:Addr) (as:List Addr) (M:List (List Int)) (H':Hp),Same H H'->H l=none->H' l=some (.lst (as.map V.ref))->(∀a∈as,H a=none)->M.length=ps.length->ListsAt H' as M->MovOk ls ps M->Q (.ref l) H'):sp_moved vs H Q xk
theorem j59:∀{a b:List Int},a.Pairwise (· < ·)->b.Pairwise (· < ·)->(∀k,k∈a↔k∈b)->a=b
 | [],[],_,_,_=>rfl
 | [],y::s,_,_,h=>ug ((h y).mpr vq) (by simp)
 | x::r,[],_,_,h=>ug ((h x).mp vq) (by simp)
 | x::r,y::s,ha,hb,h=>by
  rw[vU]at ha hb;have e:x=y:=by
   rcases mem_cons.mp ((h x).mp vq)with q | q
   ·exact q
   ·rcases mem_cons.mp ((h y).mpr vq)with q' | q'
    ·exact q'.symm
    ·have h1:=hb.1 x q;have h2:=ha.1 y q';lia
  subst e;congr 1;refine j59 ha.2 hb.2 fun k=>⟨fun hk=>?_,fun hk=>?_⟩
  ·rcases mem_cons.mp ((h k).mp (vp _ hk))with q | q
   ·have:=ha.1 k hk;lia
   ·exact q
  ·rcases mem_cons.mp ((h k).mpr (vp _ hk))with q | q
   ·have:=hb.1 k hk;lia
   ·exact q
theorem getD_map{E:List (List (Int×Int))}(j:Nat):(E.map fun e=>e.map (·.1)).getD j []=(E.getD j []).map (·.1):=by
 rw[vy,vy,vv];cases E[j]?<;>rfl
theorem Xz{k:Int}{e:List (Int×Int)}:k∈e.map (·.1)↔∃v,(k,v)∈e:=by
 constructor
 ·intro h;obtain⟨p,hp,rfl⟩:=vK.mp h;exact⟨p.2,hp⟩
 ·rintro⟨v,h⟩;exact vK.mpr ⟨_,h,rfl⟩
theorem Xr{E:List (List (Int×Int))}{k:Int}:∀{is:List Nat},(∃v,LastIn E is k v)↔∃j∈is,∃v,(k,v)∈E.getD j []
 | []=>⟨fun⟨v,pre,j,post,e,_⟩=>by cases pre<;>simp at e,fun⟨j,h,_⟩=>by simp at h⟩
 | i::r=>by
  have ih:=Xr (E:=E) (k:=k) (is:=r);constructor
  ·rintro⟨v,pre,j,post,e,h1,h2⟩;exact⟨j,by rw[e];simp,v,h1⟩
  ·rintro⟨j,hj,v,hv⟩;by_cases q:∃j∈r,∃v,(k,v)∈E.getD j []
   ·obtain⟨v',pre,j',post,e,h1,h2⟩:=ih.mpr q;exact⟨v',i::pre,j',post,by rw[e];rfl,h1,h2⟩
   ·rcases mem_cons.mp hj with rfl | hj
    ·exact⟨v,[],j,r,rfl,hv,fun j' h' v' hv'=>q ⟨j',h',v',hv'⟩⟩
    ·exact ug ⟨j,hj,v,hv⟩ q
theorem j4k{ls:List (Str×Int)}{ps:List (Str×Fm)}{E:List (List (Int×Int))}(hl:E.length=ps.length)(h:EndOk ls ps E):MovOk ls ps (E.map fun e=>e.map (·.1)):=fun i p ks hp hk=>by
 rw[vv]at hk;obtain⟨e,he,rfl⟩:=vg.mp hk;obtain⟨a,b⟩:=h i p e hp he;refine⟨a,fun k=>?_⟩;rw[Xz];constructor
 ·rintro⟨v,hv⟩;rcases(b k v).mp hv with z | ⟨x,n,e1,e2⟩
  ·obtain⟨j,hj,v',hv'⟩:=Xr.mp ⟨v,z⟩;exact .inl ⟨j,hj,by rw[getD_map];exact Xz.mpr ⟨v',hv'⟩⟩
  ·exact .inr ⟨x,v,n,e1,e2⟩
 ·rintro(⟨j,hj,hk⟩ | ⟨x,h,n,e1,e2⟩)
  ·rw[getD_map]at hk;obtain⟨v',hv'⟩:=Xz.mp hk;obtain⟨v,z⟩:=Xr.mpr ⟨j,hj,v',hv'⟩;exact⟨v,(b k v).mpr (.inl z)⟩
  ·exact⟨h,(b k h).mpr (.inr ⟨x,n,e1,e2⟩)⟩
theorem j2l{xs:List Str}{x:Str}(h:x∈xs):ixOf xs x<xs.length:=by
 induction xs with
 | nil=>exact nomatch h
 | cons y r ih=>
  show(if y=x then 0 else ixOf r x+1)<r.length+1;split
  ·lia
  ·rename_i hne;rcases mem_cons.mp h with e | e
   ·exact ug e.symm hne
   ·have:=ih e;lia
theorem yV{ls:List (Str×Int)}{ps:List (Str×Fm)}(W:WfB ls ps){E:List (List (Int×Int))}(hl:E.length<=ps.length)(h:EndOk ls ps E):∀(i:Nat),∀q∈E.getD i [],0<=q.1/\q.1<(ls.length:Int):=by
 intro i
 induction i using Nat.strongRecOn with
 | ind i ih=>
  intro q hq;rw[vy]at hq;cases e:E[i]? with
  | none=>rw[e]at hq;exact nomatch hq
  | some ev=>
   rw[e]at hq;have hi:=(vx.mp e).1;have ep:ps[i]?=some ps[i]:=vz (by lia);obtain⟨_,b⟩:=h i _ ev ep e;rcases(b q.1 q.2).mp hq with⟨pre,j,post,e1,e2,_⟩ | ⟨x,n,e1,e2⟩
   ·exact ih j (W.inP_lt ep (by rw[e1];simp)) _ e2
   ·have ep':ps[i]?=some (ps[i].1,.rise x q.2 n):=by rw[ep,<-e1]
    obtain⟨j,hj⟩:=W.r i _ _ _ _ ep';have h3:=j2l (vm hj);have h4:(nmsOf ls).length=ls.length:=vt _;rw[e2];lia
theorem j0k{ls:List (Str×Int)}{ps:List (Str×Fm)}(W:WfB ls ps){E:List (List (Int×Int))}(hl:E.length<=ps.length)(h:EndOk ls ps E){i:Nat}{e:List (Int×Int)}(he:E[i]?=some e):e.length<=8:=by
 have hi:=(vx.mp he).1;have a:=(h i _ e (vz (by lia)) he).1;have b:=yV W hl h i;rw[vy,he]at b;have z:=KG (ks:=e.map (·.1)) (lo:=0) (hi:=ls.length) a fun k hk=>by
  obtain⟨q,hq,rfl⟩:=vK.mp hk;exact b q hq
 rw[vt]at z;have:=W.l8;lia
noncomputable def putI(kvs:List (Int×Int))(k v:Int):List (Int×Int):=if k∈kvs.map (·.1)then kvs.map (fun q=>if q.1=k then(q.1,v)else q)else kvs++[(k,v)]
noncomputable def mergeI(kvs more:List (Int×Int)):List (Int×Int):=more.foldl (fun acc q=>putI acc q.1 q.2) kvs
theorem j4F(kvs:List (Int×Int))(k v:Int):putK (kvs.map iiK) (Sum.inl k) (.int v)=(putI kvs k v).map iiK:=by
 have e:(((kvs.map iiK).any fun kv=>decide (kv.1=(Sum.inl k:Key)))=true)↔k∈kvs.map (·.1):=by
  rw[List.any_map,any_eq_true];constructor
  ·rintro⟨q,hq,h⟩;have h':(Sum.inl q.1:Key)=Sum.inl k:=of_decide_eq_true h;exact vK.mpr ⟨q,hq,Sum.inl.inj h'⟩
  ·intro h;obtain⟨q,hq,rfl⟩:=vK.mp h;exact⟨q,hq,vG rfl⟩
 unfold putK putI;by_cases c:k∈kvs.map (·.1)
 ·rw[vd (e.mpr c),vd c,map_map,map_map];refine map_congr_left fun q _=>?_
  show(if(Sum.inl q.1:Key)=Sum.inl k then _ else _)=iiK (if q.1=k then(q.1,v)else q);by_cases z:q.1=k
  ·rw[vd z,vd (by rw[z])];rfl
  ·rw[vc z,vc (fun w=>z (Sum.inl.inj w))]
 ·rw[vc (fun w=>c (e.mp w)),vc c,vj];rfl
theorem yw:∀(more kvs:List (Int×Int)),mergeK (kvs.map iiK) (more.map iiK)=(mergeI kvs more).map iiK
 | [],kvs=>rfl
 | q::r,kvs=>by
  show mergeK (putK (kvs.map iiK) (Sum.inl q.1) (.int q.2)) (r.map iiK)=(mergeI (putI kvs q.1 q.2) r).map iiK;rw[j4F,yw r]
theorem j3A(kvs:List (Int×Int))(k v:Int)(nd:(kvs.map (·.1)).Nodup):((putI kvs k v).map (·.1)).Nodup:=by
 unfold putI;split
 ·rw[map_map];have e:kvs.map ((fun x=>x.1)∘fun q=>if q.1=k then(q.1,v)else q)=kvs.map (·.1):=map_congr_left fun q _=>by
   show(if q.1=k then(q.1,v)else q).1=q.1;split<;>rfl
  rw[e];exact nd
 ·rename_i c;rw[vj,nodup_append];exact⟨nd,pairwise_singleton _ _,fun a ha b hb e=>c (by rw[show k=b from(vo.mp hb).symm,<-e];exact ha)⟩
theorem j4i{kvs:List (Int×Int)}{k v a b:Int}:(a,b)∈putI kvs k v↔(a=k/\b=v)\/(a≠k/\(a,b)∈kvs):=by
 unfold putI;split
 ·rename_i c;rw[vK];constructor
  ·rintro⟨q,hq,e⟩;by_cases z:q.1=k
   ·rw[vd z]at e;cases e;exact .inl ⟨z,rfl⟩
   ·rw[vc z]at e;subst e;exact .inr ⟨z,hq⟩
  ·rintro(⟨rfl,rfl⟩ | ⟨h1,h2⟩)
   ·obtain⟨q,hq,e⟩:=vK.mp c;exact⟨q,hq,by rw[vd e,e]⟩
   ·exact⟨(a,b),h2,by rw[vc h1]⟩
 ·rename_i c;rw[vh];constructor
  ·rintro(h | h)
   ·exact .inr ⟨fun e=>c (e▸vK.mpr ⟨(a,b),h,rfl⟩),h⟩
   ·cases vo.mp h;exact .inl ⟨rfl,rfl⟩
  ·rintro(⟨rfl,rfl⟩ | ⟨_,h⟩)
   ·exact .inr (vo.mpr rfl)
   ·exact .inl h
theorem xC:∀{more kvs:List (Int×Int)},(kvs.map (·.1)).Nodup->(more.map (·.1)).Nodup->((mergeI kvs more).map (·.1)).Nodup/\∀k v,(k,v)∈mergeI kvs more↔(k,v)∈more\/((∀v',(k,v')∉more)/\(k,v)∈kvs)
 | [],kvs,nd,_=>⟨nd,fun k v=>⟨fun h=>.inr ⟨(fun _ h=>nomatch h),h⟩,fun h=>h.elim (fun h=>nomatch h) (·.2)⟩⟩
 | q::r,kvs,nd,nm=>by
  rw[v7,ur]at nm;obtain⟨a,b⟩:=xC (more:=r) (kvs:=putI kvs q.1 q.2) (j3A _ _ _ nd) nm.2;refine⟨a,fun k v=>(b k v).trans ?_⟩;rw[j4i];have nq:∀v',(q.1,v')∉r:=fun v' h=>nm.1 (vK.mpr ⟨_,h,rfl⟩)
  constructor
  ·rintro(h | ⟨h1,⟨rfl,rfl⟩ | ⟨h2,h3⟩⟩)
   ·exact .inl (vp _ h)
   ·exact .inl vq
   ·refine .inr ⟨fun v' hv=>?_,h3⟩;rcases mem_cons.mp hv with e | e
    ·exact h2 (by rw[<-e])
    ·exact h1 v' e
  ·rintro(h | ⟨h1,h2⟩)
   ·rcases mem_cons.mp h with e | e
    ·refine .inr ⟨fun v' hv=>?_,.inl ⟨by rw[<-e],by rw[<-e]⟩⟩;rw[<-e]at nq;exact nq v' hv
    ·exact .inl e
   ·refine .inr ⟨fun v' hv=>h1 v' (vp _ hv),.inr ⟨fun e=>?_,h2⟩⟩;exact h1 q.2 (by rw[e];exact vq)
theorem Wu{ms:List (Int×Int)}(nd:(ms.map (·.1)).Nodup):mergeI [] ms=ms:=by
 have e:∀(r acc:List (Int×Int)),((acc++r).map (·.1)).Nodup->mergeI acc r=acc++r:=by
  intro r
  induction r with
  | nil=>intro acc _;exact(append_nil _).symm
  | cons q r ih=>
   intro acc nd;have c:q.1∉acc.map (·.1):=fun h=>by
    rw[vj,nodup_append]at nd;exact nd.2.2 q.1 h q.1 (by simp) rfl
   show mergeI (putI acc q.1 q.2) r=_;unfold putI;rw[vc c,ih (acc++[(q.1,q.2)]) (by rw[List.append_assoc];exact nd),List.append_assoc];rfl
 exact e ms [] nd
theorem j3h{E:List (List (Int×Int))}{is:List Nat}{j:Nat}{k v:Int}:LastIn E (is++[j]) k v↔(k,v)∈E.getD j []\/((∀v',(k,v')∉E.getD j [])/\LastIn E is k v):=by
 constructor
 ·rintro⟨pre,i,post,e,h1,h2⟩;rcases List.eq_nil_or_concat post with rfl | ⟨post',x,rfl⟩
  ·have e':=List.append_inj' (show is++[j]=pre++[i]from e) rfl;have ej:j=i:=by simpa using e'.2
   rw[ej];exact .inl h1
  ·have e2:is++[j]=(pre++i::post')++[x]:=by rw[e];simp
   have e':=List.append_inj' e2 rfl;have ej:j=x:=by simpa using e'.2
   subst ej;exact .inr ⟨h2 j (by simp),pre,i,post',e'.1,h1,fun j' hj'=>h2 j' (by simp[hj'])⟩
 ·rintro(h | ⟨h1,pre,i,post,e,h2,h3⟩)
  ·exact⟨is,j,[],rfl,h,(fun _ h=>nomatch h)⟩
  ·refine⟨pre,i,post++[j],by rw[e];simp,h2,fun j' hj' v'=>?_⟩;rcases vh.mp hj' with z | z
   ·exact h3 j' z v'
   ·rw[vo.mp z];exact h1 v'
theorem kH{E E':List (List (Int×Int))}{is:List Nat}(h:∀j∈is,E.getD j []=E'.getD j []){k v:Int}:LastIn E is k v->LastIn E' is k v:=by
 rintro⟨pre,j,post,e,h1,h2⟩;refine⟨pre,j,post,e,by rw[<-h j (by rw[e];simp)];exact h1,fun j' hj'=>?_⟩;rw[<-h j' (by rw[e];simp[hj'])];exact h2 j' hj'
theorem EndOk.snoc{ls:List (Str×Int)}{ps:List (Str×Fm)}(W:WfB ls ps){E:List (List (Int×Int))}{p:Str×Fm}{e:List (Int×Int)}(h:EndOk ls ps E)(hp:ps[E.length]?=some p)(h1:(e.map (·.1)).Pairwise (· < ·))
  (h2:∀k v,(k,v)∈e↔EndIs ls ps E p.2 k v):EndOk ls ps (E++[e]):=fun i q f hq hf=>by
 have hle:i<=E.length:=by
  have:=(vx.mp hf).1;rw[vn]at this;exact Nat.le_of_lt_succ this
 have ext:∀j∈inP ps q.2,E.getD j []=(E++[e]).getD j []:=fun j hj=>(getD_snoc (by have:=W.inP_lt hq hj;lia)).symm
 have iff:∀k v,EndIs ls ps E q.2 k v↔EndIs ls ps (E++[e]) q.2 k v:=fun k v=>by
  unfold EndIs;exact⟨fun h=>h.imp (kH ext) id,fun h=>h.imp (kH fun j hj=>(ext j hj).symm) id⟩
 by_cases hi:i<E.length
 ·rw[vB hi]at hf;obtain⟨a,b⟩:=h i q f hq hf;exact⟨a,fun k v=>(b k v).trans (iff k v)⟩
 ·have ei:i=E.length:=by lia
  subst ei;rw[vC (vb _),Nat.sub_self]at hf;have ef:e=f:=by simpa using hf
  subst ef;rw[hp]at hq;cases hq;exact⟨h1,fun k v=>(h2 k v).trans (iff k v)⟩
theorem j0r{H:Hp}{a:Addr}{f:Fm}(h:FormAt H a f)(hn:∀x v n,f≠.rise x v n):∃k xs,H a=some (.tup (.str k::xs))/\decide (k=("raise" : Str))=false:=by
 cases f with
 | hold n=>exact⟨_,_,h,by decide +kernel⟩
 | ring x n=>exact⟨_,_,h,by decide +kernel⟩
 | rise x v n=>exact ug rfl (hn x v n)
 | row ps=>obtain⟨b,h1,_⟩:=h;exact⟨_,_,h1,by decide +kernel⟩
 | side ps=>obtain⟨b,h1,_⟩:=h;exact⟨_,_,h1,by decide +kernel⟩
 | again k x=>exact⟨_,_,h,by decide +kernel⟩
noncomputable def kv0(ls:List (Str×Int)):Fm->List (Int×Int)
 | .rise x h _=>[((ixOf (nmsOf ls) x:Nat),h)]
 | _=>[]
theorem j5w{ls:List (Str×Int)}{f:Fm}(hn:∀x v n,f≠.rise x v n):kv0 ls f=[]:=by
 cases f with
 | rise x v n=>exact ug rfl (hn x v n)
 | _=>rfl
theorem XA{ls:List (Str×Int)}{f:Fm}{k v:Int}:(k,v)∈kv0 ls f↔∃x n,f = .rise x v n/\k=(ixOf (nmsOf ls) x:Nat):=by
 cases f with
 | rise x h n=>
  constructor
  ·intro hk;cases vo.mp hk;exact⟨x,n,rfl,rfl⟩
  ·rintro⟨x',n',e,rfl⟩;injection e with e1 e2 e3;subst e1 e2;exact vo.mpr rfl
 | _=>exact⟨(fun h=>nomatch h),fun⟨_,_,e,_⟩=>nomatch e⟩
theorem j6n{ps:List (Str×Fm)}{ls:List (Str×Int)}(f:Fm):inP ps f=[]\/kv0 ls f=[]:=by
 cases f with
 | rise x h n=>exact .inl rfl
 | _=>exact .inr rfl
theorem j6o{ls:List (Str×Int)}(f:Fm):((kv0 ls f).map (·.1)).Nodup:=by
 cases f with
 | rise x h n=>exact pairwise_singleton _ _
 | _=>exact .nil
inductive sp_check_side(vs:List V)(H:Hp)(Q:VK)(xk:XK):Prop
 | mk (r:Int) (l ll:Addr) (as las:List Addr) (M:List (List Int)) (_:vs=[.int r,.ref l,.ref ll]) (_:H l=some (.lst (as.map V.ref))) (_:ListsAt H as M) (_:(∀ks∈M,ks≠[])) (_:M.length<=8) (_:H ll=some (.lst (las.map V.ref))) (_:(∀k:Int,(M.filter fun ks=>decide (k∈ks)).length<=1)) (_:∀H',Same H H'->Q .non H'):sp_check_side vs H Q xk
noncomputable def LenIs:Fm->List Int->Int->Prop
 | .hold n,_,g=>g=n
 | .ring _ n,_,g=>g=n
 | .rise _ _ n,_,g=>g=n
 | .row _,gs,g=>g=gs.sum
 | .side _,gs,g=>g∈gs/\∀x∈gs,x<=g
 | .again k _,gs,g=>∃y,gs.head?=some y/\g=k*y
noncomputable def LenPre:Fm->List Int->Prop
 | .side _,gs=>gs≠[]
 | .again k _,gs=>∃y r,gs=y::r/\0<=k/\k<=10^18/\0<=y/\y<=10^60
 | _,_=>True
inductive sp_length_of(vs:List V)(H:Hp)(Q:VK)(xk:XK):Prop
 | mk (a l:Addr) (f:Fm) (gs:List Int) (_:vs=[.ref a,.ref l]) (_:FormAt H a f) (_:H l=some (.lst (gs.map V.int))) (_:LenPre f gs) (_:∀g,LenIs f gs g->Q (.int g) H):sp_length_of vs H Q xk
structure Snd(ls:List (Str×Int))(ps:List (Str×Fm))(gs:List Int)(hs:List (List Int)):Prop where
 w:WfB ls ps
 gl:gs.length=ps.length
 gb:∀i,i<ps.length->0<=gs.getD i 0/\gs.getD i 0<=10^60
 mv:∀M:List (List Int),M.length=ps.length->MovOk ls ps M->∀i,i<ps.length->M.getD i []=hs.getD i []
 ln:∀(i:Nat) (p:Str×Fm),ps[i]?=some p->LenPre p.2 ((inP ps p.2).map fun j=>gs.getD j 0)/\∀g,LenIs p.2 ((inP ps p.2).map fun j=>gs.getD j 0) g->g=gs.getD i 0
 sd:∀(i:Nat) (p:Str×Fm) (qs:List Str),ps[i]?=some p->p.2 = .side qs->(∀j∈inP ps p.2,hs.getD j []≠[])/\∀k:Int,(((inP ps p.2).map fun j=>hs.getD j []).filter fun ks=>decide (k∈ks)).length<=1
inductive sp_lengths(vs:List V)(H:Hp)(Q:VK)(xk:XK):Prop
 | mk (b pl pp:Addr) (las pas:List Addr) (ls:List (Str×Int)) (ps:List (Str×Fm)) (gs:List Int) (hs:List (List Int)) (_:vs=[.ref b]) (_:BookAt H b pl pp las pas ls ps) (_:Snd ls ps gs hs) (_:∀(l:Addr) (H':Hp),Same H H'->H l=none->H' l=some (.lst (gs.map V.int))->Q (.ref l) H'):sp_lengths vs H Q xk
theorem any_empty{M:List (List Int)}(h:∀ks∈M,ks≠[]):(M.any fun ks=>decide (ks=[]))=false:=by
 rw[List.any_eq_false];intro ks hks;simpa using h ks hks
theorem j5u{gs:List Int}{i:Nat}(h:i<gs.length):gs.take (i+1)=gs.take i++[gs.getD i 0]:=by
 refine take_snoc ?_;rw[vy,vz h];rfl
theorem j44{gs:List Int}{i j:Nat}(hi:i<=gs.length)(hj:j<i):atI ((gs.take i).map V.int) (j:Int)=some (.int (gs.getD j 0)):=by
 refine jL ?_;rw[vv,List.getElem?_take,vd hj,vy,vz (by lia)];rfl
theorem j2M:∀{a b:List (Int×Int)},(a.map (·.1)).Pairwise (· < ·)->(b.map (·.1)).Pairwise (· < ·)->(∀k v,(k,v)∈a↔(k,v)∈b)->a=b
 | [],[],_,_,_=>rfl
 | [],y::s,_,_,h=>ug ((h y.1 y.2).mpr vq) (by simp)
 | x::r,[],_,_,h=>ug ((h x.1 x.2).mp vq) (by simp)
 | x::r,y::s,ha,hb,h=>by
  rw[v7,vU]at ha hb;have hx:∀q∈r,x.1<q.1:=fun q hq=>ha.1 _ (vK.mpr ⟨q,hq,rfl⟩)
  have hy:∀q∈s,y.1<q.1:=fun q hq=>hb.1 _ (vK.mpr ⟨q,hq,rfl⟩)
  have e:x=y:=by
   rcases mem_cons.mp ((h x.1 x.2).mp vq)with q | q
   ·exact q
   ·rcases mem_cons.mp ((h y.1 y.2).mpr vq)with q' | q'
    ·exact q'.symm
    ·have h1:=hy _ q;have h2:=hx _ q';simp only at h1 h2;lia
  subst e;rw[j2M ha.2 hb.2 fun k v=>?_];constructor
  ·intro hk;rcases mem_cons.mp ((h k v).mp (vp _ hk))with q | q
   ·have:=hx _ hk;rw[<-q]at this;simp only at this;lia
   ·exact q
  ·intro hk;rcases mem_cons.mp ((h k v).mpr (vp _ hk))with q | q
   ·have:=hy _ hk;rw[<-q]at this;simp only at this;lia
   ·exact q
theorem j5A{ls:List (Str×Int)}{ps:List (Str×Fm)}(W:WfB ls ps){M:List (List Int)}(hl:M.length=ps.length)(h:MovOk ls ps M):∀(i:Nat),∀k∈M.getD i [],0<=k/\k<(ls.length:Int):=by
 intro i
 induction i using Nat.strongRecOn with
 | ind i ih=>
  intro k hk;rw[vy]at hk;cases e:M[i]? with
  | none=>rw[e]at hk;exact nomatch hk
  | some ks=>
   rw[e]at hk;have hi:=(vx.mp e).1;have ep:ps[i]?=some ps[i]:=vz (by lia);obtain⟨_,b⟩:=h i _ ks ep e;rcases(b k).mp hk with⟨j,hj,hk'⟩ | ⟨x,v,n,e1,rfl⟩
   ·exact ih j (W.inP_lt ep hj) k hk'
   ·obtain⟨j,hj⟩:=W.r i (ps[i]).1 x v n (by rw[ep,<-e1]);rw[qb W.ln hj];have:=(vx.mp hj).1;unfold nmsOf at this;rw[vt]at this;lia
theorem j5B{ls:List (Str×Int)}{ps:List (Str×Fm)}(W:WfB ls ps){M:List (List Int)}(hl:M.length=ps.length)(h:MovOk ls ps M){i:Nat}{ks:List Int}(he:M[i]?=some ks):ks.length<=8:=by
 have hi:=(vx.mp he).1;have a:=(h i _ ks (vz (by lia)) he).1;have b:=j5A W hl h i;rw[vy,he]at b;have z:=KG (ks:=ks) (lo:=0) (hi:=ls.length) a b;have:=W.l8;lia
theorem FormAt.keep{H H':Hp}{a:Addr}{f:Fm}(k:∀c xs,H c=some (.tup xs)->H' c=some (.tup xs))(h:FormAt H a f):FormAt H' a f:=by
 cases f with
 | row ps=>obtain⟨c,h1,h2⟩:=h;exact⟨c,k _ _ h1,k _ _ h2⟩
 | side ps=>obtain⟨c,h1,h2⟩:=h;exact⟨c,k _ _ h1,k _ _ h2⟩
 | hold n=>exact k _ _ h
 | ring x n=>exact k _ _ h
 | rise x g n=>exact k _ _ h
 | again x n=>exact k _ _ h
theorem PartAt.keep{H H':Hp}{a:Addr}{p:Str×Fm}(k:∀c xs,H c=some (.tup xs)->H' c=some (.tup xs))(h:PartAt H a p):PartAt H' a p:=by
 obtain⟨b,h1,h2⟩:=h;exact⟨b,k _ _ h1,FormAt.keep k h2⟩
section
variable{ls:List (Str×Int)}{x:Str}{f:Fm}
end
theorem j3P{xs:List Nat}{i:Int}{c:Nat}(h0:0<=i)(h:xs[i.toNat]?=some c):atI xs i=some c:=by
 have q:∀k:Nat,xs[k]?=some c->atI xs (k:Int)=some c:=fun k hk=>by
  obtain⟨hi,rfl⟩:=vx.mp hk;unfold atI ixN;simp[hi]
 have:=q i.toNat h;rw[Int.toNat_of_nonneg h0]at this;exact this
theorem ixZ{n:Nat}{k:Int}(h0:0<=k)(h1:k<n):ixN n k=some k.toNat:=by
 have q0:∀j:Nat,j<n->ixN n (j:Int)=some j:=fun j h=>by
  unfold ixN;simp[h]
 have q:=q0 k.toNat (by lia);rw[Int.toNat_of_nonneg h0]at q;exact q
noncomputable abbrev Pc:=Nat×Int×Int
noncomputable abbrev Pr4:=Nat×Int×Int×Option Int
noncomputable def rowPc(gs:List Int):List Nat->Int->List Pc
 | [],_=>[]
 | j::r,b=>(j,1,b)::rowPc gs r (b+gs.getD j 0)
noncomputable def pcsI(gs:List Int)(f:Fm)(is:List Nat):List Pc:=
 match f with
 | .again k _=>match is with
  | []=>[]
  | j::_=>(j,1,0)::(if 1<k then[(j,k-1,gs.getD j 0)]else[])
 | .row _=>rowPc gs is 0
 | _=>is.map fun j=>(j,1,0)
def PcsAt(H:Hp)(as:List Addr)(qs:List Pc):Prop:=All2 (fun a q=>H a=some (.tup [.int (q.1:Nat),.int q.2.1,.int q.2.2])) as qs
def PssAt(H:Hp)(as:List Addr)(qss:List (List Pc)):Prop:=All2 (fun a qs=>∃bs,H a=some (.lst (bs.map V.ref))/\PcsAt H bs qs) as qss
inductive sp_pieces_in(vs:List V)(H:Hp)(Q:VK)(xk:XK):Prop
 | mk (a l s:Addr) (f:Fm) (is:List Nat) (gs:List Int) (_:vs=[.ref a,.ref l,.ref s]) (_:FormAt H a f) (_:H l=some (.lst ((is.map fun j:Nat=>(j:Int)).map V.int))) (_:H s=some (.lst (gs.map V.int))) (_:is.length<=8) (_:(∀j∈is,j<gs.length)) (_:(∀k x,f = .again k x->is≠[])) (_:∀(p:Addr) (as:List Addr) (H':Hp),Same H H'->H p=none->H' p=some (.lst (as.map V.ref))->PcsAt H' as (pcsI gs f is)->Q (.ref p) H'):sp_pieces_in vs H Q xk
inductive sp_pieces_of(vs:List V)(H:Hp)(Q:VK)(xk:XK):Prop
 | mk (b pl pp s:Addr) (las pas:List Addr) (ls:List (Str×Int)) (ps:List (Str×Fm)) (gs:List Int) (_:vs=[.ref b,.ref s]) (_:BookAt H b pl pp las pas ls ps) (_:WfB ls ps) (_:H s=some (.lst (gs.map V.int))) (_:gs.length=ps.length) (_:∀(l:Addr) (as:List Addr) (H':Hp),Same H H'->H l=none->H' l=some (.lst (as.map V.ref))->PssAt H' as (ps.map fun p=>pcsI gs p.2 (inP ps p.2))->(∀a∈as,H a=none)->Q (.ref l) H'):sp_pieces_of vs H Q xk
noncomputable def ov(gs:List Int)(t:Int)(q:Pc):Int:=if q.2.1<(t-q.2.2)/gs.getD q.1 0 then q.2.1 else(t-q.2.2)/gs.getD q.1 0
noncomputable def prg1(gs:List Int)(t:Int)(q:Pc):Option Pr4:=
 if q.2.2<=t then some (q.1,q.2.2,ov gs t q,if ov gs t q<q.2.1 then some (t-q.2.2-ov gs t q*gs.getD q.1 0)else none)else none
noncomputable def prg(gs:List Int)(t:Int)(qs:List Pc):List Pr4:=qs.filterMap (prg1 gs t)
noncomputable def optV:Option Int->V
 | none=>.non
 | some r=>.int r
def PrgAt(H:Hp)(as:List Addr)(ys:List Pr4):Prop:=All2 (fun a y=>H a=some (.tup [.int (y.1:Nat),.int y.2.1,.int y.2.2.1,optV y.2.2.2])) as ys
def PcOk(gs:List Int)(q:Pc):Prop:=q.1<gs.length/\1<=gs.getD q.1 0/\gs.getD q.1 0<=10^60/\1<=q.2.1/\q.2.1<=10^18/\0<=q.2.2/\q.2.2<=10^62
inductive sp_progress(vs:List V)(H:Hp)(Q:VK)(xk:XK):Prop
 | mk (l s:Addr) (t:Int) (bs:List Addr) (qs:List Pc) (gs:List Int) (_:vs=[.ref l,.ref s,.int t]) (_:H l=some (.lst (bs.map V.ref))) (_:PcsAt H bs qs) (_:H s=some (.lst (gs.map V.int))) (_:qs.length<=8) (_:(∀q∈qs,PcOk gs q)) (_:0<=t) (_:t<=10^62) (_:∀(p:Addr) (as:List Addr) (H':Hp),Same H H'->H p=none->H' p=some (.lst (as.map V.ref))->PrgAt H' as (prg gs t qs)->Q (.ref p) H'):sp_progress vs H Q xk
def GonAt(H:Hp)(as:List Addr)(xs:List (Nat×Int)):Prop:=All2 (fun a x=>H a=some (.tup [.int (x.1:Nat),.int x.2])) as xs
noncomputable def wth1(gs:List Int)(y:Pr4):List (Nat×Int):=(if 0<y.2.2.1 then[(y.1,gs.getD y.1 0)]else[])++(match y.2.2.2 with | some r=>[(y.1,r)] | none=>[])
noncomputable def wth(gs:List Int)(t:Int)(qs:List Pc):List (Nat×Int):=(prg gs t qs).flatMap (wth1 gs)
inductive sp_within(vs:List V)(H:Hp)(Q:VK)(xk:XK):Prop
 | mk (l s:Addr) (t:Int) (bs:List Addr) (qs:List Pc) (gs:List Int) (_:vs=[.ref l,.ref s,.int t]) (_:H l=some (.lst (bs.map V.ref))) (_:PcsAt H bs qs) (_:H s=some (.lst (gs.map V.int))) (_:qs.length<=8) (_:(∀q∈qs,PcOk gs q)) (_:0<=t) (_:t<=10^62) (_:∀(p:Addr) (as:List Addr) (H':Hp),Same H H'->H p=none->H' p=some (.lst (as.map V.ref))->GonAt H' as (wth gs t qs)->Q (.ref p) H'):sp_within vs H Q xk
noncomputable def reachL(pc:Nat->List Pc)(gs:List Int):Nat->Nat->Int->List (Nat×Int)
 | 0,i,t=>[(i,t)]
 | n+1,i,t=>if gs.getD i 0<=t\/pc i=[]then[(i,t)]else(wth gs t (pc i)).flatMap fun x=>reachL pc gs n x.1 x.2
noncomputable def nodesL(pc:Nat->List Pc)(gs:List Int):Nat->Nat->Int->Nat
 | 0,_,_=>1
 | n+1,i,t=>if gs.getD i 0<=t\/pc i=[]then 1 else 1+((wth gs t (pc i)).map fun x=>nodesL pc gs n x.1 x.2).sum
noncomputable def pcB(ps:List (Str×Fm))(gs:List Int)(i:Nat):List Pc:=match ps[i]? with | some p=>pcsI gs p.2 (inP ps p.2) | none=>[]
section
variable{gs:List Int}{t:Int}
theorem xB{is:List Nat}{b:Int}{q:Pc}(h:q∈rowPc gs is b):q.1∈is/\q.2.1=1:=by
 induction is generalizing b with
 | nil=>exact nomatch h
 | cons j r ih=>
  rcases mem_cons.mp h with rfl | h
  ·exact⟨vq,rfl⟩
  ·obtain⟨a,b⟩:=ih h;exact⟨vp _ a,b⟩
theorem j3j(is:List Nat)(b:Int):(rowPc gs is b).length=is.length:=by
 induction is generalizing b with
 | nil=>rfl
 | cons j r ih=>rw[rowPc,vP,vP,ih]
theorem wo{is:List Nat}{b:Int}{q:Pc}(hg:∀j∈is,0<=gs.getD j 0/\gs.getD j 0<=10^60)(h:q∈rowPc gs is b):b<=q.2.2/\q.2.2<=b+10^60*is.length:=by
 induction is generalizing b with
 | nil=>exact nomatch h
 | cons j r ih=>
  have g:=hg j vq;rw[vP];rcases mem_cons.mp h with rfl | h
  ·have:(0:Int)<=10^60*((r.length+1:Nat):Int):=vM (by decide) (by lia);exact⟨vA _,by show b<=_;lia⟩
  ·obtain⟨a,c⟩:=ih (fun k hk=>hg k (vp _ hk)) h;refine⟨by lia,?_⟩;rw[show((r.length+1:Nat):Int)=(r.length:Int)+1 by lia,Int.mul_add];lia
theorem kL{f:Fm}{is:List Nat}{q:Pc}(h:q∈pcsI gs f is):q.1∈is:=by
 unfold pcsI at h;split at h
 ·split at h
  ·exact nomatch h
  ·rcases mem_cons.mp h with rfl | h
   ·exact vq
   ·split at h
    ·rw[vo.mp h];exact vq
    ·exact nomatch h
 ·exact(xB h).1
 ·obtain⟨j,hj,rfl⟩:=vK.mp h;exact hj
theorem Wq{f:Fm}{is:List Nat}(h8:is.length<=8):(pcsI gs f is).length<=8:=by
 unfold pcsI;split
 ·split
  ·exact va _
  ·split<;>simp
 ·rw[j3j];exact h8
 ·rw[vt];exact h8
theorem XB{qs:List Pc}{y:Pr4}(h:y∈prg gs t qs):∃q∈qs,prg1 gs t q=some y:=mem_filterMap.mp h
theorem j2r(qs:List Pc):(prg gs t qs).length<=qs.length:=List.length_filterMap_le _ _
theorem j0L{q:Pc}{y:Pr4}(h:prg1 gs t q=some y):y.1=q.1:=by
 unfold prg1 at h;split at h
 ·cases h;rfl
 ·cases h
theorem XC{qs:List Pc}{x:Nat×Int}(h:x∈wth gs t qs):∃q∈qs,x.1=q.1:=by
 obtain⟨y,hy,hx⟩:=mem_flatMap.mp h;obtain⟨q,hq,e⟩:=XB hy;refine⟨q,hq,?_⟩;rw[<-j0L e];unfold wth1 at hx;rcases vh.mp hx with z | z
 ·split at z
  ·rw[vo.mp z]
  ·exact nomatch z
 ·split at z
  ·rw[vo.mp z]
  ·exact nomatch z
theorem j4c(y:Pr4):(wth1 gs y).length<=2:=by
 unfold wth1;rw[vn];have h1:(if 0<y.2.2.1 then[(y.1,gs.getD y.1 0)]else[]).length<=1:=by split<;>simp
 have h2:(match y.2.2.2 with | some r=>[(y.1,r)] | none=>[]:List (Nat×Int)).length<=1:=by split<;>simp
 lia
theorem j5y(qs:List Pc):(wth gs t qs).length<=2*qs.length:=by
 have h:∀ys:List Pr4,(ys.flatMap (wth1 gs)).length<=2*ys.length:=fun ys=>by
  induction ys with
  | nil=>exact va _
  | cons y r ih=>
   rw[flatMap_cons,vn,vP];have:=j4c (gs:=gs) y;lia
 have:=h (prg gs t qs);have:=j2r (gs:=gs) (t:=t) qs;unfold wth;lia
end
section
variable{ls:List (Str×Int)}{ps:List (Str×Fm)}{gs:List Int}
theorem WA(W:WfB ls ps){i:Nat}{q:Pc}(h:q∈pcB ps gs i):q.1<i:=by
 unfold pcB at h;split at h
 ·rename_i p hp;exact W.inP_lt hp (kL h)
 ·exact nomatch h
theorem zN(W:WfB ls ps){i:Nat}{t:Int}{x:Nat×Int}(h:x∈wth gs t (pcB ps gs i)):x.1<i:=by
 obtain⟨q,hq,e⟩:=XC h;rw[e];exact WA W hq
theorem ZM{α β:Type}{f g:α->List β}:∀{l:List α},(∀x∈l,f x=g x)->l.flatMap f=l.flatMap g
 | [],_=>rfl
 | x::r,h=>by rw[flatMap_cons,flatMap_cons,h x vq,ZM fun y hy=>h y (vp _ hy)]
theorem WC(W:WfB ls ps):∀{n m i:Nat} {t:Int},i<n->i<m->reachL (pcB ps gs) gs n i t=reachL (pcB ps gs) gs m i t
 | 0,_,_,_,h,_=>ug h (Nat.not_lt_zero _)
 | _,0,_,_,_,h=>ug h (Nat.not_lt_zero _)
 | n+1,m+1,i,t,h1,h2=>by
  unfold reachL;split
  ·rfl
  ·exact ZM fun x hx=>by
    have:=zN W hx;exact WC W (by lia) (by lia)
theorem Wv(W:WfB ls ps):∀{n m i:Nat} {t:Int},i<n->i<m->nodesL (pcB ps gs) gs n i t=nodesL (pcB ps gs) gs m i t
 | 0,_,_,_,h,_=>ug h (Nat.not_lt_zero _)
 | _,0,_,_,_,h=>ug h (Nat.not_lt_zero _)
 | n+1,m+1,i,t,h1,h2=>by
  unfold nodesL;split
  ·rfl
  ·congr 2;exact map_congr_left fun x hx=>by
    have:=zN W hx;exact Wv W (by lia) (by lia)
noncomputable def reach(ps:List (Str×Fm))(gs:List Int)(i:Nat)(t:Int):List (Nat×Int):=reachL (pcB ps gs) gs (i+1) i t
noncomputable def nodes(ps:List (Str×Fm))(gs:List Int)(i:Nat)(t:Int):Nat:=nodesL (pcB ps gs) gs (i+1) i t
theorem JU{i:Nat}{t:Int}(h:gs.getD i 0<=t\/pcB ps gs i=[]):reach ps gs i t=[(i,t)]:=by
 unfold reach reachL;rw[vd h]
theorem Qs(W:WfB ls ps){i:Nat}{t:Int}(h:¬(gs.getD i 0<=t\/pcB ps gs i=[])):reach ps gs i t=(wth gs t (pcB ps gs i)).flatMap fun x=>reach ps gs x.1 x.2:=by
 unfold reach;rw[reachL,vc h];exact ZM fun x hx=>by
  have:=zN W hx;exact WC W (by lia) (by lia)
theorem YZ{i:Nat}{t:Int}(h:gs.getD i 0<=t\/pcB ps gs i=[]):nodes ps gs i t=1:=by
 unfold nodes nodesL;rw[vd h]
theorem Ww(W:WfB ls ps){i:Nat}{t:Int}(h:¬(gs.getD i 0<=t\/pcB ps gs i=[])):nodes ps gs i t=1+((wth gs t (pcB ps gs i)).map fun x=>nodes ps gs x.1 x.2).sum:=by
 unfold nodes;rw[nodesL,vc h];congr 2;exact map_congr_left fun x hx=>by
  have:=zN W hx;exact Wv W (by lia) (by lia)
theorem xF(i:Nat)(t:Int):1<=nodes ps gs i t:=by
 unfold nodes nodesL;split<;>lia
end
section
variable{gs:List Int}{t:Int}
noncomputable def wq(gs:List Int)(t:Int)(q:Pc):List (Nat×Int):=match prg1 gs t q with | some y=>wth1 gs y | none=>[]
theorem Yz:wth gs t []=[]:=rfl
theorem Qn(q:Pc)(qs:List Pc):wth gs t (q::qs)=wq gs t q++wth gs t qs:=by
 unfold wth prg wq;rw[filterMap_cons];cases prg1 gs t q with
 | none=>rfl
 | some y=>rfl
theorem j2S{q:Pc}(h:t<q.2.2):wq gs t q=[]:=by
 unfold wq prg1;rw[vc (by lia)]
theorem WP{j:Nat}{b:Int}(hg:1<=gs.getD j 0)(h:b<=t):wq gs t (j,1,b)=if gs.getD j 0<=t-b then[(j,gs.getD j 0)]else[(j,t-b)]:=by
 have eq:wq gs t (j,1,b)=wth1 gs (j,b,ov gs t (j,1,b),if ov gs t (j,1,b)<1 then some (t-b-ov gs t (j,1,b)*gs.getD j 0)else none):=by
  unfold wq prg1;rw[vd (show b<=t from h)]
 rw[eq];generalize hgj:gs.getD j 0=g at hg|-;have e:ov gs t (j,1,b)=if g<=t-b then 1 else 0:=by
  show(if(1:Int)<(t-b)/gs.getD j 0 then(1:Int)else(t-b)/gs.getD j 0)=_;rw[hgj];by_cases z:g<=t-b
  ·rw[vd z];have:1<=(t-b)/g:=by
    rw[Int.le_ediv_iff_mul_le (by lia)];lia
   split<;>lia
  ·rw[vc z];have:(t-b)/g=0:=Int.ediv_eq_zero_of_lt (by lia) (by lia);rw[this];rfl
 by_cases z:g<=t-b
 ·rw[vd z]at e;rw[vd z,e];unfold wth1;simp;rw[<-vy];exact hgj
 ·rw[vc z]at e;rw[vc z,e];unfold wth1;simp
theorem X5{q:Pc}(h:q.2.2<=t):wq gs t q=(if 0<ov gs t q then[(q.1,gs.getD q.1 0)]else[])++(if ov gs t q<q.2.1 then[(q.1,t-q.2.2-ov gs t q*gs.getD q.1 0)]else[]):=by
 unfold wq prg1;rw[vd h];show wth1 gs _=_;unfold wth1;congr 1;show(match(if ov gs t q<q.2.1 then some (t-q.2.2-ov gs t q*gs.getD q.1 0)else none)with | some r=>[(q.1,r)] | none=>[])=_;split<;>rename_i e<;>split at e
 ·cases e;rw[vd (by assumption)]
 ·cases e
 ·cases e
 ·rw[vc (by assumption)]
theorem Ki:∀{qs:List Pc},(∀q∈qs,t<q.2.2)->wth gs t qs=[]
 | [],_=>rfl
 | q::r,h=>by rw[Qn,j2S (h q vq),Ki fun q hq=>h q (vp _ hq)];rfl
theorem WD{is:List Nat}{b:Int}(hg:∀j∈is,0<=gs.getD j 0/\gs.getD j 0<=10^60)(h:t<b):wth gs t (rowPc gs is b)=[]:=
 Ki fun q hq=>by have:=(wo hg hq).1;lia
theorem y9{j:Nat}{r:List Nat}{b:Int}(hg:∀k∈j::r,1<=gs.getD k 0/\gs.getD k 0<=10^60)(h:b<=t):wth gs t (rowPc gs (j::r) b)=if gs.getD j 0<=t-b then(j,gs.getD j 0)::wth gs t (rowPc gs r (b+gs.getD j 0))else[(j,t-b)]:=by
 have g:=hg j vq;rw[rowPc,Qn,WP g.1 h];split
 ·rfl
 ·rw[WD (fun k hk=>by have:=hg k (vp _ hk);lia) (by lia)];rfl
theorem j50{α:Type}{f g:α->Nat}:∀{l:List α},(∀x∈l,f x<=g x)->(l.map f).sum<=(l.map g).sum
 | [],_=>vb _
 | x::r,h=>by
  rw[v7,v7,sum_cons,sum_cons];have:=h x vq;have:=j50 (l:=r) fun y hy=>h y (vp _ hy)
  lia
theorem j2C{N:Nat×Int->Nat}{B:Nat}:∀{is:List Nat} {b:Int},(∀k∈is,1<=gs.getD k 0/\gs.getD k 0<=10^60)->(∀k∈is,N (k,gs.getD k 0)=1)->(∀k∈is,∀r,0<=r->N (k,r)<=B)->((wth gs t (rowPc gs is b)).map N).sum<=is.length+B
 | [],b,_,_,_=>va _
 | j::r,b,hg,h1,h2=>by
  by_cases h:b<=t
  ·rw[y9 hg h];split
   ·rw[v7,sum_cons,h1 j vq,vP];have:=j2C (N:=N) (B:=B) (is:=r) (b:=b+gs.getD j 0) (fun k hk=>hg k (vp _ hk)) (fun k hk=>h1 k (vp _ hk)) fun k hk=>h2 k (vp _ hk)
    lia
   ·have:=h2 j vq (t-b) (by lia);simp;lia
  ·rw[WD (fun k hk=>by have:=hg k hk;lia) (by lia)];exact va _
theorem WI{is:List Nat}(hg:∀k∈is,1<=gs.getD k 0)(ht:0<=t):wth gs t (is.map fun j=>(j,1,0))=is.map fun j=>if gs.getD j 0<=t then(j,gs.getD j 0)else(j,t):=by
 induction is with
 | nil=>rfl
 | cons j r ih=>
  rw[v7,Qn,WP (hg j vq) ht,ih fun k hk=>hg k (vp _ hk),v7,Int.sub_zero];split<;>rfl
theorem j2Y{N:Nat×Int->Nat}{B:Nat}{j:Nat}{k:Int}(hg:1<=gs.getD j 0)(ht:0<=t)(h1:N (j,gs.getD j 0)=1)(h2:∀r,0<=r->N (j,r)<=B) :
  ((wth gs t ((j,1,0)::(if 1<k then[(j,k-1,gs.getD j 0)]else[]))).map N).sum<=2+B:=by
 rw[Qn,WP hg ht,Int.sub_zero,vj,sum_append];by_cases z:gs.getD j 0<=t
 ·rw[vd z];have a:((wth gs t (if 1<k then[(j,k-1,gs.getD j 0)]else[])).map N).sum<=1+B:=by
   split
   ·rw[Qn,Yz,append_nil,X5 (show gs.getD j 0<=t from z),vj,sum_append];have b1:(((if 0<ov gs t (j,k-1,gs.getD j 0)then[(j,gs.getD j 0)]else[]):List (Nat×Int)).map N).sum<=1:=by
     split
     ·simp;rw[<-vy,h1];exact vb _
     ·simp
    have b2:(((if ov gs t (j,k-1,gs.getD j 0)<k-1 then[(j,t-gs.getD j 0-ov gs t (j,k-1,gs.getD j 0)*gs.getD j 0)]else[]):List (Nat×Int)).map N).sum<=B:=by
     split
     ·have ho:ov gs t (j,k-1,gs.getD j 0)=(t-gs.getD j 0)/gs.getD j 0:=by
       show(if k-1<(t-gs.getD j 0)/gs.getD j 0 then k-1 else(t-gs.getD j 0)/gs.getD j 0)=_;rename_i c;have c':(if k-1<(t-gs.getD j 0)/gs.getD j 0 then k-1 else(t-gs.getD j 0)/gs.getD j 0)<k-1:=c;split at c'
       ·lia
       ·rename_i z;rw[vc z]
      have:=h2 (t-gs.getD j 0-ov gs t (j,k-1,gs.getD j 0)*gs.getD j 0) (by
       rw[ho];have:=Int.ediv_mul_le (t-gs.getD j 0) (show gs.getD j 0≠0 by lia);lia)
      simp;exact this
     ·simp
    have e1:((if 0<ov gs t (j,k-1,gs.getD j 0)then[((j,k-1,gs.getD j 0):Pc).1].map fun a=>(a,gs.getD a 0)else[]):List (Nat×Int))=if 0<ov gs t (j,k-1,gs.getD j 0)then[(j,gs.getD j 0)]else[]:=rfl
    exact Nat.add_le_add b1 b2
   ·exact va _
  have:(([(j,gs.getD j 0)]:List (Nat×Int)).map N).sum=1:=by
   simp;rw[<-vy,h1]
  lia
 ·rw[vc z];have e:wth gs t (if 1<k then[(j,k-1,gs.getD j 0)]else[])=[]:=by
   split
   ·exact Ki fun q hq=>by rw[vo.mp hq];show t<gs.getD j 0;lia
   ·rfl
  rw[e];have:=h2 t ht;simp;lia
end
theorem len_sub{a b:List Int}(h1:a.Nodup)(h2:∀x∈a,x∈b):a.length<=b.length:=by
 induction a generalizing b with
 | nil=>exact va _
 | cons x r ih=>
  rw[ur]at h1;have hx:=h2 x vq;have:=ih (b:=b.erase x) h1.2 fun y hy=>by
   have hne:y≠x:=fun e=>h1.1 (e▸hy)
   exact(List.mem_erase_of_ne hne).mpr (h2 y (vp _ hy))
  rw[List.length_erase_of_mem hx]at this;have:0<b.length:=length_pos_of_mem hx;rw[vP];lia
section
variable{ls:List (Str×Int)}{ps:List (Str×Fm)}{gs:List Int}{hs:List (List Int)}
theorem Wo(S:Snd ls ps gs hs)(hl:hs.length=ps.length){i:Nat}(hi:i<ps.length):hs[i]?=some (hs.getD i []):=by
 rw[vy,vz (by lia)];rfl
theorem j6t(S:Snd ls ps gs hs)(hl:hs.length=ps.length)(M:MovOk ls ps hs){i:Nat}{p:Str×Fm}(hp:ps[i]?=some p){j:Nat}(hj:j∈inP ps p.2):(hs.getD j []).length<=(hs.getD i []).length:=by
 have hi:=(vx.mp hp).1;have lj:=S.w.inP_lt hp hj;obtain⟨_,b⟩:=M i p _ hp (Wo S hl hi);obtain⟨a,_⟩:=M j _ _ (vz (show j<ps.length by lia)) (Wo S hl (by lia));exact len_sub (a.imp fun h=>by lia) fun k hk=>(b k).mpr (.inl ⟨j,hj,hk⟩)
theorem j4U(S:Snd ls ps gs hs)(hl:hs.length=ps.length)(M:MovOk ls ps hs){i:Nat}{p:Str×Fm}{qs:List Str}(hp:ps[i]?=some p)(e:p.2 = .side qs):((inP ps p.2).map fun j=>(hs.getD j []).length).sum<=(hs.getD i []).length:=by
 have hi:=(vx.mp hp).1;obtain⟨_,one⟩:=S.sd i p qs hp e;obtain⟨_,b⟩:=M i p _ hp (Wo S hl hi);have lt:=fun j=>S.w.inP_lt (j:=j) hp
 have nd:∀is:List Nat,(∀j∈is,j<ps.length)->(∀k:Int,((is.map fun j=>hs.getD j []).filter fun ks=>decide (k∈ks)).length<=1)->(is.flatMap fun j=>hs.getD j []).Nodup:=fun is=>by
  induction is with
  | nil=>exact fun _ _=>.nil
  | cons j r ih=>
   intro h1 h2;rw[flatMap_cons];have nj:(hs.getD j []).Nodup:=by
    obtain⟨a,_⟩:=M j _ _ (vz (h1 j vq)) (Wo S hl (h1 j vq));exact a.imp fun h=>by lia
   refine nodup_append.mpr ⟨nj,ih (fun k hk=>h1 k (vp _ hk)) fun k=>?_,fun a ha b hb eab=>?_⟩
   ·have:=h2 k;rw[v7,v6]at this;split at this
    ·rw[vP]at this;lia
    ·exact this
   ·subst eab;obtain⟨j',hj',hk'⟩:=mem_flatMap.mp hb;have:=h2 a;rw[v7,v6,vd (vG ha),vP]at this;have pos:0<((r.map fun j=>hs.getD j []).filter fun ks=>decide (a∈ks)).length:=length_pos_of_mem (vO.mpr ⟨vK.mpr ⟨j',hj',rfl⟩,vG hk'⟩);lia
 have n:=nd (inP ps p.2) (fun j hj=>by have:=lt j hj;lia) one;have le:=len_sub (b:=hs.getD i []) n fun k hk=>by
  obtain⟨j,hj,hk⟩:=mem_flatMap.mp hk;exact(b k).mpr (.inl ⟨j,hj,hk⟩)
 rw[List.length_flatMap]at le;exact le
theorem j2K{α:Type}{f:α->Nat}{c:Nat}:∀{l:List α},(l.map fun x=>c*f x).sum=c*(l.map f).sum
 | []=>rfl
 | x::r=>by rw[v7,v7,sum_cons,sum_cons,j2K,Nat.mul_add]
theorem j4s(S:Snd ls ps gs hs)(hl:hs.length=ps.length)(M:MovOk ls ps hs)(g1:∀i,i<ps.length->1<=gs.getD i 0):∀i t,i<ps.length->0<=t->nodes ps gs i t<=9*(i+1)*max 1 (hs.getD i []).length:=by
 intro i
 induction i using Nat.strongRecOn with
 | ind i ih=>
  intro t hi ht;have W:=S.w;have m1:1<=max 1 (hs.getD i []).length:=Nat.le_max_left _ _;by_cases hleaf:gs.getD i 0<=t\/pcB ps gs i=[]
  ·rw[YZ hleaf];have:1*1<=9*(i+1)*max 1 (hs.getD i []).length:=Nat.mul_le_mul (by lia) m1;lia
  rw[Ww W hleaf];obtain⟨p,hp⟩:∃p,ps[i]?=some p:=⟨_,vz hi⟩
  have epc:pcB ps gs i=pcsI gs p.2 (inP ps p.2):=by unfold pcB;rw[hp]
  have lt:=fun j=>W.inP_lt (j:=j) hp
  have hg:∀k∈inP ps p.2,1<=gs.getD k 0/\gs.getD k 0<=10^60:=fun k hk=>by
   have:=lt k hk;exact⟨g1 k (by lia),(S.gb k (by lia)).2⟩
  have i8:(inP ps p.2).length<=8:=by unfold inP;rw[vt];exact(W.f i p hp).2
  have hone:∀k∈inP ps p.2,nodes ps gs k (gs.getD k 0)=1:=fun k _=>YZ (.inl (vA _))
  have hB:∀k∈inP ps p.2,∀r,0<=r->nodes ps gs k r<=9*i*max 1 (hs.getD i []).length:=fun k hk r hr=>by
   have l:=lt k hk;have:=ih k l r (by lia) hr;have s:=j6t S hl M hp hk;refine vV this (Nat.mul_le_mul (by lia) ?_);exact Nat.max_le.mpr ⟨Nat.le_max_left _ _,vV s (Nat.le_max_right _ _)⟩
  have fin:∀X:Nat,X<=8+9*i*max 1 (hs.getD i []).length->1+X<=9*(i+1)*max 1 (hs.getD i []).length:=fun X hX=>by
   rw[Nat.mul_add,Nat.add_mul];have:9*1*1<=9*1*max 1 (hs.getD i []).length:=Nat.mul_le_mul (vb _) m1;lia
  rw[epc];cases e:p.2 with
  | again k x=>
   have ein:inP ps p.2=[ixOf (nmsOf ps) x]:=by rw[e];rfl
   rw[e]at ein;rw[ein];have mem:ixOf (nmsOf ps) x∈inP ps p.2:=by rw[e,ein];exact vq
   refine fin _ (vV (j2Y (N:=fun x=>nodes ps gs x.1 x.2) (hg _ mem).1 ht (hone _ mem) (hB _ mem)) (by lia))
  | row xs=>
   rw[e]at hg hone hB i8;exact fin _ (vV (j2C (N:=fun x=>nodes ps gs x.1 x.2) hg hone hB) (by lia))
  | side xs=>
   have sl:=j4U S hl M hp e;obtain⟨ne,_⟩:=S.sd i p xs hp e;rw[show pcsI gs (.side xs) (inP ps (.side xs))=(inP ps (.side xs)).map fun j=>(j,1,0)from rfl];rw[e]at hg hone sl ne lt;rw[WI (fun k hk=>(hg k hk).1) ht,map_map];have le:((inP ps (.side xs)).map ((fun x=>nodes ps gs x.1 x.2)∘fun j=>if gs.getD j 0<=t then(j,gs.getD j 0)else(j,t))).sum<=((inP ps (.side xs)).map fun j=>9*i*(hs.getD j []).length).sum:=by
    refine j50 fun j hj=>?_
    have l:=lt j hj;have n1:1<=(hs.getD j []).length:=length_pos_iff.mpr (ne j hj);have nd:∀r,0<=r->nodes ps gs j r<=9*i*(hs.getD j []).length:=fun r hr=>by
     have:=ih j l r (by lia) hr;rw[Nat.max_eq_right n1]at this;exact vV this (Nat.mul_le_mul (by lia) (vb _))
    show nodes ps gs (if gs.getD j 0<=t then(j,gs.getD j 0)else(j,t)).1 (if gs.getD j 0<=t then(j,gs.getD j 0)else(j,t)).2<=_;split
    ·exact nd _ (by have:=hg j hj;lia)
    ·exact nd _ ht
   rw[j2K]at le;refine fin _ (vV le (vV (Nat.mul_le_mul (vb (9*i)) (vV sl (Nat.le_max_right 1 _))) (Nat.le_add_left _ _)))
  | hold n=>
   exact ug (.inr (by rw[epc,e];rfl)) hleaf
  | ring x n=>
   exact ug (.inr (by rw[epc,e];rfl)) hleaf
  | rise x v n=>
   exact ug (.inr (by rw[epc,e];rfl)) hleaf
end
structure Sn(ls:List (Str×Int))(ps:List (Str×Fm))(gs:List Int)(hs:List (List Int)):Prop where
 s:Snd ls ps gs hs
 hl:hs.length=ps.length
 m:MovOk ls ps hs
 g1:∀i,i<ps.length->1<=gs.getD i 0
 ne:1<=ps.length
 l18:∀q∈ls,0<=q.2/\q.2<=10^18
 r18:∀(i:Nat) (y x:Str) (v n:Int),ps[i]?=some (y,.rise x v n)->0<=v/\v<=10^18/\1<=n/\n<=10^18
 a18:∀(i:Nat) (y x:Str) (k:Int),ps[i]?=some (y,.again k x)->1<=k/\k<=10^18
section
variable{ls:List (Str×Int)}{ps:List (Str×Fm)}{gs:List Int}{hs:List (List Int)}
theorem Sn.g(N:Sn ls ps gs hs){i:Nat}(hi:i<ps.length):1<=gs.getD i 0/\gs.getD i 0<=10^60:=⟨N.g1 i hi,(N.s.gb i hi).2⟩
theorem Sn.j44(N:Sn ls ps gs hs){i:Nat}(hi:i<ps.length):gs[i]?=some (gs.getD i 0):=by
 rw[vy,vz (by rw[N.s.gl];exact hi)];rfl
theorem Sn.i8(N:Sn ls ps gs hs){i:Nat}{p:Str×Fm}(hp:ps[i]?=some p):(inP ps p.2).length<=8:=by
 unfold inP;rw[vt];exact(N.s.w.f i p hp).2
theorem Sn.pcOk(N:Sn ls ps gs hs){i:Nat}{q:Pc}(h:q∈pcB ps gs i):PcOk gs q:=by
 have lt:=WA N.s.w h;have h0:=h;unfold pcB at h;split at h
 case h_2=>exact nomatch h
 rename_i p hp;have hi:=(vx.mp hp).1;have g:=N.g (show q.1<ps.length by lia);have i8:=N.i8 hp;have hg:∀k∈inP ps p.2,0<=gs.getD k 0/\gs.getD k 0<=10^60:=fun k hk=>by
  have:=N.s.w.inP_lt hp hk;have:=N.g (show k<ps.length by lia);lia
 refine⟨by rw[N.s.gl];lia,g.1,g.2,?_⟩;unfold pcsI at h;split at h
 ·rename_i k x e;have k18:=N.a18 i p.1 x k (by rw[hp,<-e]);split at h
  ·exact nomatch h
  ·rename_i j r ein;have gj:=hg j (by rw[ein];exact vq);rcases mem_cons.mp h with rfl | h
   ·exact⟨(by show(1:Int)<=1;decide),(by show(1:Int)<=10^18;decide),(by show(0:Int)<=0;decide),(by show(0:Int)<=10^62;decide)⟩
   ·split at h
    ·rw[vo.mp h];refine⟨?_,?_,gj.1,?_⟩
     ·show 1<=k-1;lia
     ·show k-1<=_;lia
     ·show gs.getD j 0<=_;lia
    ·exact nomatch h
 ·obtain⟨b0,b1⟩:=wo hg h;have e1:=(xB h).2;refine⟨by lia,by lia,b0,?_⟩;have:(10:Int)^60*((inP ps p.2).length:Int)<=10^60*8:=Int.mul_le_mul_of_nonneg_left (by lia) (by decide);lia
 ·obtain⟨j,hj,rfl⟩:=vK.mp h;exact⟨(by show(1:Int)<=1;decide),(by show(1:Int)<=10^18;decide),(by show(0:Int)<=0;decide),(by show(0:Int)<=10^62;decide)⟩
theorem j4x{t:Int}{q:Pc}(ok:PcOk gs q)(h:q.2.2<=t):0<=ov gs t q/\ov gs t q<=q.2.1/\ov gs t q*gs.getD q.1 0<=t-q.2.2/\0<=ov gs t q*gs.getD q.1 0:=by
 obtain⟨_,g1,_,t1,_,_⟩:=ok;have d0:0<=(t-q.2.2)/gs.getD q.1 0:=Int.ediv_nonneg (by lia) (by lia);have dm:=Int.ediv_mul_le (t-q.2.2) (show gs.getD q.1 0≠0 by lia);have o0:0<=ov gs t q/\ov gs t q<=q.2.1/\ov gs t q<=(t-q.2.2)/gs.getD q.1 0:=by
  unfold ov;split<;>lia
 refine⟨o0.1,o0.2.1,?_,vM o0.1 (by lia)⟩;exact Int.le_trans (vT o0.2.2 (by lia)) dm
theorem Y9{t:Int}{qs:List Pc}(ok:∀q∈qs,PcOk gs q){x:Nat×Int}(h:x∈wth gs t qs):0<=x.2:=by
 obtain⟨y,hy,hx⟩:=mem_flatMap.mp h;obtain⟨q,hq,e⟩:=XB hy;have o:=ok q hq;by_cases c:q.2.2<=t
 case neg=>unfold prg1 at e;rw[vc c]at e;cases e
 have b:=j4x o c;unfold prg1 at e;rw[vd c]at e;have e':=vL e;subst e';unfold wth1 at hx;rcases vh.mp hx with z | z
 ·have z:x∈(if 0<ov gs t q then[(q.1,gs.getD q.1 0)]else[]):=z;split at z
  ·rw[vo.mp z];exact Int.le_trans (by decide) o.2.1
  ·exact nomatch z
 ·split at z
  ·rename_i r er;rw[vo.mp z];have er:(if ov gs t q<q.2.1 then some (t-q.2.2-ov gs t q*gs.getD q.1 0)else none)=some r:=er;split at er
   ·cases er;show 0<=t-q.2.2-ov gs t q*gs.getD q.1 0;lia
   ·cases er
  ·exact nomatch z
theorem Sn.nodes(N:Sn ls ps gs hs)(M8:∀i,i<ps.length->(hs.getD i []).length<=8){i:Nat}{t:Int}(hi:i<ps.length)(ht:0<=t):Rm.nodes ps gs i t<=5000:=by
 have:=j4s N.s N.hl N.m N.g1 i t hi ht;have p61:=N.s.w.p61;have m8:=M8 i hi;have:9*(i+1)*max 1 (hs.getD i []).length<=9*61*8:=Nat.mul_le_mul (by lia) (by lia);lia
end
noncomputable def appH(ls:List (Str×Int))(ps:List (Str×Fm))(gs:List Int)(E:List (List (Int×Int)))(h:List Int)(x:Nat×Int):List Int:=
 if gs.getD x.1 0<=x.2 then(E.getD x.1 []).foldl (fun h q=>h.set q.1.toNat q.2) h
 else match ps[x.1]? with
  | some (_,.rise y v n)=>h.set (ixOf (nmsOf ls) y) (Rp.ramp (h.getD (ixOf (nmsOf ls) y) 0) v n x.2)
  | _=>h
noncomputable def standH(ls:List (Str×Int))(ps:List (Str×Fm))(gs:List Int)(E:List (List (Int×Int)))(t:Int):List Int:=(reach ps gs (ps.length-1) t).foldl (appH ls ps gs E) (ls.map (·.2))
inductive sp_standG(vs:List V)(H:Hp)(Q:VK)(xk:XK):Prop
 | mk (b pl pp:Addr) (las pas:List Addr) (ls:List (Str×Int)) (ps:List (Str×Fm)) (gs:List Int) (hs:List (List Int)) (t:Int) (_:vs=[.ref b,.int t]) (_:BookAt H b pl pp las pas ls ps) (_:Sn ls ps gs hs) (_:0<=t) (_:t<=gs.getD (ps.length-1) 0) (_:∀(l:Addr) (E:List (List (Int×Int))) (H':Hp),Same H H'->H l=none->E.length=ps.length->EndOk ls ps E->H' l=some (.lst ((standH ls ps gs E t).map V.int))->(standH ls ps gs E t).length=ls.length->Q (.ref l) H'):sp_standG vs H Q xk
theorem All2.app{α:Type}{R:Addr->α->Prop}{as bs:List Addr}{xs ys:List α}(h:All2 R as xs)(k:All2 R bs ys):All2 R (as++bs) (xs++ys):=by
 have hl:=h.1;refine⟨by rw[vn,vn,h.1,k.1],fun i a x h1 h2=>?_⟩;by_cases hi:i<as.length
 ·rw[vB hi]at h1;rw[vB (by lia)]at h2;exact h.2 i a x h1 h2
 ·rw[vC (by lia)]at h1;rw[vC (by lia)]at h2;exact k.2 _ a x h1 (by rw[hl];exact h2)
theorem All2.cons{α:Type}{R:Addr->α->Prop}{a:Addr}{as:List Addr}{x:α}{xs:List α}(h:R a x)(k:All2 R as xs):All2 R (a::as) (x::xs):=All2.app (as:=[a]) (xs:=[x]) (All2.snoc (as:=[]) (xs:=[]) .nil h) k
theorem All2.rev{α:Type}{R:Addr->α->Prop}:∀{as:List Addr} {xs:List α},All2 R as xs->All2 R as.reverse xs.reverse
 | [],[],_=>.nil
 | [],_::_,h=>ug h.1 (by simp)
 | _::_,[],h=>ug h.1 (by simp)
 | a::as,x::xs,h=>by
  rw[reverse_cons,reverse_cons];exact All2.app (All2.rev (All2.tail h).2) (All2.snoc (as:=[]) (xs:=[]) .nil (All2.tail h).1)
theorem All2.last{α:Type}{R:Addr->α->Prop}{as:List Addr}{xs:List α}{x:α}(h:All2 R as (xs++[x])):∃as' a,as=as'++[a]/\All2 R as' xs/\R a x:=by
 rcases List.eq_nil_or_concat as with rfl | ⟨as',a,rfl⟩
 ·have:=h.1;simp at this
 ·rw[List.concat_eq_append]at h|-;have hl:=h.1;rw[vn,vn]at hl;have hl':as'.length=xs.length:=by simpa using hl
  refine⟨as',a,rfl,⟨hl',fun i b y h1 h2=>?_⟩,?_⟩
  ·have hi:=(vx.mp h1).1;exact h.2 i b y (by rw[vB hi];exact h1) (by rw[vB (by lia)];exact h2)
  ·exact h.2 as'.length a x (by simp) (by rw[hl'];simp)
theorem j26{gs:List Int}{n:Nat}(h:1<=n)(e:gs.length=n):atI (gs.map V.int) (-1)=some (.int (gs.getD (n-1) 0)):=by
 have i:ixN n (-1)=some (n-1):=by
  unfold ixN;simp;lia
 unfold atI;rw[vt,e,i];show(gs.map V.int)[n-1]?=_;rw[vv,vy,vz (by lia)];rfl
section
variable{ls:List (Str×Int)}{ps:List (Str×Fm)}{gs:List Int}{hs:List (List Int)}
theorem Kb(W:WfB ls ps):∀{i:Nat} {t:Int} {x:Nat×Int},i<ps.length->x∈reach ps gs i t->x.1<ps.length:=by
 intro i
 induction i using Nat.strongRecOn with
 | ind i ih=>
  intro t x hi hx;by_cases h:gs.getD i 0<=t\/pcB ps gs i=[]
  ·rw[JU h]at hx;rw[vo.mp hx];exact hi
  ·rw[Qs W h]at hx;obtain⟨y,hy,hx⟩:=mem_flatMap.mp hx;have:=zN W hy;exact ih y.1 this (by lia) hx
theorem xJ(N:Sn ls ps gs hs):∀{i:Nat} {t:Int} {x:Nat×Int},i<ps.length->0<=t->x∈reach ps gs i t->0<=x.2:=by
 intro i
 induction i using Nat.strongRecOn with
 | ind i ih=>
  intro t x hi ht hx;by_cases h:gs.getD i 0<=t\/pcB ps gs i=[]
  ·rw[JU h]at hx;rw[vo.mp hx];exact ht
  ·rw[Qs N.s.w h]at hx;obtain⟨y,hy,hx⟩:=mem_flatMap.mp hx;have:=zN N.s.w hy;exact ih y.1 this (by lia) (Y9 (fun q hq=>N.pcOk hq) hy) hx
theorem j1m(N:Sn ls ps gs hs){E:List (List (Int×Int))}(lE:E.length=ps.length)(oE:EndOk ls ps E):∀{i:Nat},i<ps.length->∀q∈E.getD i [],0<=q.2/\q.2<=10^18:=by
 intro i
 induction i using Nat.strongRecOn with
 | ind i ih=>
  intro hi q hq;have hE:E[i]?=some (E.getD i []):=by rw[vy,vz (by lia)];rfl
  obtain⟨p,hp⟩:∃p,ps[i]?=some p:=⟨_,vz hi⟩
  rcases((oE i p _ hp hE).2 q.1 q.2).mp hq with⟨pre,j,post,e,h1,_⟩ | ⟨x,n,e,_⟩
  ·have hj:j∈inP ps p.2:=by rw[e];simp
   have:=N.s.w.inP_lt hp hj;exact ih j this (by lia) _ h1
  ·have:=N.r18 i p.1 x q.2 n (by rw[hp,<-e]);lia
theorem j2B{h v n j:Int}(h0:0<=h/\h<=10^18)(v0:0<=v/\v<=10^18)(n1:1<=n)(j0:0<=j)(j1:j<=n):0<=Rp.ramp h v n j/\Rp.ramp h v n j<=10^18:=by
 unfold Rp.ramp;by_cases c:h<=v
 ·have a:0<=(v-h)*j:=vM (by lia) j0;have b:(v-h)*j<=(v-h)*n:=Int.mul_le_mul_of_nonneg_left j1 (by lia);have d0:0<=(v-h)*j/n:=Int.ediv_nonneg a (by lia);have d1:(v-h)*j/n<=v-h:=by
   have:=Int.ediv_le_ediv (show 0<n by lia) b;rw[Int.mul_ediv_cancel _ (show n≠0 by lia)]at this;exact this
  lia
 ·have a:(v-h)*j<=0:=Int.mul_nonpos_of_nonpos_of_nonneg (by lia) j0;have b:(v-h)*n<=(v-h)*j:=Int.mul_le_mul_of_nonpos_left (by lia) j1;have d0:(v-h)*j/n<=0:=by
   have:=Int.ediv_le_ediv (show 0<n by lia) a;rw[Int.zero_ediv]at this;exact this
  have d1:v-h<=(v-h)*j/n:=by
   have:=Int.ediv_le_ediv (show 0<n by lia) b;rw[Int.mul_ediv_cancel _ (show n≠0 by lia)]at this;exact this
  lia
end
inductive Fn where
 | hold (n:Int) | ring (x:Str) (n:Int) | rise (x:Str) (h n:Int) | row (is:List Nat) | side (is:List Nat) | again (k:Int) (j:Nat)
noncomputable def Fn.js:Fn->List Nat
 | .row is=>is
 | .side is=>is
 | .again _ j=>[j]
 | _=>[]
def Ex(p:Addr)(H H':Hp):Prop:=∀c u,c≠p->H c=some u->H' c=some u
theorem Ex.refl{p:Addr}(H:Hp):Ex p H H:=fun _ _ _ h=>h
theorem Ex.trans{p:Addr}{H1 H2 H3:Hp}(a:Ex p H1 H2)(b:Ex p H2 H3):Ex p H1 H3:=fun c u n h=>b c u n (a c u n h)
theorem Ex.of{p:Addr}{H H':Hp}(s:Same H H'):Ex p H H':=fun c u _ h=>s c u h
noncomputable def LenN(gs:List Int):Fn->Int->Prop
 | .hold n,g=>g=n
 | .ring _ n,g=>g=n
 | .rise _ _ n,g=>g=n
 | .row is,g=>g=(is.map fun j=>gs.getD j 0).sum
 | .side is,g=>(∃j∈is,g=gs.getD j 0)/\∀j∈is,gs.getD j 0<=g
 | .again k j,g=>g=k*gs.getD j 0
def MovN(L:List Str)(M:List (List Int))(f:Fn)(ks:List Int):Prop:=ks.Pairwise (· < ·)/\∀k,k∈ks↔(∃j∈f.js,k∈M.getD j [])\/∃(x:Str) (h n:Int) (i:Nat),f = .rise x h n/\L[i]?=some x/\k=(i:Int)
def ApartN(M:List (List Int))(is:List Nat):Prop:=(∀j∈is,M.getD j []≠[])/\is.Pairwise fun a b=>∀k∈M.getD a [],¬k∈M.getD b []
noncomputable def PreN(L:List Str)(M:List (List Int))(n:Nat):Fn->Prop
 | .hold m=>1<=m/\m<=10^18
 | .ring x m=>1<=m/\m<=10^18/\Ws.isW x=true
 | .rise x h m=>(∃i:Nat,L[i]?=some x)/\0<=h/\h<=10^18/\1<=m/\m<=10^18
 | .row is=>is≠[]/\is.length<=8/\∀j∈is,j<n
 | .side is=>2<=is.length/\is.length<=8/\(∀j∈is,j<n)/\ApartN M is
 | .again k j=>1<=k/\k<=10^18/\j<n
theorem PreN.js{L:List Str}{M:List (List Int)}{n:Nat}{f:Fn}(h:PreN L M n f):f.js.length<=8/\∀j∈f.js,j<n:=by
 cases f with
 | row is=>exact h.2
 | side is=>exact⟨h.2.1,h.2.2.1⟩
 | again k j=>exact⟨by show 1<=8;lia,fun i hi=>by rw[vo.mp hi];exact h.2.2⟩
 | hold n=>exact⟨va _,fun j h=>nomatch h⟩
 | ring x n=>exact⟨va _,fun j h=>nomatch h⟩
 | rise x v n=>exact⟨va _,fun j h=>nomatch h⟩
structure DOk(L:List Str)(fs:List Fn)(M:List (List Int))(gs:List Int):Prop where
 ml:M.length=fs.length
 gl:gs.length=fs.length
 f:∀(i:Nat) (f:Fn),fs[i]?=some f->PreN L M i f/\MovN L M f (M.getD i [])/\LenN gs f (gs.getD i 0)
 g:∀i,i<fs.length->1<=gs.getD i 0/\gs.getD i 0<=10^60
noncomputable def toldF(names:List Str):Fn->Fm
 | .hold n=>.hold n
 | .ring x n=>.ring x n
 | .rise x h n=>.rise x h n
 | .row is=>.row (is.map fun j=>names.getD j ⟨#[]⟩)
 | .side is=>.side (is.map fun j=>names.getD j ⟨#[]⟩)
 | .again k j=>.again k (names.getD j ⟨#[]⟩)
theorem QY{α:Type}{xs:List α}{x d:α}{j:Nat}(h:j<xs.length):(xs++[x]).getD j d=xs.getD j d:=by
 rw[vy,vy,vB h]
theorem Zs{α:Type}{xs:List α}{x d:α}:(xs++[x]).getD xs.length d=x:=by
 rw[vy,vC (vb _),Nat.sub_self];rfl
theorem PreN.ext{L:List Str}{M:List (List Int)}{ks:List Int}{n:Nat}{f:Fn}(hn:n<=M.length)(h:PreN L M n f):PreN L (M++[ks]) n f:=by
 cases f with
 | side is=>
  obtain⟨a,b,c,d,e⟩:=h;have g:∀j∈is,(M++[ks]).getD j []=M.getD j []:=fun j hj=>QY (by have:=c j hj;lia)
  refine⟨a,b,c,fun j hj=>by rw[g j hj];exact d j hj,?_⟩;exact(List.pairwise_iff_forall_sublist.mpr fun {x y} hs=>by
   have hx:x∈is:=hs.subset vq;have hy:y∈is:=hs.subset (vp _ vq);rw[g x hx,g y hy];exact List.pairwise_iff_forall_sublist.mp e hs)
 | hold m=>exact h
 | ring x m=>exact h
 | rise x v m=>exact h
 | row is=>exact h
 | again k j=>exact h
theorem MovN.ext{L:List Str}{M:List (List Int)}{ks hs:List Int}{f:Fn}(hj:∀j∈f.js,j<M.length)(h:MovN L M f hs):MovN L (M++[ks]) f hs:=by
 refine⟨h.1,fun k=>(h.2 k).trans ?_⟩;have:(∃j∈f.js,k∈M.getD j [])↔∃j∈f.js,k∈(M++[ks]).getD j []:=by
  constructor
  ·rintro⟨j,h1,h2⟩;exact⟨j,h1,by rw[QY (hj j h1)];exact h2⟩
  ·rintro⟨j,h1,h2⟩;exact⟨j,h1,by rw[QY (hj j h1)]at h2;exact h2⟩
 rw[this]
theorem LenN.ext{gs:List Int}{g' g:Int}{f:Fn}(hj:∀j∈f.js,j<gs.length)(h:LenN gs f g):LenN (gs++[g']) f g:=by
 have e:∀j∈f.js,(gs++[g']).getD j 0=gs.getD j 0:=fun j hj'=>QY (hj j hj')
 cases f with
 | hold m=>exact h
 | ring x m=>exact h
 | rise x v m=>exact h
 | row is=>
  show g=(is.map fun j=>(gs++[g']).getD j 0).sum;have e2:is.map (fun j=>(gs++[g']).getD j 0)=is.map fun j=>gs.getD j 0:=map_congr_left e
  rw[e2];exact h
 | side is=>
  obtain⟨⟨j,hj',ej⟩,h2⟩:=h;exact⟨⟨j,hj',by rw[e j hj'];exact ej⟩,fun j' hj''=>by rw[e j' hj''];exact h2 j' hj''⟩
 | again k j=>
  show g=k*(gs++[g']).getD j 0;rw[e j vq];exact h
noncomputable def drawnPs(names:List Str)(fs:List Fn):List (Str×Fm):=(List.range fs.length).map fun i=>(names.getD i ⟨#[]⟩,toldF names (fs.getD i (.hold 0)))
section
variable{L:List Str}{fs:List Fn}{M:List (List Int)}{gs:List Int}{names:List Str}{ls:List (Str×Int)}
theorem Ze:(drawnPs names fs).length=fs.length:=by unfold drawnPs;rw[vt,length_range]
theorem j3X{i:Nat}{f:Fn}(h:fs[i]?=some f):(drawnPs names fs)[i]?=some (names.getD i ⟨#[]⟩,toldF names f):=by
 unfold drawnPs;have hi:=(vx.mp h).1;rw[vv,List.getElem?_range hi];have e:fs.getD i (.hold 0)=f:=by rw[vy,h];rfl
 show some (names.getD i ⟨#[]⟩,toldF names (fs.getD i (.hold 0)))=_;rw[e]
theorem zg{i:Nat}{p:Str×Fm}(h:(drawnPs names fs)[i]?=some p):∃f,fs[i]?=some f/\p=(names.getD i ⟨#[]⟩,toldF names f):=by
 have hi:=(vx.mp h).1;rw[Ze]at hi;obtain⟨f,hf⟩:∃f,fs[i]?=some f:=⟨_,vz hi⟩
 rw[j3X hf]at h;exact⟨f,hf,(vL h).symm⟩
theorem xq(hn:fs.length<=names.length):nmsOf (drawnPs names fs)=names.take fs.length:=by
 unfold nmsOf drawnPs;rw[map_map];refine ext_getElem (by rw[vt,length_range,vi];lia) fun i h1 h2=>?_
 rw[getElem_map,getElem_range,getElem_take];show names.getD i ⟨#[]⟩=_;rw[vy,vz];rfl
theorem j63(hn:fs.length<=names.length){j:Nat}(hj:j<fs.length):(nmsOf (drawnPs names fs))[j]?=some (names.getD j ⟨#[]⟩):=by
 rw[xq hn,List.getElem?_take,vd hj,vy,vz (by lia)];rfl
theorem j0h(hn:fs.length<=names.length)(nd:names.Nodup):(nmsOf (drawnPs names fs)).Nodup:=by
 rw[xq hn];exact nd.sublist (take_sublist _ _)
theorem Wi(hn:fs.length<=names.length)(nd:names.Nodup){f:Fn}(hj:∀j∈f.js,j<fs.length):inP (drawnPs names fs) (toldF names f)=f.js:=by
 have e:∀is:List Nat,(∀j∈is,j<fs.length)->(is.map fun j=>names.getD j ⟨#[]⟩).map (ixOf (nmsOf (drawnPs names fs)))=is:=fun is h=>by
  rw[map_map]
  conv=>rhs;rw[<-List.map_id is]
  exact map_congr_left fun j hj=>qb (j0h hn nd) (j63 hn (h j hj))
 unfold inP;cases f with
 | row is=>exact e is hj
 | side is=>exact e is hj
 | again k j=>exact e [j] hj
 | hold n=>rfl
 | ring x n=>rfl
 | rise x v n=>rfl
theorem j0W(f:Fn):(toldF names f).ns=f.js.map fun j=>names.getD j ⟨#[]⟩:=by cases f<;>rfl
theorem DOk.wf(D:DOk (nmsOf ls) fs M gs)(hn:fs.length<=names.length)(nd:names.Nodup)(lnd:(nmsOf ls).Nodup)(l8:ls.length<=8)(f61:fs.length<=61):WfB ls (drawnPs names fs):=by
 refine⟨lnd,l8,j0h hn nd,by rw[Ze];exact f61,fun i p hp=>?_,fun i y x h n hp=>?_⟩
 ·obtain⟨f,hf,rfl⟩:=zg hp;have hi:=(vx.mp hf).1;obtain⟨pre,_⟩:=D.f i f hf;have js:=pre.js;refine⟨fun x hx=>?_,?_⟩
  ·rw[j0W]at hx;obtain⟨j,hj,rfl⟩:=vK.mp hx;have:=js.2 j hj;exact⟨j,this,j63 hn (by lia)⟩
  ·rw[j0W,vt];exact js.1
 ·obtain⟨f,hf,e⟩:=zg hp;obtain⟨pre,_⟩:=D.f i f hf;have e2:=(Prod.mk.inj e).2;cases f with
  | rise x' h' n'=>
   have:x=x':=by injection e2
   subst this;exact pre.1
  | hold n=>cases e2
  | ring x n=>cases e2
  | row is=>cases e2
  | side is=>cases e2
  | again k j=>cases e2
theorem DOk.mov(D:DOk (nmsOf ls) fs M gs)(hn:fs.length<=names.length)(nd:names.Nodup)(lnd:(nmsOf ls).Nodup):MovOk ls (drawnPs names fs) M:=by
 intro i p ks hp hk;obtain⟨f,hf,rfl⟩:=zg hp;have hi:=(vx.mp hf).1;obtain⟨pre,mv,_⟩:=D.f i f hf;have js:=pre.js.2;have ek:M.getD i []=ks:=by rw[vy,hk];rfl
 rw[ek]at mv;refine⟨mv.1,fun k=>(mv.2 k).trans ?_⟩;rw[Wi hn nd fun j hj=>by have:=js j hj;lia];refine⟨fun h=>h.imp id ?_,fun h=>h.imp id ?_⟩
 ·rintro⟨x,v,n,j,rfl,hj,rfl⟩;exact⟨x,v,n,rfl,by rw[qb lnd hj]⟩
 ·rintro⟨x,v,n,e,rfl⟩;cases f with
  | rise x' h' n'=>
   have:x'=x:=by injection e
   subst this;obtain⟨j,hj⟩:=pre.1;exact⟨x',h',n',j,rfl,hj,by rw[qb lnd hj]⟩
  | hold n=>cases e
  | ring x n=>cases e
  | row is=>cases e
  | side is=>cases e
  | again k j=>cases e
theorem j5C{ps:List (Str×Fm)}{M M':List (List Int)}(W:WfB ls ps)(h:MovOk ls ps M)(h':MovOk ls ps M')(l:M.length=ps.length)(l':M'.length=ps.length):∀i,i<ps.length->M'.getD i []=M.getD i []:=by
 intro i
 induction i using Nat.strongRecOn with
 | ind i ih=>
  intro hi;have ep:ps[i]?=some ps[i]:=vz hi;have eM:M[i]?=some (M.getD i []):=by rw[vy,vz (by lia)];rfl
  have eM':M'[i]?=some (M'.getD i []):=by rw[vy,vz (by lia)];rfl
  obtain⟨a,b⟩:=h i _ _ ep eM;obtain⟨a',b'⟩:=h' i _ _ ep eM';refine j59 a' a fun k=>(b' k).trans (Iff.trans ?_ (b k).symm)
  have key:(∃j∈inP ps (ps[i]).2,k∈M'.getD j [])↔∃j∈inP ps (ps[i]).2,k∈M.getD j []:=by
   constructor
   ·rintro⟨j,hj,hk⟩;have:=W.inP_lt ep hj;exact⟨j,hj,by rw[<-ih j this (by lia)];exact hk⟩
   ·rintro⟨j,hj,hk⟩;have:=W.inP_lt ep hj;exact⟨j,hj,by rw[ih j this (by lia)];exact hk⟩
  rw[key]
theorem DOk.sn(D:DOk (nmsOf ls) fs M gs)(hn:fs.length<=names.length)(nd:names.Nodup)(lnd:(nmsOf ls).Nodup)(l8:ls.length<=8)(f61:fs.length<=61)(f1:1<=fs.length)(lh:∀q∈ls,0<=q.2/\q.2<=10^18):Sn ls (drawnPs names fs) gs M:=by
 have W:=D.wf hn nd lnd l8 f61;have MV:=D.mov hn nd lnd;have dl:(drawnPs names fs).length=fs.length:=Ze;have ml:=D.ml;have gl:=D.gl;refine⟨⟨W,by lia,fun i hi=>?_,fun M' l' h' i hi=>j5C W MV h' (by lia) l' i hi,fun i p hp=>?_,fun i p qs hp e=>?_⟩,by lia,MV,fun i hi=>(D.g i (by lia)).1,by lia,lh,fun i y x v n hp=>?_,fun i y x k hp=>?_⟩
 ·have:=D.g i (by lia);lia
 ·obtain⟨f,hf,rfl⟩:=zg hp;have hi:=(vx.mp hf).1;obtain⟨pre,_,ln⟩:=D.f i f hf;have js:=pre.js.2;rw[show inP (drawnPs names fs) (names.getD i ⟨#[]⟩,toldF names f).2=f.js from Wi hn nd fun j hj=>by have:=js j hj;lia];cases f with
  | hold n=>exact⟨trivial,fun g h=>Eq.trans h (Eq.symm ln)⟩
  | ring x n=>exact⟨trivial,fun g h=>Eq.trans h (Eq.symm ln)⟩
  | rise x v n=>exact⟨trivial,fun g h=>Eq.trans h (Eq.symm ln)⟩
  | row is=>exact⟨trivial,fun g h=>Eq.trans h (Eq.symm ln)⟩
  | side is=>
   refine⟨fun z=>?_,fun g h=>?_⟩
   ·have p2:=pre.1;have:is.length=0:=by rw[<-vt (f:=fun j=>gs.getD j 0)];exact congrArg List.length z
    lia
   ·obtain⟨h1,h2⟩:=h;obtain⟨j,hj,rfl⟩:=vK.mp h1;obtain⟨⟨j',hj',e'⟩,l2⟩:=ln;have a1:=l2 j hj;have a2:=h2 (gs.getD j' 0) (vK.mpr ⟨j',hj',rfl⟩);lia
  | again k j=>
   have gj:=D.g j (by have:=js j vq;lia);refine⟨⟨gs.getD j 0,[],rfl,Int.le_trans (by decide) pre.1,pre.2.1,by lia,gj.2⟩,fun g h=>?_⟩;obtain⟨y,hy,rfl⟩:=h;cases hy;exact Eq.symm ln
 ·obtain⟨f,hf,rfl⟩:=zg hp;have hi:=(vx.mp hf).1;obtain⟨pre,_,_⟩:=D.f i f hf;have js:=pre.js.2;rw[show inP (drawnPs names fs) (names.getD i ⟨#[]⟩,toldF names f).2=f.js from Wi hn nd fun j hj=>by have:=js j hj;lia];cases f with
  | side is=>
   obtain⟨_,_,_,ap1,ap2⟩:=pre;refine⟨ap1,fun k=>?_⟩;have one:∀js:List Nat,js.Pairwise (fun a b=>∀k∈M.getD a [],¬k∈M.getD b [])->((js.map fun j=>M.getD j []).filter fun ks=>decide (k∈ks)).length<=1:=fun js=>by
    induction js with
    | nil=>exact fun _=>va _
    | cons j r ih=>
     intro h;rw[vU]at h;rw[v7,v6];split
     ·rename_i c;have e:(r.map fun j=>M.getD j []).filter (fun ks=>decide (k∈ks))=[]:=by
       rw[List.filter_eq_nil_iff];intro ks hks;obtain⟨j',hj',rfl⟩:=vK.mp hks;have:=h.1 j' hj' k (of_decide_eq_true c);simpa using this
      rw[e];exact vb _
     ·exact ih h.2
   exact one is ap2
  | hold n=>cases e
  | ring x n=>cases e
  | rise x v n=>cases e
  | row is=>cases e
  | again k j=>cases e
 ·obtain⟨f,hf,e⟩:=zg hp;obtain⟨pre,_⟩:=D.f i f hf;have e2:=(Prod.mk.inj e).2;cases f with
  | rise x' h' n'=>
   injection e2 with e3 e4 e5;subst e3 e4 e5;exact pre.2
  | hold n=>cases e2
  | ring x n=>cases e2
  | row is=>cases e2
  | side is=>cases e2
  | again k j=>cases e2
 ·obtain⟨f,hf,e⟩:=zg hp;obtain⟨pre,_⟩:=D.f i f hf;have e2:=(Prod.mk.inj e).2;cases f with
  | again k' j=>
   injection e2 with e3 e4;subst e3;exact⟨pre.1,pre.2.1⟩
  | rise x' h' n'=>cases e2
  | hold n=>cases e2
  | ring x n=>cases e2
  | row is=>cases e2
  | side is=>cases e2
end
structure Sa where
 d:Addr
 f:Addr
 o:Addr
 s:Addr
 l:Addr
 p:Addr
 fb:List Addr
 la:List Addr
 pa:List Addr
noncomputable def fldS(z:Sa):List (Str×V):=putF "pieces" (.ref z.p) (putF "left" (.ref z.l) (putF "sizes" (.ref z.s) (putF "forms" (.ref z.o) (putF "first" (.ref z.f) (putF "limbs" (.ref z.d) [])))))
section
variable{z:Sa}
theorem jH{a b:Str}{v:V}{r:List (Str×V)}(h:¬a=b):(putF b v r).lookup a=r.lookup a:=by rw[ZF,vc h]
theorem qi{a:Str}{v:V}{r:List (Str×V)}:(putF a v r).lookup a=some v:=by rw[ZF,vd rfl]
theorem j1o:(fldS z).lookup ("pieces" : Str)=some (.ref z.p):=qi
theorem j3Y:(fldS z).lookup ("left" : Str)=some (.ref z.l):=(jH (by decide +kernel)).trans qi
theorem Yr:(fldS z).lookup ("sizes" : Str)=some (.ref z.s):=(jH (by decide +kernel)).trans ((jH (by decide +kernel)).trans qi)
theorem j37:(fldS z).lookup ("forms" : Str)=some (.ref z.o):=(jH (by decide +kernel)).trans ((jH (by decide +kernel)).trans ((jH (by decide +kernel)).trans qi))
theorem j36:(fldS z).lookup ("first" : Str)=some (.ref z.f):=(jH (by decide +kernel)).trans ((jH (by decide +kernel)).trans ((jH (by decide +kernel)).trans ((jH (by decide +kernel)).trans qi)))
theorem j38:(fldS z).lookup ("limbs" : Str)=some (.ref z.d):=(jH (by decide +kernel)).trans ((jH (by decide +kernel)).trans ((jH (by decide +kernel)).trans ((jH (by decide +kernel)).trans ((jH (by decide +kernel)).trans qi))))
theorem j3Z{m:Str}(h1:¬m = "pieces")(h2:¬m = "left")(h3:¬m = "sizes")(h4:¬m = "forms")(h5:¬m = "first")(h6:¬m = "limbs"):(fldS z).lookup m=none:=(jH h1).trans ((jH h2).trans ((jH h3).trans ((jH h4).trans ((jH h5).trans (jH h6)))))
theorem Jd(f:Str)(v:V):∀r:List (Str×V),(putF f v r).length<=r.length+1
 | []=>vb _
 | (g,u)::r=>by
  unfold putF;split
  ·exact Nat.le_succ _
  ·rw[vP,vP];have:=Jd f v r;lia
end
theorem BookAt.less{H:Hp}{a C dx:Addr}{fs:List (Str×V)}{b pl pp:Addr}{las pas:List Addr}{ls:List (Str×Int)}{ps:List (Str×Fm)}(ha:H a=some (.ins C dx fs))(B:BookAt H b pl pp las pas ls ps) :
  ∃H0:Hp,(∀H',(∀c u,c≠a->H c=some u->H' c=some u)->Same H0 H')/\(∀{c u},H0 c=some u->c≠a)/\BookAt H0 b pl pp las pas ls ps:=by
 have kt:∀{c:Addr} {xs:List V},H c=some (.tup xs)->(fun c=>if c=a then none else H c) c=some (.tup xs):=fun {c xs} h=>by
  show(if c=a then none else H c)=_;rw[vc (fun z=>by rw[z,ha]at h;cases h)];exact h
 have kl:∀{c:Addr} {xs:List V},H c=some (.lst xs)->(fun c=>if c=a then none else H c) c=some (.lst xs):=fun {c xs} h=>by
  show(if c=a then none else H c)=_;rw[vc (fun z=>by rw[z,ha]at h;cases h)];exact h
 refine⟨fun c=>if c=a then none else H c,fun H' k c u h=>?_,fun {c u} h=>?_,kt B.t,kl B.l,B.la.mono fun a x hx=>kt hx,kl B.p,B.pa.mono fun a x hx=>?_⟩
 ·have h:(if c=a then none else H c)=some u:=h;by_cases e:c=a
  ·rw[vd e]at h;cases h
  ·rw[vc e]at h;exact k c u e h
 ·have h:(if c=a then none else H c)=some u:=h;intro e;rw[vd e]at h;cases h
 ·obtain⟨fb,h1,h2⟩:=hx;refine⟨fb,kt h1,?_⟩;cases hx2:x.2 with
  | row r=>rw[hx2]at h2;obtain⟨c,h3,h4⟩:=h2;exact⟨c,kt h3,kt h4⟩
  | side r=>rw[hx2]at h2;obtain⟨c,h3,h4⟩:=h2;exact⟨c,kt h3,kt h4⟩
  | hold n=>rw[hx2]at h2;exact kt h2
  | ring y n=>rw[hx2]at h2;exact kt h2
  | rise y v n=>rw[hx2]at h2;exact kt h2
  | again k y=>rw[hx2]at h2;exact kt h2
theorem few{f:Str}{v:V}{r:List (Str×V)}{n:Nat}(h:(putF f v r).length<=n)(k:n<1000):(putF f v r).length<1000:=vD h k
section
variable{a b c d e:Str}{u v w x y:V}
theorem few3:(putF c w (putF b v (putF a u []))).length<1000:=by
 have:=Jd c w (putF b v (putF a u []));have:=Jd b v (putF a u []);have:=Jd a u [];simp at *;lia
theorem few4:(putF d x (putF c w (putF b v (putF a u [])))).length<1000:=by
 have:=Jd d x (putF c w (putF b v (putF a u [])));have:=Jd c w (putF b v (putF a u []));have:=Jd b v (putF a u []);have:=Jd a u [];simp at *;lia
theorem few5:(putF e y (putF d x (putF c w (putF b v (putF a u []))))).length<1000:=by
 have:=Jd e y (putF d x (putF c w (putF b v (putF a u []))));have:=Jd d x (putF c w (putF b v (putF a u [])));have:=Jd c w (putF b v (putF a u []));have:=Jd b v (putF a u []);have:=Jd a u [];simp at *;lia
end
section
variable{L:List Str}{fs:List Fn}{M:List (List Int)}{gs:List Int}{names:List Str}{ls:List (Str×Int)}{n:Nat}
end
theorem j5n{ls ls':List (Str×Int)}{ps ps':List (Str×Fm)}{E E':List (List (Int×Int))}{n:Nat}(W:WfB ls ps)(hl:nmsOf ls'=nmsOf ls)(hp:ps'=ps.take n)(hin:∀i p,i<n->ps[i]?=some p->inP ps' p.2=inP ps p.2)(h:EndOk ls ps E)(h':EndOk ls' ps' E')(l:E.length=ps.length)(l':E'.length=ps'.length)(hn:n<=ps.length):∀i,i<n->E'.getD i []=E.getD i []:=by
 intro i
 induction i using Nat.strongRecOn with
 | ind i ih=>
  intro hi;have ep:ps[i]?=some (ps[i]'(by lia)):=vz (by lia);have ep':ps'[i]?=some (ps[i]'(by lia)):=by rw[hp,List.getElem?_take,vd hi];exact ep
  have eE:E[i]?=some (E.getD i []):=by rw[vy,vz (by lia)];rfl
  have lp':ps'.length=n:=by rw[hp,vi];lia
  have eE':E'[i]?=some (E'.getD i []):=by rw[vy,vz (by lia)];rfl
  obtain⟨a,b⟩:=h i _ _ ep eE;obtain⟨a',b'⟩:=h' i _ _ ep' eE';refine j2M a' a fun k v=>(b' k v).trans (Iff.trans ?_ (b k v).symm)
  unfold EndIs;rw[hin i _ hi ep,hl];have ext:∀j∈inP ps (ps[i]'(by lia)).2,E'.getD j []=E.getD j []:=fun j hj=>by
   have:=W.inP_lt ep hj;exact ih j this (by lia)
  exact⟨fun z=>z.imp (kH ext) id,fun z=>z.imp (kH fun j hj=>(ext j hj).symm) id⟩
noncomputable def setE(es:List (Int×Int))(h:List Int):List Int:=es.foldl (fun h q=>h.set q.1.toNat q.2) h
theorem Zg(q:Int×Int)(r:List (Int×Int))(h:List Int):setE (q::r) h=setE r (h.set q.1.toNat q.2):=rfl
theorem j0T:∀(es:List (Int×Int)) (h:List Int),(setE es h).length=h.length
 | [],_=>rfl
 | q::r,h=>by rw[Zg,j0T r,length_set]
theorem WH:∀{es:List (Int×Int)} {h:List Int} {i:Nat},(∀q∈es,0<=q.1)->(∀v,((i:Int),v)∉es)->(setE es h)[i]?=h[i]?
 | [],_,_,_,_=>rfl
 | q::r,h,i,p,n=>by
  rw[Zg,WH (fun x hx=>p x (vp _ hx)) (fun v hv=>n v (vp _ hv))];have:q.1.toNat≠i:=fun e=>by
   have p0:=p q vq;have e':q.1=(i:Int):=by lia
   exact n q.2 (by rw[<-e'];exact vq)
  rw[List.getElem?_set_ne this]
theorem j2G:∀{es:List (Int×Int)} {h:List Int} {i:Nat} {v:Int},(es.map (·.1)).Pairwise (· < ·)->(∀q∈es,0<=q.1)->((i:Int),v)∈es->i<h.length->(setE es h)[i]?=some v
 | [],_,_,_,_,_,m,_=>nomatch m
 | q::r,h,i,v,pw,p,m,hi=>by
  rw[v7,vU]at pw;rw[Zg];rcases mem_cons.mp m with e | m
  ·subst e;rw[WH (fun x hx=>p x (vp _ hx)) (fun w hw=>by
    have:=pw.1 _ (vK.mpr ⟨_,hw,rfl⟩);exact ug this (Int.lt_irrefl _))]
   show(h.set (i:Int).toNat v)[i]?=_;rw[Int.toNat_natCast,List.getElem?_set_self hi]
  ·exact j2G pw.2 (fun x hx=>p x (vp _ hx)) m (by rw[length_set];exact hi)
section
variable{L:List Str}{fs:List Fn}{M:List (List Int)}{gs:List Int}{names:List Str}{ls:List (Str×Int)}{n:Nat}{E:List (List (Int×Int))}
theorem YY{α β γ:Type}{g:α->List β}{f:γ->β->γ}:∀{l:List α} {h:γ},(l.flatMap g).foldl f h=l.foldl (fun h x=>(g x).foldl f h) h
 | [],_=>rfl
 | x::r,h=>by rw[flatMap_cons,foldl_append,v5,YY]
theorem KD{α γ:Type}{f g:γ->α->γ}:∀{l:List α} {h:γ},(∀x∈l,∀h,f h x=g h x)->l.foldl f h=l.foldl g h
 | [],_,_=>rfl
 | x::r,h,e=>by rw[v5,v5,e x vq,KD fun y hy=>e y (vp _ hy)]
end
section
variable{α β:Type}
theorem j0l{f:β->α->β}{x:α}:∀{ys:List α} {h:β},(∀y∈ys,∀h,f (f h x) y=f (f h y) x)->f (ys.foldl f h) x=ys.foldl f (f h x)
 | [],_,_=>rfl
 | y::r,h,k=>by
  rw[v5,v5,k y vq h];exact j0l fun z hz=>k z (vp _ hz)
theorem KA{f:β->α->β}{p:α->Bool}:∀{R:List α} {h:β},R.Pairwise (fun x y=>p x=false->p y=true->∀h,f (f h x) y=f (f h y) x)->
  (R.filter fun x=>!p x).foldl f ((R.filter p).foldl f h)=R.foldl f h
 | [],_,_=>rfl
 | x::r,h,k=>by
  rw[vU]at k;cases e:p x with
  | true=>
   have a:(x::r).filter (fun x=>!p x)=r.filter fun x=>!p x:=by rw[v6];simp[e]
   rw[a,filter_cons_of_pos e,v5,v5];exact KA k.2
  | false=>
   have a:(x::r).filter (fun x=>!p x)=x::r.filter fun x=>!p x:=by rw[v6];simp[e]
   have b:(x::r).filter p=r.filter p:=by rw[v6];simp[e]
   have c:f ((r.filter p).foldl f h) x=(r.filter p).foldl f (f h x):=j0l fun y hy h=>k.1 y (vO.mp hy).1 e (vO.mp hy).2 h
   rw[a,b,v5,v5,c];exact KA k.2
theorem KC{f:β->α->β}{p:α->Bool}:∀{R:List α} {h:β},(∀x∈R,p x=false->∀h,f h x=h)->(R.filter p).foldl f h=R.foldl f h
 | [],_,_=>rfl
 | x::r,h,k=>by
  cases e:p x with
  | true=>
   rw[filter_cons_of_pos e,v5,v5];exact KC fun y hy=>k y (vp _ hy)
  | false=>
   rw[List.filter_cons_of_neg (by simp[e]),v5,k x vq e];exact KC fun y hy=>k y (vp _ hy)
end
section
variable{ls:List (Str×Int)}{ps:List (Str×Fm)}{gs:List Int}{hs:List (List Int)}{E:List (List (Int×Int))}{t:Int}
noncomputable def ovB(gs:List Int)(x:Nat×Int):Bool:=decide (gs.getD x.1 0<=x.2)
noncomputable def leafB(ps:List (Str×Fm))(gs:List Int)(x:Nat×Int):Bool:=(pcB ps gs x.1).isEmpty
def Dj(gs:List Int)(hs:List (List Int))(a b:Nat×Int):Prop:=ovB gs a=false->∀k∈hs.getD a.1 [],k∉hs.getD b.1 []
theorem Dj.ov{a b:Nat×Int}(h:gs.getD a.1 0<=a.2):Dj gs hs a b:=fun z=>by
 unfold ovB at z;rw[vG h]at z;cases z
theorem j5N{l r:List (Nat×Int)}(h:∀a∈l,gs.getD a.1 0<=a.2)(k:r.length<=1):(l++r).Pairwise (Dj gs hs):=by
 induction l with
 | nil=>
  match r,k with
  | [],_=>exact .nil
  | [a],_=>exact pairwise_singleton _ _
 | cons a l ih=>exact vU.mpr ⟨fun b _=>.ov (h a vq),ih fun b hb=>h b (vp _ hb)⟩
theorem j4O:∀{is:List Nat} {b:Int},(∀k∈is,1<=gs.getD k 0/\gs.getD k 0<=10^60)->(wth gs t (rowPc gs is b)).Pairwise (Dj gs hs)
 | [],b,_=>.nil
 | j::r,b,hg=>by
  by_cases h:b<=t
  ·rw[y9 hg h];split
   ·exact vU.mpr ⟨fun b _=>.ov (vA _),j4O fun k hk=>hg k (vp _ hk)⟩
   ·exact pairwise_singleton _ _
  ·rw[WD (fun k hk=>by have:=hg k hk;lia) (by lia)];exact .nil
theorem j05:∀{is:List Nat},(∀k:Int,((is.map fun j=>hs.getD j []).filter fun ks=>decide (k∈ks)).length<=1)->is.Pairwise fun j j'=>∀k∈hs.getD j [],k∉hs.getD j' []
 | [],_=>.nil
 | j::r,h=>by
  refine vU.mpr ⟨fun j' hj' a ha hk'=>?_,j05 fun k=>?_⟩
  ·have:=h a;rw[v7,v6,vd (vG ha),vP]at this;have pos:0<((r.map fun j=>hs.getD j []).filter fun ks=>decide (a∈ks)).length:=length_pos_of_mem (vO.mpr ⟨vK.mpr ⟨j',hj',rfl⟩,vG hk'⟩);lia
  ·have:=h k;rw[v7,v6]at this;split at this
   ·rw[vP]at this;lia
   ·exact this
theorem j6M(N:Sn ls ps gs hs){i:Nat}(hi:i<ps.length)(t0:0<=t):(wth gs t (pcB ps gs i)).Pairwise (Dj gs hs):=by
 obtain⟨p,hp⟩:∃p,ps[i]?=some p:=⟨_,vz hi⟩
 have epc:pcB ps gs i=pcsI gs p.2 (inP ps p.2):=by unfold pcB;rw[hp]
 have hg:∀k∈inP ps p.2,1<=gs.getD k 0/\gs.getD k 0<=10^60:=fun k hk=>by
  have:=N.s.w.inP_lt hp hk;exact N.g (by lia)
 rw[epc];cases e:p.2 with
 | again k x=>
  rw[e]at hg;rw[show inP ps (.again k x)=[ixOf (nmsOf ps) x]from rfl]at hg|-;have g:=(hg _ vq).1;generalize ixOf (nmsOf ps) x=j at g|-;show(wth gs t ((j,1,0)::(if 1<k then[(j,k-1,gs.getD j 0)]else[]))).Pairwise _;rw[Qn,WP g t0,Int.sub_zero];by_cases c:gs.getD j 0<=t
  ·rw[vd c];split
   ·rw[Qn,Yz,append_nil,X5 (show gs.getD j 0<=t from c),<-List.append_assoc];refine j5N (fun a ha=>?_) (by split<;>simp);have:a=(j,gs.getD j 0):=by
     rcases vh.mp ha with z | z
     ·exact vo.mp z
     ·split at z
      ·exact vo.mp z
      ·exact nomatch z
    rw[this];exact vA _
   ·exact pairwise_singleton _ _
  ·rw[vc c];have z:wth gs t (if 1<k then[(j,k-1,gs.getD j 0)]else[])=[]:=by
    split
    ·exact Ki fun q hq=>by rw[vo.mp hq];show t<gs.getD j 0;lia
    ·rfl
   rw[z];exact pairwise_singleton _ _
 | row xs=>rw[e]at hg;exact j4O hg
 | side xs=>
  obtain⟨_,one⟩:=N.s.sd i p xs hp e;rw[e]at hg one;show(wth gs t ((inP ps (.side xs)).map fun j=>(j,1,0))).Pairwise _;rw[WI (fun k hk=>(hg k hk).1) t0];refine pairwise_map.mpr ((j05 one).imp fun {a b} h=>?_);have f1:∀j:Nat,(if gs.getD j 0<=t then(j,gs.getD j 0)else(j,t)).1=j:=fun j=>by split<;>rfl
  intro _;rw[f1,f1];exact h
 | hold n=>exact .nil
 | ring x n=>exact .nil
 | rise x v n=>exact .nil
theorem j6L{i:Nat}{p:Str×Fm}(hp:ps[i]?=some p){x:Nat×Int}(h:x∈wth gs t (pcB ps gs i)):x.1∈inP ps p.2:=by
 obtain⟨q,hq,e⟩:=XC h;unfold pcB at hq;rw[hp]at hq;rw[e];exact kL hq
theorem j0O(N:Sn ls ps gs hs):∀{i:Nat} {t:Int} {x:Nat×Int},i<ps.length->x∈reach ps gs i t->∀k∈hs.getD x.1 [],k∈hs.getD i []:=by
 intro i
 induction i using Nat.strongRecOn with
 | ind i ih=>
  intro t x hi hx k hk;by_cases h:gs.getD i 0<=t\/pcB ps gs i=[]
  ·rw[JU h]at hx;rw[vo.mp hx]at hk;exact hk
  ·rw[Qs N.s.w h]at hx;obtain⟨y,hy,hx⟩:=mem_flatMap.mp hx;have lt:=zN N.s.w hy;have hp:=vz hi;exact((N.m i _ _ hp (Wo N.s N.hl hi)).2 k).mpr (.inl ⟨y.1,j6L hp hy,ih y.1 lt (by lia) hx k hk⟩)
theorem j4N(N:Sn ls ps gs hs):∀{i:Nat} {t:Int},i<ps.length->0<=t->(reach ps gs i t).Pairwise (Dj gs hs):=by
 intro i
 induction i using Nat.strongRecOn with
 | ind i ih=>
  intro t hi t0;by_cases h:gs.getD i 0<=t\/pcB ps gs i=[]
  ·rw[JU h];exact pairwise_singleton _ _
  ·rw[Qs N.s.w h];refine List.pairwise_flatMap.mpr ⟨fun a ha=>?_,(j6M N hi t0).imp_of_mem fun {a b} ha hb d x hx y hy z k hk hk'=>?_⟩
   ·have:=zN N.s.w ha;exact ih a.1 this (by lia) (Y9 (fun q hq=>N.pcOk hq) ha)
   ·have la:=zN N.s.w ha;have lb:=zN N.s.w hb;have na:ovB gs a=false:=by
     cases e:ovB gs a with
     | false=>rfl
     | true=>
      rw[JU (.inl (of_decide_eq_true e))]at hx;rw[vo.mp hx]at z;exact(e.symm.trans z:true=false)
    exact d na k (j0O N (by lia) hx k hk) (j0O N (by lia) hy k hk')
noncomputable def rzH(ls:List (Str×Int))(ps:List (Str×Fm))(h:List Int)(x:Nat×Int):List Int:=match ps[x.1]? with
 | some (_,.rise y v n)=>h.set (ixOf (nmsOf ls) y) (Rp.ramp (h.getD (ixOf (nmsOf ls) y) 0) v n x.2)
 | _=>h
theorem j16{h:List Int}{x:Nat×Int}(c:ovB gs x=true):appH ls ps gs E h x=setE (E.getD x.1 []) h:=by
 unfold appH;rw[vd (of_decide_eq_true c)];rfl
theorem j17{h:List Int}{x:Nat×Int}(c:ovB gs x=false):appH ls ps gs E h x=rzH ls ps h x:=by
 unfold appH;rw[vc (of_decide_eq_false c)];rfl
theorem j0S{k:Nat}{v:Int}:∀{es:List (Int×Int)} {h:List Int},(∀q∈es,q.1.toNat≠k)->setE es (h.set k v)=(setE es h).set k v
 | [],_,_=>rfl
 | q::r,h,n=>by
  rw[Zg,Zg,List.set_comm _ _ (n q vq).symm];exact j0S fun y hy=>n y (vp _ hy)
theorem xK{k:Nat}:∀{es:List (Int×Int)} {h:List Int},(∀q∈es,q.1.toNat≠k)->(setE es h).getD k 0=h.getD k 0
 | [],_,_=>rfl
 | q::r,h,n=>by
  rw[Zg,xK fun y hy=>n y (vp _ hy),vy,vy,List.getElem?_set_ne (n q vq)]
theorem j2g(N:Sn ls ps gs hs)(lE:E.length=ps.length)(oE:EndOk ls ps E){i:Nat}(hi:i<ps.length){q:Int×Int}(hq:q∈E.getD i []):q.1∈hs.getD i []:=by
 have:=N.s.mv _ (by rw[vt];exact lE) (j4k lE oE) i hi;rw[<-this,vy,vv,vz (by lia)];rw[vy,vz (by lia)]at hq;exact vK.mpr ⟨q,hq,rfl⟩
theorem j5g(N:Sn ls ps gs hs)(lE:E.length=ps.length)(oE:EndOk ls ps E){x y:Nat×Int}(hx:x.1<ps.length)(hy:y.1<ps.length)(cx:ovB gs x=false)(cy:ovB gs y=true)(d:Dj gs hs x y)(h:List Int) :
  appH ls ps gs E (appH ls ps gs E h x) y=appH ls ps gs E (appH ls ps gs E h y) x:=by
 rw[j16 cy,j16 cy,j17 cx,j17 cx];unfold rzH;split
 ·rename_i nm z v n hp;have hk:((ixOf (nmsOf ls) z:Nat):Int)∈hs.getD x.1 []:=((N.m x.1 _ _ hp (Wo N.s N.hl hx)).2 _).mpr (.inr ⟨z,v,n,rfl,rfl⟩);have ne:∀q∈E.getD y.1 [],q.1.toNat≠ixOf (nmsOf ls) z:=fun q hq e=>by
   have b:=(yV N.s.w (by lia) oE y.1 q hq).1;have m:=j2g N lE oE hy hq;rw[show q.1=((ixOf (nmsOf ls) z:Nat):Int) by lia]at m;exact d cx _ hk m
  rw[j0S ne,xK ne]
 ·rfl
noncomputable def strH(ls:List (Str×Int))(ps:List (Str×Fm))(gs:List Int)(E:List (List (Int×Int)))(t:Int):List Int:=((reach ps gs (ps.length-1) t).filter (ovB gs)).foldl (fun h x=>setE (E.getD x.1 []) h) (ls.map (·.2))
theorem j3i{x:Nat×Int}{y:Str}{v n:Int}{nm:Str}(hp:ps[x.1]?=some (nm,.rise y v n)):leafB ps gs x=true:=by
 unfold leafB pcB;rw[hp];rfl
theorem j0V(N:Sn ls ps gs hs)(lE:E.length=ps.length)(oE:EndOk ls ps E)(t0:0<=t){P:List (Nat×Int)}(hP:P.filter (leafB ps gs)=(reach ps gs (ps.length-1) t).filter fun x=>!ovB gs x) :
  P.foldl (rzH ls ps) (strH ls ps gs E t)=standH ls ps gs E t:=by
 have ne:=N.ne;have lt:∀x∈reach ps gs (ps.length-1) t,x.1<ps.length:=fun x hx=>Kb N.s.w (by lia) hx
 rw[<-KC (p:=leafB ps gs) (fun x _ c h=>?_),hP]
 ·unfold standH strH;rw[<-KA (p:=ovB gs) (f:=appH ls ps gs E) ((j4N N (show ps.length-1<ps.length by lia) t0).imp_of_mem fun {a b} ha hb d ca cb h=>j5g N lE oE (lt a ha) (lt b hb) ca cb d h)];rw[KD (f:=appH ls ps gs E) (g:=rzH ls ps) fun x hx h=>j17 (by simpa using(vO.mp hx).2)];rw[KD (f:=appH ls ps gs E) (g:=fun h x=>setE (E.getD x.1 []) h) fun x hx h=>j16 (vO.mp hx).2]
 ·unfold rzH;split
  ·rename_i hp;rw[j3i hp]at c;cases c
  ·rfl
end
structure StageAt(C:Addr)(H:Hp)(a:Addr)(z:Sa)(ls:List (Str×Int))(ps:List (Str×Fm))(gs:List Int)(E:List (List (Int×Int))):Prop where
 ob:∃dx,H a=some (.ins C dx (fldS z))
 hd:H z.d=some (.dK (numK (nmsOf ls)))
 hf:H z.f=some (.lst ((ls.map (·.2)).map V.int))
 ho:H z.o=some (.lst (z.fb.map V.ref))
 fo:All2 (fun a p=>FormAt H a p.2) z.fb ps
 hs:H z.s=some (.lst (gs.map V.int))
 hl:H z.l=some (.lst (z.la.map V.ref))
 el:E.length=ps.length
 ea:EndsAt H z.la E
 eo:EndOk ls ps E
 hp:H z.p=some (.lst (z.pa.map V.ref))
 pa:PssAt H z.pa (ps.map fun p=>pcsI gs p.2 (inP ps p.2))
inductive sp_initS(C:Addr)(vs:List V)(H:Hp)(Q:VK)(xk:XK):Prop
 | mk (a dx b pl pp:Addr) (las pas:List Addr) (ls:List (Str×Int)) (ps:List (Str×Fm)) (gs:List Int) (hs:List (List Int)) (_:vs=[.ref a,.ref b]) (_:H a=some (.ins C dx [])) (_:BookAt H b pl pp las pas ls ps) (_:Sn ls ps gs hs) (_:∀(z:Sa) (E:List (List (Int×Int))) (H':Hp),(∀c u,c≠a->H c=some u->H' c=some u)->StageAt C H' a z ls ps gs E->Q .non H'):sp_initS C vs H Q xk
inductive sp_sceneS(C:Addr)(vs:List V)(H:Hp)(Q:VK)(xk:XK):Prop
 | mk (a:Addr) (z:Sa) (ls:List (Str×Int)) (ps:List (Str×Fm)) (gs:List Int) (hs:List (List Int)) (E:List (List (Int×Int))) (t:Int) (_:vs=[.ref a,.int t]) (_:StageAt C H a z ls ps gs E) (_:Sn ls ps gs hs) (_:0<=t) (_:t<=gs.getD (ps.length-1) 0) (_:∀(r l1 l2:Addr) (as:List Addr) (P:List (Nat×Int)) (H':Hp),Same H H'->H l1=none->H l2=none->H' r=some (.tup [.ref l1,.ref l2])->H' l1=some (.lst ((strH ls ps gs E t).map V.int))->(strH ls ps gs E t).length=ls.length->(∀h∈strH ls ps gs E t,0<=h/\h<=10^18)->H' l2=some (.lst (as.map V.ref))->l1≠l2->GonAt H' as P->P.length<=5000->(∀x∈P,x.1<ps.length/\0<=x.2/\x.2<gs.getD x.1 0)->P.filter (leafB ps gs)=((reach ps gs (ps.length-1) t).filter fun x=>!ovB gs x)->Q (.ref r) H'):sp_sceneS C vs H Q xk
inductive sp_heightsS(C:Addr)(vs:List V)(H:Hp)(Q:VK)(xk:XK):Prop
 | mk (a:Addr) (z:Sa) (ls:List (Str×Int)) (ps:List (Str×Fm)) (gs:List Int) (hs:List (List Int)) (E:List (List (Int×Int))) (t:Int) (_:vs=[.ref a,.int t]) (_:StageAt C H a z ls ps gs E) (_:Sn ls ps gs hs) (_:0<=t) (_:t<=gs.getD (ps.length-1) 0) (_:∀(l:Addr) (H':Hp),Same H H'->H l=none->H' l=some (.lst ((standH ls ps gs E t).map V.int))->(standH ls ps gs E t).length=ls.length->Q (.ref l) H'):sp_heightsS C vs H Q xk
theorem FormAt.put{H H':Hp}{a:Addr}{f:Fm}(k:∀b xs,H b=some (.tup xs)->H' b=some (.tup xs))(h:FormAt H a f):FormAt H' a f:=by
 cases f with
 | row ps=>obtain⟨c,q1,q2⟩:=h;exact⟨c,k _ _ q1,k _ _ q2⟩
 | side ps=>obtain⟨c,q1,q2⟩:=h;exact⟨c,k _ _ q1,k _ _ q2⟩
 | hold n=>exact k _ _ h
 | ring x n=>exact k _ _ h
 | rise x v n=>exact k _ _ h
 | again k' x=>exact k _ _ h
theorem j4Z{α:Type}{f:α->Nat}:∀{l:List α},(∀x∈l,1<=f x)->l.length<=(l.map f).sum
 | [],_=>vb _
 | x::r,h=>by
  have h1:=h x vq;have h2:=j4Z (l:=r) fun y hy=>h y (vp _ hy)
  rw[v7,sum_cons,vP];lia
section
variable{ls:List (Str×Int)}{ps:List (Str×Fm)}{gs:List Int}{E:List (List (Int×Int))}{D:List (Nat×Int)}{x:Nat×Int}
noncomputable def hOf(ls:List (Str×Int))(gs:List Int)(E:List (List (Int×Int)))(D:List (Nat×Int)):List Int:=(D.filter (ovB gs)).foldl (fun h x=>setE (E.getD x.1 []) h) (ls.map (·.2))
theorem Wm(h:ovB gs x=false):hOf ls gs E (if leafB ps gs x=true then D++[x]else D)=hOf ls gs E D:=by
 split
 ·unfold hOf;rw[filter_append,List.filter_cons_of_neg (by rw[h];decide)];show(D.filter (ovB gs)++[]).foldl _ _=_;rw[append_nil]
 ·rfl
theorem Wn(h:ovB gs x=true):hOf ls gs E (D++[x])=setE (E.getD x.1 []) (hOf ls gs E D):=by
 unfold hOf;rw[filter_append,filter_cons_of_pos h,foldl_append];rfl
theorem xE(W:WfB ls ps){i:Nat}{t:Int}(c:t<gs.getD i 0):1+((wth gs t (pcB ps gs i)).map fun x=>nodes ps gs x.1 x.2).sum<=nodes ps gs i t:=by
 by_cases e:pcB ps gs i=[]
 ·rw[e,YZ (.inr e)];exact vb _
 ·rw[Ww W (fun h=>h.elim (fun z=>by lia) e)];exact vb _
end
structure ScAt(ls:List (Str×Int))(ps:List (Str×Fm))(gs:List Int)(E:List (List (Int×Int)))(t0:Int)(H H':Hp)(p1 p2 p4:Addr)(pas tas:List Addr)(D P S:List (Nat×Int)):Prop where
 sm:Same H H'
 e1:H' p1=some (.lst ((hOf ls gs E D).map V.int))
 e2:H' p2=some (.lst (pas.map V.ref))
 eT:H' p4=some (.lst (tas.map V.ref))
 gP:GonAt H' pas P
 gT:GonAt H' tas S
 inv:D++S.reverse.flatMap (fun x=>reach ps gs x.1 x.2)=reach ps gs (ps.length-1) t0
 hS:∀x∈S,x.1<ps.length/\0<=x.2
 hP:P.filter (leafB ps gs)=D.filter fun x=>!ovB gs x
 bP:∀x∈P,x.1<ps.length/\0<=x.2/\x.2<gs.getD x.1 0
 bnd:P.length+(S.map fun x=>nodes ps gs x.1 x.2).sum<=5000
 ll:(hOf ls gs E D).length=ls.length
 hb:∀h∈hOf ls gs E D,0<=h/\h<=10^18
section
variable{L:List Str}{fs:List Fn}{M:List (List Int)}{gs:List Int}{names:List Str}{n:Nat}{E:List (List (Int×Int))}
theorem j04{j:Nat}{k t:Int}(g1:1<=gs.getD j 0)(k1:1<=k)(t0:0<=t)(tk:t<=k*gs.getD j 0) :
  (t/gs.getD j 0=0/\wth gs t ((j,1,0)::(if 1<k then[(j,k-1,gs.getD j 0)]else[]))=[(j,t%gs.getD j 0)])\/
  (1<=t/gs.getD j 0/\t/gs.getD j 0<k/\∃z,(z=[]\/z=[(j,gs.getD j 0)])/\wth gs t ((j,1,0)::(if 1<k then[(j,k-1,gs.getD j 0)]else[]))=(j,gs.getD j 0)::z++[(j,t%gs.getD j 0)])\/
  (t/gs.getD j 0=k/\∃z,(z=[]\/z=[(j,gs.getD j 0)])/\wth gs t ((j,1,0)::(if 1<k then[(j,k-1,gs.getD j 0)]else[]))=(j,gs.getD j 0)::z):=by
 rw[Qn,WP g1 t0,Int.sub_zero];generalize hg:gs.getD j 0=g at *;have dm:=Int.emod_add_mul_ediv t g;have m0:=ve t (show g≠0 by lia);have m1:=vf t (show 0<g by lia);have dk:t/g<=k:=by
  have:=Int.ediv_le_ediv (show 0<g by lia) tk;rw[Int.mul_ediv_cancel _ (show g≠0 by lia)]at this;exact this
 have dd:(t-g)/g=t/g-1:=by
  have:=Int.add_mul_ediv_right t (-1) (show g≠0 by lia);have e:t + -1*g=t-g:=by lia
  rw[e]at this;lia
 by_cases c:g<=t
 case neg=>
  have d0:t/g=0:=Int.ediv_eq_zero_of_lt t0 (by lia);have r0:t%g=t:=vZ t0 (by lia);refine .inl ⟨d0,?_⟩;rw[vc c,r0];split
  ·rw[Qn,Yz,j2S (show t<g by lia)];rfl
  ·rw[Yz];rfl
 have d1:1<=t/g:=by
  have:=Int.ediv_le_ediv (show 0<g by lia) c;rw[Int.ediv_self (show g≠0 by lia)]at this;exact this
 rw[vd c];have eo:ov gs t (j,k-1,g)=t/g-1:=by
  unfold ov;show(if k-1<(t-g)/gs.getD j 0 then k-1 else(t-g)/gs.getD j 0)=_;rw[hg,dd];split<;>lia
 have er:t-g-(t/g-1)*g=t%g:=by
  have:(t/g-1)*g=g*(t/g)-g:=by rw[Int.sub_mul,uw,Int.mul_comm]
  lia
 by_cases k2:1<k
 ·rw[vd k2,Qn,Yz,append_nil,X5 (show g<=t from c),eo];show _\/(_/\_/\∃z,_/\[(j,g)]++((if 0<t/g-1 then[(j,gs.getD j 0)]else[])++(if t/g-1<k-1 then[(j,t-g-(t/g-1)*gs.getD j 0)]else[]))=_)\/(_/\∃z,_/\[(j,g)]++((if 0<t/g-1 then[(j,gs.getD j 0)]else[])++(if t/g-1<k-1 then[(j,t-g-(t/g-1)*gs.getD j 0)]else[]))=_);rw[hg,er];have hz:(if 0<t/g-1 then[(j,g)]else[])=[]\/(if 0<t/g-1 then[(j,g)]else[])=[(j,g)]:=by split<;>simp
  by_cases c2:t/g=k
  ·refine .inr (.inr ⟨c2,_,hz,?_⟩);rw[vc (show¬t/g-1<k-1 by lia),append_nil];rfl
  ·refine .inr (.inl ⟨d1,by lia,_,hz,?_⟩);rw[vd (show t/g-1<k-1 by lia)];rfl
 ·rw[vc k2,Yz];exact .inr (.inr ⟨by lia,[],.inl rfl,rfl⟩)
end
end Rm
namespace L2
open PySem PySem.Spec PySem.W PyProof.Rows
theorem j61{P:Program}{w:World}{k:Key}{u:Value}(h:(mixKind P w).is k u=true):RelV (kV k) u:=by
 cases k with
 | inl i=>obtain⟨t,rfl⟩:=Value.isInt_shape (k:=i) h;exact⟨t,rfl⟩
 | inr z=>obtain⟨t,rfl⟩:=Value.isStrOf_shape (x:=z) h;exact⟨t,rfl⟩
theorem j2O:∀{ys:List V} {us:List Value},us.length=ys.length->(∀(j:Nat) (u:Value),us[j]?=some u->∃y,ys[j]?=some y/\RelV y u)->Vals ys us
 | [],[],_,_=>.nil
 | [],_::_,h,_=>by simp at h
 | _::_,[],h,_=>by simp at h
 | y::ys,u::us,h,q=>by
  obtain⟨y',e,r⟩:=q 0 u rfl;simp only[List.getElem?_cons_zero,Option.some.injEq]at e;subst e;exact .cons r (j2O (by simpa using h) fun j u hu=>by simpa using q (j+1) u (by simpa using hu))
theorem j1e{X:Cx}(hc:X.calm=true):CallR X (.type "list") (fun xs H Q=>∃(p:Addr) (kvs:List (Key×V)),xs=[.ref p]/\H p=some (.dK kvs)/\∀l,H l=none->Q (.ref l) (upd H l (.lst (kvs.map fun q=>kV q.1)))):=by
 intro pins s σ H xs us Q I r h;obtain⟨p,kvs,rfl,ep,q⟩:=h;obtain⟨u,rfl,ru⟩:=vals1 r;cases ru;obtain⟨z1,hd1,vs1,r1,dd1⟩:=xp I.hok ep;obtain⟨ed,hat⟩:=dd1.dictAt;refine kdl_call (kdl_dict (knd:=mixKind X.prog X.w) (kvs:=vs1) (ep:=ed) hd1) (I.ok.hd hc) hat (by rw[<-r1.length];exact z1) fun h' tk acc' c' hk hS hacc=>?_
 have rl:=r1.length;have rv:Vals (kvs.map fun q=>kV q.1) acc'.toList:=j2O (by rw[Array.length_toList,vt,rl];exact hacc.1) fun j u hu=>by
  obtain⟨k,x,e,hk⟩:=hacc.2 j u (by rw[<-Array.getElem?_toList];exact hu);have hj:j<kvs.length:=by rw[rl];exact(vx.mp e).1
  obtain⟨y,e2,e3,_⟩:=r1.get (vz hj);rw[e]at e2;cases e2;refine⟨kV kvs[j].1,by rw[vv,vz hj];rfl,?_⟩;rw[e3];exact j61 hk
 refine⟨.ref s.heap.objs.size,_,I.laid (t':=tk) hk (vb _) (show ObjOk X.prog X.w _ h' _ (.lst (kvs.map fun q=>kV q.1))from⟨by rw[vt];exact z1,acc'.toList,c',rv,by rw[Array.toArray_toList];exact hS⟩),rfl,q _ (I.hok.fresh (vb _))⟩
noncomputable def ivK(p:Int×V):Key×V:=(Sum.inl p.1,p.2)
theorem pairsV{h:Heap}:∀{as:List Addr} {kvs:List (Int×V)},as.length=kvs.length->(∀(i:Nat) (a:Addr) (q:Int×V),as[i]?=some a->kvs[i]?=some q->∃t u,RelV q.2 u/\IsTup h a #[.int q.1 t,u])->
  ∃ps:List (Key×Value),KV (kvs.map ivK) ps/\ps.length=kvs.length/\∀(j:Nat) (kv:Key×Value),ps[j]?=some kv->∃a key,as[j]?=some a/\IsTup h a #[key,kv.2]/\keyIs kv.1 key=true
 | [],[],_,_=>⟨[],.nil,rfl,fun j kv e=>by simp at e⟩
 | [],_::_,l,_=>by simp at l
 | _::_,[],l,_=>by simp at l
 | a::as,q::kvs,l,f=>by
  obtain⟨ps,h1,h2,h3⟩:=pairsV (as:=as) (kvs:=kvs) (by simpa using l) fun i a q e1 e2=>f (i+1) a q (by simpa using e1) (by simpa using e2)
  obtain⟨t,u,ru,e⟩:=f 0 a q rfl rfl;refine⟨(Sum.inl q.1,u)::ps,.cons ⟨rfl,ru⟩ h1,by rw[vP,h2,vP],fun j kv ej=>?_⟩;cases j with
  | zero=>simp at ej;subst ej;exact⟨a,_,rfl,e,KE _ _⟩
  | succ j=>obtain⟨b,ky,b1,b2,b3⟩:=h3 j kv (by simpa using ej);exact⟨b,ky,by simpa using b1,b2,b3⟩
section
variable{X:Cx}
theorem j1d(hc:X.calm=true):CallR X (.type "dict") (fun xs H Q=>∃(p:Addr) (as:List Addr) (kvs:List (Int×V)),xs=[.ref p]/\H p=some (.lst (as.map V.ref))/\as.length=kvs.length/\
  (∀(i:Nat) (a:Addr) (q:Int×V),as[i]?=some a->kvs[i]?=some q->H a=some (.tup [.int q.1,q.2]))/\∀d,H d=none->Q (.ref d) (upd H d (.dK (mergeK [] (kvs.map ivK))))):=by
 intro pins s σ H xs us Q I r h;obtain⟨p,as,kvs,rfl,ep,hl,ht,q⟩:=h;obtain⟨u,rfl,ru⟩:=vals1 r;cases ru;obtain⟨z,its,n,rv,lv,e⟩:=I.lstM ep;have ei:=Yy rv;subst ei;rw[vt]at z;have hp:p<s.heap.objs.size:=vI e;obtain⟨ps,kp,pl,pt⟩:=pairsV (h:=s.heap) hl fun i a q e1 e2=>by
  obtain⟨_,its,r',t'⟩:=I.hok a _ (ht i a q e1 e2);cases r' with
  | cons ra rr=>
   cases rr with
   | cons rb rr=>
    cases rr;obtain⟨t1,rfl⟩:=ra;exact⟨t1,_,rb,t'⟩
 refine callType_codes (Q₁:=fun obj s₁=>obj = .ref s.heap.objs.size/\s₁={s with heap:=s.heap.push {cls:=.type "dict",data:=.dict #[]}}) PySem.F.kt_called_dict (PySem.F.kt_typeCall_dict_1 (.ref p)) PySem.F.entry_dict_init (kt_code_dict_new (.ref p) ⟨rfl,rfl⟩) ?_;rintro obj s₁ ⟨rfl,rfl⟩;have hnew:(s.heap.push {cls:=.type "dict",data:=.dict #[]}).DictOf (mixKind X.prog X.w) s.heap.objs.size []:=Heap.DictOf.new s.heap;have k0:∀b o,s.heap.get? b=some o->(s.heap.push {cls:=.type "dict",data:=.dict #[]}).get? b=some o:=fun b o e=>vJ _ e
 generalize s.heap.push {cls:=.type "dict",data:=.dict #[]}=h0 at hnew k0;refine⟨hnew.typeIs (s:={s with heap:=h0}),PySem.F.args_dict_init_2 _ _,?_⟩;unfold Builtin.«dict.__init__»;refine uk ?_;unfold Builtin.Dict.selfAndRest;refine uk (wpAny_notOrdered_dict (hnew.typeIs (s:={s with heap:=h0})) ?_);show wpAny (model X.prog X.w) _ (pure (s.heap.objs.size,[Value.ref p])) _ _ _;refine uh ?_;show wpAny (model X.prog X.w) _ (Builtin.Dict.updateFrom "dict.__init__" s.heap.objs.size (.ref p) [] .none) _ _ _;unfold Builtin.Dict.updateFrom;refine uk (wpAny_typeOf (T:="list") ⟨_,k0 _ _ e,rfl⟩ ?_);rw[vd (by decide)];refine uk (noKeys (s:={s with heap:=h0}) (k0 _ _ e) rfl rfl rfl (I.ok.hd hc) fun h1 tk k1=>?_);rw[vd (show(none:Option Value).isNone=true from rfl)];have k01:∀b o,s.heap.get? b=some o->h1.get? b=some o:=fun b o e=>k1 b o (k0 b o e)
 have dd1:h1.DictOf (mixKind X.prog X.w) s.heap.objs.size []:=hnew.keep k1;have ld:s.heap.objs.size<h1.objs.size:=by obtain⟨_,_,_,hg,_⟩:=dd1;exact vI hg
 have lp:p<h1.objs.size:=vY hp ld;refine uk (wpAny_rule ?_);refine uk (wpAny_pyIter_list (l:=p) (items:=(as.map Value.ref).toArray) ⟨_,k01 _ _ e,rfl,n,rfl⟩ ?_);refine uh ⟨plainId_quiet Z7 _,?_⟩;refine dul (knd:=mixKind X.prog X.w) (A:=X.A.in1) (d:=s.heap.objs.size) (it:=h1.objs.size) (l:=p) (items:=as.map Value.ref) (res:=.none) (I.ok.hd hc) (vE ld) (vN hp) (vN lp) ps 0 [] _
  ⟨_,Heap.get?_push_size _ rfl,rfl,rfl⟩ ⟨_,vJ _ (k01 _ _ e),rfl,n,rfl⟩ (by rw[vt,hl,pl,Nat.zero_add]) (fun j kv ej=>?_) (dd1.push _) (by rw[length_nil,pl,<-hl,Nat.zero_add];exact z) fun h2 tk2 k2 dd2=>?_
 ·obtain⟨a,ky,b1,⟨o,b2,b3⟩,b4⟩:=pt j kv ej;have la:a<s.heap.objs.size:=vI b2;exact⟨a,ky,by rw[Nat.zero_add,vv,b1];rfl,⟨o,vJ _ (k01 _ _ b2),b3⟩,b4,vE la,vE (vY la ld)⟩
 ·refine⟨rfl,.ref s.heap.objs.size,upd H s.heap.objs.size (.dK (mergeK [] (kvs.map ivK))),I.laid (t':=tk2) (fun b o eb=>k2 b o (vE (vI eb)) (vE (vY (vI eb) ld)) (vJ _ (k01 _ _ eb))) (vb _) ?_,rfl,q _ (I.hok.fresh (vb _))⟩;have hm:=zr (kvs.map ivK) [];rw[length_nil,vt]at hm;have hns:(s.heap.objs.size==sysModules)=false:=by
   rw[beq_eq_false_iff_ne];exact vN I.big
  exact Xl (by lia) hns (kp.merge .nil) dd2
end
section
variable{X:Cx}{pins:List (Addr×Obj)}{σ:St}{H:Hp}{s:Shared}{tg:Expr}
theorem Inv.freeze{a:Addr}{kvs:List (Key×V)}(I:Inv X pins σ H s)(e:H a=some (.dK kvs)):∃o,Inv X pins σ (upd H a (.frz o (.dK kvs))) s:=by
 obtain⟨z,hd,vs,r,o,es,ep,ho,rest⟩:=(show ObjOk X.prog X.w H s.heap a (.dK kvs)from I.hok a _ e)
 have ne:∀b u,H b=some u->u≠.dK kvs->b≠a:=fun b u q d z=>by subst z;rw[e]at q;exact d (vL q).symm
 refine⟨o,I.step (h':=s.heap) (g':=s.gens) (d':=s.drawn) (t':=s.toks) (ch:=[]) (fun b hb=>nomatch hb) (fun b o _ _ _ e _=>e) (fun b o _ _ _ e _=>⟨o.slots,e⟩) (fun b u _ _ n=>(jg fun z=>by subst z;rw[e]at n;cases n).trans n) (fun b u _ e=>⟨u,e⟩)
  (fun b xs q=>(jg (ne _ _ q fun z=>nomatch z)).trans q) (fun b u v q=>(jg (ne _ _ q fun z=>nomatch z)).trans q) (fun b ps q=>⟨#[],by rw[jg (ne _ _ q fun z=>nomatch z),q];simp⟩) (fun m hm=>hm) (fun b u q=>?_) I.bare⟩
 by_cases hb:b=a
 ·subst hb;rw[jC]at q;cases q;exact⟨ho,z,hd,vs,r,o,es,ep,ho,rest⟩
 ·rw[jg hb]at q;exact(I.hok b u q).stay (fun c v _ q=>q) (fun c q=>(jg (ne _ _ q fun z=>nomatch z)).trans q) fun c ys q=>(jg (ne _ _ q fun z=>nomatch z)).trans q
def Frz(as:List Addr)(H H':Hp):Prop:=(∀b,b∉as->H' b=H b)/\∀b∈as,∀kvs,H b=some (.dK kvs)->∃o,H' b=some (.frz o (.dK kvs))
theorem Inv.freezeAll:∀(as:List Addr) {H:Hp},Inv X pins σ H s->as.Nodup->(∀b∈as,∃kvs,H b=some (.dK kvs))->∃H',Inv X pins σ H' s/\Frz as H H'
 | [],H,I,_,_=>⟨H,I,fun _ _=>rfl,fun b hb=>nomatch hb⟩
 | a::as,H,I,nd,h=>by
  rw[ur]at nd;obtain⟨kvs,e⟩:=h a vq;obtain⟨o,I1⟩:=I.freeze e;have ne:∀b∈as,b≠a:=fun b hb z=>nd.1 (by rw[<-z];exact hb)
  obtain⟨H',I2,f1,f2⟩:=Inv.freezeAll as I1 nd.2 fun b hb=>by
   obtain⟨k,q⟩:=h b (vp _ hb);exact⟨k,(jg (ne b hb)).trans q⟩
  refine⟨H',I2,fun b hb=>?_,fun b hb k q=>?_⟩
  ·rw[f1 b fun z=>hb (vp _ z),jg fun z=>hb (by rw[z];exact vq)]
  ·rcases mem_cons.mp hb with rfl | hb
   ·rw[e]at q;cases q;exact⟨o,(f1 b nd.1).trans jC⟩
   ·exact f2 b hb k ((jg (ne b hb)).trans q)
def tFrz(te:TE):TE:=fun σ H Q=>te σ H fun v H1=>∃as:List Addr,as.Nodup/\(∀b∈as,∃kvs,H1 b=some (.dK kvs))/\∀H2,Frz as H1 H2->Q v H2
theorem j6y{e:Expr}{te:TE}(h:PE X e te):PE X e (tFrz te):=by
 intro pins s σ H Q I q;refine thn (h pins s σ H _ I q) fun v s1 ⟨x,H1,I1,r1,as,nd,hs,q1⟩=>?_
 obtain⟨H2,I2,f2⟩:=I1.freezeAll as nd hs;exact⟨x,H2,I2,r1,q1 H2 f2⟩
def Itk(a:Addr)(o:Obj)(kvs:List (Key×V)):It:=
 ⟨fun i H=>H a=some (.frz o (.dK kvs))/\i<kvs.length,fun i H x H'=>H'=H/\∃q,kvs[i]?=some q/\x=kV q.1,fun i H=>H a=some (.frz o (.dK kvs))/\kvs.length<=i⟩
theorem Wl{a:Addr}{o:Obj}{kvs:List (Key×V)}(I:Inv X pins σ H s)(e:H a=some (.frz o (.dK kvs))){es:Array DictEntry}{ep:Nat}(hd:o.data = .dict es ep):kvs.length<=sizeLine/\(a==sysModules)=false/\∃vs,KV kvs vs/\s.heap.DictAt (mixKind X.prog X.w) a vs ep:=by
 obtain⟨ho,z,h0,vs,r,o',es',ep',ho',c1,c2,c3⟩:=(show ObjOk X.prog X.w H s.heap a (.frz o (.dK kvs))from I.hok a _ e)
 rw[ho]at ho';cases ho';rw[hd]at c2;cases c2;exact⟨z,h0,vs,r,o,es,ho,c1,hd,c3⟩
theorem j3I{P:Program}{w:World}{K:Frg}{tg:Expr}(a it:Addr)(o:Obj)(kvs:List (Key×V))(es:Array DictEntry)(ep:Nat)(hd:o.data = .dict es ep):Turn P w K tg (Itk a o kvs) [it] it (fun i h=>h.IsKeyIter it a i kvs.length ep) where
 mem:=by simp
 obj:=fun i h st b hb=>by
  have e:b=it:=by simpa using hb
  subst e;obtain⟨o,e,c,d⟩:=st;exact⟨o,e,fun v z=>by rw[d]at z;cases z⟩
 keep:=fun i h h' st k=>st.at fun o e=>k it (by simp) o e
 item:=by
  intro X hP hw hK hc i pins s σ H E I hf st hg;subst hP hw hK;obtain⟨hq,hi⟩:=hg;obtain⟨z,h0,vs,rv,dd⟩:=Wl I hq hd;have hx:=vz hi;obtain⟨y,e2,e3,_⟩:=rv.get hx;obtain⟨f0,f1,f2,f3,f4,f5⟩:=hf it (by simp);rw[rv.length]at st;refine wpAny_pyNext_dict_item st dd (k:=y.1) (v:=y.2) e2 fun key h' hk st' sb=>?_
  have I1:Inv X pins σ H {s with heap:=h'}:=I.turned (t':=s.toks) (fun b o hb e=>(sb.2 b hb).trans e) f0 f1 f3 f4 f5;refine⟨key,rfl,letGo_keyiter (s':={s with heap:=h'}) st' ⟨kV kvs[i].1,H,I1,by rw[e3];exact j61 hk,⟨rfl,_,hx,rfl⟩,by rw[rv.length];exact st',fun b hb=>(hf b hb).1⟩⟩
 done:=by
  intro X hP hw hK hc i pins s σ H E I hf st hg;subst hP hw hK;obtain⟨hq,hi⟩:=hg;obtain⟨z,h0,vs,rv,dd⟩:=Wl I hq hd;obtain⟨f0,f1,f2,f3,f4,f5⟩:=hf it (by simp);rw[rv.length]at st hi;exact wpAny_pyNext_dict_end (I.ok.hd hc) st dd (List.getElem?_eq_none hi) fun h' eb=>⟨rfl,I.turned (t':=s.toks) (fun b o hb e=>eb b o hb e) f0 f1 f3 f4 f5⟩
 self:=fun _ _ _ _ _ st h=>wpAny_pyIter_keyiter st h
def iDict(tl:TE):TI:=fun σ H R=>tl σ H fun x H1=>∃a o kvs,x = .ref a/\H1 a=some (.frz o (.dK kvs))/\R (Itk a o kvs) H1
theorem j5L{l:Expr}{tl:TE}(hl:PE X l tl):PI X tg l (iDict tl):=by
 intro pins s σ H R I h;refine thn (hl pins s σ H _ I h) fun v s1 ⟨x,H1,I1,r1,q1⟩=>?_
 obtain⟨a,o,kvs,e,hq,q⟩:=q1;subst e;cases r1;obtain⟨ho,_,_,_,_,o',es,ep,ho',_,hd,_⟩:=(show ObjOk X.prog X.w H1 s1.heap a (.frz o (.dK kvs))from I1.hok a _ hq)
 rw[ho]at ho';cases ho';obtain⟨z,h0,vs,rv,dd⟩:=Wl I1 hq hd;refine wpAny_pyIter_dict h0 dd ?_;rw[<-rv.length];refine⟨s1.heap.objs.size,[s1.heap.objs.size],_,_,H1,rfl,I1.kept (t':=s1.toks) fun b o e=>vJ _ e,j3I a _ o kvs es ep hd,⟨_,Heap.get?_push_size _ rfl,rfl,rfl⟩,fun b hb=>?_,q⟩;have e:b=s1.heap.objs.size:=by simpa using hb
 subst e;exact I1.fpOk (vb _) (I1.hok.fresh (vb _))
end
theorem j32{a:Addr}{o:Obj}{kvs:List (Key×V)}{k:Nat}{ci:List Nat}{g:TG}{tf:TT}{te:TE}{σ:St}{H:Hp}{Z:Addr->List V->Hp->Prop}(Pv:Nat->List V->Hp->Prop)(h0:Pv 0 [] H)(hl:∀i ys H,i<=kvs.length->Pv i ys H->H a=some (.frz o (.dK kvs)))
  (hs:∀i q ys H,kvs[i]?=some q->Pv i ys H->g (kV q.1) (capS k ci σ) H fun σ2 H2=>tf σ2 H2 fun b H3=>if b=true then te σ2 H3 fun v H4=>ys.length<sizeLine/\Pv (i+1) (ys++[v]) H4 else Pv (i+1) ys H3)
  (hd:∀ys H,Pv kvs.length ys H->ys.length<=sizeLine/\∀p,H p=none->Z p ys H) :
  ∃W:Nat->Nat->List V->Hp->Prop,(∃m,W 0 m [] H)/\∀i m ys H,W i m ys H->
   ((Itk a o kvs).stop i H/\ys.length<=sizeLine/\∀p,H p=none->Z p ys H)\/
   ((Itk a o kvs).go i H/\∃N:List V->Hp->Prop,(∀ys' H',N ys' H'->∃m',m'<m/\W (i+1) m' ys' H')/\∀x H',(Itk a o kvs).yld i H x H'->g x (capS k ci σ) H' fun σ2 H2=>tf σ2 H2 fun b H3=>
    if b=true then te σ2 H3 fun v H4=>ys.length<sizeLine/\N (ys++[v]) H4 else N ys H3):=by
 refine⟨fun i m ys H=>m=kvs.length-i/\i<=kvs.length/\Pv i ys H,⟨kvs.length,by simp,va _,h0⟩,?_⟩;rintro i m ys H ⟨rfl,hi,p⟩;have q:=hl i ys H hi p;by_cases hlt:i<kvs.length
 ·refine .inr ⟨⟨q,hlt⟩,Pv (i+1),fun ys' H' p'=>⟨kvs.length-(i+1),by lia,rfl,hlt,p'⟩,fun x H' y=>?_⟩;obtain⟨e,z,y,rfl⟩:=y;subst e;exact hs i z ys _ y p
 ·have e:i=kvs.length:=by lia
  subst e;exact .inl ⟨⟨q,vb _⟩,hd ys H p⟩
section
variable{σ:St}{H:Hp}{Q:VK}
theorem j4I{td ty:TE}(h:td σ H fun x H1=>∃a,x = .ref a/\IsD H1 a/\ty σ H1 fun y H2=>∃o,DGet H2 a y o/\Q (o.getD .non) H2):tDGet1 td ty σ H Q:=h
theorem j6G{te:TE}(h:te σ H fun v H1=>∃as:List Addr,as.Nodup/\(∀b∈as,∃kvs,H1 b=some (.dK kvs))/\∀H2,Frz as H1 H2->Q v H2):tFrz te σ H Q:=h
theorem j4L{tl:TE}{R:It->Hp->Prop}(h:tl σ H fun x H1=>∃a o kvs,x = .ref a/\H1 a=some (.frz o (.dK kvs))/\R (Itk a o kvs) H1):iDict tl σ H R:=h
end
def tNotT(K:Frg)(ta:TE):TE:=fun σ H Q=>ta σ H fun x H'=>∃k,TruV K x H' k/\Q (.bl (!k)) H'
theorem j5K{X:Cx}{a:Expr}{ta:TE}{pos:Pos}(ha:PE X a ta):PE X (.UnaryOp .Not a pos) (tNotT X.K ta):=by
 intro pins s σ H Q I h;refine UnaryOp_ (thn (ha pins s σ H _ I h) fun v s1 ⟨x,H1,I1,r1,k,t1,q1⟩=>?_);refine not_of (wpAny_mono (j55 pins s1 σ H1 x v (fun b H'=>b=k/\H'=H1) I1 r1 ⟨k,t1,rfl,rfl⟩) (fun c s2 h2=>?_) fun _ _ e=>e);obtain⟨H2,I2,rfl,rfl⟩:=h2;exact⟨.bl (!c),H2,I2,rfl,q1⟩
theorem j5O{K:Frg}{ta:TE}{σ:St}{H:Hp}{Q:VK}(h:ta σ H fun x H'=>∃k,TruV K x H' k/\Q (.bl (!k)) H'):tNotT K ta σ H Q:=h
section
variable{prog:Program}{w:World}{A:Around}{E:Value->Shared->Prop}{s:Shared}
end
end L2
namespace Pr
open PySem L2
end Pr
namespace Rm
open PySem PySem.Spec PyProof.Rows L2
section
variable{κ:Type}[DecidableEq κ]
theorem j0q(kvs:List (κ×V))(k:κ)(v:V):(putK kvs k v).map (·.1)=if(valV kvs k).isSome then kvs.map (·.1)else kvs.map (·.1)++[k]:=by
 unfold putK;rw[Q7];split
 ·rw[map_map];refine map_congr_left fun q _=>?_
  show(if q.1=k then(q.1,v)else q).1=q.1;split<;>rfl
 ·rw[vj];rfl
theorem j5V{kvs:List (κ×V)}{k:κ}(h:k∈kvs.map (·.1)):(valV kvs k).isSome=true:=by
 cases e:valV kvs k with
 | none=>exact ug h (j0Z e)
 | some x=>rfl
theorem j6u{kvs:List (κ×V)}{k:κ}(v:V)(hn:(kvs.map (·.1)).Nodup):((putK kvs k v).map (·.1)).Nodup:=by
 cases e:valV kvs k with
 | none=>exact j5D v hn e
 | some x=>rw[j0q,e];exact hn
theorem xG{α:Type}[DecidableEq α]:∀{l m:List α},l.Nodup->(∀x∈l,x∈m)->l.length<=m.length
 | [],m,_,_=>va _
 | a::l,m,nd,h=>by
  rw[ur]at nd;have ha:=h a vq;have:=xG (l:=l) (m:=m.erase a) nd.2 fun x hx=>(List.mem_erase_of_ne (fun z:x=a=>nd.1 (by rw[<-z];exact hx))).mpr (h x (vp _ hx))
  rw[List.length_erase_of_mem ha]at this;have:=length_pos_of_mem ha;rw[vP];lia
end
noncomputable abbrev Tb:=List (Key×V)
def Has(B:List Tb)(i:Nat)(h:Int):Prop:=(valV (B.getD i []) (Sum.inl h)).isSome=true
noncomputable def lef(L:List (Option Int))(i:Nat):Int:=(L.getD i none).getD 0
noncomputable def Run(L:List (Option Int))(B:List Tb):Int->List Pc->Prop
 | _,[]=>True
 | h,q::r=>Has B q.1 h/\Run L B (lef L q.1) r
noncomputable def nowH(L:List (Option Int)):Int->List Pc->Int
 | h,[]=>h
 | _,q::r=>nowH L (lef L q.1) r
theorem Run.snoc{L:List (Option Int)}{B:List Tb}{q:Pc}:∀{r:List Pc} {h:Int},Run L B h r->Has B q.1 (nowH L h r)->Run L B h (r++[q])
 | [],_,_,k=>⟨k,trivial⟩
 | _::_,_,h,k=>⟨h.1,Run.snoc h.2 k⟩
theorem xH{L:List (Option Int)}{q:Pc}:∀{r:List Pc} {h:Int},nowH L h (r++[q])=lef L q.1
 | [],_=>rfl
 | _::r,_=>xH (r:=r)
theorem Run.mono{L:List (Option Int)}{B B':List Tb}(g:∀i h,Has B i h->Has B' i h):∀{r:List Pc} {h:Int},Run L B h r->Run L B' h r
 | [],_,_=>trivial
 | _::_,_,h=>⟨g _ _ h.1,Run.mono g h.2⟩
def Alw(f:Int)(L:List (Option Int))(k:Key):Prop:=∃h,k=Sum.inl h/\(h=f\/∃j,L.getD j none=some h)
structure KB(f:Int)(L:List (Option Int))(B:List Tb):Prop where
 nd:∀i,((B.getD i []).map (·.1)).Nodup
 al:∀i,∀q∈B.getD i [],Alw f L q.1
theorem KB.len{f:Int}{L:List (Option Int)}{B:List Tb}(h:KB f L B)(i:Nat):(B.getD i []).length<=L.length+1:=by
 have:=xG (m:=(f::L.map fun o=>o.getD 0).map fun h=>(Sum.inl h:Key)) (h.nd i) fun k hk=>by
  obtain⟨q,hq,rfl⟩:=vK.mp hk;obtain⟨x,e,z⟩:=h.al i q hq;rw[e];refine vK.mpr ⟨x,?_,rfl⟩;rcases z with rfl | ⟨j,z⟩
  ·exact vq
  ·refine vp _ (vK.mpr ⟨L.getD j none,?_,by rw[z];rfl⟩);rw[vy]at z|-;cases e:L[j]? with
   | none=>rw[e]at z;cases z
   | some o=>exact vm e
 rw[vt,vt,vP,vt]at this;exact this
noncomputable def putB(B:List Tb)(j:Nat)(h:Int):List Tb:=B.set j (putK (B.getD j []) (Sum.inl h) (.bl true))
theorem wQ{B:List Tb}{j:Nat}{h:Int}(hj:j<B.length):(putB B j h).getD j []=putK (B.getD j []) (Sum.inl h) (.bl true):=by
 unfold putB;rw[vy,List.getElem?_set_self hj];rfl
theorem kZ{B:List Tb}{i j:Nat}{h:Int}(hij:i≠j):(putB B j h).getD i []=B.getD i []:=by
 unfold putB;rw[vy,List.getElem?_set_ne (Ne.symm hij),<-vy]
theorem j0M{B:List Tb}{j:Nat}{h:Int}(hj:j<B.length):Has (putB B j h) j h:=by
 unfold Has;rw[wQ hj,WO,vd rfl];rfl
theorem j3z{B:List Tb}{j:Nat}{h:Int}(hj:j<B.length)(i:Nat)(x:Int)(k:Has B i x):Has (putB B j h) i x:=by
 by_cases e:i=j
 ·subst e;unfold Has;rw[wQ hj,WO];split
  ·rfl
  ·exact k
 ·unfold Has;rw[kZ e];exact k
theorem KB.put{f:Int}{L:List (Option Int)}{B:List Tb}(k:KB f L B){j:Nat}{h:Int}(hj:j<B.length)(a:h=f\/∃j,L.getD j none=some h):KB f L (putB B j h):=by
 refine⟨fun i=>?_,fun i q hq=>?_⟩
 ·by_cases e:i=j
  ·subst e;rw[wQ hj];exact j6u _ (k.nd i)
  ·rw[kZ e];exact k.nd i
 ·by_cases e:i=j
  ·subst e;rw[wQ hj]at hq;have:q.1∈(putK (B.getD i []) (Sum.inl h) (.bl true)).map (·.1):=vK.mpr ⟨q,hq,rfl⟩;rw[j0q]at this;split at this
   ·obtain⟨q',h1,h2⟩:=vK.mp this;rw[<-h2];exact k.al i q' h1
   ·rcases vh.mp this with z | z
    ·obtain⟨q',h1,h2⟩:=vK.mp z;rw[<-h2];exact k.al i q' h1
    ·rw[vo.mp z];exact⟨h,rfl,a⟩
  ·rw[kZ e]at hq;exact k.al i q hq
structure Beg(H0:Hp)(l:Addr)(as:List Addr)(B:List Tb)(H:Hp):Prop where
 sm:Same H0 H
 el:H l=some (.lst (as.map V.ref))
 at':All2 (fun a kvs=>H a=some (.dK kvs)) as B
 nd:as.Nodup
 nw:∀a∈as,H0 a=none
 nl:H0 l=none
theorem Beg.more{H0:Hp}{l:Addr}{as:List Addr}{B:List Tb}{H H':Hp}(b:Beg H0 l as B H)(s:Same H H'):Beg H0 l as B H':=
 ⟨b.sm.trans s,s _ _ b.el,All2.mono b.at' fun _ _ h=>s _ _ h,b.nd,b.nw,b.nl⟩
theorem Beg.put{H0:Hp}{l:Addr}{as:List Addr}{B:List Tb}{H:Hp}(b:Beg H0 l as B H){j:Nat}{a:Addr}(ha:as[j]?=some a)(h:Int) :
  Beg H0 l as (putB B j h) (upd H a (.dK (putK (B.getD j []) (Sum.inl h) (.bl true)))):=by
 have nl:l≠a:=fun z=>by
  have hj:j<B.length:=by rw[<-b.at'.1];exact(vx.mp ha).1
  have:=b.at'.2 j a _ ha (vz hj);rw[<-z,b.el]at this;cases this
 refine⟨fun c u hc=>(jg fun z=>?_).trans (b.sm _ _ hc),(jg nl).trans b.el,⟨by rw[b.at'.1,putB,length_set],fun i c x hc hx=>?_⟩,b.nd,b.nw,b.nl⟩
 ·have:=b.nw a (vm ha);rw[z,this]at hc;cases hc
 ·by_cases e:i=j
  ·subst e;rw[ha]at hc;cases hc;refine jC.trans ?_;have hj:=(vx.mp hx).1;unfold putB at hx hj;rw[length_set]at hj;rw[List.getElem?_set_self hj]at hx;rw[vL hx]
  ·have ne:c≠a:=fun z=>by
    have h1:=(vx.mp hc)
    have h2:=(vx.mp ha)
    obtain⟨l1,e1⟩:=h1;obtain⟨l2,e2⟩:=h2;exact e ((List.getElem_inj b.nd).mp (e1.trans (z.trans e2.symm)))
   refine(jg ne).trans ?_;unfold putB at hx;rw[List.getElem?_set_ne (Ne.symm e)]at hx;exact b.at'.2 i c x hc hx
structure BegOk(f:Int)(L:List (Option Int))(PC:List (List Pc))(B:List Tb):Prop where
 ln:B.length=PC.length
 kb:KB f L B
 tp:Has B (PC.length-1) f
 cl:∀i,i<PC.length->∀h,Has B i h->Run L B h (PC.getD i [])
structure StrOk(f:Int)(L:List (Option Int))(gs:List Int)(PC:List (List Pc)):Prop where
 n1:1<=PC.length
 n61:PC.length<=61
 lL:L.length=PC.length
 lg:gs.length=PC.length
 f0:0<=f/\f<=10^18
 lb:∀i v,L.getD i none=some v->0<=v/\v<=10^18
 pc:∀i,∀q∈PC.getD i [],q.1<i/\(L.getD q.1 none).isSome=true/\PcOk gs q
 p8:∀i,(PC.getD i []).length<=8
 rs:∀i v,L.getD i none=some v->PC.getD i []=[]->1<=gs.getD i 0/\gs.getD i 0<=10^18
def FrzAt(H:Hp)(as:List Addr)(B:List Tb):Prop:=All2 (fun a kvs=>∃o,H a=some (.frz o (.dK kvs))) as B
inductive sp_begunH(vs:List V)(H:Hp)(Q:VK)(xk:XK):Prop
 | mk (pp pl:Addr) (pa:List Addr) (f:Int) (L:List (Option Int)) (gs:List Int) (PC:List (List Pc)) (_:vs=[.ref pp,.ref pl,.int f]) (_:H pp=some (.lst (pa.map V.ref))) (_:PssAt H pa PC) (_:H pl=some (.lst (L.map optV))) (_:StrOk f L gs PC) (_:∀(b:Addr) (ba:List Addr) (B:List Tb) (H':Hp),Same H H'->H b=none->H' b=some (.lst (ba.map V.ref))->FrzAt H' ba B->BegOk f L PC B->Q (.ref b) H'):sp_begunH vs H Q xk
structure Ta where
 s:Addr
 l:Addr
 p:Addr
 b:Addr
 pa:List Addr
 ba:List Addr
noncomputable def fldT(z:Ta)(f:Int):List (Str×V):=putF "begun" (.ref z.b) (putF "pieces" (.ref z.p) (putF "left" (.ref z.l) (putF "sizes" (.ref z.s) (putF "first" (.int f) []))))
section
variable{z:Ta}{f:Int}
theorem j0n:(fldT z f).lookup ("begun" : Str)=some (.ref z.b):=qi
theorem xv:(fldT z f).lookup ("pieces" : Str)=some (.ref z.p):=(jH (by decide +kernel)).trans qi
theorem Xn:(fldT z f).lookup ("left" : Str)=some (.ref z.l):=(jH (by decide +kernel)).trans ((jH (by decide +kernel)).trans qi)
theorem yW:(fldT z f).lookup ("sizes" : Str)=some (.ref z.s):=(jH (by decide +kernel)).trans ((jH (by decide +kernel)).trans ((jH (by decide +kernel)).trans qi))
theorem j42:(fldT z f).lookup ("first" : Str)=some (.int f):=(jH (by decide +kernel)).trans ((jH (by decide +kernel)).trans ((jH (by decide +kernel)).trans ((jH (by decide +kernel)).trans qi)))
theorem j6Q{m:Str}(h1:¬m = "begun")(h2:¬m = "pieces")(h3:¬m = "left")(h4:¬m = "sizes")(h5:¬m = "first"):(fldT z f).lookup m=none:=(jH h1).trans ((jH h2).trans ((jH h3).trans ((jH h4).trans (jH h5))))
end
structure StrAt(C:Addr)(H:Hp)(a:Addr)(z:Ta)(f:Int)(L:List (Option Int))(gs:List Int)(PC:List (List Pc))(B:List Tb):Prop where
 ob:∃dx,H a=some (.ins C dx (fldT z f))
 hs:H z.s=some (.lst (gs.map V.int))
 hl:H z.l=some (.lst (L.map optV))
 hp:H z.p=some (.lst (z.pa.map V.ref))
 pa:PssAt H z.pa PC
 hb:H z.b=some (.lst (z.ba.map V.ref))
 ba:FrzAt H z.ba B
theorem StrAt.same{C:Addr}{H H':Hp}{a:Addr}{z:Ta}{f:Int}{L:List (Option Int)}{gs:List Int}{PC:List (List Pc)}{B:List Tb}(A:StrAt C H a z f L gs PC B)(s:Same H H'):StrAt C H' a z f L gs PC B:=
 ⟨A.ob.imp fun dx h=>s _ _ h,s _ _ A.hs,s _ _ A.hl,s _ _ A.hp,All2.mono A.pa fun a e ⟨bs,h1,h2⟩=>⟨bs,s _ _ h1,All2.mono h2 fun b q h=>s _ _ h⟩,s _ _ A.hb,All2.mono A.ba fun a k ⟨o,h⟩=>⟨o,s _ _ h⟩⟩
noncomputable def lvE(E:List (List (Int×Int)))(k:Int):List (Option Int):=E.map fun e=>e.lookup k
noncomputable def fPc(ps:List (Str×Fm))(gs:List Int)(L:List (Option Int)):List (List Pc):=ps.map fun p=>(pcsI gs p.2 (inP ps p.2)).filter fun q=>(L.getD q.1 none).isSome
inductive sp_initT(C:Addr)(vs:List V)(H:Hp)(Q:VK)(xk:XK):Prop
 | mk (a dx b pl pp:Addr) (las pas:List Addr) (ls:List (Str×Int)) (ps:List (Str×Fm)) (gs:List Int) (hs:List (List Int)) (x:Str) (f:Int) (k:Nat) (_:vs=[.ref a,.ref b,.str x]) (_:H a=some (.ins C dx [])) (_:BookAt H b pl pp las pas ls ps) (_:Sn ls ps gs hs) (_:ls[k]?=some (x,f)) (_:∀(z:Ta) (E:List (List (Int×Int))) (B:List Tb) (H':Hp),(∀c u,c≠a->H c=some u->H' c=some u)->E.length=ps.length->EndOk ls ps E->StrOk f (lvE E (k:Nat)) gs (fPc ps gs (lvE E (k:Nat)))->StrAt C H' a z f (lvE E (k:Nat)) gs (fPc ps gs (lvE E (k:Nat))) B->BegOk f (lvE E (k:Nat)) (fPc ps gs (lvE E (k:Nat))) B->Q .non H'):sp_initT C vs H Q xk
noncomputable def rzB(L:List (Option Int))(PC:List (List Pc))(i:Nat):Bool:=(L.getD i none).isSome&&(PC.getD i []).isEmpty
inductive sp_raises(C:Addr)(vs:List V)(H:Hp)(Q:VK)(xk:XK):Prop
 | mk (a:Addr) (z:Ta) (f:Int) (L:List (Option Int)) (gs:List Int) (PC:List (List Pc)) (B:List Tb) (i:Nat) (_:vs=[.ref a,.int (i:Nat)]) (_:StrAt C H a z f L gs PC B) (_:StrOk f L gs PC) (_:i<PC.length) (_:Q (.bl (rzB L PC i)) H):sp_raises C vs H Q xk
theorem j6a{xs:List V}{n:Nat}{v:V}(h:1<=n)(e:xs.length=n)(hx:xs[n-1]?=some v):atI xs (-1)=some v:=by
 have:xs=xs.take (n-1)++[v]:=by
  rw[<-take_snoc hx,show n-1+1=xs.length by lia,v3]
 rw[this];exact j3Q _ _
theorem Beg.last{H0:Hp}{l:Addr}{as:List Addr}{B:List Tb}{H:Hp}(b:Beg H0 l as B H){j:Nat}(hj:j<B.length):∃a,as[j]?=some a/\H a=some (.dK (B.getD j [])):=by
 obtain⟨a,h1,h2⟩:=b.at'.get (vz hj);exact⟨a,h1,by rw[vy,vz hj];exact h2⟩
theorem KB.none{f:Int}{L:List (Option Int)}{n:Nat}:KB f L (List.replicate n []):=by
 have e:∀i,(List.replicate n ([]:Tb)).getD i []=[]:=fun i=>by
  rw[vy,List.getElem?_replicate];split<;>rfl
 exact⟨fun i=>by rw[e];exact nodup_nil,fun i q hq=>by rw[e]at hq;exact nomatch hq⟩
theorem j0u{B:List Tb}{j:Nat}{h:Int}:(putB B j h).length=B.length:=length_set ..
theorem kI{L:List (Option Int)}{i:Nat}(h:(L.getD i none).isSome=true):L.getD i none=some (lef L i)/\L[i]?=some (some (lef L i)):=by
 unfold lef;rw[vy]at h|-;cases e:L[i]? with
 | none=>rw[e]at h;cases h
 | some o=>
  rw[e]at h;cases o with
  | none=>cases h
  | some v=>exact⟨rfl,rfl⟩
theorem j25{f:Int}{L:List (Option Int)}{h:Int}(a:h=f\/∃j,L.getD j none=some h):∀{r:List Pc},(∀q∈r,(L.getD q.1 none).isSome=true)->nowH L h r=f\/∃j,L.getD j none=some (nowH L h r)
 | [],_=>a
 | q::r,hq=>j25 (.inr ⟨q.1,(kI (hq q vq)).1⟩) fun q' h'=>hq q' (vp _ h')
theorem Zu{e:List (Int×Int)}{k v:Int}(h:e.lookup k=some v):(k,v)∈e:=by
 induction e with
 | nil=>cases h
 | cons q r ih=>
  obtain⟨a,b⟩:=q;rw[lookup_cons]at h;by_cases c:k=a
  ·subst c;rw[beq_self_eq_true]at h;cases h;exact vq
  ·rw[show(k==a)=false from beq_false_of_ne c]at h;exact vp _ (ih h)
theorem Zx{e:List (Int×Int)}{k v:Int}(hp:(e.map (·.1)).Pairwise (· < ·))(h:(k,v)∈e):e.lookup k=some v:=by
 induction e with
 | nil=>exact nomatch h
 | cons q r ih=>
  obtain⟨a,b⟩:=q;rw[v7,vU]at hp;rw[lookup_cons];rcases mem_cons.mp h with z | z
  ·cases z;rw[beq_self_eq_true]
  ·have:a<k:=hp.1 k (vK.mpr ⟨_,z,rfl⟩);rw[show(k==a)=false from beq_false_of_ne (by lia)];exact ih hp.2 z
theorem j1Z(e:List (Int×Int))(k:Int):(valV (e.map iiK) (Sum.inl k)).getD .non=optV (e.lookup k):=by
 induction e with
 | nil=>rfl
 | cons q r ih=>
  obtain⟨a,b⟩:=q;rw[lookup_cons];by_cases c:k=a
  ·subst c;rw[beq_self_eq_true];exact congrArg (Option.getD · V.non) (qK (p:=iiK (k,b)) rfl)
  ·rw[show(k==a)=false from beq_false_of_ne c,v7,qJ (p:=iiK (a,b)) (fun z=>c (Sum.inl.inj z).symm)];exact ih
theorem we{E:List (List (Int×Int))}{k:Int}(i:Nat):(lvE E k).getD i none=(E.getD i []).lookup k:=by
 unfold lvE;rw[vy,vy,vv];cases E[i]?<;>rfl
theorem Kw{ps:List (Str×Fm)}{gs:List Int}{L:List (Option Int)}(i:Nat):(fPc ps gs L).getD i []=(pcB ps gs i).filter fun q=>(L.getD q.1 none).isSome:=by
 unfold fPc pcB;rw[vy,vv];cases ps[i]?<;>rfl
theorem j5I{gs:List Int}{f:Fm}{is:List Nat}{j:Nat}(h:j∈is)(ha:∀k x,f = .again k x->is.length<=1):∃q∈pcsI gs f is,q.1=j:=by
 unfold pcsI;split
 ·rename_i k x;cases is with
  | nil=>exact nomatch h
  | cons i r=>
   have:=ha k x rfl;rw[vP]at this;have hr:r=[]:=List.length_eq_zero_iff.mp (by lia);subst hr;exact⟨_,vq,(vo.mp h).symm⟩
 ·have:∀(is:List Nat) (b:Int),j∈is->∃q∈rowPc gs is b,q.1=j:=by
   intro is
   induction is with
   | nil=>intro b h;exact nomatch h
   | cons i r ih=>
    intro b h;unfold rowPc;rcases mem_cons.mp h with rfl | h
    ·exact⟨_,vq,rfl⟩
    ·obtain⟨q,h1,h2⟩:=ih _ h;exact⟨q,vp _ h1,h2⟩
  exact this is 0 h
 ·exact⟨_,vK.mpr ⟨j,h,rfl⟩,rfl⟩
section
variable{ls:List (Str×Int)}{ps:List (Str×Fm)}{gs:List Int}{hs:List (List Int)}{E:List (List (Int×Int))}
theorem Sn.strand(N:Sn ls ps gs hs)(lE:E.length=ps.length)(oE:EndOk ls ps E){k:Nat}{x:Str}{f:Int}(hk:ls[k]?=some (x,f)):StrOk f (lvE E (k:Nat)) gs (fPc ps gs (lvE E (k:Nat))):=by
 have pl:(fPc ps gs (lvE E (k:Nat))).length=ps.length:=vt _;have lv:(lvE E (k:Nat)).length=ps.length:=(vt _).trans lE;have lt:∀{i v},(lvE E (k:Nat)).getD i none=some v->i<ps.length:=fun {i v} h=>by
  rcases Nat.lt_or_ge i ps.length with z | z
  ·exact z
  ·rw[vy,List.getElem?_eq_none (by lia)]at h;cases h
 refine⟨by rw[pl];exact N.ne,by rw[pl];exact N.s.w.p61,lv.trans pl.symm,N.s.gl.trans pl.symm,N.l18 _ (vm hk),fun i v h=>?_,fun i q hq=>?_,fun i=>?_,fun i v h h0=>?_⟩
 ·have hi:=lt h;rw[we]at h;exact j1m N lE oE hi _ (Zu h)
 ·rw[Kw]at hq;obtain⟨h1,h2⟩:=vO.mp hq;exact⟨WA N.s.w h1,h2,N.pcOk h1⟩
 ·rw[Kw];refine vV (length_filter_le ..) ?_;unfold pcB;split
  ·rename_i p hp;exact Wq (N.i8 hp)
  ·exact va _
 ·have hi:=lt h;have hE:E[i]?=some (E.getD i []):=by rw[vy,vz (by lia)];rfl
  have hp:=vz hi;rw[we]at h;rcases(((oE i _ _ hp hE).2 _ _).mp (Zu h))with⟨pre,j,post,ein,hj,_⟩ | ⟨y,n,e,_⟩
  ·exfalso;have jin:j∈inP ps ps[i].2:=by rw[ein];simp
   have ji:=N.s.w.inP_lt hp jin;have hEj:E[j]?=some (E.getD j []):=by rw[vy,vz (by lia)];rfl
   have oj:=(oE j _ _ (vz (by lia)) hEj).1;obtain⟨q,hq,eq⟩:=j5I (gs:=gs) (f:=ps[i].2) jin (fun k x e=>by unfold inP;rw[e];exact vb _);have:q∈(fPc ps gs (lvE E (k:Nat))).getD i []:=by
    rw[Kw];refine vO.mpr ⟨?_,?_⟩
    ·unfold pcB;rw[hp];exact hq
    ·rw[eq,we,Zx oj hj];rfl
   rw[h0]at this;exact nomatch this
  ·have hq:ps[i]?=some (ps[i].1,.rise y v n):=by rw[hp,<-e]
   have b:=N.r18 i _ y v n hq;have:=(N.s.ln i _ hp).2 n (by rw[e];rfl);rw[<-this];exact b.2.2
end
theorem BegOk.key{f:Int}{L:List (Option Int)}{gs:List Int}{PC:List (List Pc)}{B:List Tb}(O:BegOk f L PC B)(S:StrOk f L gs PC){i:Nat}{q:Key×V}(h:q∈B.getD i []):∃x,q.1=Sum.inl x/\0<=x/\x<=10^18/\Has B i x:=by
 obtain⟨x,e,z⟩:=O.kb.al i q h;refine⟨x,e,?_⟩;have hh:Has B i x:=by
  unfold Has;rw[<-e];exact j5V (vK.mpr ⟨q,h,rfl⟩)
 rcases z with rfl | ⟨j,z⟩
 ·exact⟨S.f0.1,S.f0.2,hh⟩
 ·exact⟨(S.lb j x z).1,(S.lb j x z).2,hh⟩
theorem xN(g:Int->V):∀(ks:List Int) (acc:Tb) (h:Int),valV (mergeK acc (ks.map fun k=>ivK (k,g k))) (Sum.inl h)=if h∈ks then some (g h)else valV acc (Sum.inl h)
 | [],acc,h=>by rw[vc (fun z=>nomatch z)];rfl
 | k::ks,acc,h=>by
  show valV (mergeK (putK acc (Sum.inl k) (g k)) (ks.map fun k=>ivK (k,g k))) (Sum.inl h)=_;rw[xN g ks _ h];by_cases c:h∈ks
  ·rw[vd c,vd (vp _ c)]
  ·rw[vc c,WO];by_cases d:h=k
   ·subst d;rw[vd rfl,vd vq]
   ·rw[vc (fun z=>d (Sum.inl.inj z)),vc (fun z=>(mem_cons.mp z).elim d c)]
theorem notN(o:Option Int):(!decide (optV o=V.non))=o.isSome:=by
 cases o with
 | none=>rw[vG (show optV none=V.non from rfl)];rfl
 | some h=>rw[vH (show¬optV (some h)=V.non from fun z=>by cases z)];rfl
noncomputable def keyI:Key->Int
 | .inl x=>x
 | .inr _=>0
theorem j5m{α β:Type}{a:List α}{b:List β}(h:a.length=b.length):a.isEmpty=b.isEmpty:=by
 cases a with
 | nil=>cases b with
  | nil=>rfl
  | cons y s=>simp at h
 | cons x r=>cases b with
  | nil=>simp at h
  | cons y s=>rfl
theorem j5l{α:Type}{l:List α}{u:Nat}{y:α}(h:l[u]?=some y):l.drop u=y::l.drop (u+1):=by
 obtain⟨hu,e⟩:=vx.mp h;rw[List.drop_eq_getElem_cons hu,e]
section
variable{ls:List (Str×Int)}{ps:List (Str×Fm)}{E:List (List (Int×Int))}
theorem j6q(oE:EndOk ls ps E)(lE:E.length=ps.length){i:Nat}{p:Str×Fm}(hp:ps[i]?=some p){k v:Int}:(lvE E k).getD i none=some v↔EndIs ls ps E p.2 k v:=by
 have hi:=(vx.mp hp).1;have hE:E[i]?=some (E.getD i []):=by rw[vy,vz (by lia)];rfl
 obtain⟨o1,o2⟩:=oE i p _ hp hE;rw[we];exact⟨fun h=>(o2 k v).mp (Zu h),fun h=>Zx o1 ((o2 k v).mpr h)⟩
end
section
variable{F G:Int->Int}{m a b c:Int}{o p:Option Int}
end
section
variable(ls:List (Str×Int))(ps:List (Str×Fm))(gs:List Int)(L:List (Option Int))(k:Nat)
noncomputable def ap1(h:Int)(x:Nat×Int):Int:=
 if gs.getD x.1 0<=x.2 then(L.getD x.1 none).getD h
 else match ps[x.1]? with
  | some (_,.rise y v n)=>if ixOf (nmsOf ls) y=k then Rp.ramp h v n x.2 else h
  | _=>h
noncomputable def hgt(p:Nat)(h s:Int):Int:=(reach ps gs p s).foldl (ap1 ls ps gs L k) h
end
section
variable{ls:List (Str×Int)}{ps:List (Str×Fm)}{gs:List Int}{hs:List (List Int)}{E:List (List (Int×Int))}{k:Nat}
theorem j69(N:Sn ls ps gs hs)(lE:E.length=ps.length)(oE:EndOk ls ps E){h:List Int}(hl:h.length=ls.length)(hk:k<ls.length){x:Nat×Int}(hx:x.1<ps.length) :
  (appH ls ps gs E h x).length=ls.length/\(appH ls ps gs E h x).getD k 0=ap1 ls ps gs (lvE E (k:Nat)) k (h.getD k 0) x:=by
 have hE:E[x.1]?=some (E.getD x.1 []):=by rw[vy,vz (by lia)];rfl
 obtain⟨o1,o2⟩:=oE x.1 _ _ (vz hx) hE;have pos:∀q∈E.getD x.1 [],0<=q.1:=fun q hq=>(yV N.s.w (by lia) oE x.1 q hq).1
 have hkk:h[k]?=some (h.getD k 0):=by rw[vy,vz (by lia)];rfl
 unfold appH ap1;by_cases c:gs.getD x.1 0<=x.2
 ·rw[vd c,vd c];show(setE (E.getD x.1 []) h).length=_/\(setE (E.getD x.1 []) h).getD k 0=_;refine⟨(j0T _ _).trans hl,?_⟩;rw[we,vy];cases e:(E.getD x.1 []).lookup (k:Int)with
  | none=>
   rw[WH pos (fun v hv=>by rw[Zx o1 hv]at e;cases e),hkk];rfl
  | some v=>
   rw[j2G o1 pos (Zu e) (by lia)];rfl
 ·rw[vc c,vc c];rw[vz hx];cases hp:ps[x.1]with
  | mk y f=>
   cases f with
   | rise z v n=>
    show(h.set (ixOf (nmsOf ls) z) (Rp.ramp (h.getD (ixOf (nmsOf ls) z) 0) v n x.2)).length=_/\(h.set (ixOf (nmsOf ls) z) (Rp.ramp (h.getD (ixOf (nmsOf ls) z) 0) v n x.2)).getD k 0=if ixOf (nmsOf ls) z=k then _ else _
    refine⟨(length_set ..).trans hl,?_⟩;by_cases d:ixOf (nmsOf ls) z=k
    ·rw[vd d,d,vy,List.getElem?_set_self (by lia)];rfl
    ·rw[vc d,vy,List.getElem?_set_ne d,<-vy]
   | hold n=>exact⟨hl,rfl⟩
   | ring z n=>exact⟨hl,rfl⟩
   | row z=>exact⟨hl,rfl⟩
   | side z=>exact⟨hl,rfl⟩
   | again z n=>exact⟨hl,rfl⟩
theorem fold1(N:Sn ls ps gs hs)(lE:E.length=ps.length)(oE:EndOk ls ps E)(hk:k<ls.length):∀{xs:List (Nat×Int)} {h:List Int},h.length=ls.length->(∀x∈xs,x.1<ps.length)->
  (xs.foldl (appH ls ps gs E) h).getD k 0=xs.foldl (ap1 ls ps gs (lvE E (k:Nat)) k) (h.getD k 0)
 | [],h,_,_=>rfl
 | x::xs,h,hl,hx=>by
  obtain⟨a1,a2⟩:=j69 N lE oE hl hk (hx x vq);rw[v5,v5,fold1 N lE oE hk a1 fun y hy=>hx y (vp _ hy),a2]
theorem KW(N:Sn ls ps gs hs)(lE:E.length=ps.length)(oE:EndOk ls ps E){x:Str}{f:Int}(hk:ls[k]?=some (x,f))(t:Int):(standH ls ps gs E t).getD k 0=hgt ls ps gs (lvE E (k:Nat)) k (ps.length-1) f t:=by
 have kl:=(vx.mp hk).1;have ne:=N.ne;unfold standH hgt;rw[fold1 N lE oE kl (vt _) fun y hy=>Kb N.s.w (by lia) hy];congr 1;rw[vy,vv,hk];rfl
structure Lm(ls:List (Str×Int))(ps:List (Str×Fm))(gs:List Int)(L:List (Option Int))(k:Nat):Prop where
 w:WfB ls ps
 g:∀i,i<ps.length->1<=gs.getD i 0/\gs.getD i 0<=10^60
 ln:∀(i:Nat) (p:Str×Fm),ps[i]?=some p->∀gg,LenIs p.2 ((inP ps p.2).map fun j=>gs.getD j 0) gg->gg=gs.getD i 0
 rs:∀(i:Nat) (y z:Str) (v n:Int),ps[i]?=some (y,.rise z v n)->gs.getD i 0=n/\L.getD i none=if ixOf (nmsOf ls) z=k then some v else none
 lf:∀(i:Nat) (p:Str×Fm),ps[i]?=some p->p.2.ns=[]->(∀z v n,p.2≠.rise z v n)->L.getD i none=none
 ed:∀(i:Nat) (p:Str×Fm),ps[i]?=some p->p.2.ns≠[]->∀h:Int,(L.getD i none).getD h=(inP ps p.2).foldl (fun h j=>(L.getD j none).getD h) h
 no:∀(i:Nat) (p:Str×Fm),ps[i]?=some p->L.getD i none=none->∀j∈inP ps p.2,L.getD j none=none
 sd:∀(i:Nat) (p:Str×Fm) (qs:List Str),ps[i]?=some p->p.2 = .side qs->∀pre j post,inP ps p.2=pre++j::post->(L.getD j none).isSome=true->(∀j'∈pre,L.getD j' none=none)/\∀j'∈post,L.getD j' none=none
 k1:∀(i:Nat) (y z:Str) (n:Int),ps[i]?=some (y,.again n z)->1<=n
 pk:∀(i:Nat) (q:Pc),q∈pcB ps gs i->PcOk gs q
end
section
variable{ls:List (Str×Int)}{ps:List (Str×Fm)}{gs:List Int}{L:List (Option Int)}{k:Nat}
theorem j2q{i:Nat}{p:Str×Fm}(hp:ps[i]?=some p)(h:p.2.ns=[]):pcB ps gs i=[]:=by
 unfold pcB;rw[hp];show pcsI gs p.2 (p.2.ns.map _)=[]
 rw[h];unfold pcsI;split<;>rfl
theorem Zt(p:Nat)(h:Int){s:Int}(hs:gs.getD p 0<=s):hgt ls ps gs L k p h s=(L.getD p none).getD h:=by
 unfold hgt;rw[JU (.inl hs)];show ap1 ls ps gs L k h (p,s)=_;unfold ap1;rw[vd hs]
theorem j1r(M:Lm ls ps gs L k):∀(p:Nat),p<ps.length->L.getD p none=none->∀(s h:Int),hgt ls ps gs L k p h s=h:=by
 intro p
 induction p using Nat.strongRecOn with
 | ind p ih=>
  intro hp hn s h;have hpp:=vz hp;by_cases c:gs.getD p 0<=s\/pcB ps gs p=[]
  ·rcases c with c | c
   ·rw[Zt p h c,hn];rfl
   ·by_cases c0:gs.getD p 0<=s
    ·rw[Zt p h c0,hn];rfl
    ·unfold hgt;rw[JU (.inr c)];show ap1 ls ps gs L k h (p,s)=h;unfold ap1;rw[vc c0,hpp];cases hq:ps[p]with
     | mk y f=>
      cases f with
      | rise z v n=>
       have:=(M.rs p y z v n (by rw[hpp,hq])).2;rw[hn]at this;show(if ixOf (nmsOf ls) z=k then _ else h)=h;rw[vc fun e=>by rw[vd e]at this;cases this]
      | hold n=>rfl
      | ring z n=>rfl
      | row z=>rfl
      | side z=>rfl
      | again z n=>rfl
  ·unfold hgt;rw[Qs M.w c,YY];have:∀(xs:List (Nat×Int)) (h:Int),(∀x∈xs,x.1<p/\L.getD x.1 none=none)->xs.foldl (fun h x=>(reach ps gs x.1 x.2).foldl (ap1 ls ps gs L k) h) h=h:=by
    intro xs
    induction xs with
    | nil=>intro h _;rfl
    | cons x xs ihx=>
     intro h hx;obtain⟨h1,h2⟩:=hx x vq;rw[v5];have:(reach ps gs x.1 x.2).foldl (ap1 ls ps gs L k) h=h:=ih x.1 h1 (by lia) h2 x.2 h;rw[this];exact ihx h fun y hy=>hx y (vp _ hy)
   refine this _ h fun x hx=>?_
   obtain⟨q,hq,e⟩:=XC hx;have lt:=WA M.w hq;rw[e];refine⟨lt,?_⟩;unfold pcB at hq;rw[hpp]at hq;exact M.no p _ hpp hn q.1 (kL hq)
end
section
variable{ls:List (Str×Int)}{ps:List (Str×Fm)}{gs:List Int}{L:List (Option Int)}{k:Nat}
theorem j5c{qs:List Pc}(ok:∀q∈qs,PcOk gs q){x:Nat×Int}(h:x∈wth gs 0 qs):x.2=0:=by
 unfold wth at h;obtain⟨y,hy,hx⟩:=mem_flatMap.mp h;unfold prg at hy;obtain⟨q,hq,e⟩:=mem_filterMap.mp hy;obtain⟨_,g1,_,n1,_,b0,_⟩:=ok q hq;unfold prg1 at e;by_cases c:q.2.2<=0
 ·rw[vd c]at e;have b00:q.2.2=0:=by lia
  have o0:ov gs 0 q=0:=by
   unfold ov;rw[b00,Int.sub_self,Int.zero_ediv,vc (by lia)]
  rw[o0,vd (by lia),b00]at e;have e:=vL e;subst e;unfold wth1 at hx;rw[vc (by show¬(0:Int)<0;lia)]at hx;have:=vo.mp hx;rw[this];show 0-0-0*gs.getD q.1 0=0;rw[Int.zero_mul];rfl
 ·rw[vc c]at e;cases e
theorem kF(M:Lm ls ps gs L k){p:Nat}{h s:Int}(c:¬(gs.getD p 0<=s\/pcB ps gs p=[])):hgt ls ps gs L k p h s=(wth gs s (pcB ps gs p)).foldl (fun h x=>hgt ls ps gs L k x.1 h x.2) h:=by
 unfold hgt;rw[Qs M.w c,YY]
theorem j5v(M:Lm ls ps gs L k):∀(p:Nat),p<ps.length->∀h:Int,hgt ls ps gs L k p h 0=h:=by
 intro p
 induction p using Nat.strongRecOn with
 | ind p ih=>
  intro hp h;have hpp:=vz hp;have g1:=(M.g p hp).1;by_cases c:pcB ps gs p=[]
  ·unfold hgt;rw[JU (.inr c)];show ap1 ls ps gs L k h (p,0)=h;unfold ap1;rw[vc (by show¬gs.getD p 0<=0;lia),hpp];cases hq:ps[p]with
   | mk y f=>
    cases f with
    | rise z v n=>
     show(if ixOf (nmsOf ls) z=k then Rp.ramp h v n 0 else h)=h;unfold Rp.ramp;rw[Int.mul_zero,Int.zero_ediv,Int.add_zero];split<;>rfl
    | hold n=>rfl
    | ring z n=>rfl
    | row z=>rfl
    | side z=>rfl
    | again z n=>rfl
  ·rw[kF M (fun z=>z.elim (fun z=>by lia) c)];have:∀(xs:List (Nat×Int)) (h:Int),(∀x∈xs,x.1<p/\x.2=0)->xs.foldl (fun h x=>hgt ls ps gs L k x.1 h x.2) h=h:=by
    intro xs
    induction xs with
    | nil=>intro h _;rfl
    | cons x xs ihx=>
     intro h hx;obtain⟨h1,h2⟩:=hx x vq;rw[v5,h2,ih x.1 h1 (by lia) h];exact ihx h fun y hy=>hx y (vp _ hy)
   exact this _ h fun x hx=>⟨zN M.w hx,j5c (M.pk p) hx⟩
noncomputable def RF(ls:List (Str×Int))(ps:List (Str×Fm))(gs:List Int)(L:List (Option Int))(k:Nat)(is:List Nat)(b h t:Int):Int:=(wth gs t (rowPc gs is b)).foldl (fun h x=>hgt ls ps gs L k x.1 h x.2) h
noncomputable def isL(L:List (Option Int))(q:Pc):Bool:=(L.getD q.1 none).isSome
end
section
variable{ls:List (Str×Int)}{ps:List (Str×Fm)}{gs:List Int}{L:List (Option Int)}{k:Nat}{J:Nat->Int->Option Int}{m:Int}
theorem Kz(M:Lm ls ps gs L k){f:Nat->Int}:∀(js:List Nat) (h:Int),(∀j∈js,j<ps.length/\L.getD j none=none)->js.foldl (fun h j=>hgt ls ps gs L k j h (f j)) h=h
 | [],_,_=>rfl
 | j::js,h,hj=>by
  obtain⟨h1,h2⟩:=hj j vq;rw[v5,j1r M j h1 h2];exact Kz M js h fun i hi=>hj i (vp _ hi)
theorem getD_none:∀(js:List Nat) (h:Int),(∀j∈js,L.getD j none=none)->js.foldl (fun h j=>(L.getD j none).getD h) h=h
 | [],_,_=>rfl
 | j::js,h,hj=>by
  rw[v5,hj j vq];exact getD_none js h fun i hi=>hj i (vp _ hi)
theorem Kx{qs:List Pc}(h:∀q∈qs,L.getD q.1 none=none):qs.filter (isL L)=[]:=
 List.filter_eq_nil_iff.mpr fun q hq=>by unfold isL;rw[h q hq];exact vF
theorem Wj:∀(l:List Int),l≠[]->∃x∈l,∀y∈l,y<=x
 | [],h=>ug rfl h
 | [x],_=>⟨x,vq,fun y hy=>by rw[vo.mp hy];exact vA _⟩
 | x::z::r,_=>by
  obtain⟨w,h1,h2⟩:=Wj (z::r) (cons_ne_nil _ _);by_cases c:w<=x
  ·refine⟨x,vq,fun y hy=>?_⟩;rcases mem_cons.mp hy with rfl | hy
   ·exact vA _
   ·have:=h2 y hy;lia
  ·refine⟨w,vp _ h1,fun y hy=>?_⟩;rcases mem_cons.mp hy with rfl | hy
   ·lia
   ·exact h2 y hy
end
section
variable{ls:List (Str×Int)}{ps:List (Str×Fm)}{gs:List Int}{L:List (Option Int)}{k:Nat}{J:Nat->Int->Option Int}{m:Int}
end
section
variable{ls:List (Str×Int)}{ps:List (Str×Fm)}{gs:List Int}{hs:List (List Int)}{E:List (List (Int×Int))}{k:Nat}
theorem xy{L:List (Option Int)}:∀{is:List Nat},(∃j∈is,(L.getD j none).isSome=true)->∃pre j post v,is=pre++j::post/\L.getD j none=some v/\∀j'∈post,L.getD j' none=none
 | [],⟨j,hj,_⟩=>nomatch hj
 | i::r,h=>by
  by_cases c:∃j∈r,(L.getD j none).isSome=true
  ·obtain⟨pre,j,post,v,e,h1,h2⟩:=xy c;exact⟨i::pre,j,post,v,by rw[e];rfl,h1,h2⟩
  ·obtain⟨j,hj,hs⟩:=h;rcases mem_cons.mp hj with rfl | hj
   ·obtain⟨v,hv⟩:=Option.isSome_iff_exists.mp hs;exact⟨[],j,r,v,rfl,hv,fun j' hj'=>by
     cases e:L.getD j' none with
     | none=>rfl
     | some w=>exact ug ⟨j',hj',by rw[e];rfl⟩ c⟩
   ·exact ug ⟨j,hj,hs⟩ c
theorem Xu(j:Nat){kk v:Int}(h:(lvE E kk).getD j none=some v):(kk,v)∈E.getD j []:=by
 rw[we]at h;exact Zu h
theorem Sn.lm(N:Sn ls ps gs hs)(lE:E.length=ps.length)(oE:EndOk ls ps E):Lm ls ps gs (lvE E (k:Nat)) k:=by
 have at':∀{i:Nat} {p:Str×Fm},ps[i]?=some p->∀{v:Int},(lvE E (k:Nat)).getD i none=some v↔EndIs ls ps E p.2 (k:Nat) v:=fun hp=>j6q oE lE hp
 have pw:∀i,i<ps.length->((E.getD i []).map (·.1)).Pairwise (· < ·):=fun i hi=>(oE i _ _ (vz hi) (by rw[vy,vz (by lia)];rfl)).1
 have lastI:∀{is pre post:List Nat} {j:Nat} {v:Int},is=pre++j::post->(lvE E (k:Nat)).getD j none=some v->(∀j'∈post,(lvE E (k:Nat)).getD j' none=none)->(∀j'∈is,j'<ps.length)->LastIn E is (k:Nat) v:=fun {is pre post j v} e h1 h2 hl=>⟨pre,j,post,e,Xu j h1,fun j' hj' v' hv'=>by
  have:=Zx (pw j' (hl j' (by rw[e];exact mem_append_right _ (vp _ hj')))) hv';rw[<-we,h2 j' hj']at this;cases this⟩
 have ilt:∀{i:Nat} {p:Str×Fm},ps[i]?=some p->∀j∈inP ps p.2,j<ps.length:=fun {i p} hp j hj=>by
  have:=N.s.w.inP_lt hp hj;have:=(vx.mp hp).1;lia
 have none_all:∀{i:Nat} {p:Str×Fm},ps[i]?=some p->(lvE E (k:Nat)).getD i none=none->∀j∈inP ps p.2,(lvE E (k:Nat)).getD j none=none:=fun {i p} hp h j hj=>by
  cases e:(lvE E (k:Nat)).getD j none with
  | none=>rfl
  | some w=>
   obtain⟨pre,j',post,v,e1,e2,e3⟩:=xy ⟨j,hj,by rw[e];rfl⟩;have:=(at' hp).mpr (.inl (lastI e1 e2 e3 (ilt hp)));rw[h]at this;cases this
 refine⟨N.s.w,fun i hi=>N.g hi,fun i p hp=>(N.s.ln i p hp).2,fun i y z v n hp=>⟨((N.s.ln i _ hp).2 n rfl).symm,?_⟩,fun i p hp h0 hr=>?_,fun i p hp h0 h=>?_,fun i p hp h=>none_all hp h,fun i p qs hp he pre j post ein js=>?_,fun i y z n hp=>(N.a18 i y z n hp).1,fun i q hq=>N.pcOk hq⟩
 ·have a:=fun v'=>at' hp (v:=v')
  by_cases c:ixOf (nmsOf ls) z=k
  ·rw[vd c];exact(a v).mpr (.inr ⟨z,n,rfl,by rw[c]⟩)
  ·rw[vc c];cases e:(lvE E (k:Nat)).getD i none with
   | none=>rfl
   | some w=>
    rcases(a w).mp e with⟨pre,j,post,e',_⟩ | ⟨x,n',e',ek⟩
    ·cases pre<;>exact nomatch e'
    ·cases e';exact ug (by lia) c
 ·cases e:(lvE E (k:Nat)).getD i none with
  | none=>rfl
  | some w=>
   rcases(at' hp).mp e with⟨pre,j,post,e',_⟩ | ⟨x,n',e',ek⟩
   ·unfold inP at e';rw[h0]at e';cases pre<;>exact nomatch e'
   ·exact ug e' (hr x w n')
 ·cases e:(lvE E (k:Nat)).getD i none with
  | none=>rw[getD_none _ h (none_all hp e)];rfl
  | some w=>
   rcases(at' hp).mp e with⟨pre,j,post,e',hj,hpost⟩ | ⟨x,n',e',ek⟩
   ·have jl:=ilt hp j (by rw[e'];simp);have hjv:(lvE E (k:Nat)).getD j none=some w:=by rw[we];exact Zx (pw j jl) hj
    rw[e',foldl_append,v5,hjv,getD_none post _ fun j' hj'=>?_]
    ·rfl
    ·cases eo:(lvE E (k:Nat)).getD j' none with
     | none=>rfl
     | some u=>exact ug (Xu j' eo) (hpost j' hj' u)
   ·rw[e']at h0;exact ug rfl h0
 ·have s1:=(N.s.sd i p qs hp he).2 (k:Nat);have mv:∀j'∈inP ps p.2,∀u,(lvE E (k:Nat)).getD j' none=some u->((k:Nat):Int)∈hs.getD j' []:=fun j' hj' u hu=>j2g N lE oE (ilt hp j' hj') (Xu j' hu)
  obtain⟨w,hw⟩:=Option.isSome_iff_exists.mp js;have mj:=mv j (by rw[ein];simp) w hw;rw[ein,vj,v7,filter_append,v6,vd (vG mj),vn,vP]at s1;have two:∀(l:List Nat) (j':Nat),j'∈l->((k:Nat):Int)∈hs.getD j' []->1<=((l.map fun j=>hs.getD j []).filter fun ks=>decide (((k:Nat):Int)∈ks)).length:=fun l j' hj' hm=>length_pos_of_mem (vO.mpr ⟨vK.mpr ⟨j',hj',rfl⟩,vG hm⟩)
  refine⟨fun j' hj'=>?_,fun j' hj'=>?_⟩
  ·cases eo:(lvE E (k:Nat)).getD j' none with
   | none=>rfl
   | some u=>
    have:=two pre j' hj' (mv j' (by rw[ein];exact mem_append_left _ hj') u eo);lia
  ·cases eo:(lvE E (k:Nat)).getD j' none with
   | none=>rfl
   | some u=>
    have:=two post j' hj' (mv j' (by rw[ein];exact mem_append_right _ (vp _ hj')) u eo);lia
end
section
variable(L:List (Option Int))(gs:List Int)(PC:List (List Pc))(m:Int)
end
section
variable{L:List (Option Int)}{gs:List Int}{PC:List (List Pc)}{m:Int}
end
section
variable{ls:List (Str×Int)}{ps:List (Str×Fm)}{gs:List Int}{hs:List (List Int)}{E:List (List (Int×Int))}{k:Nat}{m:Int}
end
noncomputable def mixB(c k:Int):Int:=(c%10^30+k*k+1)*314159265358979323846264338327%(10^30+57)
theorem Z4(c k:Int):0<=mixB c k/\mixB c k<10^30+57:=⟨ve _ (by decide),vf _ (by decide)⟩
def Kh:Sp:=fun vs H Q _=>∃c k:Int,vs=[.int c,.int k]/\0<=k/\k<=10^20/\Q (.int (mixB c k)) H
inductive sp_greatB(K:Frg)(vs:List V)(H:Hp)(Q:VK)(xk:XK):Prop
 | mk (a:Addr) (ns:List Int) (j k:Int) (_:vs=[.ref a,.int j,.int k]) (_:SqL K H a (ns.map V.int)) (_:ns.length<=63) (_:0<=j) (_:j<=60) (_:0<=k) (_:k<=10^18) (_:Q (.int (mixB (Pr.cell ns j) k*mixB (Pr.cell ns (j+1)) (k+20))) H):sp_greatB K vs H Q xk
noncomputable def tkB(x y m:Int):Int×Int×Int:=if 0<x then(x%m,x/m,y)else(mixB ((y+m)*314159265358979323846264338327%(10^30+57)) m/1000%m,x,mixB ((y+m)*314159265358979323846264338327%(10^30+57)) m)
theorem JI{x y m:Int}(h:1<=m):0<=(tkB x y m).1/\(tkB x y m).1<m:=by
 unfold tkB;split<;>exact⟨ve _ (by lia),vf _ (by lia)⟩
inductive sp_takeB(vs:List V)(H:Hp)(Q:VK)(xk:XK):Prop
 | mk (p:Addr) (x y m:Int) (_:vs=[.ref p,.int m]) (_:H p=some (.lst [.int x,.int y])) (_:1<=m) (_:m<=10^20) (_:0<=y) (_:y<10^30+57) (_:∀H',Ex p H H'->H' p=some (.lst [.int (tkB x y m).2.1,.int (tkB x y m).2.2])->Q (.int (tkB x y m).1) H'):sp_takeB vs H Q xk
noncomputable def abB:Str:=Str.ofString "abcdefghijklnopqrstuvwxyz"
noncomputable def wdB(p k:Nat):Str:=Txt.slice "mm" none (some (p:Int))++(⟨#[abB.cps.toList.getD (k%25) 97]⟩:Str)++(⟨#[if k<25 then 110 else 111]⟩:Str)++Txt.slice "mm" (some (p:Int)) none
inductive sp_wordB(vs:List V)(H:Hp)(Q:VK)(xk:XK):Prop
 | mk (p k:Nat) (_:vs=[.int (p:Nat),.int (k:Nat)]) (_:p<3) (_:k<50) (_:Q (.str (wdB p k)) H):sp_wordB vs H Q xk
theorem j0d{x:Str}{a b:Option Int}:(Txt.slice x a b).length<=x.length:=j5k
noncomputable def knK(nm:List Str)(gs:List Int):List (Key×V):=(nm.zip gs).map fun p=>(Sum.inr p.1,.int p.2)
theorem j0s{nm:List Str}{gs:List Int}(h:nm.length=gs.length):(knK nm gs).map (·.1)=nm.map Sum.inr:=by
 unfold knK;rw[map_map];have e:((fun x:Key×V=>x.1)∘fun p:Str×Int=>((Sum.inr p.1:Key),V.int p.2))=(fun x:Str=>(Sum.inr x:Key))∘Prod.fst:=rfl;rw[e,<-map_map,List.map_fst_zip (by lia)]
theorem wL{nm:List Str}{gs:List Int}(nd:nm.Nodup)(h:nm.length=gs.length){j:Nat}(hj:j<nm.length):valV (knK nm gs) (Sum.inr (nm.getD j ⟨#[]⟩))=some (.int (gs.getD j 0)):=by
 refine j1Y (j:=j) (by rw[j0s h];exact pairwise_map.mpr (nd.imp fun h e=>h (Sum.inr.inj e))) ?_;have hg:j<gs.length:=by lia
 have e:(nm.zip gs)[j]?=some (nm[j],gs[j]):=List.getElem?_zip_eq_some.mpr ⟨vz hj,vz hg⟩;unfold knK;rw[vv,e,vy,vy,vz hj,vz hg];rfl
inductive sp_longB(vs:List V)(H:Hp)(Q:VK)(xk:XK):Prop
 | mk (fa d:Addr) (f:Fn) (nm:List Str) (gs:List Int) (L:List Str) (M:List (List Int)) (_:vs=[.ref fa,.ref d]) (_:FormAt H fa (toldF nm f)) (_:H d=some (.dK (knK nm gs))) (_:nm.Nodup) (_:nm.length=gs.length) (_:PreN L M nm.length f) (_:(∀j,j<nm.length->1<=gs.getD j 0/\gs.getD j 0<=10^60)) (_:∀(g:Int) (H':Hp),Same H H'->LenN gs f g->Q (.int g) H'):sp_longB vs H Q xk
def StrsAt(H:Hp)(as:List Addr)(Ms:List (List Str)):Prop:=All2 (fun a ks=>H a=some (.lst (ks.map V.str))) as Ms
noncomputable def rsB:Fn->List Nat
 | .row is=>is
 | .side is=>is
 | _=>[]
def MovS(Ms:List (List Str))(f:Fn)(ks:List Str):Prop:=ks.Nodup/\∀s,s∈ks↔(∃j∈f.js,s∈Ms.getD j [])\/∃h n,f = .rise s h n
inductive sp_movesB(vs:List V)(H:Hp)(Q:VK)(xk:XK):Prop
 | mk (fa nl ml:Addr) (mas:List Addr) (f:Fn) (nm:List Str) (Ms:List (List Str)) (L:List Str) (M:List (List Int)) (_:vs=[.ref fa,.ref nl,.ref ml]) (_:FormAt H fa (toldF nm f)) (_:H nl=some (.lst (nm.map V.str))) (_:H ml=some (.lst (mas.map V.ref))) (_:StrsAt H mas Ms) (_:nm.Nodup) (_:Ms.length=nm.length) (_:nm.length<=20) (_:PreN L M nm.length f) (_:(∀ks∈Ms,ks.length<=8)) (_:∀(l:Addr) (ks:List Str) (H':Hp),Same H H'->H l=none->H' l=some (.lst (ks.map V.str))->MovS Ms f ks->ks.length<=80->Q (.ref l) H'):sp_movesB vs H Q xk
theorem Xo(n:Str):∀hs:List Str,inV (.str n) (hs.map V.str)=decide (n∈hs)
 | []=>by simp[inV]
 | h::r=>by
  have ih:=Xo n r;unfold inV at ih|-;rw[v7,any_cons,ih];have e:eqV (.str h) (.str n)=decide (h=n):=by
   show(h==n)=_;by_cases c:h=n
   ·subst c;simp
   ·rw[vH c];exact beq_eq_false_iff_ne.mpr c
  rw[e,Bool.eq_iff_iff];simp only[Bool.or_eq_true,decide_eq_true_eq,mem_cons];constructor
  ·rintro(x | x)
   ·exact .inl x.symm
   ·exact .inr x
  ·rintro(x | x)
   ·exact .inl x.symm
   ·exact .inr x
theorem flatB:∀hs:List Str,(hs.map V.str).all flatV=true
 | []=>rfl
 | h::r=>by rw[v7,all_cons,flatB r];rfl
theorem lidxB{xs:List Str}(nd:xs.Nodup){j:Nat}(hj:j<xs.length):(xs.map V.str)[j]?=some (.str (xs.getD j ⟨#[]⟩))/\eqV (.str (xs.getD j ⟨#[]⟩)) (.str (xs.getD j ⟨#[]⟩))=true/\∀(n:Nat) (z:V),n<j->(xs.map V.str)[n]?=some z->eqV z (.str (xs.getD j ⟨#[]⟩))=false:=by
 have h:xs[j]?=some (xs.getD j ⟨#[]⟩):=by rw[vy,vz hj];rfl
 refine⟨by rw[vv,h];rfl,(by show(xs.getD j ⟨#[]⟩==xs.getD j ⟨#[]⟩)=true;exact beq_self_eq_true _),fun n z hn hz=>?_⟩;rw[vv]at hz;obtain⟨w,hw,rfl⟩:=vg.mp hz;show(w==xs.getD j ⟨#[]⟩)=false;refine beq_eq_false_iff_ne.mpr fun e=>?_
 rw[<-e]at h;have a:=qb nd hw;have b:=qb nd h;lia
noncomputable def plB(L ks:List Str):List Int:=((List.range L.length).filter fun i=>decide (L.getD i ⟨#[]⟩∈ks)).map fun i:Nat=>(i:Int)
theorem yx{L ks:List Str}{k:Int}:k∈plB L ks↔∃(i:Nat) (s:Str),L[i]?=some s/\s∈ks/\k=(i:Int):=by
 unfold plB;constructor
 ·intro h;obtain⟨i,hi,rfl⟩:=vK.mp h;obtain⟨h1,h2⟩:=vO.mp hi;have il:=v2.mp h1;refine⟨i,L[i],vz il,?_,rfl⟩;have:=of_decide_eq_true h2;rw[vy,vz il]at this;exact this
 ·rintro⟨i,s,h1,h2,rfl⟩;have il:=(vx.mp h1).1;refine vK.mpr ⟨i,vO.mpr ⟨v2.mpr il,vG ?_⟩,rfl⟩;rw[vy,h1];exact h2
theorem j6D{L ks:List Str}:(plB L ks).Pairwise (· < ·):=by
 unfold plB;refine pairwise_map.mpr ?_;refine(List.Pairwise.filter _ (List.pairwise_lt_range (n:=L.length))).imp fun {a b} h=>?_
 lia
def InL(L:List Str)(Ms:List (List Str)):Prop:=∀ks∈Ms,ks.Nodup/\∀s∈ks,s∈L
theorem InL.at'{L:List Str}{Ms:List (List Str)}(I:InL L Ms)(j:Nat):∀s∈Ms.getD j [],s∈L:=fun s hs=>by
 rw[vy]at hs;cases e:Ms[j]? with
 | none=>rw[e]at hs;cases hs
 | some ks=>rw[e]at hs;exact(I ks (vm e)).2 s hs
theorem j4b{a b:List Str}(nd:a.Nodup)(h:∀x∈a,x∈b):a.length<=b.length:=by
 induction a generalizing b with
 | nil=>exact va _
 | cons x r ih=>
  rw[ur]at nd;have hx:=h x vq;have:=ih (b:=b.erase x) nd.2 fun y hy=>by
   have hne:y≠x:=fun e=>nd.1 (e▸hy)
   exact(List.mem_erase_of_ne hne).mpr (h y (vp _ hy))
  rw[List.length_erase_of_mem hx]at this;have:0<b.length:=length_pos_of_mem hx;rw[vP];lia
theorem InL.len{L:List Str}{Ms:List (List Str)}(I:InL L Ms){ks:List Str}(h:ks∈Ms):ks.length<=L.length:=j4b (I ks h).1 (I ks h).2
theorem kT{L:List Str}{Ms:List (List Str)}(j:Nat):(Ms.map (plB L)).getD j []=plB L (Ms.getD j []):=by
 rw[vy,vy,vv];cases Ms[j]? with
 | none=>
  show[]=plB L [];refine(List.eq_nil_iff_forall_not_mem.mpr fun k hk=>?_).symm;obtain⟨_,_,_,h,_⟩:=yx.mp hk;cases h
 | some x=>rfl
theorem j6E{L ks:List Str}(h:∀s∈ks,s∈L)(n:ks≠[]):plB L ks≠[]:=fun z=>by
 obtain⟨s,hs⟩:=List.exists_mem_of_ne_nil ks n;obtain⟨i,hi⟩:=List.mem_iff_getElem?.mp (h s hs);have:=yx.mpr ⟨i,s,hi,hs,rfl⟩;rw[z]at this;cases this
def ApartS(Ms:List (List Str))(is:List Nat):Prop:=(∀j∈is,Ms.getD j []≠[])/\is.Pairwise fun a b=>∀s∈Ms.getD a [],¬s∈Ms.getD b []
theorem ApartS.n{L:List Str}{Ms:List (List Str)}{is:List Nat}(I:InL L Ms)(h:ApartS Ms is):ApartN (Ms.map (plB L)) is:=by
 refine⟨fun j hj=>?_,h.2.imp fun {a b} d k hk hk'=>?_⟩
 ·rw[kT];exact j6E (I.at' j) (h.1 j hj)
 ·rw[kT]at hk hk';obtain⟨i,s,h1,h2,rfl⟩:=yx.mp hk;obtain⟨i',s',h3,h4,e⟩:=yx.mp hk';have e':i=i':=by lia
  subst e';rw[h1]at h3;cases h3;exact d s h2 h4
theorem MovS.n{L:List Str}{Ms:List (List Str)}{f:Fn}{ks:List Str}(h:MovS Ms f ks):MovN L (Ms.map (plB L)) f (plB L ks):=by
 refine⟨j6D,fun k=>?_⟩;rw[yx];constructor
 ·rintro⟨i,s,h1,h2,rfl⟩;rcases(h.2 s).mp h2 with⟨j,hj,hs⟩ | ⟨v,n,e⟩
  ·exact .inl ⟨j,hj,by rw[kT];exact yx.mpr ⟨i,s,h1,hs,rfl⟩⟩
  ·exact .inr ⟨s,v,n,i,e,h1,rfl⟩
 ·rintro(⟨j,hj,hk⟩ | ⟨x,v,n,i,e,h1,rfl⟩)
  ·rw[kT]at hk;obtain⟨i,s,h1,h2,rfl⟩:=yx.mp hk;exact⟨i,s,h1,(h.2 s).mpr (.inl ⟨j,hj,h2⟩),rfl⟩
  ·exact⟨i,x,h1,(h.2 x).mpr (.inr ⟨v,n,e⟩),rfl⟩
theorem MovS.inL{L:List Str}{Ms:List (List Str)}{f:Fn}{ks:List Str}{M:List (List Int)}{n:Nat}(I:InL L Ms)(p:PreN L M n f)(h:MovS Ms f ks):ks.Nodup/\∀s∈ks,s∈L:=by
 refine⟨h.1,fun s hs=>?_⟩;rcases(h.2 s).mp hs with⟨j,_,hj⟩ | ⟨v,n,e⟩
 ·exact I.at' j s hj
 ·subst e;obtain⟨⟨i,hi⟩,_⟩:=p;exact vm hi
theorem DOk.addN{L:List Str}{fs:List Fn}{M:List (List Int)}{gs:List Int}{f:Fn}{ks:List Int}{g:Int}(D:DOk L fs M gs)(h1:PreN L M fs.length f)(h2:MovN L M f ks)(h3:LenN gs f g)(h4:1<=g/\g<=10^60):DOk L (fs++[f]) (M++[ks]) (gs++[g]):=by
 have ml:=D.ml;have gl:=D.gl;refine⟨by simp[ml],by simp[gl],fun i f' hf'=>?_,fun i hi=>?_⟩
 ·by_cases hi:i<fs.length
  ·rw[vB hi]at hf';obtain⟨a,b,c⟩:=D.f i f' hf';have js:=a.js.2;rw[QY (by lia),QY (by lia)];exact⟨a.ext (by lia),b.ext fun j hj=>by have:=js j hj;lia,c.ext fun j hj=>by have:=js j hj;lia⟩
  ·rw[vC (by lia)]at hf';have hi':i=fs.length:=by
    have:=(vx.mp hf').1;simp at this;lia
   subst hi';rw[Nat.sub_self]at hf';have e:f'=f:=(vL hf').symm;subst e;have js:=h1.js.2;have e1:(M++[ks]).getD fs.length []=ks:=by rw[<-ml];exact Zs
   have e2:(gs++[g]).getD fs.length 0=g:=by rw[<-gl];exact Zs
   rw[e1,e2];exact⟨h1.ext (by lia),h2.ext fun j hj=>by have:=js j hj;lia,h3.ext fun j hj=>by have:=js j hj;lia⟩
 ·rw[vn]at hi;have hi:i<fs.length+1:=hi;by_cases c:i<fs.length
  ·rw[QY (by lia)];exact D.g i c
  ·have e:i=fs.length:=by lia
   subst e;have e2:(gs++[g]).getD fs.length 0=g:=by rw[<-gl];exact Zs
   rw[e2];exact h4
theorem j5x{L:List Str}{M:List (List Int)}{gs:List Int}{n:Nat}{f:Fn}{g:Int}(p:PreN L M n f)(l:LenN gs f g)(b:∀j,j<n->1<=gs.getD j 0):1<=g:=by
 cases f with
 | hold m=>obtain⟨h1,h2⟩:=p;have e:g=m:=l;lia
 | ring x m=>obtain⟨h1,h2,_⟩:=p;have e:g=m:=l;lia
 | rise x v m=>obtain⟨_,_,_,h1,h2⟩:=p;have e:g=m:=l;lia
 | row is=>
  obtain⟨h1,h2,h3⟩:=p;have e:g=(is.map fun j=>gs.getD j 0).sum:=l;have q:∀js:List Nat,(∀j∈js,j<n)->0<=(js.map fun j=>gs.getD j 0).sum:=fun js=>by
   induction js with
   | nil=>exact fun _=>vA _
   | cons j js ih=>
    intro h;rw[v7,sum_cons];have:=b j (h j vq);have:=ih fun i hi=>h i (vp _ hi)
    lia
  cases is with
  | nil=>exact ug rfl h1
  | cons j js=>
   rw[e,v7,sum_cons];have b1:=b j (h3 j vq);have:=q js fun i hi=>h3 i (vp _ hi)
   lia
 | side is=>
  obtain⟨_,_,h3,_⟩:=p;obtain⟨⟨j,hj,e⟩,_⟩:=l;have:=b j (h3 j hj);lia
 | again k j=>
  obtain⟨h1,h2,h3⟩:=p;have e:g=k*gs.getD j 0:=l;have bj:=b j h3;have:=Int.mul_le_mul h1 bj (by decide) (by lia);lia
theorem LenN.uniq{gs:List Int}{f:Fn}{g g':Int}(h:LenN gs f g)(h':LenN gs f g'):g=g':=by
 cases f with
 | side is=>
  obtain⟨⟨j,hj,e⟩,m⟩:=h;obtain⟨⟨j',hj',e'⟩,m'⟩:=h';have:=m j' hj';have:=m' j hj;lia
 | hold n=>exact Eq.trans h (Eq.symm h')
 | ring x n=>exact Eq.trans h (Eq.symm h')
 | rise x v n=>exact Eq.trans h (Eq.symm h')
 | row is=>exact Eq.trans h (Eq.symm h')
 | again k j=>exact Eq.trans h (Eq.symm h')
theorem eqvB(xs:List Str):PyData.eqv (.list (xs.map PyData.str)) (.list [])=decide (xs=[]):=by
 cases xs<;>simp[PyData.eqv,PyData.eqvAll]
theorem shpB{xs:List Str}(h:∀x∈xs,Ws.isW x=true):SeqAt.shaped (.list (xs.map PyData.str))=true:=(Shp.lst (n:=0) (j4T h)).ok (by decide)
theorem inB(n:Str)(hs:List Str):(if false=true then !inV (.str n) (hs.map V.str)else inV (.str n) (hs.map V.str))=decide (n∈hs):=by rw[vc (by decide),Xo]
theorem j06{xs:List V}{k:Int}(h:∀v∈xs,∃w:Str,v = .str w/\Ws.isW w=true)(k0:0<=k)(k1:k<(xs.length:Int)):∃w:Str,atI xs k=some (.str w)/\Ws.isW w=true:=by
 obtain⟨j,rfl⟩:∃j:Nat,k=(j:Int):=⟨k.toNat,by lia⟩
 have hj:j<xs.length:=by lia
 obtain⟨w,e,hw⟩:=h xs[j] (List.getElem_mem hj);exact⟨w,L2.jL (by rw[vz hj,e]),hw⟩
theorem j29{xs:List V}{lo hi:Option Int}{v:V}(h:v∈cutV xs lo hi):v∈xs:=List.mem_of_mem_drop (List.mem_of_mem_take h)
theorem ZC{nm:List Str}{j:Nat}(h:j<nm.length):atI (nm.map V.str) ((j:Nat):Int)=some (.str (nm.getD j ⟨#[]⟩)):=by
 refine L2.jL ?_;rw[vv,vy,vz h];rfl
structure NmB(nl ml:Addr)(mas:List Addr)(L nm:List Str)(Ms:List (List Str))(H:Hp):Prop where
 en:H nl=some (.lst (nm.map V.str))
 em:H ml=some (.lst (mas.map V.ref))
 am:StrsAt H mas Ms
 il:InL L Ms
 ml:Ms.length=nm.length
 n20:nm.length<=20
 l8:L.length<=8
 w:∀x∈nm,Ws.isW x=true
 lw:∀x∈L,Ws.isW x=true
theorem NmB.same{nl ml:Addr}{mas:List Addr}{L nm:List Str}{Ms:List (List Str)}{H H':Hp}(N:NmB nl ml mas L nm Ms H)(s:Same H H'):NmB nl ml mas L nm Ms H':=
 ⟨s _ _ N.en,s _ _ N.em,N.am.mono fun a x h=>s _ _ h,N.il,N.ml,N.n20,N.l8,N.w,N.lw⟩
theorem NmB.mv{nl ml:Addr}{mas:List Addr}{L nm:List Str}{Ms:List (List Str)}{H:Hp}(N:NmB nl ml mas L nm Ms H){j:Nat}(hj:j<nm.length):∃ma,mas[j]?=some ma/\H ma=some (.lst ((Ms.getD j []).map V.str))/\(Ms.getD j []).length<=8/\∀x∈Ms.getD j [],Ws.isW x=true:=by
 have e:Ms[j]?=some (Ms.getD j []):=by rw[vy,vz (by rw[N.ml];exact hj)];rfl
 obtain⟨ma,h1,h2⟩:=N.am.get e;have:=N.il.len (vm e);have:=N.l8;exact⟨ma,h1,h2,by lia,fun x hx=>N.lw x (N.il.at' j x hx)⟩
def BdB(H:Hp)(bd:Addr)(b0 b1 b2 b3 b4:Int):Prop:=H bd=some (.lst [.int b0,.int b1,.int b2,.int b3,.int b4])/\1<=b0/\b0<=10^18/\1<=b1/\b1<=10^18/\1<=b2/\b2<=10^18+1/\1<=b3/\b3<=10^18/\1<=b4/\b4<=10^60
theorem at01{b0 b1 b2 b3 b4 i:Int}(h0:1<=b0/\b0<=10^18)(h1:1<=b1/\b1<=10^18)(i0:0<=i)(i1:i<2):∃b:Int,atI [V.int b0,V.int b1,V.int b2,V.int b3,V.int b4] i=some (V.int b)/\1<=b/\b<=10^18:=by
 have:i=0\/i=1:=by lia
 rcases this with rfl | rfl
 ·exact⟨b0,rfl,h0⟩
 ·exact⟨b1,rfl,h1⟩
structure LmB(pl:Addr)(las:List Addr)(ls:List (Str×Int))(H:Hp):Prop where
 el:H pl=some (.lst (las.map V.ref))
 la:All2 (LimbAt H) las ls
 l1:1<=ls.length
theorem LmB.same{pl:Addr}{las:List Addr}{ls:List (Str×Int)}{H H':Hp}(N:LmB pl las ls H)(s:Same H H'):LmB pl las ls H':=⟨s _ _ N.el,N.la.mono fun a x h=>s _ _ h,N.l1⟩
theorem j4M{H:Hp}{Q:VK}(h:Q (.int (10^12)) H):rI CPow (fun i j=>.int (i^j.toNat)) (.int 10) (.int 12) H Q:=⟨10,12,rfl,rfl,⟨by decide,by decide,by decide⟩,h⟩
inductive sp_lastB(vs:List V)(H:Hp)(Q:VK)(xk:XK):Prop
 | mk (nl d:Addr) (nm:List Str) (gs:List Int) (most:Int) (_:vs=[.ref nl,.ref d,.int most]) (_:H nl=some (.lst (nm.map V.str))) (_:H d=some (.dK (knK nm gs))) (_:nm.Nodup) (_:nm.length=gs.length) (_:1<=nm.length) (_:nm.length<=20) (_:(∀j,j<nm.length->1<=gs.getD j 0/\gs.getD j 0<=most)) (_:∀(b:Addr) (is:List Nat) (H':Hp),Same H H'->H' b=some (.tup ((is.map fun j=>nm.getD j ⟨#[]⟩).map V.str))->is≠[]->is.length<=5->(∀j∈is,j<nm.length)->Q (.ref b) H'):sp_lastB vs H Q xk
noncomputable def atB(n:Int)(len t:Nat):Nat:=(((len:Int)-1-(t:Int)*(1+n%3))%(len:Int)).toNat
noncomputable def nmS(n:Int)(len:Nat)(Ms:List (List Str))(ro:Bool):Nat->List Nat×List Str
 | 0=>([],[])
 | t+1=>if ro=true then(if(t:Int)<1+n/3%5 then((nmS n len Ms ro t).1++[atB n len t],(nmS n len Ms ro t).2)else nmS n len Ms ro t)
  else if Ms.getD (atB n len t) []≠[]/\((Ms.getD (atB n len t) []).filter fun s=>decide (s∈(nmS n len Ms ro t).2))=[]/\(nmS n len Ms ro t).1.length<4 then((nmS n len Ms ro t).1++[atB n len t],(nmS n len Ms ro t).2++Ms.getD (atB n len t) [])else nmS n len Ms ro t
section
variable{n:Int}{len:Nat}{Ms:List (List Str)}{ro:Bool}
theorem j18{t:Nat}(h:1<=len):atB n len t<len:=by
 unfold atB;have a:=ve ((len:Int)-1-(t:Int)*(1+n%3)) (show(len:Int)≠0 by lia);have b:=vf ((len:Int)-1-(t:Int)*(1+n%3)) (show(0:Int)<(len:Int) by lia);lia
theorem j4q(t:Nat):nmS n len Ms ro (t+1)=if ro=true then(if(t:Int)<1+n/3%5 then((nmS n len Ms ro t).1++[atB n len t],(nmS n len Ms ro t).2)else nmS n len Ms ro t)
  else if Ms.getD (atB n len t) []≠[]/\((Ms.getD (atB n len t) []).filter fun s=>decide (s∈(nmS n len Ms ro t).2))=[]/\(nmS n len Ms ro t).1.length<4 then((nmS n len Ms ro t).1++[atB n len t],(nmS n len Ms ro t).2++Ms.getD (atB n len t) [])else nmS n len Ms ro t:=rfl
theorem j1D(h:1<=len):∀(t:Nat) (j:Nat),j∈(nmS n len Ms ro t).1->j<len
 | 0,j,hj=>nomatch hj
 | t+1,j,hj=>by
  have ih:=j1D h t j;unfold nmS at hj;split at hj
  ·split at hj
   ·rcases vh.mp hj with z | z
    ·exact ih z
    ·rw[vo.mp z];exact j18 h
   ·exact ih hj
  ·split at hj
   ·rcases vh.mp hj with z | z
    ·exact ih z
    ·rw[vo.mp z];exact j18 h
   ·exact ih hj
theorem j4r(m8:∀j,(Ms.getD j []).length<=8):∀t:Nat,(nmS n len Ms ro t).2.length<=8*(nmS n len Ms ro t).1.length
 | 0=>vb _
 | t+1=>by
  have ih:=j4r m8 t;have m4:=m8 (atB n len t);unfold nmS;split
  ·split
   ·rw[vn];show(nmS n len Ms ro t).2.length<=8*(_+1);lia
   ·exact ih
  ·split
   ·rw[vn,vn];show _<=8*(_+1);lia
   ·exact ih
theorem wM:∀t:Nat,(nmS n len Ms ro t).1.length<=t/\(nmS n len Ms ro t).1.length<=5
 | 0=>⟨vb _,va _⟩
 | t+1=>by
  obtain⟨h1,h2⟩:=wM t;have m3:=vf (n/3) (show(0:Int)<5 by decide);unfold nmS;split
  ·split
   ·rename_i c;rw[vn];exact⟨by show _+1<=_;lia,by show _+1<=5;lia⟩
   ·lia
  ·split
   ·rename_i c;rw[vn];have:=c.2.2;exact⟨by show _+1<=_;lia,by show _+1<=5;lia⟩
   ·lia
theorem j4p(hr:ro=true):∀t:Nat,0<t->(nmS n len Ms ro t).1≠[]
 | 0,h=>ug h (by lia)
 | t+1,_=>by
  have m3:=ve (n/3) (show(5:Int)≠0 by decide);unfold nmS;rw[vd hr];split
  ·intro z;have:=congrArg List.length z;rw[vn]at this;simp at this
  ·rename_i c;exact j4p hr t (by lia)
theorem j4o(hr:ro=false):∀t:Nat,ApartS Ms (nmS n len Ms ro t).1/\∀s,s∈(nmS n len Ms ro t).2↔∃j∈(nmS n len Ms ro t).1,s∈Ms.getD j []
 | 0=>⟨⟨(fun j h=>nomatch h),.nil⟩,fun s=>⟨(fun h=>nomatch h),fun⟨j,h,_⟩=>nomatch h⟩⟩
 | t+1=>by
  obtain⟨h1,h2⟩:=j4o hr t;unfold nmS;rw[vc (by rw[hr];exact vF)];split
  ·rename_i c;obtain⟨c1,c2,_⟩:=c;refine⟨⟨fun j hj=>?_,List.pairwise_append.mpr ⟨h1.2,pairwise_singleton ..,fun a ha b hb s hs hs'=>?_⟩⟩,fun s=>?_⟩
   ·rcases vh.mp hj with z | z
    ·exact h1.1 j z
    ·rw[vo.mp z];exact c1
   ·rw[vo.mp hb]at hs';have:s∈(Ms.getD (atB n len t) []).filter fun s=>decide (s∈(nmS n len Ms ro t).2):=vO.mpr ⟨hs',vG ((h2 s).mpr ⟨a,ha,hs⟩)⟩
    rw[c2]at this;cases this
   ·rw[vh,h2];constructor
    ·rintro(⟨j,hj,hs⟩ | hs)
     ·exact⟨j,mem_append_left _ hj,hs⟩
     ·exact⟨_,mem_append_right _ vq,hs⟩
    ·rintro⟨j,hj,hs⟩;rcases vh.mp hj with z | z
     ·exact .inl ⟨j,z,hs⟩
     ·rw[vo.mp z]at hs;exact .inr hs
  ·exact⟨h1,h2⟩
end
inductive sp_namedB(vs:List V)(H:Hp)(Q:VK)(xk:XK):Prop
 | mk (n:Int) (nl ml:Addr) (mas:List Addr) (L nm:List Str) (Ms:List (List Str)) (kd:Str) (_:vs=[.int n,.ref nl,.ref ml,.str kd]) (_:NmB nl ml mas L nm Ms H) (_:1<=nm.length) (_:0<=n) (_:n<=10^40) (_:(kd = "row"\/kd = "side")) (_:∀(b:Addr) (H':Hp),Same H H'->H' b=some (.tup (((nmS n nm.length Ms (decide (kd = "row")) nm.length).1.map fun j=>nm.getD j ⟨#[]⟩).map V.str))->Q (.ref b) H'):sp_namedB vs H Q xk
inductive sp_formB(vs:List V)(H:Hp)(Q:VK)(xk:XK):Prop
 | mk (n:Int) (nl ml pl bd:Addr) (mas las:List Addr) (ls:List (Str×Int)) (nm:List Str) (Ms:List (List Str)) (b0 b1 b2 b3 b4:Int) (_:vs=[.int n,.ref nl,.ref ml,.ref pl,.ref bd]) (_:NmB nl ml mas (nmsOf ls) nm Ms H) (_:LmB pl las ls H) (_:BdB H bd b0 b1 b2 b3 b4) (_:0<=n) (_:n<=10^40) (_:∀(a:Addr) (f:Fn) (H':Hp),Same H H'->FormAt H' a (toldF nm f)->PreN (nmsOf ls) (Ms.map (plB (nmsOf ls))) nm.length f->Q (.ref a) H'):sp_formB vs H Q xk
theorem qh{x y m:Int}(h0:0<=y)(h1:y<10^30+57):0<=(tkB x y m).2.2/\(tkB x y m).2.2<10^30+57:=by
 unfold tkB;split
 ·exact⟨h0,h1⟩
 ·exact Z4 _ _
def Off(p:Addr)(H0 H:Hp):Prop:=∀c u,H0 c=some u->c≠p/\H c=some u
theorem Off.ex{p:Addr}{H0 H H':Hp}(o:Off p H0 H)(x:Ex p H H'):Off p H0 H':=fun c u h=>⟨(o c u h).1,x c u (o c u h).1 (o c u h).2⟩
theorem Off.same{p:Addr}{H0 H:Hp}(o:Off p H0 H):Same H0 H:=fun c u h=>(o c u h).2
inductive sp_namingB(vs:List V)(H:Hp)(Q:VK)(xk:XK):Prop
 | mk (p nl ml bd:Addr) (x y kd:Int) (H0:Hp) (mas:List Addr) (L nm:List Str) (Ms:List (List Str)) (b0 b1 b2 b3 b4:Int) (_:vs=[.ref p,.int kd,.ref nl,.ref ml,.ref bd]) (_:H p=some (.lst [.int x,.int y])) (_:0<=y) (_:y<10^30+57) (_:Off p H0 H) (_:NmB nl ml mas L nm Ms H0) (_:1<=nm.length) (_:BdB H0 bd b0 b1 b2 b3 b4) (_:∀(a:Addr) (f:Fn) (H':Hp),Ex p H H'->FormAt H' a (toldF nm f)->PreN L (Ms.map (plB L)) nm.length f->Q (.ref a) H'):sp_namingB vs H Q xk
inductive sp_formT(vs:List V)(H:Hp)(Q:VK)(xk:XK):Prop
 | mk (p nl ml pl bd:Addr) (x y:Int) (H0:Hp) (mas las:List Addr) (ls:List (Str×Int)) (nm:List Str) (Ms:List (List Str)) (b0 b1 b2 b3 b4:Int) (_:vs=[.ref p,.ref nl,.ref ml,.ref pl,.ref bd]) (_:H p=some (.lst [.int x,.int y])) (_:0<=y) (_:y<10^30+57) (_:Off p H0 H) (_:NmB nl ml mas (nmsOf ls) nm Ms H0) (_:LmB pl las ls H0) (_:BdB H0 bd b0 b1 b2 b3 b4) (_:∀(a:Addr) (f:Fn) (H':Hp),Ex p H H'->FormAt H' a (toldF nm f)->PreN (nmsOf ls) (Ms.map (plB (nmsOf ls))) nm.length f->Q (.ref a) H'):sp_formT vs H Q xk
theorem j2Q:∀p,p<3->(decide ((List.range 50).map (wdB p)).Nodup&&((List.range 50).map (wdB p)).all fun x=>Ws.isW x)=true:=by decide +kernel
theorem j2R{p i j:Nat}(hp:p<3)(hi:i<50)(hj:j<50)(e:wdB p i=wdB p j):i=j:=by
 have h:=j2Q p hp;rw[Bool.and_eq_true,decide_eq_true_eq]at h;have a:((List.range 50).map (wdB p))[i]?=some (wdB p i):=by rw[vv,List.getElem?_range hi];rfl
 have b:((List.range 50).map (wdB p))[j]?=some (wdB p i):=by rw[vv,List.getElem?_range hj,e];rfl
 have a':=qb h.1 a;have b':=qb h.1 b;lia
theorem j67{p i:Nat}(hp:p<3)(hi:i<50):Ws.isW (wdB p i)=true:=by
 have h:=j2Q p hp;rw[Bool.and_eq_true,all_eq_true]at h;exact h.2 _ (vK.mpr ⟨i,v2.mpr hi,rfl⟩)
noncomputable def lmB(p m:Nat):List Str:=(List.range m).map (wdB p)
theorem j4d{p m j:Nat}(h:j<m):(lmB p m)[j]?=some (wdB p j):=by unfold lmB;rw[vv,List.getElem?_range h];rfl
theorem j0v{p m:Nat}:lmB p (m+1)=lmB p m++[wdB p m]:=by unfold lmB;rw[List.range_succ,vj];rfl
theorem j4e{p m:Nat}(hp:p<3)(hm:m<=9):(lmB p m).Nodup/\∀x∈lmB p m,Ws.isW x=true:=by
 unfold lmB;refine⟨pairwise_map.mpr (List.nodup_range.imp_of_mem fun {a b} ha hb n e=>n (j2R hp (by have:=v2.mp ha;lia) (by have:=v2.mp hb;lia) e)),fun x hx=>?_⟩
 ·obtain⟨i,hi,rfl⟩:=vK.mp hx;have:=v2.mp hi;exact j67 hp (by lia)
noncomputable def ixB(st c m k:Nat):Nat:=if k=c then k%m else st+k
noncomputable def nmB(p st c m:Nat):List Str:=(List.range 17).map fun k=>wdB p (ixB st c m k)
theorem j2x{p st c m:Nat}:(nmB p st c m).length=17:=by unfold nmB;rw[vt,length_range]
theorem j2w{p st c m k:Nat}(h:k<17):(nmB p st c m).getD k ⟨#[]⟩=wdB p (ixB st c m k):=by
 unfold nmB;rw[vy,vv,List.getElem?_range h];rfl
theorem j4n{p st c m:Nat}(hp:p<3)(hm:1<=m)(hs:m<=st)(hs':st<=9):(nmB p st c m).Nodup/\∀x∈nmB p st c m,Ws.isW x=true:=by
 have b:∀k,k<17->ixB st c m k<50:=fun k hk=>by
  unfold ixB;have:=Nat.mod_lt k (show 0<m by lia);split<;>lia
 unfold nmB;refine⟨pairwise_map.mpr (List.nodup_range.imp_of_mem fun {x y} hx hy n e=>?_),fun x hx=>?_⟩
 ·have hx:=v2.mp hx;have hy:=v2.mp hy;have:=j2R hp (b x hx) (b y hy) e;unfold ixB at this;have a1:=Nat.mod_lt x (show 0<m by lia);have a2:=Nat.mod_lt y (show 0<m by lia);refine n ?_;split at this<;>split at this<;>lia
 ·obtain⟨i,hi,rfl⟩:=vK.mp hx;exact j67 hp (b i (v2.mp hi))
theorem j0i{names:List Str}{fs:List Fn}{f:Fn}:drawnPs names (fs++[f])=drawnPs names fs++[(names.getD fs.length ⟨#[]⟩,toldF names f)]:=by
 unfold drawnPs;rw[vn,length_singleton,List.range_succ,vj];congr 1
 ·refine map_congr_left fun j hj=>?_
  rw[QY (v2.mp hj)]
 ·rw[v7,Zs];rfl
theorem WN{L:List Str}{M:List (List Int)}{names:List Str}{n:Nat}{f:Fn}(h:PreN L M n f):toldF (names.take n) f=toldF names f:=by
 have g:∀j,j<n->(names.take n).getD j ⟨#[]⟩=names.getD j ⟨#[]⟩:=fun j hj=>by
  rw[vy,vy,List.getElem?_take_of_lt hj]
 have js:=h.js.2;cases f with
 | row is=>exact congrArg Fm.row (map_congr_left fun j hj=>g j (js j hj))
 | side is=>exact congrArg Fm.side (map_congr_left fun j hj=>g j (js j hj))
 | again k j=>exact congrArg (Fm.again k) (g j (js j vq))
 | hold n=>rfl
 | ring x n=>rfl
 | rise x v n=>rfl
theorem j49{nm:List Str}{gs:List Int}{x:Str}{g:Int}(h:nm.length=gs.length):knK (nm++[x]) (gs++[g])=knK nm gs++[(Sum.inr x,.int g)]:=by
 unfold knK;rw[List.zip_append h,vj];rfl
theorem j2o{nm:List Str}{gs:List Int}{x:Str}{g:Int}(h:nm.length=gs.length)(n:x∉nm):putK (knK nm gs) (Sum.inr x) (.int g)=knK (nm++[x]) (gs++[g]):=by
 rw[j49 h,Ka];rw[j0s h];intro z;obtain⟨y,hy,e⟩:=vK.mp z;exact n (Sum.inr.inj e▸hy)
theorem j2n{nm:List Str}{gs:List Int}(h:nm.length=gs.length):(knK nm gs).length=nm.length:=by
 unfold knK;rw[vt,List.length_zip];lia
structure BkB(pl nl ml d pp:Addr)(las pas mas:List Addr)(ls:List (Str×Int))(names:List Str)(fs:List Fn)(Ms:List (List Str))(gs:List Int)(b4:Int)(H:Hp):Prop where
 n:NmB nl ml mas (nmsOf ls) (names.take fs.length) Ms H
 l:LmB pl las ls H
 ed:H d=some (.dK (knK (names.take fs.length) gs))
 ep:H pp=some (.lst (pas.map V.ref))
 pa:All2 (PartAt H) pas (drawnPs names fs)
 dk:DOk (nmsOf ls) fs (Ms.map (plB (nmsOf ls))) gs
 gb:∀j,j<fs.length->gs.getD j 0<=b4
 fl:fs.length<=names.length
theorem BkB.same{pl nl ml d pp:Addr}{las pas mas:List Addr}{ls:List (Str×Int)}{names:List Str}{fs:List Fn}{Ms:List (List Str)}{gs:List Int}{b4:Int}{H H':Hp}(B:BkB pl nl ml d pp las pas mas ls names fs Ms gs b4 H)(s:Same H H'):BkB pl nl ml d pp las pas mas ls names fs Ms gs b4 H':=
 ⟨B.n.same s,B.l.same s,s _ _ B.ed,s _ _ B.ep,B.pa.mono fun a x h=>PartAt.same s h,B.dk,B.gb,B.fl⟩
structure SpB(pl nl ml pp bd:Addr)(mas:List Addr):Prop where
 ln:pl≠nl
 lm:pl≠ml
 lp:pl≠pp
 nm:nl≠ml
 np:nl≠pp
 mp:ml≠pp
 bn:bd≠nl
 bm:bd≠ml
 bp:bd≠pp
 ma:∀a∈mas,a≠nl/\a≠ml/\a≠pp
theorem SpB.add{pl nl ml pp bd l:Addr}{mas:List Addr}(S:SpB pl nl ml pp bd mas)(h:l≠nl/\l≠ml/\l≠pp):SpB pl nl ml pp bd (mas++[l]):=
 ⟨S.ln,S.lm,S.lp,S.nm,S.np,S.mp,S.bn,S.bm,S.bp,fun a ha=>by
  rcases vh.mp ha with z | z
  ·exact S.ma a z
  ·rw[vo.mp z];exact h⟩
theorem BkB.add{pl nl ml d pp bd fa l c:Addr}{las pas mas:List Addr}{ls:List (Str×Int)}{names:List Str}{fs:List Fn}{Ms:List (List Str)}{gs:List Int}{b4 g:Int}{f:Fn}{ks:List Str}{H H':Hp}(B:BkB pl nl ml d pp las pas mas ls names fs Ms gs b4 H)(S:SpB pl nl ml pp bd mas)
  (hf:FormAt H fa (toldF names f)) (pre:PreN (nmsOf ls) (Ms.map (plB (nmsOf ls))) fs.length f) (mv:MovS Ms f ks) (lg:LenN gs f g) (gb:g<=b4) (b60:b4<=10^60) (fn:fs.length<names.length) (n20:fs.length<20) (nw:∀x∈names,Ws.isW x=true)
  (k:∀x u,x≠ml->x≠nl->x≠pp->x≠d->H x=some u->H' x=some u) (eml:H' ml=some (.lst ((mas++[l]).map V.ref))) (el:H' l=some (.lst (ks.map V.str))) (enl:H' nl=some (.lst ((names.take (fs.length+1)).map V.str)))
  (epp:H' pp=some (.lst ((pas++[c]).map V.ref))) (ec:H' c=some (.tup [.str (names.getD fs.length ⟨#[]⟩),.ref fa])) (ed:H' d=some (.dK (knK (names.take (fs.length+1)) (gs++[g])))) :
  BkB pl nl ml d pp las (pas++[c]) (mas++[l]) ls names (fs++[f]) (Ms++[ks]) (gs++[g]) b4 H':=by
 have N:=B.n;have kt:∀c xs,H c=some (.tup xs)->H' c=some (.tup xs):=fun c xs h=>k c _ (JG h N.em fun z=>by cases z) (JG h N.en fun z=>by cases z) (JG h B.ep fun z=>by cases z) (JG h B.ed fun z=>by cases z) h
 have kl:∀{c xs},c≠ml->c≠nl->c≠pp->H c=some (.lst xs)->H' c=some (.lst xs):=fun h1 h2 h3 h=>k _ _ h1 h2 h3 (JG h B.ed fun z=>by cases z) h
 have e1:(fs++[f]).length=fs.length+1:=by rw[vn];rfl
 have D:=B.dk;have mi:=mv.inL N.il pre;have gp:=j5x pre lg fun j hj=>(D.g j hj).1
 have gl:=D.gl;refine⟨⟨?_,eml,?_,?_,?_,?_,N.l8,fun x hx=>nw x (List.mem_of_mem_take hx),N.lw⟩,⟨kl S.lm S.ln S.lp B.l.el,B.l.la.mono fun a x h=>kt _ _ h,B.l.l1⟩,?_,epp,?_,?_,fun j hj=>?_,by lia⟩
 ·rw[e1];exact enl
 ·refine All2.snoc ?_ el;exact All2.monoM N.am fun a ha ks h=>kl (S.ma a ha).2.1 (S.ma a ha).1 (S.ma a ha).2.2 h
 ·intro ks' hk;rcases vh.mp hk with z | z
  ·exact N.il ks' z
  ·rw[vo.mp z];exact mi
 ·have:=N.ml;rw[vi]at this|-;rw[vn,e1];show _+1=_;lia
 ·rw[vi];lia
 ·rw[e1];exact ed
 ·rw[j0i];exact All2.snoc (B.pa.mono fun a x h=>PartAt.keep kt h) ⟨fa,ec,FormAt.keep kt hf⟩
 ·rw[vj];exact D.addN pre mv.n lg ⟨gp,by lia⟩
 ·rw[e1]at hj;by_cases z:j<fs.length
  ·rw[QY (by lia)];exact B.gb j z
  ·have e:j=gs.length:=by lia
   subst e;rw[Zs];exact gb
inductive sp_bookB(K:Frg)(vs:List V)(H:Hp)(Q:VK)(xk:XK):Prop
 | mk (a bd:Addr) (ns:List Int) (many:Nat) (b0 b1 b2 b3 b4:Int) (_:vs=[.ref a,.int (many:Nat),.ref bd]) (_:SqL K H a (ns.map V.int)) (_:ns.length<=63) (_:2<=many) (_:many<=16) (_:BdB H bd b0 b1 b2 b3 b4) (_:∀(r b pl pp:Addr) (las pas:List Addr) (names:List Str) (ls:List (Str×Int)) (fs:List Fn) (M:List (List Int)) (gs:List Int) (H':Hp),Same H H'->H' r=some (.tup [.ref b,.int (gs.getD (fs.length-1) 0)])->BookAt H' b pl pp las pas ls (drawnPs names fs)->DOk (nmsOf ls) fs M gs->Sn ls (drawnPs names fs) gs M->fs.length=many+1->names.length=17->names.Nodup->(∀x∈names,Ws.isW x=true)->1<=ls.length->ls.length<=8->(nmsOf ls).Nodup->(∀x∈nmsOf ls,Ws.isW x=true)->pl≠pp->(∀j,j<fs.length->gs.getD j 0<=b4)->Q (.ref r) H'):sp_bookB K vs H Q xk
theorem BkB.book{b pl nl ml d pp:Addr}{las pas mas:List Addr}{ls:List (Str×Int)}{names:List Str}{fs:List Fn}{Ms:List (List Str)}{gs:List Int}{b4:Int}{H:Hp}(B:BkB pl nl ml d pp las pas mas ls names fs Ms gs b4 H)(hb:H b=some (.tup [.ref pl,.ref pp])):BookAt H b pl pp las pas ls (drawnPs names fs):=⟨hb,B.l.el,B.l.la,B.ep,B.pa⟩
noncomputable def smB(f:Int->Int):Nat->Int
 | 0=>0
 | n+1=>smB f n+f (n:Int)
theorem Q6{f g:Int->Int}:∀{n:Nat},(∀j:Nat,j<n->f j=g j)->smB f n=smB g n
 | 0,_=>rfl
 | n+1,h=>by
  show smB f n+f n=smB g n+g n;rw[Q6 (n:=n) fun j hj=>h j (by lia),h n (by lia)]
theorem WJ{f:Int->Int}(a:Nat):∀b:Nat,smB f (a+b)=smB f a+smB (fun j=>f ((a:Int)+j)) b
 | 0=>by show smB f a=smB f a+0;lia
 | b+1=>by
  show smB f (a+b)+f ((a+b:Nat):Int)=smB f a+(smB (fun j=>f ((a:Int)+j)) b+f ((a:Int)+(b:Int)));rw[WJ a b,show((a+b:Nat):Int)=(a:Int)+(b:Int) by lia];lia
theorem Kf{f:Int->Int}{c:Int}:∀{n:Nat},(∀j:Nat,j<n->f j=c)->smB f n=c*(n:Int)
 | 0,_=>by show(0:Int)=c*((0:Nat):Int);rw[show((0:Nat):Int)=0 from rfl,Int.mul_zero]
 | n+1,h=>by
  show smB f n+f n=c*((n+1:Nat):Int);rw[Kf (n:=n) fun j hj=>h j (by lia),h n (by lia),show((n+1:Nat):Int)=(n:Int)+1 from rfl,Int.mul_add,Int.mul_one]
theorem j4X{f:Int->Int}{g:Nat}(g1:1<=g):∀(q:Nat) {r:Nat},r<=g->smB (fun j=>f (j%(g:Int))) (q*g+r)=(q:Int)*smB f g+smB f r
 | 0,r,hr=>by
  rw[Nat.zero_mul,Nat.zero_add,show((0:Nat):Int)=0 from rfl,Int.zero_mul,uz];exact Q6 fun j hj=>by rw[vZ (by lia) (by lia)]
 | q+1,r,hr=>by
  rw[show(q+1)*g+r=g+(q*g+r) by rw[Nat.add_mul,Nat.one_mul];lia,WJ];have e:(fun j:Int=>(fun j:Int=>f (j%(g:Int))) ((g:Int)+j))=fun j=>f (j%(g:Int)):=by
   funext j;show f (((g:Int)+j)%(g:Int))=_;rw[Int.add_comm,Int.add_emod_right]
  rw[e,j4X g1 q hr,Q6 (n:=g) (g:=f) fun j hj=>by show f ((j:Int)%(g:Int))=f j;rw[vZ (by lia) (by lia)],show((q+1:Nat):Int)=(q:Int)+1 from rfl,Int.add_mul,uw];lia
theorem j2I{f:Int->Int}{g q r:Int}(g1:1<=g)(q0:0<=q)(r0:0<=r)(r1:r<=g):smB (fun j=>f (j%g)) (q*g+r).toNat=q*smB f g.toNat+smB f r.toNat:=by
 obtain⟨g',rfl⟩:∃g':Nat,g=(g':Int):=⟨g.toNat,by lia⟩
 obtain⟨q',rfl⟩:∃q':Nat,q=(q':Int):=⟨q.toNat,by lia⟩
 obtain⟨r',rfl⟩:∃r':Nat,r=(r':Int):=⟨r.toNat,by lia⟩
 have:=j4X (f:=f) (g:=g') (by lia) q' (r:=r') (by lia);rw[show((q':Int)*(g':Int)+(r':Int)).toNat=q'*g'+r' by rw[<-Int.natCast_mul,<-Int.natCast_add];exact Int.toNat_natCast _];exact this
theorem j4W{f:Int->Int}{B:Int}:∀{n:Nat},(∀j:Nat,j<n->0<=f j/\f j<=B)->0<=smB f n/\smB f n<=B*(n:Int)
 | 0,_=>⟨vA _,by rw[show((0:Nat):Int)=0 from rfl,Int.mul_zero];exact vA _⟩
 | n+1,h=>by
  have a:=j4W (n:=n) fun j hj=>h j (by lia)
  have b:=h n (by lia);rw[show((n+1:Nat):Int)=(n:Int)+1 from rfl,Int.mul_add,Int.mul_one];show 0<=smB f n+f n/\smB f n+f n<=_;lia
section
variable(T:Nat->Int->Int->Int)(L:List (Option Int))(gs:List Int)(w:Int->Int)
noncomputable def hW:Int->List Pc->Int->Int
 | h,[],_=>h
 | h,q::r,s=>if s<q.2.2 then h else if s<q.2.2+q.2.1*gs.getD q.1 0 then T q.1 h ((s-q.2.2)%gs.getD q.1 0)else hW (lef L q.1) r s
noncomputable def Asc:Int->List Pc->Prop
 | _,[]=>True
 | now,q::r=>now<=q.2.2/\Asc (q.2.2+q.2.1*gs.getD q.1 0) r
noncomputable def whT(p:Nat)(h:Int):Int:=smB (fun j=>w (T p h j)) (gs.getD p 0).toNat
noncomputable def wlp(s:Int):Int->Int->Int->List Pr4->Int×Option (Nat×Int×Int)
 | told,now,h,[]=>(told+w h*(s-now),none)
 | told,now,h,y::r=>match y.2.2.2 with
  | some rest=>(told+(w h*(y.2.1-now)+y.2.2.1*whT T gs w y.1 h),some (y.1,h,rest))
  | none=>wlp s (told+(w h*(y.2.1-now)+y.2.2.1*whT T gs w y.1 h)) (y.2.1+y.2.2.1*gs.getD y.1 0) (lef L y.1) r
noncomputable def resT(x:Int×Option (Nat×Int×Int)):Int:=x.1+match x.2 with
 | some y=>smB (fun j=>w (T y.1 y.2.1 j)) y.2.2.toNat
 | none=>0
end
section
variable{T:Nat->Int->Int->Int}{L:List (Option Int)}{gs:List Int}{w:Int->Int}
theorem Wa{s:Int}:∀{r:List Pc} {b:Int},Asc gs b r->(∀q∈r,PcOk gs q)->s<b->prg gs s r=[]
 | [],_,_,_,_=>rfl
 | q::r,b,h,ok,hs=>by
  obtain⟨_,g1,_,n1,_,_⟩:=ok q vq;have pos:0<=q.2.1*gs.getD q.1 0:=vM (by lia) (by lia);unfold prg;rw[filterMap_cons];have e:prg1 gs s q=none:=by
   unfold prg1;rw[vc (by have:=h.1;lia)]
  rw[e];exact Wa h.2 (fun x hx=>ok x (vp _ hx)) (by have:=h.1;lia)
theorem j2P{s:Int}:∀(PC:List Pc) (told now h:Int),(∀q∈PC,PcOk gs q)->Asc gs now PC->0<=now->now<=s->
  resT T w (wlp T L gs w s told now h (prg gs s PC))=told+smB (fun j=>w (hW T L gs h PC (now+j))) (s-now).toNat
 | [],told,now,h,_,_,n0,ns=>by
  show told+w h*(s-now)+0=_;rw[Kf (c:=w h) fun j _=>rfl,show(((s-now).toNat:Nat):Int)=s-now by lia];lia
 | q::r,told,now,h,ok,asc,n0,ns=>by
  obtain⟨_,g1,_,n1,_,b0,_⟩:=ok q vq;obtain⟨a1,a2⟩:=asc;by_cases c:q.2.2<=s
  ·have ep:prg gs s (q::r)=(q.1,q.2.2,ov gs s q,if ov gs s q<q.2.1 then some (s-q.2.2-ov gs s q*gs.getD q.1 0)else none)::prg gs s r:=by
    unfold prg;rw[filterMap_cons];have e:prg1 gs s q=some (q.1,q.2.2,ov gs s q,if ov gs s q<q.2.1 then some (s-q.2.2-ov gs s q*gs.getD q.1 0)else none):=by
     unfold prg1;rw[vd c]
    rw[e]
   rw[ep];have d0:0<=(s-q.2.2)/gs.getD q.1 0:=Int.ediv_nonneg (by lia) (by lia);have dm:=Int.mul_ediv_add_emod (s-q.2.2) (gs.getD q.1 0);have m0:=ve (s-q.2.2) (show gs.getD q.1 0≠0 by lia);have m1:=vf (s-q.2.2) (show 0<gs.getD q.1 0 by lia);have first:smB (fun j=>w (hW T L gs h (q::r) (now+j))) (q.2.2-now).toNat=w h*(q.2.2-now):=by
    rw[Kf (c:=w h) fun j hj=>by unfold hW;rw[vd (by lia)],show(((q.2.2-now).toNat:Nat):Int)=q.2.2-now by lia]
   unfold wlp;by_cases d:ov gs s q<q.2.1
   ·rw[vd d];have eo:ov gs s q=(s-q.2.2)/gs.getD q.1 0:=by
     unfold ov at d|-;split at d
     ·lia
     ·rename_i z;rw[vc z]
    rw[eo]at d|-;have sb:s<q.2.2+q.2.1*gs.getD q.1 0:=by
     have:((s-q.2.2)/gs.getD q.1 0+1)*gs.getD q.1 0<=q.2.1*gs.getD q.1 0:=vT (by lia) (by lia);rw[Int.add_mul,uw,Int.mul_comm ((s-q.2.2)/gs.getD q.1 0)]at this;lia
    show told+(w h*(q.2.2-now)+(s-q.2.2)/gs.getD q.1 0*whT T gs w q.1 h)+smB (fun j=>w (T q.1 h j)) (s-q.2.2-(s-q.2.2)/gs.getD q.1 0*gs.getD q.1 0).toNat=_;rw[show(s-now).toNat=(q.2.2-now).toNat+(s-q.2.2).toNat by lia,WJ,first];rw[Q6 (n:=(s-q.2.2).toNat) (g:=fun j=>(fun j=>w (T q.1 h j)) (j%gs.getD q.1 0)) fun j hj=>by
     show w (hW T L gs h (q::r) (now+((((q.2.2-now).toNat:Nat):Int)+(j:Int))))=w (T q.1 h ((j:Int)%gs.getD q.1 0));unfold hW;rw[vc (by lia),vd (by lia),show now+((((q.2.2-now).toNat:Nat):Int)+(j:Int))-q.2.2=(j:Int) by lia]]
    have es:s-q.2.2=(s-q.2.2)/gs.getD q.1 0*gs.getD q.1 0+(s-q.2.2)%gs.getD q.1 0:=by rw[Int.mul_comm];lia
    have er:s-q.2.2-(s-q.2.2)/gs.getD q.1 0*gs.getD q.1 0=(s-q.2.2)%gs.getD q.1 0:=by lia
    rw[er];have:=j2I (f:=fun j=>w (T q.1 h j)) (g:=gs.getD q.1 0) (q:=(s-q.2.2)/gs.getD q.1 0) (r:=(s-q.2.2)%gs.getD q.1 0) g1 d0 m0 (by lia);rw[<-es]at this;rw[this];unfold whT;lia
   ·rw[vc d];have eo:ov gs s q=q.2.1:=by
     unfold ov at d|-;split
     ·rfl
     ·rename_i z;rw[vc z]at d;lia
    have qd:q.2.1<=(s-q.2.2)/gs.getD q.1 0:=by
     unfold ov at d;split at d
     ·lia
     ·lia
    have le:q.2.1*gs.getD q.1 0<=s-q.2.2:=(Int.le_ediv_iff_mul_le (by lia)).mp qd;have pos:0<=q.2.1*gs.getD q.1 0:=vM (by lia) (by lia);rw[eo];show resT T w (wlp T L gs w s (told+(w h*(q.2.2-now)+q.2.1*whT T gs w q.1 h)) (q.2.2+q.2.1*gs.getD q.1 0) (lef L q.1) (prg gs s r))=_;rw[j2P r _ _ _ (fun x hx=>ok x (vp _ hx)) a2 (by lia) (by lia)];rw[show(s-now).toNat=(q.2.2-now).toNat+((q.2.1*gs.getD q.1 0).toNat+(s-(q.2.2+q.2.1*gs.getD q.1 0)).toNat) by lia,WJ,first,WJ];rw[Q6 (n:=(q.2.1*gs.getD q.1 0).toNat) (g:=fun j=>(fun j=>w (T q.1 h j)) (j%gs.getD q.1 0)) fun j hj=>by
     show w (hW T L gs h (q::r) (now+((((q.2.2-now).toNat:Nat):Int)+(j:Int))))=w (T q.1 h ((j:Int)%gs.getD q.1 0));unfold hW;rw[vc (by lia),vd (by lia),show now+((((q.2.2-now).toNat:Nat):Int)+(j:Int))-q.2.2=(j:Int) by lia]]
    have:=j2I (f:=fun j=>w (T q.1 h j)) (g:=gs.getD q.1 0) (q:=q.2.1) (r:=0) g1 (by lia) (vA _) (by lia);rw[Int.add_zero]at this;rw[this];rw[Q6 (n:=(s-(q.2.2+q.2.1*gs.getD q.1 0)).toNat) (f:=fun j=>w (hW T L gs h (q::r) (now+((((q.2.2-now).toNat:Nat):Int)+((((q.2.1*gs.getD q.1 0).toNat:Nat):Int)+j))))) (g:=fun j=>w (hW T L gs (lef L q.1) r (q.2.2+q.2.1*gs.getD q.1 0+j))) fun j hj=>by
     show w (hW T L gs h (q::r) (now+((((q.2.2-now).toNat:Nat):Int)+((((q.2.1*gs.getD q.1 0).toNat:Nat):Int)+(j:Int)))))=_;rw[hW,vc (by lia),vc (by lia),show now+((((q.2.2-now).toNat:Nat):Int)+((((q.2.1*gs.getD q.1 0).toNat:Nat):Int)+(j:Int)))=q.2.2+q.2.1*gs.getD q.1 0+(j:Int) by lia]]
    unfold whT;show _=told+(_+(q.2.1*_+smB (fun j=>w (T q.1 h j)) 0+_));have z:smB (fun j=>w (T q.1 h j)) 0=0:=rfl;rw[z];lia
  ·have pos:0<=q.2.1*gs.getD q.1 0:=vM (by lia) (by lia);have ep:prg gs s (q::r)=[]:=Wa (b:=q.2.2) ⟨vA _,a2⟩ ok (by lia);rw[ep];show told+w h*(s-now)+0=_;rw[Kf (c:=w h) fun j hj=>by unfold hW;rw[vd (by lia)],show(((s-now).toNat:Nat):Int)=s-now by lia];lia
theorem xR{s:Int}:∀(PC:List Pc) (told now h:Int),(∀q∈PC,PcOk gs q/\q.2.2+q.2.1*gs.getD q.1 0<=s)->(wlp T L gs w s told now h (prg gs s PC)).2=none
 | [],_,_,_,_=>rfl
 | q::r,told,now,h,ok=>by
  obtain⟨⟨_,g1,_,n1,_,b0,_⟩,le⟩:=ok q vq;have pos:0<=q.2.1*gs.getD q.1 0:=vM (by lia) (by lia);have qd:q.2.1<=(s-q.2.2)/gs.getD q.1 0:=(Int.le_ediv_iff_mul_le (by lia)).mpr (by lia);have eo:ov gs s q=q.2.1:=by
   unfold ov;split
   ·rfl
   ·lia
  have ep:prg gs s (q::r)=(q.1,q.2.2,q.2.1,none)::prg gs s r:=by
   unfold prg;rw[filterMap_cons];have e:prg1 gs s q=some (q.1,q.2.2,q.2.1,none):=by
    unfold prg1;rw[vd (by lia),eo,vc (by lia)]
   rw[e]
  rw[ep];unfold wlp;exact xR r _ _ _ fun x hx=>ok x (vp _ hx)
end
section
variable{ls:List (Str×Int)}{ps:List (Str×Fm)}{gs:List Int}{L:List (Option Int)}{k:Nat}
structure PcT(ls:List (Str×Int))(ps:List (Str×Fm))(gs:List Int)(L:List (Option Int))(k:Nat)(p:Nat)(PC:List Pc):Prop where
 h:∀(x s:Int),0<=s->hgt ls ps gs L k p x s=hW (hgt ls ps gs L k) L gs x PC s
 a:Asc gs 0 PC
 e:∀q∈PC,q.2.2+q.2.1*gs.getD q.1 0<=gs.getD p 0
theorem j2i(M:Lm ls ps gs L k){p:Nat}{y:Str}{qs:List Str}(hp:ps[p]?=some (y,.side qs)){v:Int}(hv:L.getD p none=some v):PcT ls ps gs L k p ((pcB ps gs p).filter (isL L)):=by
 have pl:=(vx.mp hp).1;have epc:pcB ps gs p=(inP ps (.side qs)).map fun j=>(j,1,0):=by unfold pcB;rw[hp];rfl
 have hin:∀j∈inP ps (.side qs),j<p:=fun j hj=>M.w.inP_lt hp hj
 have ne:(inP ps (.side qs))≠[]:=fun z=>by
  have:=M.ed p _ hp;by_cases c:(Fm.side qs).ns=[]
  ·have:=M.lf p _ hp c (fun _ _ _ e=>by cases e);rw[hv]at this;cases this
  ·have:=this c (v+1);rw[hv,z]at this;have:v=v+1:=this;lia
 have nsne:(Fm.side qs).ns≠[]:=fun z=>ne (by unfold inP;rw[z];rfl)
 have ed:=M.ed p _ hp nsne;obtain⟨j,hj,js⟩:∃j∈inP ps (.side qs),(L.getD j none).isSome=true:=by
  refine Classical.byContradiction fun z=>?_
  have al:∀j∈inP ps (.side qs),L.getD j none=none:=fun j hj=>by
   cases e:L.getD j none with
   | none=>rfl
   | some x=>exact ug ⟨j,hj,by rw[e];rfl⟩ z
  have:=ed (v+1);rw[getD_none _ _ al,hv]at this;have:v=v+1:=this;lia
 obtain⟨pre,post,ein⟩:=List.append_of_mem hj;obtain⟨n1,n2⟩:=M.sd p _ qs hp rfl pre j post ein js;have jp:=hin j hj;have ipre:∀i∈pre,i<ps.length/\L.getD i none=none:=fun i hi=>⟨by have:=hin i (by rw[ein];exact mem_append_left _ hi);lia,n1 i hi⟩
 have ipost:∀i∈post,i<ps.length/\L.getD i none=none:=fun i hi=>⟨by have:=hin i (by rw[ein];exact mem_append_right _ (vp _ hi));lia,n2 i hi⟩
 have efl:(pcB ps gs p).filter (isL L)=[(j,1,0)]:=by
  rw[epc,ein,vj,v7,filter_append,v6,vd (show isL L (j,1,0)=true from js)];rw[Kx fun q hq=>by obtain⟨i,hi,rfl⟩:=vK.mp hq;exact n1 i hi,Kx fun q hq=>by obtain⟨i,hi,rfl⟩:=vK.mp hq;exact n2 i hi];rfl
 have gj:=M.g j (by lia);have gp:=M.g p pl;have gle:gs.getD j 0<=gs.getD p 0:=by
  have hb:∃gg,LenIs (.side qs) ((inP ps (.side qs)).map fun j=>gs.getD j 0) gg:=by
   obtain⟨x,hx,mx⟩:=Wj ((inP ps (.side qs)).map fun j=>gs.getD j 0) (fun z=>ne (List.map_eq_nil_iff.mp z));exact⟨x,hx,mx⟩
  obtain⟨gg,hgg⟩:=hb;have:=M.ln p _ hp gg hgg;rw[<-this];exact hgg.2 _ (vK.mpr ⟨j,hj,rfl⟩)
 have fin:∀h,(L.getD p none).getD h=(L.getD j none).getD h:=fun h=>by
  rw[ed h,show inP ps (Fm.side qs)=pre++j::post from ein,foldl_append,v5,getD_none pre h n1,getD_none post _ n2]
 have at':∀h t,0<=t->t<gs.getD p 0->hgt ls ps gs L k p h t=hgt ls ps gs L k j h (if gs.getD j 0<=t then gs.getD j 0 else t):=fun h t t0 t1=>by
  rw[kF M (fun z=>z.elim (fun z=>by lia) fun z=>by rw[epc]at z;exact ne (List.map_eq_nil_iff.mp z)),epc,WI (fun i hi=>(M.g i (by have:=hin i hi;lia)).1) t0,List.foldl_map];have eqf:(fun(h:Int) (i:Nat)=>hgt ls ps gs L k (if gs.getD i 0<=t then(i,gs.getD i 0)else(i,t)).1 h (if gs.getD i 0<=t then(i,gs.getD i 0)else(i,t)).2)=fun h i=>hgt ls ps gs L k i h (if gs.getD i 0<=t then gs.getD i 0 else t):=by
   funext h i;by_cases c:gs.getD i 0<=t
   ·rw[vd c,vd c]
   ·rw[vc c,vc c]
  rw[eqf,ein,foldl_append,v5,Kz M pre h ipre,Kz M post _ ipost]
 have lj:∀h,(L.getD j none).getD h=lef L j:=fun h=>by
  obtain⟨u,hu⟩:=Option.isSome_iff_exists.mp js;unfold lef;rw[hu];rfl
 rw[efl];refine⟨fun x s s0=>?_,⟨vA _,trivial⟩,fun q hq=>?_⟩
 ·show _=if s<0 then x else if s<0+1*gs.getD j 0 then hgt ls ps gs L k j x ((s-0)%gs.getD j 0)else lef L j
  rw[vc (by lia)];by_cases c:s<gs.getD j 0
  ·rw[vd (by lia),Int.sub_zero,vZ s0 c,at' x s s0 (by lia),vc (by lia)]
  ·rw[vc (by lia)];rcases Int.lt_or_le s (gs.getD p 0)with z | z
   ·rw[at' x s s0 z,vd (by lia),Zt j x (vA _),lj]
   ·rw[Zt p x z,fin,lj]
 ·rw[vo.mp hq];show 0+1*gs.getD j 0<=_;lia
theorem j0p(M:Lm ls ps gs L k){p:Nat}{y z:Str}{n:Int}(hp:ps[p]?=some (y,.again n z)){v:Int}(hv:L.getD p none=some v):PcT ls ps gs L k p ((pcB ps gs p).filter (isL L)):=by
 have pl:=(vx.mp hp).1;obtain⟨j,ein⟩:∃j,inP ps (.again n z)=[j]:=⟨_,rfl⟩
 have epc:pcB ps gs p=(j,1,0)::(if 1<n then[(j,n-1,gs.getD j 0)]else[]):=by
  unfold pcB;rw[hp];show pcsI gs (.again n z) (inP ps (.again n z))=_;rw[ein];rfl
 have jp:j<p:=M.w.inP_lt hp (by show j∈inP ps (.again n z);rw[ein];exact vq);have n1:=M.k1 p y z n hp;have gj:=M.g j (by lia);have ln:gs.getD p 0=n*gs.getD j 0:=by
  have:=M.ln p _ hp (n*gs.getD j 0) (by show LenIs (.again n z) ((inP ps (.again n z)).map fun j=>gs.getD j 0) _;rw[ein];exact⟨_,rfl,rfl⟩);exact this.symm
 have ed:=M.ed p _ hp (by show(Fm.again n z).ns≠[];exact cons_ne_nil _ _);have lj:L.getD j none=some v:=by
  have e1:=ed v;have e2:=ed (v+1);rw[hv,show inP ps (Fm.again n z)=[j]from ein]at e1 e2;cases e:L.getD j none with
  | none=>rw[v5,e]at e2;have:v=v+1:=e2;lia
  | some w=>rw[v5,e]at e1;have:v=w:=e1;rw[this]
 have kept:isL L (j,1,0)=true:=by unfold isL;show(L.getD j none).isSome=true;rw[lj];rfl
 have kept2:isL L (j,n-1,gs.getD j 0)=true:=by unfold isL;show(L.getD j none).isSome=true;rw[lj];rfl
 have efl:(pcB ps gs p).filter (isL L)=(j,1,0)::(if 1<n then[(j,n-1,gs.getD j 0)]else[]):=by
  rw[epc,v6,vd kept];split
  ·rw[v6,vd kept2];rfl
  ·rfl
 have pne:pcB ps gs p≠[]:=by rw[epc];exact cons_ne_nil _ _
 have full:∀x:Int,hgt ls ps gs L k j x (gs.getD j 0)=v:=fun x=>by rw[Zt j x (vA _),lj];rfl
 have le1:gs.getD j 0<=n*gs.getD j 0:=by
  have:=vT n1 (show 0<=gs.getD j 0 by lia);lia
 have at0:∀h t,0<=t->t<gs.getD j 0->hgt ls ps gs L k p h t=hgt ls ps gs L k j h t:=fun h t t0 t1=>by
  have d0:t/gs.getD j 0=0:=Int.ediv_eq_zero_of_lt t0 t1;rw[kF M (fun z=>z.elim (fun z=>by rw[ln]at z;lia) pne),epc];rcases j04 (k:=n) gj.1 n1 t0 (by lia)with⟨_,e⟩ | ⟨c,_⟩ | ⟨c,_⟩
  ·rw[e,vZ t0 t1];rfl
  ·lia
  ·lia
 have at1:∀h t,gs.getD j 0<=t->t<n*gs.getD j 0->hgt ls ps gs L k p h t=hgt ls ps gs L k j v (t%gs.getD j 0):=fun h t t0 t1=>by
  have q1:1<=t/gs.getD j 0:=Int.le_ediv_of_mul_le (by lia) (by lia);have q2:t/gs.getD j 0<n:=Int.ediv_lt_of_lt_mul (by lia) t1;rw[kF M (fun z=>z.elim (fun z=>by rw[ln]at z;lia) pne),epc];rcases j04 (k:=n) gj.1 n1 (show 0<=t by lia) (by lia)with⟨c,_⟩ | ⟨_,_,zs,hz,e⟩ | ⟨c,_⟩
  ·lia
  ·rw[e];rcases hz with rfl | rfl
   ·show hgt ls ps gs L k j (hgt ls ps gs L k j h (gs.getD j 0)) _=_;rw[full]
   ·show hgt ls ps gs L k j (hgt ls ps gs L k j (hgt ls ps gs L k j h (gs.getD j 0)) (gs.getD j 0)) _=_;rw[full]
  ·lia
 have atE:∀h s,n*gs.getD j 0<=s->hgt ls ps gs L k p h s=v:=fun h s hs=>by
  rw[Zt p h (by rw[ln];exact hs),hv];rfl
 have lej:lef L j=v:=by unfold lef;rw[lj];rfl
 have nm:(n-1)*gs.getD j 0=n*gs.getD j 0-gs.getD j 0:=by rw[Int.sub_mul,uw]
 rw[efl];by_cases c:1<n
 ·rw[vd c];refine⟨fun x s s0=>?_,⟨vA _,by show 0+1*gs.getD j 0<=gs.getD j 0;lia,trivial⟩,fun q hq=>?_⟩
  ·show _=if s<0 then x else if s<0+1*gs.getD j 0 then hgt ls ps gs L k j x ((s-0)%gs.getD j 0)else if s<gs.getD j 0 then lef L j else if s<gs.getD j 0+(n-1)*gs.getD j 0 then hgt ls ps gs L k j (lef L j) ((s-gs.getD j 0)%gs.getD j 0)else lef L j
   rw[vc (by lia)];by_cases d:s<gs.getD j 0
   ·rw[vd (by lia),Int.sub_zero,vZ s0 d,at0 x s s0 d]
   ·rw[vc (by lia),vc d,nm,lej];by_cases e:s<n*gs.getD j 0
    ·rw[vd (by lia),at1 x s (by lia) e];congr 1;rw[Int.sub_emod_right]
    ·rw[vc (by lia),atE x s (by lia)]
  ·rcases mem_cons.mp hq with rfl | hq
   ·show 0+1*gs.getD j 0<=_;rw[ln];lia
   ·rw[vo.mp hq];show gs.getD j 0+(n-1)*gs.getD j 0<=_;rw[nm,ln];lia
 ·have:n=1:=by lia
  subst this;rw[vc c];rw[uw]at ln;refine⟨fun x s s0=>?_,⟨vA _,trivial⟩,fun q hq=>?_⟩
  ·show _=if s<0 then x else if s<0+1*gs.getD j 0 then hgt ls ps gs L k j x ((s-0)%gs.getD j 0)else lef L j
   rw[vc (by lia)];by_cases d:s<gs.getD j 0
   ·rw[vd (by lia),Int.sub_zero,vZ s0 d,at0 x s s0 d]
   ·rw[vc (by lia),lej,atE x s (by lia)]
  ·rw[vo.mp hq];show 0+1*gs.getD j 0<=_;lia
theorem j1N(M:Lm ls ps gs L k):∀(is:List Nat) (b:Int),(∀j∈is,j<ps.length)->
  (∀h s,b<=s->RF ls ps gs L k is b h s=hW (hgt ls ps gs L k) L gs h ((rowPc gs is b).filter (isL L)) s)/\Asc gs b ((rowPc gs is b).filter (isL L))/\(∀q∈(rowPc gs is b).filter (isL L),q.2.2+q.2.1*gs.getD q.1 0<=b+(is.map fun j=>gs.getD j 0).sum)/\0<=(is.map fun j=>gs.getD j 0).sum/\
  ∀h s,s<b->hW (hgt ls ps gs L k) L gs h ((rowPc gs is b).filter (isL L)) s=h
 | [],b,_=>⟨fun h s _=>rfl,trivial,(fun q hq=>nomatch hq),vA _,fun h s _=>rfl⟩
 | j::r,b,hj=>by
  have jl:=hj j vq;have hg:∀i∈j::r,1<=gs.getD i 0/\gs.getD i 0<=10^60:=fun i hi=>M.g i (hj i hi)
  have gj:=hg j vq;obtain⟨i1,i2,i3,i4,i5⟩:=j1N M r (b+gs.getD j 0) fun i hi=>hj i (vp _ hi)
  have lo:∀h t,b<=t->t<b+gs.getD j 0->RF ls ps gs L k (j::r) b h t=hgt ls ps gs L k j h (t-b):=fun h t t1 t2=>by
   unfold RF;rw[y9 hg t1,vc (by lia)];rfl
  have hi':∀h t,b+gs.getD j 0<=t->RF ls ps gs L k (j::r) b h t=RF ls ps gs L k r (b+gs.getD j 0) ((L.getD j none).getD h) t:=fun h t t1=>by
   unfold RF;rw[y9 hg (by lia),vd (by lia),v5];show List.foldl _ (hgt ls ps gs L k j h (gs.getD j 0)) _=_;rw[Zt j h (vA _)]
  rw[v7,sum_cons];rw[rowPc,v6];cases eo:L.getD j none with
  | none=>
   rw[vc (by unfold isL;show¬(L.getD j none).isSome=true;rw[eo];exact vF)];refine⟨fun h s hs=>?_,?_,fun q hq=>by have:=i3 q hq;lia,by lia,fun h s hs=>i5 h s (by lia)⟩
   ·rcases Int.lt_or_le s (b+gs.getD j 0)with c | c
    ·rw[lo h s hs c,j1r M j jl eo,i5 h s c]
    ·rw[hi' h s c,eo];exact i1 h s c
   ·revert i2
    cases(rowPc gs r (b+gs.getD j 0)).filter (isL L)with
    | nil=>exact fun _=>trivial
    | cons q r'=>exact fun i2=>⟨by have:=i2.1;lia,i2.2⟩
  | some v=>
   have lej:lef L j=v:=by unfold lef;rw[eo];rfl
   rw[vd (by unfold isL;show(L.getD j none).isSome=true;rw[eo];rfl)];refine⟨fun h s hs=>?_,⟨vA _,?_⟩,fun q hq=>?_,by lia,fun h s hs=>?_⟩
   ·show _=if s<b then h else if s<b+1*gs.getD j 0 then hgt ls ps gs L k j h ((s-b)%gs.getD j 0)else hW (hgt ls ps gs L k) L gs (lef L j) _ s
    rw[vc (by lia)];rcases Int.lt_or_le s (b+gs.getD j 0)with c | c
    ·rw[vd (by lia),vZ (by lia) (by lia),lo h s hs c]
    ·rw[vc (by lia),hi' h s c,eo,lej];exact i1 v s c
   ·show Asc gs (b+1*gs.getD j 0) _;rw[uw];exact i2
   ·rcases mem_cons.mp hq with rfl | hq
    ·show b+1*gs.getD j 0<=_;lia
    ·have:=i3 q hq;lia
   ·show(if s<b then h else _)=h;rw[vd hs]
theorem j45(M:Lm ls ps gs L k){p:Nat}{y:Str}{qs:List Str}(hp:ps[p]?=some (y,.row qs)){v:Int}(hv:L.getD p none=some v):PcT ls ps gs L k p ((pcB ps gs p).filter (isL L)):=by
 have pl:=(vx.mp hp).1;have epc:pcB ps gs p=rowPc gs (inP ps (.row qs)) 0:=by unfold pcB;rw[hp];rfl
 have hin:∀j∈inP ps (.row qs),j<p:=fun j hj=>M.w.inP_lt hp hj
 have nsne:(Fm.row qs).ns≠[]:=fun z=>by
  have:=M.lf p _ hp z (fun _ _ _ e=>by cases e);rw[hv]at this;cases this
 have ed:=M.ed p _ hp nsne;have ln:gs.getD p 0=((inP ps (.row qs)).map fun j=>gs.getD j 0).sum:=(M.ln p _ hp _ rfl).symm;obtain⟨f1,f2,f3,f4,f5⟩:=j1N M (inP ps (.row qs)) 0 fun j hj=>by have:=hin j hj;lia
 have pne:pcB ps gs p≠[]:=by
  rw[epc];intro z;cases e:inP ps (.row qs)with
  | nil=>exact nsne (List.map_eq_nil_iff.mp e)
  | cons a r=>rw[e,rowPc]at z;cases z
 have fin:∀(is:List Nat) (b h s:Int),(∀j∈is,j<ps.length)->b+(is.map fun j=>gs.getD j 0).sum<=s->RF ls ps gs L k is b h s=is.foldl (fun h j=>(L.getD j none).getD h) h:=fun is=>by
  induction is with
  | nil=>intro b h s _ _;rfl
  | cons j r ih=>
   intro b h s hj hs;rw[v7,sum_cons]at hs;have hg:∀i∈j::r,1<=gs.getD i 0/\gs.getD i 0<=10^60:=fun i hi=>M.g i (hj i hi)
   have gj:=hg j vq;have nn:=(j1N M r 0 fun i hi=>hj i (vp _ hi)).2.2.2.1;unfold RF;rw[y9 hg (by lia),vd (by lia),v5,v5];show List.foldl _ (hgt ls ps gs L k j h (gs.getD j 0)) _=_;rw[Zt j h (vA _)];exact ih (b+gs.getD j 0) _ s (fun i hi=>hj i (vp _ hi)) (by lia)
 rw[epc];refine⟨fun x s s0=>?_,f2,fun q hq=>by rw[ln];have:=f3 q hq;lia⟩;rw[<-f1 x s s0];rcases Int.lt_or_le s (gs.getD p 0)with c | c
 ·rw[kF M (fun z=>z.elim (fun z=>by lia) pne),epc];rfl
 ·rw[fin _ 0 x s (fun j hj=>by have:=hin j hj;lia) (by lia),Zt p x c,ed x]
theorem j6R(M:Lm ls ps gs L k){p:Nat}(hp:p<ps.length)(nr:rzB L (fPc ps gs L) p=false):PcT ls ps gs L k p ((fPc ps gs L).getD p []):=by
 rw[Kw];unfold rzB at nr;rw[Kw]at nr;have efun:(fun q:Pc=>(L.getD q.1 none).isSome)=isL L:=rfl;rw[efun]at nr|-;have hpp:=vz hp;cases hv:L.getD p none with
 | none=>
  have fl:(pcB ps gs p).filter (isL L)=[]:=Kx fun q hq=>by
   unfold pcB at hq;rw[hpp]at hq;exact M.no p _ hpp hv q.1 (kL hq)
  rw[fl];exact⟨fun x s _=>j1r M p hp hv s x,trivial,fun q hq=>nomatch hq⟩
 | some v=>
  cases hq:ps[p]with
  | mk y f=>
   rw[hq]at hpp;cases f with
   | row qs=>exact j45 M hpp hv
   | side qs=>exact j2i M hpp hv
   | again n z=>exact j0p M hpp hv
   | hold n=>have:=M.lf p _ hpp rfl (fun _ _ _ e=>by cases e);rw[hv]at this;cases this
   | ring z n=>have:=M.lf p _ hpp rfl (fun _ _ _ e=>by cases e);rw[hv]at this;cases this
   | rise z u n=>
    rw[hv,j2q (gs:=gs) hpp (rfl:(Fm.rise z u n).ns=[])]at nr;cases nr
theorem j6S(M:Lm ls ps gs L k){p:Nat}(hp:p<ps.length)(rz:rzB L (fPc ps gs L) p=true){h s:Int}(s0:0<=s)(s1:s<=gs.getD p 0):hgt ls ps gs L k p h s=Rp.ramp h (lef L p) (gs.getD p 0) s:=by
 have rz':=rz;unfold rzB at rz;obtain⟨r1,r2⟩:=Bool.and_eq_true_iff.mp rz;obtain⟨v,hv⟩:=Option.isSome_iff_exists.mp r1;have r2:=isEmpty_iff.mp r2;rw[Kw]at r2;have efun:(fun q:Pc=>(L.getD q.1 none).isSome)=isL L:=rfl;rw[efun]at r2;have hpp:=vz hp;have lej:lef L p=v:=by unfold lef;rw[hv];rfl
 have g1:=(M.g p hp).1;rcases Int.lt_or_le s (gs.getD p 0)with c | c
 ·cases hq:ps[p]with
  | mk y f=>
   rw[hq]at hpp;have bad:∀P:PcT ls ps gs L k p ((pcB ps gs p).filter (isL L)),hgt ls ps gs L k p (v+1) (gs.getD p 0)=v+1:=fun P=>by
    rw[P.h _ _ (by lia),r2];rfl
   have no:¬hgt ls ps gs L k p (v+1) (gs.getD p 0)=v+1:=by
    rw[Zt p _ (vA _),hv];show¬v=v+1;lia
   cases f with
   | row qs=>exact ug (bad (j45 M hpp hv)) no
   | side qs=>exact ug (bad (j2i M hpp hv)) no
   | again n z=>exact ug (bad (j0p M hpp hv)) no
   | hold n=>have:=M.lf p _ hpp rfl (fun _ _ _ e=>by cases e);rw[hv]at this;cases this
   | ring z n=>have:=M.lf p _ hpp rfl (fun _ _ _ e=>by cases e);rw[hv]at this;cases this
   | rise z u n=>
    obtain⟨e1,e2⟩:=M.rs p y z u n hpp;have pe:=j2q (gs:=gs) hpp (rfl:(Fm.rise z u n).ns=[]);have ik:ixOf (nmsOf ls) z=k:=by
     by_cases d:ixOf (nmsOf ls) z=k
     ·exact d
     ·rw[vc d,hv]at e2;cases e2
    rw[vd ik,hv]at e2;have ew:=vL e2;subst ew;unfold hgt;rw[JU (.inr pe)];show ap1 ls ps gs L k h (p,s)=_;unfold ap1;rw[vc (by show¬gs.getD p 0<=s;lia),hpp];show(if ixOf (nmsOf ls) z=k then Rp.ramp h v n s else h)=_;rw[vd ik,lej,e1]
 ·have e:s=gs.getD p 0:=by lia
  rw[Zt p h c,hv,e,lej,Rp.ends (by lia)];rfl
end
noncomputable def wA(o:Option Int)(a:Int):Int:=match o with
 | none=>a
 | some x=>if a=x then 1 else 0
theorem j6Y{o:Option Int}{a:Int}(h:0<=a/\a<=10^18):0<=wA o a/\wA o a<=10^18:=by
 unfold wA;split
 ·exact h
 ·split<;>lia
theorem j2D{s g b:Int}:∀m:Nat,Pr.rsum s g b (m:Int)=smB (fun j=>Rp.ramp s g b j) m
 | 0=>by
  unfold Pr.rsum;rw[show((0:Nat):Int)=0 from rfl,Int.mul_zero,Fs.xu (vA _)];rfl
 | m+1=>by
  have ih:=j2D (s:=s) (g:=g) (b:=b) m;unfold Pr.rsum at ih|-;rw[show((m+1:Nat):Int)=(m:Int)+1 from rfl,Fs.j39 (by lia),Int.mul_add,Int.mul_one];show _=smB (fun j=>Rp.ramp s g b j) m+Rp.ramp s g b (m:Int);rw[<-ih];unfold Rp.ramp;rw[Int.add_zero];lia
theorem j0c{s g b x:Int}(hb:0<b):∀m:Nat,Rp.count s g b x (m:Int)=smB (fun j=>wA (some x) (Rp.ramp s g b j)) m
 | 0=>Rp.j1l
 | m+1=>by
  have ih:=j0c (s:=s) (g:=g) (x:=x) hb m;have st:=Rp.j1k (s:=s) (g:=g) (h:=x) (m:=(m:Int)) hb (by lia);rw[show((m+1:Nat):Int)=(m:Int)+1 from rfl];show _=smB (fun j=>wA (some x) (Rp.ramp s g b j)) m+(if Rp.ramp s g b (m:Int)=x then 1 else 0);rw[<-ih,<-st];lia
def AskOk(o:Option Int):Prop:=∀x,o=some x->-10^60<=x/\x<=10^60
inductive sp_weighed(vs:List V)(H:Hp)(Q:VK)(xk:XK):Prop
 | mk (o:Option Int) (h g b m:Int) (_:vs=[optV o,.int h,.int g,.int b,.int m]) (_:AskOk o) (_:0<=h) (_:h<=10^18) (_:0<=g) (_:g<=10^18) (_:1<=b) (_:b<=10^18) (_:0<=m) (_:m<=10^18+1) (_:∀H',Same H H'->Q (.int (smB (fun j=>wA o (Rp.ramp h g b j)) m.toNat)) H'):sp_weighed vs H Q xk
inductive sp_stayed(vs:List V)(H:Hp)(Q:VK)(xk:XK):Prop
 | mk (o:Option Int) (h m:Int) (_:vs=[optV o,.int h,.int m]) (_:0<=h) (_:h<=10^18) (_ : -10^100<=m) (_:m<=10^100) (_:Q (.int (wA o h*m)) H):sp_stayed vs H Q xk
section
variable{ls:List (Str×Int)}{ps:List (Str×Fm)}{gs:List Int}{hs:List (List Int)}{E:List (List (Int×Int))}{k:Nat}
theorem apI(N:Sn ls ps gs hs)(lE:E.length=ps.length)(oE:EndOk ls ps E){h:Int}{x:Nat×Int}(hx:x.1<ps.length)(x0:0<=x.2)(hb:0<=h/\h<=10^18):0<=ap1 ls ps gs (lvE E (k:Nat)) k h x/\ap1 ls ps gs (lvE E (k:Nat)) k h x<=10^18:=by
 unfold ap1;by_cases c:gs.getD x.1 0<=x.2
 ·rw[vd c];cases e:(lvE E (k:Nat)).getD x.1 none with
  | none=>exact hb
  | some v=>exact j1m N lE oE hx _ (Xu x.1 e)
 ·rw[vc c];have hp:=vz hx;cases e:ps[x.1]with
  | mk y f=>
   rw[e]at hp;rw[hp];cases f with
   | rise z v n=>
    show 0<=(if ixOf (nmsOf ls) z=k then Rp.ramp h v n x.2 else h)/\(if ixOf (nmsOf ls) z=k then Rp.ramp h v n x.2 else h)<=10^18;have r:=N.r18 x.1 y z v n hp;have g:=((N.lm (k:=k) lE oE).rs x.1 y z v n hp).1;by_cases d:ixOf (nmsOf ls) z=k
    ·rw[vd d];exact j2B hb ⟨r.1,r.2.1⟩ r.2.2.1 x0 (by lia)
    ·rw[vc d];exact hb
   | hold n=>exact hb
   | ring z n=>exact hb
   | row z=>exact hb
   | side z=>exact hb
   | again z n=>exact hb
theorem foI(N:Sn ls ps gs hs)(lE:E.length=ps.length)(oE:EndOk ls ps E):∀{xs:List (Nat×Int)} {h:Int},(∀x∈xs,x.1<ps.length/\0<=x.2)->0<=h/\h<=10^18->0<=xs.foldl (ap1 ls ps gs (lvE E (k:Nat)) k) h/\xs.foldl (ap1 ls ps gs (lvE E (k:Nat)) k) h<=10^18
 | [],_,_,hb=>hb
 | x::xs,h,hx,hb=>by
  rw[v5];exact foI N lE oE (fun y hy=>hx y (vp _ hy)) (apI N lE oE (hx x vq).1 (hx x vq).2 hb)
end
structure LtO(ls:List (Str×Int))(ps:List (Str×Fm))(gs:List Int)(hs:List (List Int))(E:List (List (Int×Int)))(k:Nat)(x:Str)(f:Int)(B:List Tb):Prop where
 n:Sn ls ps gs hs
 lE:E.length=ps.length
 oE:EndOk ls ps E
 hk:ls[k]?=some (x,f)
 so:StrOk f (lvE E (k:Nat)) gs (fPc ps gs (lvE E (k:Nat)))
 bo:BegOk f (lvE E (k:Nat)) (fPc ps gs (lvE E (k:Nat))) B
noncomputable abbrev hT(ls:List (Str×Int))(ps:List (Str×Fm))(gs:List Int)(E:List (List (Int×Int)))(k:Nat):Nat->Int->Int->Int:=hgt ls ps gs (lvE E (k:Nat)) k
section
variable{ls:List (Str×Int)}{ps:List (Str×Fm)}{gs:List Int}{hs:List (List Int)}{E:List (List (Int×Int))}{k:Nat}{x:Str}{f:Int}{B:List Tb}{o:Option Int}
theorem LtO.len(O:LtO ls ps gs hs E k x f B):(fPc ps gs (lvE E (k:Nat))).length=ps.length:=vt _
theorem LtO.tin(O:LtO ls ps gs hs E k x f B){p:Nat}(hp:p<ps.length){h s:Int}(hb:0<=h/\h<=10^18)(s0:0<=s):0<=hT ls ps gs E k p h s/\hT ls ps gs E k p h s<=10^18:=
 foI O.n O.lE O.oE (fun y hy=>⟨Kb O.n.s.w hp hy,xJ O.n hp s0 hy⟩) hb
theorem LtO.has(O:LtO ls ps gs hs E k x f B){i:Nat}{h:Int}(hh:Has B i h):0<=h/\h<=10^18:=by
 have hm:∃q∈B.getD i [],q.1=Sum.inl h:=by
  unfold Has at hh;rw[<-Q7,any_eq_true]at hh;obtain⟨q,h1,h2⟩:=hh;exact⟨q,h1,of_decide_eq_true h2⟩
 obtain⟨q,hq,e⟩:=hm;obtain⟨y,e',y0,y1,_⟩:=O.bo.key O.so hq;rw[e]at e';cases e';exact⟨y0,y1⟩
theorem LtO.wh(O:LtO ls ps gs hs E k x f B){p:Nat}(hp:p<ps.length){h:Int}(hb:0<=h/\h<=10^18):0<=whT (hT ls ps gs E k) gs (wA o) p h/\whT (hT ls ps gs E k) gs (wA o) p h<=10^78:=by
 have b:=j4W (f:=fun j=>wA o (hT ls ps gs E k p h j)) (B:=10^18) (n:=(gs.getD p 0).toNat) fun j _=>j6Y (O.tin hp hb (by lia))
 have g:=O.n.g hp;refine⟨b.1,Int.le_trans b.2 ?_⟩;rw[show(((gs.getD p 0).toNat:Nat):Int)=gs.getD p 0 by lia];lia
noncomputable def RunY(L:List (Option Int))(B:List Tb):Int->List Pr4->Prop
 | _,[]=>True
 | h,y::r=>Has B y.1 h/\RunY L B (lef L y.1) r
theorem j2E{L:List (Option Int)}{s:Int}:∀{PC:List Pc} {b h:Int},Asc gs b PC->(∀q∈PC,PcOk gs q)->Run L B h PC->RunY L B h (prg gs s PC)
 | [],_,_,_,_,_=>trivial
 | q::r,b,h,a,ok,run=>by
  by_cases c:q.2.2<=s
  ·have ep:prg gs s (q::r)=(q.1,q.2.2,ov gs s q,if ov gs s q<q.2.1 then some (s-q.2.2-ov gs s q*gs.getD q.1 0)else none)::prg gs s r:=by
    unfold prg;rw[filterMap_cons];have e:prg1 gs s q=some (q.1,q.2.2,ov gs s q,if ov gs s q<q.2.1 then some (s-q.2.2-ov gs s q*gs.getD q.1 0)else none):=by
     unfold prg1;rw[vd c]
    rw[e]
   rw[ep];exact⟨run.1,j2E a.2 (fun x hx=>ok x (vp _ hx)) run.2⟩
  ·rw[Wa (gs:=gs) (s:=s) (r:=q::r) (b:=q.2.2) ⟨vA _,a.2⟩ ok (by lia)];trivial
theorem j5M{s:Int}{PC:List Pc}{y:Pr4}(h:y∈prg gs s PC)(ok:∀q∈PC,PcOk gs q):∃q∈PC,y.1=q.1/\y.2.1=q.2.2/\0<=y.2.1/\y.2.1<=s/\0<=y.2.2.1/\y.2.2.1<=10^18/\∀r,y.2.2.2=some r->0<=r/\r<gs.getD y.1 0:=by
 unfold prg at h;obtain⟨q,hq,e⟩:=mem_filterMap.mp h;obtain⟨_,g1,_,n1,n2,b0,_⟩:=ok q hq;unfold prg1 at e;by_cases c:q.2.2<=s
 ·rw[vd c]at e;have e:=vL e;subst e;have d0:0<=(s-q.2.2)/gs.getD q.1 0:=Int.ediv_nonneg (by lia) (by lia);refine⟨q,hq,rfl,rfl,b0,c,?_,?_,fun r hr=>?_⟩
  ·show 0<=ov gs s q;unfold ov;split<;>lia
  ·show ov gs s q<=10^18;unfold ov;split<;>lia
  ·have hr:(if ov gs s q<q.2.1 then some (s-q.2.2-ov gs s q*gs.getD q.1 0)else none)=some r:=hr;by_cases d:ov gs s q<q.2.1
   ·rw[vd d]at hr;have hr:=vL hr;have eo:ov gs s q=(s-q.2.2)/gs.getD q.1 0:=by
     unfold ov at d|-;split at d
     ·lia
     ·rename_i z;rw[vc z]
    rw[eo]at hr;have dm:=Int.mul_ediv_add_emod (s-q.2.2) (gs.getD q.1 0);have m0:=ve (s-q.2.2) (show gs.getD q.1 0≠0 by lia);have m1:=vf (s-q.2.2) (show 0<gs.getD q.1 0 by lia);rw[Int.mul_comm]at dm;show 0<=r/\r<gs.getD q.1 0;lia
   ·rw[vc d]at hr;cases hr
 ·rw[vc c]at e;cases e
end
structure Tl where
 st:Addr
 t:Ta
 w:Addr
 wa:List Addr
noncomputable def fldL(z:Tl)(last:Int)(o:Option Int):List (Str×V):=putF "wholes" (.ref z.w) (putF "asked" (optV o) (putF "last" (.int last) (putF "strand" (.ref z.st) [])))
section
variable{z:Tl}{last:Int}{o:Option Int}
theorem Ky:(fldL z last o).lookup ("wholes" : Str)=some (.ref z.w):=qi
theorem Wk:(fldL z last o).lookup ("asked" : Str)=some (optV o):=(jH (by decide +kernel)).trans qi
theorem wH:(fldL z last o).lookup ("last" : Str)=some (.int last):=(jH (by decide +kernel)).trans ((jH (by decide +kernel)).trans qi)
theorem qL:(fldL z last o).lookup ("strand" : Str)=some (.ref z.st):=(jH (by decide +kernel)).trans ((jH (by decide +kernel)).trans ((jH (by decide +kernel)).trans qi))
theorem xt:(fldL z last o).lookup ("within" : Str)=none:=(jH (by decide +kernel)).trans ((jH (by decide +kernel)).trans ((jH (by decide +kernel)).trans (jH (by decide +kernel))))
theorem kC:(fldL z last o).lookup ("ahead" : Str)=none:=(jH (by decide +kernel)).trans ((jH (by decide +kernel)).trans ((jH (by decide +kernel)).trans (jH (by decide +kernel))))
end
def WhAt(H:Hp)(wa:List Addr)(B:List Tb)(W:Nat->Int->Int)(n:Nat):Prop:=wa.length=n/\∀i a,wa[i]?=some a->∃kvs,H a=some (.dK kvs)/\∀h,Has B i h->valV kvs (Sum.inl h)=some (.int (W i h))
theorem WhAt.same{H H':Hp}{wa:List Addr}{B:List Tb}{W:Nat->Int->Int}{n:Nat}(h:WhAt H wa B W n)(s:Same H H'):WhAt H' wa B W n:=⟨h.1,fun i a ha=>by
 obtain⟨kvs,h1,h2⟩:=h.2 i a ha;exact⟨kvs,s _ _ h1,h2⟩⟩
structure LtA(C Cs:Addr)(H:Hp)(a:Addr)(z:Tl)(o:Option Int)(ls:List (Str×Int))(ps:List (Str×Fm))(gs:List Int)(E:List (List (Int×Int)))(k:Nat)(f:Int)(B:List Tb)(n:Nat):Prop where
 ob:∃dx,H a=some (.ins C dx (fldL z (gs.getD (ps.length-1) 0) o))
 st:StrAt Cs H z.st z.t f (lvE E (k:Nat)) gs (fPc ps gs (lvE E (k:Nat))) B
 w:H z.w=some (.lst (z.wa.map V.ref))
 wd:WhAt H z.wa B (whT (hT ls ps gs E k) gs (wA o)) n
theorem LtA.same{C Cs:Addr}{H H':Hp}{a:Addr}{z:Tl}{o:Option Int}{ls:List (Str×Int)}{ps:List (Str×Fm)}{gs:List Int}{E:List (List (Int×Int))}{k:Nat}{f:Int}{B:List Tb}{n:Nat}(A:LtA C Cs H a z o ls ps gs E k f B n)(s:Same H H'):LtA C Cs H' a z o ls ps gs E k f B n:=
 ⟨A.ob.imp fun dx h=>s _ _ h,A.st.same s,s _ _ A.w,A.wd.same s⟩
noncomputable def RstAt(H:Hp)(v:V):Option (Nat×Int×Int)->Prop
 | none=>v = .non
 | some y=>∃c,v = .ref c/\H c=some (.tup [.int (y.1:Nat),.int y.2.1,.int y.2.2])
inductive sp_withinL(C Cs:Addr)(vs:List V)(H:Hp)(Q:VK)(xk:XK):Prop
 | mk (a:Addr) (z:Tl) (o:Option Int) (ls:List (Str×Int)) (ps:List (Str×Fm)) (gs:List Int) (hs:List (List Int)) (E:List (List (Int×Int))) (k:Nat) (x:Str) (f:Int) (B:List Tb) (n i:Nat) (h s:Int) (_:vs=[.ref a,.int (i:Nat),.int h,.int s]) (_:LtA C Cs H a z o ls ps gs E k f B n) (_:LtO ls ps gs hs E k x f B) (_:AskOk o) (_:i<=n) (_:i<ps.length) (_:Has B i h) (_:0<=s) (_:s<=gs.getD i 0+1) (_:∀(r:Addr) (v:V) (told:Int) (y:Option (Nat×Int×Int)) (H':Hp),Same H H'->H' r=some (.tup [.int told,v])->RstAt H' v y->resT (hT ls ps gs E k) (wA o) (told,y)=smB (fun j=>wA o (hT ls ps gs E k i h j)) s.toNat->(∀u,y=some u->u.1<i/\Has B u.1 u.2.1/\0<=u.2.2/\u.2.2<=gs.getD u.1 0)->(s=gs.getD i 0->y=none)->Q (.ref r) H'):sp_withinL C Cs vs H Q xk
inductive sp_initL(C Cs:Addr)(vs:List V)(H:Hp)(Q:VK)(xk:XK):Prop
 | mk (a dx b pl pp:Addr) (las pas:List Addr) (ls:List (Str×Int)) (ps:List (Str×Fm)) (gs:List Int) (hs:List (List Int)) (x:Str) (f:Int) (k:Nat) (o:Option Int) (_:vs=[.ref a,.ref b,.str x,optV o]) (_:H a=some (.ins C dx [])) (_:BookAt H b pl pp las pas ls ps) (_:Sn ls ps gs hs) (_:ls[k]?=some (x,f)) (_:AskOk o) (_:∀(z:Tl) (E:List (List (Int×Int))) (B:List Tb) (H':Hp),(∀c u,c≠a->H c=some u->H' c=some u)->LtO ls ps gs hs E k x f B->LtA C Cs H' a z o ls ps gs E k f B ps.length->Q .non H'):sp_initL C Cs vs H Q xk
inductive sp_aheadL(C Cs:Addr)(vs:List V)(H:Hp)(Q:VK)(xk:XK):Prop
 | mk (a:Addr) (z:Tl) (o:Option Int) (ls:List (Str×Int)) (ps:List (Str×Fm)) (gs:List Int) (hs:List (List Int)) (E:List (List (Int×Int))) (k:Nat) (x:Str) (f:Int) (B:List Tb) (t:Int) (_:vs=[.ref a,.int t]) (_:LtA C Cs H a z o ls ps gs E k f B ps.length) (_:LtO ls ps gs hs E k x f B) (_:AskOk o) (_:0<=t) (_:t<=gs.getD (ps.length-1) 0+1) (_:∀H',Same H H'->Q (.int (smB (fun j=>wA o ((standH ls ps gs E j).getD k 0)) t.toNat)) H'):sp_aheadL C Cs vs H Q xk
theorem StrAt.less{C Cs:Addr}{H:Hp}{a so dx:Addr}{z:Ta}{f:Int}{L:List (Option Int)}{gs:List Int}{PC:List (List Pc)}{B:List Tb}(ha:H a=some (.ins C dx []))(A:StrAt Cs H so z f L gs PC B) :
  ∃H0:Hp,(∀H',(∀c u,c≠a->H c=some u->H' c=some u)->Same H0 H')/\(∀{c u},H0 c=some u->c≠a)/\StrAt Cs H0 so z f L gs PC B:=by
 have kt:∀{c:Addr} {xs:List V},H c=some (.tup xs)->(fun c=>if c=a then none else H c) c=some (.tup xs):=fun {c xs} h=>by
  show(if c=a then none else H c)=_;rw[vc (fun z=>by rw[z,ha]at h;cases h)];exact h
 have kl:∀{c:Addr} {xs:List V},H c=some (.lst xs)->(fun c=>if c=a then none else H c) c=some (.lst xs):=fun {c xs} h=>by
  show(if c=a then none else H c)=_;rw[vc (fun z=>by rw[z,ha]at h;cases h)];exact h
 refine⟨fun c=>if c=a then none else H c,fun H' k c u h=>?_,fun {c u} h z=>?_,?_⟩
 ·have h:(if c=a then none else H c)=some u:=h;by_cases e:c=a
  ·rw[vd e]at h;cases h
  ·rw[vc e]at h;exact k c u e h
 ·have h:(if c=a then none else H c)=some u:=h;rw[vd z]at h;cases h
 ·refine⟨?_,kl A.hs,kl A.hl,kl A.hp,All2.mono A.pa fun a e ⟨bs,h1,h2⟩=>⟨bs,kl h1,All2.mono h2 fun b q h=>kt h⟩,kl A.hb,All2.mono A.ba fun c k ⟨o,h⟩=>⟨o,by
   show(if c=a then none else H c)=_;rw[vc (fun z=>by rw[z,ha]at h;cases h)];exact h⟩⟩
  obtain⟨dy,h⟩:=A.ob;refine⟨dy,?_⟩;show(if so=a then none else H so)=_;rw[vc (fun e=>?_)]
  ·exact h
  ·rw[e,ha]at h;have:=congrArg (fun o:Option HO=>match o with | some (.ins _ _ fs)=>fs.length | _=>0) h;have h2:(0:Nat)=(fldT z f).length:=this;have h3:=@j0n z f;rw[List.length_eq_zero_iff.mp h2.symm]at h3;cases h3
section
variable(ls:List (Str×Int))(ps:List (Str×Fm))(gs:List Int)(E:List (List (Int×Int)))(k:Nat)(o:Option Int)
noncomputable def tlN(t:Int):Int:=smB (fun j=>wA o ((standH ls ps gs E j).getD k 0)) t.toNat
end
section
variable{ls:List (Str×Int)}{ps:List (Str×Fm)}{gs:List Int}{hs:List (List Int)}{E E':List (List (Int×Int))}{k:Nat}{x:Str}{f:Int}{B:List Tb}{o:Option Int}
theorem j2L:tlN ls ps gs E k o 0=0:=rfl
theorem X4{t:Int}(t0:0<=t):tlN ls ps gs E k o (t+1)=tlN ls ps gs E k o t+wA o ((standH ls ps gs E t).getD k 0):=by
 unfold tlN;rw[show(t+1).toNat=t.toNat+1 by lia];show smB _ t.toNat+wA o ((standH ls ps gs E ((t.toNat:Nat):Int)).getD k 0)=_;rw[show((t.toNat:Nat):Int)=t by lia]
theorem Yx{c:Int}(a b:Int)(a0:0<=a)(h:a<=b):tlN ls ps gs E k (some c) a<=tlN ls ps gs E k (some c) b:=by
 obtain⟨n,rfl⟩:∃n:Nat,b=a+(n:Int):=⟨(b-a).toNat,by lia⟩
 clear h
 induction n with
 | zero=>rw[show a+((0:Nat):Int)=a by lia];exact vA _
 | succ n ih=>
  rw[show a+((n+1:Nat):Int)=a+(n:Int)+1 by lia,X4 (by lia)];have:0<=wA (some c) ((standH ls ps gs E (a+(n:Int))).getD k 0):=by
   show 0<=(if _ then(1:Int)else 0);split<;>decide
  lia
theorem j66{c:Int}{a b j:Int}(a0:0<=a)(h1:a<=j)(h2:j<b)(e:(standH ls ps gs E j).getD k 0=c):tlN ls ps gs E k (some c) a<tlN ls ps gs E k (some c) b:=by
 have x1:=Yx (ls:=ls) (ps:=ps) (gs:=gs) (E:=E) (k:=k) (c:=c) a j a0 h1;have x2:=Yx (ls:=ls) (ps:=ps) (gs:=gs) (E:=E) (k:=k) (c:=c) (j+1) b (by lia) (by lia);have x3:=X4 (ls:=ls) (ps:=ps) (gs:=gs) (E:=E) (k:=k) (o:=some c) (t:=j) (by lia);rw[e]at x3;have:wA (some c) c=1:=vd rfl;lia
end
inductive sp_countL(vs:List V)(H:Hp)(Q:VK)(xk:XK):Prop
 | mk (b pl pp:Addr) (las pas:List Addr) (ls:List (Str×Int)) (ps:List (Str×Fm)) (gs:List Int) (hs:List (List Int)) (x:Str) (f:Int) (k:Nat) (c t:Int) (_:vs=[.ref b,.str x,.int c,.int t]) (_:BookAt H b pl pp las pas ls ps) (_:Sn ls ps gs hs) (_:ls[k]?=some (x,f)) (_ : -10^60<=c) (_:c<=10^60) (_:0<=t) (_:t<=gs.getD (ps.length-1) 0+1) (_:∀(E:List (List (Int×Int))) (H':Hp),Same H H'->E.length=ps.length->EndOk ls ps E->Q (.int (tlN ls ps gs E k (some c) t)) H'):sp_countL vs H Q xk
def BeatL(ls:List (Str×Int))(ps:List (Str×Fm))(gs:List Int)(E:List (List (Int×Int)))(k:Nat)(c n:Int)(v:V):Prop:=(¬(0<=n/\n<tlN ls ps gs E k (some c) (gs.getD (ps.length-1) 0+1))/\v = .non)\/(0<=n/\n<tlN ls ps gs E k (some c) (gs.getD (ps.length-1) 0+1))/\∃b:Int,v = .int b/\0<=b/\b<=gs.getD (ps.length-1) 0/\tlN ls ps gs E k (some c) b<=n/\n<tlN ls ps gs E k (some c) (b+1)
inductive sp_beatL(C Cs:Addr)(vs:List V)(H:Hp)(Q:VK)(xk:XK):Prop
 | mk (a:Addr) (z:Tl) (ls:List (Str×Int)) (ps:List (Str×Fm)) (gs:List Int) (hs:List (List Int)) (E:List (List (Int×Int))) (k:Nat) (x:Str) (f:Int) (B:List Tb) (c n:Int) (_:vs=[.ref a,.int n]) (_:LtA C Cs H a z (some c) ls ps gs E k f B ps.length) (_:LtO ls ps gs hs E k x f B) (_:AskOk (some c)) (_:∀(v:V) (H':Hp),Same H H'->BeatL ls ps gs E k c n v->Q v H'):sp_beatL C Cs vs H Q xk
def FirstR(ls:List (Str×Int))(ps:List (Str×Fm))(gs:List Int)(E:List (List (Int×Int)))(k:Nat)(c t:Int)(v:V):Prop:=(v = .non/\tlN ls ps gs E k (some c) (gs.getD (ps.length-1) 0+1)=tlN ls ps gs E k (some c) t)\/∃b:Int,v = .int b/\t<=b/\b<=gs.getD (ps.length-1) 0/\(standH ls ps gs E b).getD k 0=c/\tlN ls ps gs E k (some c) b=tlN ls ps gs E k (some c) t
theorem BeatL.first{ls:List (Str×Int)}{ps:List (Str×Fm)}{gs:List Int}{E:List (List (Int×Int))}{k:Nat}{c t:Int}{v:V}(t0:0<=t)(t1:t<=gs.getD (ps.length-1) 0)(h:BeatL ls ps gs E k c (tlN ls ps gs E k (some c) t) v):FirstR ls ps gs E k c t v:=by
 have nn:=Yx (ls:=ls) (ps:=ps) (gs:=gs) (E:=E) (k:=k) (c:=c) 0 t (vA _) t0;rw[j2L]at nn;rcases h with⟨h,e⟩ | ⟨h,b,e,b0,b1,r1,r2⟩
 ·have:=Yx (ls:=ls) (ps:=ps) (gs:=gs) (E:=E) (k:=k) (c:=c) t (gs.getD (ps.length-1) 0+1) t0 (by lia);exact .inl ⟨e,by lia⟩
 ·have tb:t<=b:=by
   rcases Int.lt_or_le b t with z | z
   ·have:=Yx (ls:=ls) (ps:=ps) (gs:=gs) (E:=E) (k:=k) (c:=c) (b+1) t (by lia) (by lia);lia
   ·exact z
  have m:=Yx (ls:=ls) (ps:=ps) (gs:=gs) (E:=E) (k:=k) (c:=c) t b t0 tb;have st:=X4 (ls:=ls) (ps:=ps) (gs:=gs) (E:=E) (k:=k) (o:=some c) (t:=b) b0;have:(standH ls ps gs E b).getD k 0=c:=by
   by_cases z:(standH ls ps gs E b).getD k 0=c
   ·exact z
   ·have:wA (some c) ((standH ls ps gs E b).getD k 0)=0:=vc z;lia
  exact .inr ⟨b,e,tb,b1,this,by lia⟩
inductive sp_firstL(vs:List V)(H:Hp)(Q:VK)(xk:XK):Prop
 | mk (b pl pp:Addr) (las pas:List Addr) (ls:List (Str×Int)) (ps:List (Str×Fm)) (gs:List Int) (hs:List (List Int)) (x:Str) (f:Int) (k:Nat) (c t:Int) (_:vs=[.ref b,.str x,.int c,.int t]) (_:BookAt H b pl pp las pas ls ps) (_:Sn ls ps gs hs) (_:ls[k]?=some (x,f)) (_ : -10^60<=c) (_:c<=10^60) (_:0<=t) (_:t<=gs.getD (ps.length-1) 0) (_:∀(v:V) (E:List (List (Int×Int))) (H':Hp),Same H H'->E.length=ps.length->EndOk ls ps E->FirstR ls ps gs E k c t v->Q v H'):sp_firstL vs H Q xk
section
variable{ls:List (Str×Int)}{ps:List (Str×Fm)}{gs:List Int}{hs:List (List Int)}{E E':List (List (Int×Int))}{k:Nat}{x:Str}{f:Int}
theorem endU(W:WfB ls ps)(lE:E.length=ps.length)(oE:EndOk ls ps E)(lE':E'.length=ps.length)(oE':EndOk ls ps E'):E'=E:=by
 refine ext_getElem (by lia) fun i h1 h2=>?_
 have:=j5n W rfl (show ps=ps.take ps.length from(v3).symm) (fun _ _ _ _=>rfl) oE oE' lE lE' (vb _) i (by lia);rw[vy,vy,vz h1,vz h2]at this
 first | exact this | exact this.symm
theorem stand0(N:Sn ls ps gs hs)(lE:E.length=ps.length)(oE:EndOk ls ps E)(hk:ls[k]?=some (x,f)):(standH ls ps gs E 0).getD k 0=f:=by
 have ne:=N.ne;rw[KW N lE oE hk,j5v (N.lm lE oE) _ (by lia)]
theorem standI(N:Sn ls ps gs hs)(lE:E.length=ps.length)(oE:EndOk ls ps E)(hk:ls[k]?=some (x,f)){t:Int}(t0:0<=t):0<=(standH ls ps gs E t).getD k 0/\(standH ls ps gs E t).getD k 0<=10^18:=by
 have ne:=N.ne;rw[KW N lE oE hk t];exact foI N lE oE (fun x hx=>⟨Kb N.s.w (by lia) hx,xJ N (by lia) t0 hx⟩) (N.l18 _ (vm hk))
theorem FirstR.by'{c t j:Int}{v:V}(t0:0<=t)(h1:t<=j)(h2:j<=gs.getD (ps.length-1) 0)(e:(standH ls ps gs E j).getD k 0=c)(R:FirstR ls ps gs E k c t v):∃b:Int,v = .int b/\t<=b/\b<=j:=by
 rcases R with⟨_,z⟩ | ⟨b,rfl,tb,bl,sb,eb⟩
 ·have:=j66 (ls:=ls) (ps:=ps) (gs:=gs) (E:=E) (k:=k) (b:=gs.getD (ps.length-1) 0+1) t0 h1 (by lia) e;lia
 ·refine⟨b,rfl,tb,?_⟩;rcases Int.lt_or_le j b with z | z
  ·have:=j66 (ls:=ls) (ps:=ps) (gs:=gs) (E:=E) (k:=k) (b:=b) t0 h1 z e;lia
  ·exact z
end
inductive sp_rightL(vs:List V)(H:Hp)(Q:VK)(xk:XK):Prop
 | mk (b pl pp:Addr) (las pas:List Addr) (ls:List (Str×Int)) (ps:List (Str×Fm)) (gs:List Int) (hs:List (List Int)) (E:List (List (Int×Int))) (x:Str) (f:Int) (k:Nat) (c t:Int) (v:V) (_:vs=[.ref b,.str x,.int c,.int t,v,.int (gs.getD (ps.length-1) 0)]) (_:BookAt H b pl pp las pas ls ps) (_:Sn ls ps gs hs) (_:E.length=ps.length) (_:EndOk ls ps E) (_:ls[k]?=some (x,f)) (_ : -10^60<=c) (_:c<=10^60) (_:0<=t) (_:t<=gs.getD (ps.length-1) 0) (_:FirstR ls ps gs E k c t v) (_:∀H',Same H H'->Q (.bl true) H'):sp_rightL vs H Q xk
end Rm
namespace L2
inductive IvA2(a0 a1:Prop):Prop | mk:a0->a1->IvA2 a0 a1
inductive IvA3(a0 a1 a2:Prop):Prop | mk:a0->a1->a2->IvA3 a0 a1 a2
inductive IvA4(a0 a1 a2 a3:Prop):Prop | mk:a0->a1->a2->a3->IvA4 a0 a1 a2 a3
inductive IvA5(a0 a1 a2 a3 a4:Prop):Prop | mk:a0->a1->a2->a3->a4->IvA5 a0 a1 a2 a3 a4
inductive IvA6(a0 a1 a2 a3 a4 a5:Prop):Prop | mk:a0->a1->a2->a3->a4->a5->IvA6 a0 a1 a2 a3 a4 a5
inductive IvA7(a0 a1 a2 a3 a4 a5 a6:Prop):Prop | mk:a0->a1->a2->a3->a4->a5->a6->IvA7 a0 a1 a2 a3 a4 a5 a6
inductive IvA9(a0 a1 a2 a3 a4 a5 a6 a7 a8:Prop):Prop | mk:a0->a1->a2->a3->a4->a5->a6->a7->a8->IvA9 a0 a1 a2 a3 a4 a5 a6 a7 a8
inductive IvE1{α0:Type}(p:α0->Prop):Prop | mk (x0) (h:p x0):IvE1 p
inductive IvE2{α0 α1:Type}(p:α0->α1->Prop):Prop | mk (x0 x1) (h:p x0 x1):IvE2 p
inductive IvE3{α0 α1 α2:Type}(p:α0->α1->α2->Prop):Prop | mk (x0 x1 x2) (h:p x0 x1 x2):IvE3 p
inductive IvE4{α0 α1 α2 α3:Type}(p:α0->α1->α2->α3->Prop):Prop | mk (x0 x1 x2 x3) (h:p x0 x1 x2 x3):IvE4 p
inductive IvE5{α0 α1 α2 α3 α4:Type}(p:α0->α1->α2->α3->α4->Prop):Prop | mk (x0 x1 x2 x3 x4) (h:p x0 x1 x2 x3 x4):IvE5 p
inductive IvE6{α0 α1 α2 α3 α4 α5:Type}(p:α0->α1->α2->α3->α4->α5->Prop):Prop | mk (x0 x1 x2 x3 x4 x5) (h:p x0 x1 x2 x3 x4 x5):IvE6 p
inductive IvE7{α0 α1 α2 α3 α4 α5 α6:Type}(p:α0->α1->α2->α3->α4->α5->α6->Prop):Prop | mk (x0 x1 x2 x3 x4 x5 x6) (h:p x0 x1 x2 x3 x4 x5 x6):IvE7 p
inductive IvE8{α0 α1 α2 α3 α4 α5 α6 α7:Type}(p:α0->α1->α2->α3->α4->α5->α6->α7->Prop):Prop | mk (x0 x1 x2 x3 x4 x5 x6 x7) (h:p x0 x1 x2 x3 x4 x5 x6 x7):IvE8 p
inductive IvE9{α0 α1 α2 α3 α4 α5 α6 α7 α8:Type}(p:α0->α1->α2->α3->α4->α5->α6->α7->α8->Prop):Prop | mk (x0 x1 x2 x3 x4 x5 x6 x7 x8) (h:p x0 x1 x2 x3 x4 x5 x6 x7 x8):IvE9 p
inductive IvE10{α0 α1 α2 α3 α4 α5 α6 α7 α8 α9:Type}(p:α0->α1->α2->α3->α4->α5->α6->α7->α8->α9->Prop):Prop | mk (x0 x1 x2 x3 x4 x5 x6 x7 x8 x9) (h:p x0 x1 x2 x3 x4 x5 x6 x7 x8 x9):IvE10 p
end L2
theorem L2.fsc{N P:List PySem.Str}{sc:PySem.Scope}(a:sc.kind = .function:=by rfl)(b:sc.isCoroutine=false:=by rfl)(c:sc.isGenerator=false:=by rfl)(d:N.Nodup:=by decide +kernel)(e:N.take P.length=P:=by rfl)(f:∀x∈P,sc.names.lookup x=some .local\/sc.names.lookup x=some .cell:=by decide +kernel)(g:∀y∈sc.names,y.2≠.free:=by decide +kernel):L2.FnScope N P sc:=⟨a,b,c,d,e,f,g⟩
structure PySem.W.Fast:Prop where
  (tw18229868844658417339 tw4248671881307554044 tw8784911275100651264 tw14146799181171604432 tw1136627926627249537 tw16733398216715718314 tw1480674477657883699 tw6483509592867332691 tw14405322216056294441 tw16315224821294458599 tw9912025178457397961 tw1986795599402980666 tw9658347447187560676 tw743946171197191212 tw3643378641303624631 tw7549791855215957120 tw9060374232801163912 tw1552441610589431622 tw4728019272660152823 tw13202680759836858972 tw7781439917231094503 tw17647166387182191935 tw5587886423045751843 tw2338384539640297149 tw113221256109529717 tw10050149103987842029 tw6332716777559048151 tw17237348531712414472 tw10784076578296615945 tw17955191158467528857 tw4570131128089890661 tw5983135735006507405 tw14099808644353330319 tw16610843567881321196 tw12957111924045065439 tw15564069361472010974 tw611025891491238920 tw12782708897033416829 tw12344650472416339453 tw4024038369295083195 tw3978306172976869944 tw10211424991033110370 tw3634738571972075649 tw15926858819360158461 tw12627963458848076650 tw12439011336004851741 tw11291928404661109492 tw10628647264646609624 tw10739038900589121977 tw6489123102609385747 tw12641318021219999963 tw12900942039747965239 tw408421318669072541 tw3008263629526129055 tw7319809467048858910 tw7470334277845304934 tw838883258665167663 tw2717746694481868232 tw16746760623510730189 tw1589247610188026968 tw10301014530395807214 tw10258443996013377975 tw17524844740391148252 tw18269290321485642353 tw12646907701383303774 tw2482256395782238558 tw5873529629246423619 tw9891596627387053970 tw3397121735194335504 tw6586044165638860685 tw14758390306334175122 tw12906140201932647697 tw8055894923783534354 tw3663778840084966482 tw6487256063045940667 tw15357837660048711455 tw17186407504797089504 tw1736928354403952752 tw2204523386333212801 tw13700524197255247335 tw7406947343618706145 tw2599617103483785116 tw4369359765336329289 tw13540841249080050964 tw12382579102013077219 tw860640323893016892 tw17809287342932520242 tw12439586078848913814 tw15499832995906274424 tw200247916158560401 tw4229576269904209373 tw10604826311587331197 tw70124119119131495 tw14445838039541380066 tw1423787520184951660 tw13063627831081959779 tw4359130850154855703 tw11603790295624310024 tw4156568041095169074 tw9666409468383193908 tw4252939675496149174 tw12793581661455494766 tw12750663307219646448 tw18296829294841213064 tw10763189717841054048 tw10625508639923652989 tw581743044695452272 tw16743837821525683089 tw13209257201264890297 tw6791147781919341860 tw14689384647220064632 tw8662062077264095780 tw13851670928418664312 tw14934075805906018248 tw9587722476549600364 tw1310625551847794521 tw4006370985117158413 tw13476962262271498953 tw10039462026471042035 tw9822961387242104392 tw12100217142391940422 tw17461685233606119653 tw14805138353453994649 tw11291791748613224979 tw10054139072586844045 tw12623266176287919980 tw7837942190457830205 tw9206589583434398394 tw9185460990910704076 tw12285312155482232121 tw8451321271615780242 tw2038190513159523550 tw11458075515098832037 tw14929646190058962806 tw4707118928459984323 tw2386429117416415041 tw116507498662776655 tw15652801044977183863 tw17189697804144157845 tw16959182140797193802 tw12432750699159346753 tw8877879630289384886 tw15169629342990644227 tw3435355966585749153 tw4693198023910078 tw4108778592760190976 tw8683934139565781180 tw3985577443968083804 tw8736064665536245373 tw12727289444732236117 tw8305054689179277844 tw2794188574927220198 tw398898460613946400 tw11248879478896393757 tw11628792766184461634 tw6555851976378491386 tw8310786017561523345 tw5325709135594188049 tw15199717210790424286 tw13789621738917984648 tw1512125862727584192 tw13786535313690641549 tw11347056435220713030 tw12444639877160889661 tw13058103943605535838 tw10054347474860094433 tw6370089432557704862 tw11892768786797761447 tw10043507469346009035 tw4318696090127038706 tw5852012801403148087 tw16569159623527043114 tw3344176702817141867 tw17347209422073771771 tw10332477353998819156 tw15233141412211813201 tw14648902532578247772 tw903668174238957788 tw197495711620349910 tw6353873072918822898 tw99628719368592720 tw13046858362847043422 tw10347781536291679598 tw3082655111235715210 tw11199264980555997367 tw3019253437541264767 tw13148817180377778622 tw3781951132194529800 tw528687775874876004 tw10750555692681129321 tw2729610360635201059 tw15325148074527226496 tw9503990795746468625 tw7617169845752430329 tw4963560165446751156 tw4599439269850861088 tw8006604054910804339 tw9707407425641881009 tw3070170151631449619 tw1010523231122315179 tw3915144833725137137 tw9407514777978905323 tw17338793353592813436 tw1299325118732467855 tw4469681871976981314 tw5431247732907172136 tw7636933956753880168 tw9399388411424578011 tw5902724071876359591 tw14184661961804274325 tw15245822373271481271 tw8815399019942315689 tw5426893881300728994 tw3035946535127841528 tw3714890852594780175 tw281006482862711989 tw2336212791574637678 tw16392490377494790439 tw15913244788580635036 tw16747378264171600939 tw736293970362200950 tw3456558714734897609 tw4889881806538892364 tw13755433943656625612 tw11170663217245976181 tw449697676495327120 tw2886451766681814556 tw559991399759119320 tw904797444501115466 tw15018280213839821217 tw5438972213971853217 tw11878334234461526467 tw16545619139255511705 tw8583038858061871794 tw5072255643096275217 tw11484603920976853526 tw4479381810594841450 tw17328193184520041959 tw1759278491946105072 tw6388447943565355784 tw17029503820727710330 tw15749332580531701346 tw14999355013673624444 tw10674255405328216541 tw835120451885272082 tw6903417320839812460 tw1204816866695826140 tw87036981735009947 tw14500651830860357054 tw4720397627301409008 tw6546691046888844107 tw215594833991567748 tw16388419063942756582 tw16578309753934938518 tw10858898835329122467 tw13085443575845031018 tw16968709514704618834 tw8283931024640448703 tw7838605908269451139 tw4131194436276128969 tw8232745963577122158 tw8200999147333299264 tw6134517184909581187 tw5502574029897994038 tw13871205805057515079 tw3462180364751757639 tw16318813430156529352 tw1896730964390742683 tw9746269434733646700 tw17737959780028890978 tw6373204132869302230 tw3330204991008920567 tw3420012295079292017 tw1386417097830330753 tw4666356231655773321:True)
theorem Rm.iteE0{b:Bool}{A B:Prop}(h:B)(e:b=false:=by decide +kernel):if b=true then A else B:=Rm.iteB0 e h
theorem Rm.iteE1{b:Bool}{A B:Prop}(h:A)(e:b=true:=by decide +kernel):if b=true then A else B:=Rm.iteB1 e h
namespace K27
open PySem L2 Rm
noncomputable def top(i:Nat):Stmt:=PySem.Challenge.pw_camplay_k27_whole_first_stands.main.body.getD i (.Pass ⟨0,0,0,0⟩)
noncomputable abbrev XU:Stmt:=top 0
theorem j6X:FnScope ["k"] ["k"] (defScope XU):=fsc
noncomputable abbrev yE:Stmt:=top 9
theorem zt:FnScope ["named","numbers","number","one"] ["named"] (defScope yE):=fsc
noncomputable abbrev Y6:Stmt:=top 10
theorem j0Q:FnScope ["form"] ["form"] (defScope Y6):=fsc
noncomputable abbrev wR:Stmt:=top 12
theorem Yj:FnScope ["book","numbers","found","name","form"] ["book"] (defScope wR):=fsc
noncomputable abbrev j1O:Stmt:=top 13
theorem ZJ:FnScope ["book","limbs","found","part","inside","form","left","other"] ["book"] (defScope j1O):=fsc
noncomputable abbrev wS:Stmt:=top 14
theorem WG:FnScope ["book","found","left"] ["book"] (defScope wS):=fsc
noncomputable abbrev Za:Stmt:=top 15
theorem ZQ:FnScope ["row","moves","limbs","number","limb"] ["row","moves","limbs"] (defScope Za):=fsc
noncomputable abbrev Yh:Stmt:=top 16
theorem XY:FnScope ["form","inside"] ["form","inside"] (defScope Yh):=fsc
noncomputable abbrev Z9:Stmt:=top 17
theorem Qv:FnScope ["book","moves","found","row","inside","form","length"] ["book"] (defScope Z9):=fsc
noncomputable abbrev Yg:Stmt:=top 19
theorem JN:FnScope ["many","top","plus","bottom","total","slope","reach"] ["many","top","plus","bottom"] (defScope Yg):=fsc
noncomputable abbrev j1P:Stmt:=top 21
theorem j5Q:FnScope ["start","goal","beats","j"] ["start","goal","beats","j"] (defScope j1P):=fsc
noncomputable abbrev Y8:Stmt:=top 22
theorem j0R:FnScope ["start","goal","beats","many"] ["start","goal","beats","many"] (defScope Y8):=fsc
noncomputable abbrev KP:Stmt:=top 23
theorem j1Q:FnScope ["start","goal","beats","height"] ["start","goal","beats","height"] (defScope KP):=fsc
noncomputable abbrev KQ:Stmt:=top 24
theorem yG:FnScope ["start","goal","beats","height","many","beyond","first","behind"] ["start","goal","beats","height","many"] (defScope KQ):=fsc
noncomputable abbrev yF:Stmt:=top 25
theorem YL:FnScope ["start","goal","beats","height","many","found"] ["start","goal","beats","height","many"] (defScope yF):=fsc
noncomputable abbrev Yi:Stmt:=top 27
theorem qD:FnScope ["form","inside","sizes","part","later","found","begin"] ["form","inside","sizes"] (defScope Yi):=fsc
noncomputable abbrev ZI:Stmt:=top 28
theorem XZ:FnScope ["book","sizes"] ["book","sizes"] (defScope ZI):=fsc
noncomputable abbrev Y7:Stmt:=top 29
theorem qZ:FnScope ["pieces","sizes","gone","found","part","turns","begin","over","rest"] ["pieces","sizes","gone"] (defScope Y7):=fsc
noncomputable abbrev Qp:Stmt:=top 30
theorem Jc:FnScope ["pieces","left","first","found","part","height","now","other","turns","begin"] ["pieces","left","first"] (defScope Qp):=fsc
noncomputable abbrev qf:Stmt:=(inClass (top 31) 0)
theorem qC:FnScope ["self","book","name","limb","left","inside"] ["self","book","name"] (defScope qf):=fsc
noncomputable abbrev zM:Stmt:=(inClass (top 31) 1)
theorem KS:FnScope ["self","part"] ["self","part"] (defScope zM):=fsc
noncomputable abbrev KR:Stmt:=top 33
theorem j1R:FnScope ["asked","start","goal","beats","many"] ["asked","start","goal","beats","many"] (defScope KR):=fsc
noncomputable abbrev WE:Stmt:=top 34
theorem j3D:FnScope ["asked","height","many"] ["asked","height","many"] (defScope WE):=fsc
noncomputable abbrev qe:Stmt:=(inClass (top 35) 0)
theorem JW:FnScope ["self","book","limb","asked","part","begun","size"] ["self","book","limb","asked"] (defScope qe):=fsc
noncomputable abbrev Qt:Stmt:=(inClass (top 35) 1)
theorem jQ:FnScope ["self","part","height","gone","told","now","other","begin","over","rest"] ["self","part","height","gone"] (defScope Qt):=fsc
noncomputable abbrev Q4:Stmt:=(inClass (top 35) 2)
theorem Jz:FnScope ["self","beat","told","playing","found"] ["self","beat"] (defScope Q4):=fsc
noncomputable abbrev Y5:Stmt:=top 36
theorem j0P:FnScope ["tally","beat"] ["tally","beat"] (defScope Y5):=fsc
noncomputable abbrev Zz:Stmt:=top 37
theorem wE:FnScope ["book","limb","height","beat"] ["book","limb","height","beat"] (defScope Zz):=fsc
noncomputable abbrev KO:Stmt:=top 39
theorem zo:FnScope ["tally","number","low","high","middle"] ["tally","number"] (defScope KO):=fsc
noncomputable abbrev zn:Stmt:=top 40
theorem wp:FnScope ["book","limb","height","beat","tally"] ["book","limb","height","beat"] (defScope zn):=fsc
noncomputable abbrev WF:Stmt:=top 42
theorem Zf:FnScope ["pieces","sizes","gone","found","part","begin","over","rest"] ["pieces","sizes","gone"] (defScope WF):=fsc
noncomputable abbrev qx:Stmt:=(inClass (top 43) 0)
theorem Kd:FnScope ["self","book"] ["self","book"] (defScope qx):=fsc
noncomputable abbrev ZO:Stmt:=(inClass (top 43) 1)
theorem JV:FnScope ["self","beat","starts","playing","todo","now","limb","height"] ["self","beat"] (defScope ZO):=fsc
noncomputable abbrev Qu:Stmt:=(inClass (top 43) 2)
theorem Jf:FnScope ["self","beat","scene","heights","part","gone","form","limb"] ["self","beat"] (defScope Qu):=fsc
noncomputable abbrev zk:Stmt:=(inClass (top 43) 3)
theorem j2F:FnScope ["self","beat"] ["self","beat"] (defScope zk):=fsc
noncomputable abbrev XV:Stmt:=top 44
theorem j4S:FnScope ["book","beat"] ["book","beat"] (defScope XV):=fsc
noncomputable abbrev Zy:Stmt:=top 46
theorem wD:FnScope ["_law_script","_law_k"] ["_law_script","_law_k"] (defScope Zy):=fsc
noncomputable abbrev yA:Stmt:=top 47
theorem W3:FnScope ["_law_cell","_law_k"] ["_law_cell","_law_k"] (defScope yA):=fsc
noncomputable abbrev yD:Stmt:=top 48
theorem W4:FnScope ["_law_found"] ["_law_found"] (defScope yD):=fsc
noncomputable abbrev yz:Stmt:=top 49
theorem YJ:FnScope ["_law_script","_law_j","_law_k","_law_first"] ["_law_script","_law_j","_law_k"] (defScope yz):=fsc
noncomputable abbrev Yf:Stmt:=top 50
theorem XX:FnScope ["_law_place","_law_k"] ["_law_place","_law_k"] (defScope Yf):=fsc
noncomputable abbrev zY:Stmt:=top 51
theorem qk:FnScope ["_law_number","_law_names","_law_movers","_law_kind","_law_some","_law_used","_law_j","_law_at","_law_twice"] ["_law_number","_law_names","_law_movers","_law_kind"] (defScope zY):=fsc
noncomputable abbrev Yb:Stmt:=top 52
theorem Qf:FnScope ["_law_number","_law_names","_law_movers","_law_limbs","_law_bounds","_law_kind","_law_more","_law_beats","_law_at"] ["_law_number","_law_names","_law_movers","_law_limbs","_law_bounds"] (defScope Yb):=fsc
noncomputable abbrev zI:Stmt:=top 53
theorem XW:FnScope ["_law_form_here","_law_known"] ["_law_form_here","_law_known"] (defScope zI):=fsc
noncomputable abbrev yC:Stmt:=top 54
theorem qj:FnScope ["_law_form_here","_law_names","_law_movers","_law_inner","_law_found","_law_name","_law_one"] ["_law_form_here","_law_names","_law_movers"] (defScope yC):=fsc
noncomputable abbrev Yd:Stmt:=top 55
theorem Q5:FnScope ["_law_names","_law_known","_law_most","_law_some","_law_total","_law_name"] ["_law_names","_law_known","_law_most"] (defScope Yd):=fsc
noncomputable abbrev Ye:Stmt:=top 56
theorem Ke:FnScope ["_law_pool","_law_many","_law_found"] ["_law_pool","_law_many"] (defScope Ye):=fsc
noncomputable abbrev Qm:Stmt:=top 57
theorem Jr:FnScope ["_law_pool","_law_kind","_law_names","_law_movers","_law_bounds","_law_times","_law_many","_law_some","_law_used","_law_j","_law_at","_law_twice"] ["_law_pool","_law_kind","_law_names","_law_movers","_law_bounds"] (defScope Qm):=fsc
noncomputable abbrev zm:Stmt:=top 58
theorem qg:FnScope ["_law_pool","_law_names","_law_movers","_law_limbs","_law_bounds","_law_kind","_law_beats","_law_limb","_law_some"] ["_law_pool","_law_names","_law_movers","_law_limbs","_law_bounds"] (defScope zm):=fsc
noncomputable abbrev zl:Stmt:=top 59
theorem jB:FnScope ["_law_script","_law_many","_law_bounds","_law_pool","_law_place","_law_limbs","_law_k","_law_called","_law_ended","_law_names","_law_movers","_law_known","_law_parts","_law_cell","_law_own","_law_form_here","_law_name"] ["_law_script","_law_many","_law_bounds"] (defScope zl):=fsc
noncomputable abbrev Ya:Stmt:=top 60
theorem jY:FnScope ["_law_script","_law_many","_law_bounds","_law_head","_law_limbs","_law_k","_law_height","_law_names","_law_movers","_law_known","_law_parts","_law_number","_law_form_here","_law_name"] ["_law_script","_law_many","_law_bounds"] (defScope Ya):=fsc
noncomputable abbrev zZ:Stmt:=top 61
theorem ZP:FnScope ["_law_book_here","_law_limb","_law_height","_law_beat","_law_found","_law_beats","_law_k","_law_ahead"] ["_law_book_here","_law_limb","_law_height","_law_beat","_law_found","_law_beats"] (defScope zZ):=fsc
noncomputable abbrev j4R:Stmt:=top 62
theorem zp:FnScope ["_law_script","_law_many","_law_book_here","_law_beats","_law_k","_law_limb","_law_j","_law_there","_law_height","_law_beat","_law_found"] ["_law_script"] (defScope j4R):=fsc
set_option genInjectivity false in
set_option genSizeOf false in
structure Ad where
 j23:Addr
 j2a:FuncData
 J0:Addr
 J3:FuncData
 Zm:Addr
 Zp:FuncData
 yk:Addr
 ym:FuncData
 YW:Addr
 YX:FuncData
 kq:Addr
 kB:FuncData
 QQ:Addr
 QW:FuncData
 zB:Addr
 zG:FuncData
 Zc:Addr
 Zd:FuncData
 zA:Addr
 zF:FuncData
 w6:Addr
 Wh:FuncData
 Zn:Addr
 Zq:FuncData
 ZV:Addr
 Z0:FuncData
 ZW:Addr
 Z1:FuncData
 QR:Addr
 QX:FuncData
 zC:Addr
 zH:FuncData
 QB:Addr
 QF:FuncData
 zd:Addr
 zf:FuncData
 qF:Addr
 qI:FuncData
 JF:Addr
 J1:FuncData
 qE:Addr
 qH:FuncData
 ZX:Addr
 Z2:FuncData
 yR:Addr
 yT:FuncData
 j6:Addr
 Jm:FuncData
 Jx:Addr
 Jy:FuncData
 Jp:Addr
 Jq:FuncData
 Zk:Addr
 Zo:FuncData
 qV:Addr
 qX:FuncData
 ZU:Addr
 ZZ:FuncData
 Zl:Addr
 ze:FuncData
 j1V:Addr
 yS:Addr
 yU:FuncData
 JQ:Addr
 qr:FuncData
 Qi:Addr
 Qk:FuncData
 JR:Addr
 JS:FuncData
 ZT:Addr
 ZY:FuncData
 Yn:Addr
 Yq:FuncData
 JC:Addr
 JD:FuncData
 JZ:Addr
 J2:FuncData
 QP:Addr
 QV:FuncData
 QM:Addr
 QS:FuncData
 QA:Addr
 QE:FuncData
 QN:Addr
 QT:FuncData
 zz:Addr
 zE:FuncData
 Qz:Addr
 QD:FuncData
 Qb:Addr
 Qc:FuncData
 Qy:Addr
 QC:FuncData
 qU:Addr
 qW:FuncData
 Qj:Addr
 Ql:FuncData
 qo:Addr
 qu:FuncData
 qm:Addr
 qt:FuncData
 zy:Addr
 zD:FuncData
 QO:Addr
 QU:FuncData
 j24:Addr
 j0e:FuncData
 jN:Addr
 jE:Addr
 Ju:Addr
 Qg:Addr
structure Txt(K:Frg)(mg:Str->Option Value)(t:Ad):Prop where
 j70:Fun K "_wall" "_wall" XU t.j23 t.j2a
 j71:mg "_wall"= some (.ref t.j23)
 j6Z:Binds K t.j2a ["k"] []
 QI:Fun K "numbers_of" "numbers_of" yE t.J0 t.J3
 zW:mg "numbers_of"= some (.ref t.J0)
 zQ:Binds K t.J3 ["named"] []
 wW:Fun K "names_in" "names_in" Y6 t.Zm t.Zp
 j1x:mg "names_in"= some (.ref t.Zm)
 j12:Binds K t.Zp ["form"] []
 wF:Fun K "inner" "inner" wR t.yk t.ym
 Xx:mg "inner"= some (.ref t.yk)
 xU:Binds K t.ym ["book"] []
 xY:Fun K "ends" "ends" j1O t.YW t.YX
 j1w:mg "ends"= some (.ref t.YW)
 j11:Binds K t.YX ["book"] []
 j21:Fun K "moved" "moved" wS t.kq t.kB
 j5z:mg "moved"= some (.ref t.kq)
 j5d:Binds K t.kB ["book"] []
 kj:Fun K "check_side" "check_side" Za t.QQ t.QW
 Xw:mg "check_side"= some (.ref t.QQ)
 xT:Binds K t.QW ["row","moves","limbs"] []
 K5:Fun K "length_of" "length_of" Yh t.zB t.zG
 j0z:mg "length_of"= some (.ref t.zB)
 j00:Binds K t.zG ["form","inside"] []
 Kn:Fun K "lengths" "lengths" Z9 t.Zc t.Zd
 xz:mg "lengths"= some (.ref t.Zc)
 W6:Binds K t.Zd ["book"] []
 K4:Fun K "floor_sum" "floor_sum" Yg t.zA t.zF
 j0y:mg "floor_sum"= some (.ref t.zA)
 X9:Binds K t.zF ["many","top","plus","bottom"] []
 j3M:Fun K "ramp" "ramp" j1P t.w6 t.Wh
 j6r:mg "ramp"= some (.ref t.w6)
 j68:Binds K t.Wh ["start","goal","beats","j"] []
 wX:Fun K "ramp_sum" "ramp_sum" Y8 t.Zn t.Zq
 j1y:mg "ramp_sum"= some (.ref t.Zn)
 j13:Binds K t.Zq ["start","goal","beats","many"] []
 Ko:Fun K "reached" "reached" KP t.ZV t.Z0
 xA:mg "reached"= some (.ref t.ZV)
 W7:Binds K t.Z0 ["start","goal","beats","height"] []
 W9:Fun K "stretch" "stretch" KQ t.ZW t.Z1
 j3m:mg "stretch"= some (.ref t.ZW)
 j2V:Binds K t.Z1 ["start","goal","beats","height","many"] []
 km:Fun K "ramp_count" "ramp_count" yF t.QR t.QX
 Xy:mg "ramp_count"= some (.ref t.QR)
 xV:Binds K t.QX ["start","goal","beats","height","many"] []
 K6:Fun K "pieces_in" "pieces_in" Yi t.zC t.zH
 j0A:mg "pieces_in"= some (.ref t.zC)
 j01:Binds K t.zH ["form","inside","sizes"] []
 yL:Fun K "pieces_of" "pieces_of" ZI t.QB t.QF
 wj:mg "pieces_of"= some (.ref t.QB)
 KZ:Binds K t.QF ["book","sizes"] []
 YS:Fun K "progress" "progress" Y7 t.zd t.zf
 Wr:mg "progress"= some (.ref t.zd)
 wU:Binds K t.zf ["pieces","sizes","gone"] []
 yH:Fun K "heights_begun" "heights_begun" Qp t.qF t.qI
 wz:mg "heights_begun"= some (.ref t.qF)
 wv:Binds K t.qI ["pieces","left","first"] []
 kg:Fun K "__init__" "Strand.__init__" qf t.JF t.J1
 j1C:Meth K t.jN "__init__" t.JF
 ka:Binds K t.J1 ["self","book","name"] []
 wx:Fun K "raises" "Strand.raises" zM t.qE t.qH
 KJ:Meth K t.jN "raises" t.qE
 wu:Binds K t.qH ["self","part"] []
 xa:Fun K "weighed" "weighed" KR t.ZX t.Z2
 j3n:mg "weighed"= some (.ref t.ZX)
 j2W:Binds K t.Z2 ["asked","start","goal","beats","many"] []
 wY:Fun K "stayed" "stayed" WE t.yR t.yT
 j0B:mg "stayed"= some (.ref t.yR)
 j02:Binds K t.yT ["asked","height","many"] []
 yJ:Fun K "__init__" "LimbTally.__init__" qe t.j6 t.Jm
 X6:Meth K t.jE "__init__" t.j6
 zu:Binds K t.Jm ["self","book","limb","asked"] []
 YQ:Fun K "within" "LimbTally.within" Qt t.Jx t.Jy
 zO:Meth K t.jE "within" t.Jx
 Zh:Binds K t.Jy ["self","part","height","gone"] []
 kf:Fun K "ahead" "LimbTally.ahead" Q4 t.Jp t.Jq
 qA:Meth K t.jE "ahead" t.Jp
 qR:Binds K t.Jq ["self","beat"] []
 wV:Fun K "ahead_of" "ahead_of" Y5 t.Zk t.Zo
 j1v:mg "ahead_of"= some (.ref t.Zk)
 j10:Binds K t.Zo ["tally","beat"] []
 QH:Fun K "height_count" "height_count" Zz t.qV t.qX
 Zw:mg "height_count"= some (.ref t.qV)
 Zi:Binds K t.qX ["book","limb","height","beat"] []
 W8:Fun K "beat_of" "beat_of" KO t.ZU t.ZZ
 j3l:mg "beat_of"= some (.ref t.ZU)
 j2U:Binds K t.ZZ ["tally","number"] []
 Zj:FunD K "first_at" "first_at" zn t.j1V t.Zl t.ze
 yu:mg "first_at"= some (.ref t.Zl)
 wT:Binds K t.ze ["book","limb","height","beat"] []
 xW:∃ds,Binds K t.ze ["book","limb","height","beat"] ds/\Vals [.int 0] ds
 j03:Fun K "within" "within" WF t.yS t.yU
 j4f:mg "within"= some (.ref t.yS)
 j3L:Binds K t.yU ["pieces","sizes","gone"] []
 Km:Fun K "__init__" "Stage.__init__" qx t.JQ t.qr
 j2t:Meth K t.Ju "__init__" t.JQ
 Kj:Binds K t.qr ["self","book"] []
 WS:Fun K "scene" "Stage.scene" ZO t.Qi t.Qk
 Wt:Meth K t.Ju "scene" t.Qi
 WQ:Binds K t.Qk ["self","beat"] []
 YR:Fun K "heights_at" "Stage.heights_at" Qu t.JR t.JS
 YB:Meth K t.Ju "heights_at" t.JR
 YO:Binds K t.JS ["self","beat"] []
 j2X:Fun K "words_at" "Stage.words_at" zk t.ZT t.ZY
 j2u:Meth K t.Ju "words_at" t.ZT
 j2T:Binds K t.ZY ["self","beat"] []
 xZ:Fun K "stand" "stand" XV t.Yn t.Yq
 j2s:mg "stand"= some (.ref t.Yn)
 j20:Binds K t.Yq ["book","beat"] []
 Jo:Fun K "_law_cell_at" "_law_cell_at" Zy t.JC t.JD
 JE:mg "_law_cell_at"= some (.ref t.JC)
 JB:Binds K t.JD ["_law_script","_law_k"] []
 JA:Fun K "_law_mixed" "_law_mixed" yA t.JZ t.J2
 JM:mg "_law_mixed"= some (.ref t.JZ)
 JL:Binds K t.J2 ["_law_cell","_law_k"] []
 kh:Fun K "_law_whole" "_law_whole" yD t.QP t.QV
 Xv:mg "_law_whole"= some (.ref t.QP)
 xS:Binds K t.QV ["_law_found"] []
 yd:Fun K "_law_great" "_law_great" yz t.QM t.QS
 kJ:mg "_law_great"= some (.ref t.QM)
 kc:Binds K t.QS ["_law_script","_law_j","_law_k"] []
 zx:Fun K "_law_word" "_law_word" Yf t.QA t.QE
 ZH:mg "_law_word"= some (.ref t.QA)
 ZB:Binds K t.QE ["_law_place","_law_k"] []
 zR:Fun K "_law_named" "_law_named" zY t.QN t.QT
 yp:mg "_law_named"= some (.ref t.QN)
 ya:Binds K t.QT ["_law_number","_law_names","_law_movers","_law_kind"] []
 K2:Fun K "_law_form" "_law_form" Yb t.zz t.zE
 j0x:mg "_law_form"= some (.ref t.zz)
 X8:Binds K t.zE ["_law_number","_law_names","_law_movers","_law_limbs","_law_bounds"] []
 zw:Fun K "_law_long" "_law_long" zI t.Qz t.QD
 ZG:mg "_law_long"= some (.ref t.Qz)
 ZA:Binds K t.QD ["_law_form_here","_law_known"] []
 ye:Fun K "_law_moves" "_law_moves" yC t.Qb t.Qc
 kK:mg "_law_moves"= some (.ref t.Qb)
 ke:Binds K t.Qc ["_law_form_here","_law_names","_law_movers"] []
 yK:Fun K "_law_last" "_law_last" Yd t.Qy t.QC
 wg:mg "_law_last"= some (.ref t.Qy)
 KY:Binds K t.QC ["_law_names","_law_known","_law_most"] []
 jR:Fun K "_law_take" "_law_take" Ye t.qU t.qW
 jX:mg "_law_take"= some (.ref t.qU)
 jW:Binds K t.qW ["_law_pool","_law_many"] []
 YE:Fun K "_law_naming" "_law_naming" Qm t.Qj t.Ql
 WT:mg "_law_naming"= some (.ref t.Qj)
 WR:Binds K t.Ql ["_law_pool","_law_kind","_law_names","_law_movers","_law_bounds"] []
 ZS:Fun K "_law_form_told" "_law_form_told" zm t.qo t.qu
 KI:mg "_law_form_told"= some (.ref t.qo)
 Kl:Binds K t.qu ["_law_pool","_law_names","_law_movers","_law_limbs","_law_bounds"] []
 ZR:Fun K "_law_book_told" "_law_book_told" zl t.qm t.qt
 KH:mg "_law_book_told"= some (.ref t.qm)
 Kk:Binds K t.qt ["_law_script","_law_many","_law_bounds"] []
 K1:Fun K "_law_book" "_law_book" Ya t.zy t.zD
 j0w:mg "_law_book"= some (.ref t.zy)
 X7:Binds K t.zD ["_law_script","_law_many","_law_bounds"] []
 zS:Fun K "_law_right" "_law_right" zZ t.QO t.QU
 yt:mg "_law_right"= some (.ref t.QO)
 yc:Binds K t.QU ["_law_book_here","_law_limb","_law_height","_law_beat","_law_found","_law_beats"] []
 j5X:Fun K "law" "law" j4R t.j24 t.j0e
 j6T:mg "law"= some (.ref t.j24)
 j73:Binds K t.j0e ["_law_script"] []
 j3:Cls K t.jN
 j3O:Mk K t.jN t.JF
 j3o:mg "Strand"= some (.ref t.jN)
 JT:NoAttr K t.jN "first"
 j9:NoAttr K t.jN "sizes"
 JP:NoAttr K t.jN "left"
 Jk:NoAttr K t.jN "pieces"
 qw:NoAttr K t.jN "begun"
 jx:Cls K t.jE
 K7:Mk K t.jE t.j6
 kM:mg "LimbTally"= some (.ref t.jE)
 jD:NoAttr K t.jE "strand"
 Ja:NoAttr K t.jE "last"
 Jg:NoAttr K t.jE "asked"
 j7:NoAttr K t.jE "wholes"
 Jv:Cls K t.Ju
 j5e:Mk K t.Ju t.JQ
 j4j:mg "Stage"= some (.ref t.Ju)
 qO:NoAttr K t.Ju "limbs"
 qM:NoAttr K t.Ju "first"
 qN:NoAttr K t.Ju "forms"
 Jn:NoAttr K t.Ju "sizes"
 Qe:NoAttr K t.Ju "left"
 qv:NoAttr K t.Ju "pieces"
 j3R:mg "abs"= none
 j6c:mg "bool"= none
 j19:mg "dict"= none
 ZD:mg "enumerate"= none
 j6O:mg "int"= none
 ku:mg "isinstance"= none
 qG:mg "len"= none
 j1a:mg "list"= none
 j07:mg "max"= none
 j27:mg "min"= none
 zV:mg "range"= none
 j1b:mg "reversed"= none
 j3S:mg "sorted"= none
 j5Y:mg "sum"= none
 wG:mg "tuple"= none
 j5Z:mg "zip"= none
 Xh:mg "MOST_NAMES"= some (.ref t.Qg)
 Qd:TabK K t.Qg [("row",.flat (.int 8)),("side",.flat (.int 4))]
section
variable{P:Program}{w:World}{K:Frg}{mg:Str->Option Value}{base:Heap}{t:Ad}
theorem W1(T:Txt K mg t):FnOk P w K mg base CX0 1 t.J0 t.J3 ["named"] (sp_numbers_of):=by
 refine T.QI.ok zt (fun vs H Q E h=>?_) (fun cdv A outer s H vs Q E hr h=>?_)
 ·cases h;subst_vars;rfl
 obtain⟨l,as,xs,rfl,el,hl,ha,nd,h100,q⟩:=h;refine⟨_,(jb (jo (i:=1) zt.nd rfl (.inl rfl) yZ)
  (jb (Jt PassesOwn.never rfl (wP (by rfl) T.ZD (ja (pv 0) jc)) (qY rfl (jG (ju (i:=2) zt.nd rfl (.inl rfl)) (jG (ju (i:=3) zt.nd rfl (.inl rfl)) qc)))
   (jf (Yv (QZ hr) (pv 1) (jq jA (pv 3) jd) (pv 2) rfl)))
  (jf (jv (pv 1))))),?_⟩
 refine jz (σ':=[some _,none,none,none]) rfl ?_;have sz:(200:Nat)<sizeLine:=by decide
 walk_at"g";walk_at"f d hd H1 s1 t1";exists⟨l,_,rfl,SqL.of (s1 _ _ el),?_⟩;refine kD (xs:=as.map V.ref) (fun i σ H'=>IvE2 fun(o2 o3:Option V)=>IvA2 (σ=[some (.ref l),some (.ref d),o2,o3]) (Same H H'/\H' d=some (.dK (numK (xs.take i))))) ⟨_,_,rfl,s1,t1⟩ ?_ ?_ ?_
 ·rintro i σ H' _ ⟨o2,o3,rfl,sm,ed⟩;exact SqL.of (sm _ _ el)
 ·rintro i v σ H' P H'' hx ⟨o2,o3,rfl,sm,ed⟩ sP tP;rw[vv]at hx;obtain⟨a,ea,rfl⟩:=vg.mp hx;have hi:=(vx.mp ea).1;have ex:xs[i]?=some xs[i]:=vz (by lia);obtain⟨r,er⟩:=ha i a _ ea ex;have s2:=sm.trans sP;have tl:(xs.take i).length=i:=by rw[vi];lia
  refine zj (SqT.of tP) ?_;exists ixTm (SqT.of (s2 _ _ er)) rfl ?_;refine⟨d,_,rfl,DPut.k (k:=Sum.inr xs[i]) (sP _ _ ed) (by rw[j4t,tl];lia),?_⟩;have hk:(Sum.inr xs[i]:Key)∉(numK (xs.take i)).map (·.1):=fun z=>by
   rw[xI]at z;obtain⟨y,hy,e⟩:=vK.mp z;have e':y=xs[i]:=Sum.inr.inj e;subst e';obtain⟨j,hj,e⟩:=mem_iff_getElem.mp hy;rw[getElem_take]at e;rw[tl]at hj;exact ug e (List.pairwise_iff_getElem.mp nd j i (by lia) (by lia) hj)
  refine⟨_,_,rfl,fun b u h=>(jg (je h hd)).trans (s2 _ _ h),?_⟩;rw[jC,Rm.Ka hk,take_snoc ex,j3s,tl]
 rintro σ' H' ⟨o2,o3,rfl,sm,ed⟩;rw[vt,hl,v3]at ed;walk_at"g";exact q d H' sm hd ed
theorem j0H(T:Txt K mg t):FnOk P w K mg base CX0 1 t.Zm t.Zp ["form"] (sp_names_in):=by
 refine T.wW.ok j0Q (fun vs H Q E h=>?_) (fun cdv A outer s H vs Q E hr h=>?_)
 ·cases h;subst_vars;rfl
 obtain⟨a,f,rfl,hF,q⟩:=h;refine⟨_,(jb (j2 (jr j6x (jq jA (pv 0) jd) (j5J (v:=.ref t.Qg) (by rfl) T.Xh rfl) (by with_unfolding_all rfl))
   (jf (jv (jq jA (pv 0) jd)))
   jw)
  (jf (jv (Z6 (jr Js (jq jA (pv 0) jd) jO (nomark _)) (y6 j6I (pv 0) (Yu jd) kU) (jV jc))))),?_⟩
 refine jz (σ':=[some _]) rfl ?_;have sz:(200:Nat)<sizeLine:=by decide
 cases f with
 | hold n=>
  have ha:H a=some (.tup _):=hF;exists ixTm (SqT.of ha) rfl ?_;exists⟨_,_,_,rfl,rfl,T.Qd,?_⟩;exists iteE0 ?_;exists ixTm (SqT.of ha) rfl ?_;exists iteE0 ?_;exists⟨va _,?_⟩;walk_at"f b hb H1 s1 t1";exact q b H1 s1 t1
 | ring x n=>
  have ha:H a=some (.tup _):=hF;exists ixTm (SqT.of ha) rfl ?_;exists⟨_,_,_,rfl,rfl,T.Qd,?_⟩;exists iteE0 ?_;exists ixTm (SqT.of ha) rfl ?_;exists iteE0 ?_;exists⟨va _,?_⟩;walk_at"f b hb H1 s1 t1";exact q b H1 s1 t1
 | rise x v n=>
  have ha:H a=some (.tup _):=hF;exists ixTm (SqT.of ha) rfl ?_;exists⟨_,_,_,rfl,rfl,T.Qd,?_⟩;exists iteE0 ?_;exists ixTm (SqT.of ha) rfl ?_;exists iteE0 ?_;exists⟨va _,?_⟩;walk_at"f b hb H1 s1 t1";exact q b H1 s1 t1
 | row ps=>
  obtain⟨b,ha,hb⟩:=hF;exists ixTm (SqT.of ha) rfl ?_;exists⟨_,_,_,rfl,rfl,T.Qd,?_⟩;exists iteE1 ?_;exists ixTm (SqT.of ha) rfl ?_;exact q b H (Same.refl _) hb
 | side ps=>
  obtain⟨b,ha,hb⟩:=hF;exists ixTm (SqT.of ha) rfl ?_;exists⟨_,_,_,rfl,rfl,T.Qd,?_⟩;exists iteE1 ?_;exists ixTm (SqT.of ha) rfl ?_;exact q b H (Same.refl _) hb
 | again k x=>
  have ha:H a=some (.tup _):=hF;exists ixTm (SqT.of ha) rfl ?_;exists⟨_,_,_,rfl,rfl,T.Qd,?_⟩;exists iteE0 ?_;exists ixTm (SqT.of ha) rfl ?_;exists iteE1 ?_;exists⟨a,_,rfl,SqT.of ha,(by show¬(HT.sIx 3 0 (some 2)=0/\HT.sIx 3 3 none=3);decide),?_⟩;walk_at"f b hb H1 s1 t1";exact q b H1 s1 t1
theorem j4u(T:Txt K mg t)(Jj:FnOk P w K mg base CX0 1 t.J0 t.J3 ["named"] (sp_numbers_of))(YU:FnOk P w K mg base CX0 1 t.Zm t.Zp ["form"] (sp_names_in)):FnOk P w K mg base CX0 2 t.yk t.ym ["book"] (sp_inner):=by
 refine T.wF.ok Yj (fun vs H Q E h=>?_) (fun cdv A outer s H vs Q E hr h=>?_)
 ·cases h;subst_vars;rfl
 obtain⟨b,pl,pp,las,pas,ls,ps,rfl,B,W,q⟩:=h;refine⟨_,(jb (jo (i:=1) Yj.nd rfl (.inr rfl) (jk (Jj.mono (by decide)) hr (by rfl) T.zW T.QI.kp T.zQ .nil pass0 (ja (jq jA (pv 0) jd) jc)))
  (jb (jo (i:=2) Yj.nd rfl (.inl rfl) (jT jc))
  (jb (Jt PassesOwn.never rfl (Jh (jq jA (pv 0) jd)) (qY rfl (jG (ju (i:=3) Yj.nd rfl (.inl rfl)) (jG (ju (i:=4) Yj.nd rfl (.inl rfl)) qc)))
   (jf (Jb (ql PySem.F.plainAttrs_list PySem.F.slot_list_append PySem.F.type_list_append jU (pv 2) (ja (qB (ow:=["other"]) (ci:=[1]) rfl (CompScope.of (defScope wR) ["book","numbers","found","name","form"] rfl rfl (by decide +kernel)) (qS (by decide)) (j1L (jk (YU.mono (by decide)) hr (by rfl) T.j1x T.wW.kp T.j12 .nil pass0 (ja (pv 4) jc))) (fun _ _ _ _ _=>⟨(ju (i:=0) (JX ["book","numbers","found","name","form"] rfl (by decide +kernel)) rfl (.inl rfl)),Q1,(Qo (QZ hr) (pv 1) (pv 0))⟩)) jc)))))
  (jf (jv (pv 2)))))),?_⟩
 refine jz (σ':=[some _,none,none,none,none]) rfl ?_;have sz:(200:Nat)<sizeLine:=by decide
 have p61:=W.p61;have pa:=B.pa.1;exists ixTm (SqT.of B.t) rfl ?_;exists⟨pp,pas,nmsOf ps,rfl,B.p,by rw[nmsOf,vt];exact pa,fun i a x ea ex=>?_,W.pn,by rw[nmsOf,vt];lia,fun d H1 s1 hd ed=>?_⟩
 ·unfold nmsOf at ex;rw[vv]at ex;obtain⟨p,ep,rfl⟩:=vg.mp ex;obtain⟨fb,hb,_⟩:=B.pa.2 i a p ea ep;exact⟨_,hb⟩
 exists⟨va _,?_⟩;walk_at"f l hl H2 s2 t2";have nl:=none_of s1 hl;have s12:=s1.trans s2;exists ixTm (SqT.of (s12 _ _ B.t)) rfl ?_;refine⟨pp,rfl,⟨_,SqL.of (s12 _ _ B.p)⟩,?_⟩;refine qa (xs:=pas.map V.ref) (fun i σ H'=>IvE3 fun(as:List Addr) (o3 o4:Option V)=>IvA4 (σ=[some (.ref b),some (.ref d),some (.ref l),o3,o4]) (Same H1 H') (H' l=some (.lst (as.map V.ref))) ((∀a∈as,H a=none/\a≠l)/\ListsAt H' as ((ps.take i).map fun p=>(inP ps p.2).map fun j:Nat=>(j:Int))))
  ⟨[],_,_,rfl,s2,t2,(fun a h=>nomatch h),.nil⟩ ?_ ?_ ?_
 ·rintro i σ H' _ ⟨as,o3,o4,rfl,sm,e1,na,la⟩;exact SqL.of ((s1.trans sm) _ _ B.p)
 ·rintro i x σ H' hx ⟨as,o3,o4,rfl,sm,e1,na,la⟩;obtain⟨a,p,rfl,hp,fb,hat,hf⟩:=B.pa.at_ref hx;have hi:=(vx.mp hp).1;have s0:=s1.trans sm;obtain⟨wn,w8⟩:=W.f i p hp;have lal:=la.1;rw[vt,vi]at lal;refine zj (SqT.of (s0 _ _ hat)) ?_;exists⟨.inl ⟨rfl,_,SqL.of e1⟩,?_⟩;exists⟨fb,p.2,rfl,FormAt.same s0 hf,fun c H3 s3 hc=>?_⟩;refine⟨c,rfl,⟨_,SqT.of hc⟩,?_⟩;refine Wg (xs:=p.2.ns.map V.str) (fun j ys H'=>ys=((p.2.ns.take j).map fun x=>(ixOf (nmsOf ps) x:Int)).map V.int/\H3=H') ⟨rfl,rfl⟩ ?_ ?_ ?_
  ·rintro j ys H' _ ⟨rfl,rfl⟩;exact SqT.of hc
  ·rintro j x ys H' hx ⟨rfl,rfl⟩;rw[vv]at hx;obtain⟨y,ey,rfl⟩:=vg.mp hx;have hj:=(vx.mp ey).1;obtain⟨k,hk,ek⟩:=wn y (vm ey);refine qQ (σ':=[none,some _]) rfl ?_;exists iteT ?_;walk_at"g";have g:DGet H3 d (.str y) (some (.int (k:Nat))):=by
    have g:=DGet.k (k:=Sum.inr y) ((sm.trans s3) _ _ ed);rw[kN W.pn ek]at g;exact g
   refine⟨d,_,rfl,g,?_⟩;refine⟨by rw[vt,vt,vi];lia,?_,rfl⟩;rw[take_snoc ey,vj,vj,<-qb W.pn ek];rfl
  rintro ys H' ⟨rfl,rfl⟩;rw[show(p.2.ns.map V.str).length=p.2.ns.length from vt _,v3];refine⟨by rw[vt,vt];lia,?_⟩;walk_at"f 4 t";have s34:=s3.trans s4;exists⟨l,_,_,rfl,rfl,s34 _ _ e1,by rw[vt];lia,?_⟩;have hne:p4≠l:=(je (s3 _ _ e1) hp4).symm;have n4:H p4=none:=none_of (s0.trans s3) hp4;refine⟨as++[p4],_,_,rfl,fun c u h=>(jg (je h hl)).trans ((sm.trans s34) _ _ h),?_,fun c hc'=>?_,?_⟩
  ·rw[jC,vj];rfl
  ·rcases vh.mp hc' with e | e
   ·exact na c e
   ·rw[vo.mp e];exact⟨n4,hne⟩
  ·rw[take_snoc hp,vj];refine All2.snoc (All2.monoM la fun c hc' ks h=>(jg (na c hc').2).trans (s34 _ _ h)) ?_;have eq:List.map (fun j:Nat=>(j:Int)) (inP ps p.2)=p.2.ns.map fun x=>(ixOf (nmsOf ps) x:Int):=by
    unfold inP;rw[map_map];rfl
   show upd H4 l _ p4=some (.lst (List.map V.int (List.map (fun j:Nat=>(j:Int)) (inP ps p.2))));rw[jg hne,t4,eq]
 rintro σ' H3 ⟨as,o3,o4,rfl,sm,e1,na,la⟩;rw[vt,pa,v3]at la;walk_at"g";exact q l as H3 (s1.trans sm) nl e1 (fun a ha=>(na a ha).1) la
theorem j5G(T:Txt K mg t)(Jj:FnOk P w K mg base CX0 1 t.J0 t.J3 ["named"] (sp_numbers_of))(zU:FnOk P w K mg base CX0 2 t.yk t.ym ["book"] (sp_inner)):FnOk P w K mg base CX0 3 t.YW t.YX ["book"] (sp_ends):=by
 refine T.xY.ok ZJ (fun vs H Q E h=>?_) (fun cdv A outer s H vs Q E hr h=>?_)
 ·cases h;subst_vars;rfl
 obtain⟨b,pl,pp,las,pas,ls,ps,rfl,B,W,q⟩:=h;refine⟨_,(jb (jo (i:=1) ZJ.nd rfl (.inl rfl) (jk (Jj.mono (by decide)) hr (by rfl) T.zW T.QI.kp T.zQ .nil pass0 (ja (jq jA (pv 0) jd) jc)))
  (jb (jo (i:=2) ZJ.nd rfl (.inl rfl) (jT jc))
  (jb (Jt PassesOwn.never rfl (j4C (by rfl) T.j5Z (ja (jq jA (pv 0) jd) (ja (jk (zU.mono (by decide)) hr (by rfl) T.Xx T.wF.kp T.xU .nil pass0 (ja (pv 0) jc)) jc))) (qY rfl (jG (ju (i:=3) ZJ.nd rfl (.inl rfl)) (jG (ju (i:=4) ZJ.nd rfl (.inl rfl)) qc)))
   (jb (jo (i:=5) ZJ.nd rfl (.inl rfl) (jq jA (pv 3) jd))
   (jb (jo (i:=6) ZJ.nd rfl (.inl rfl) yZ)
   (jb (Q2 (jr Js (jq jA (pv 5) jd) jO (nomark _))
    (jf (Yv (QZ hr) (pv 6) (Qo (QZ hr) (pv 1) (jq jA (pv 5) jd)) (jq jA (pv 5) jd) rfl))
    jw)
   (jb (Jt PassesOwn.never rfl (Jh (pv 4)) (ju (i:=7) ZJ.nd rfl (.inl rfl))
    (jf (Jb (ql PySem.F.plainAttrs_dict PySem.F.slot_dict_update PySem.F.type_dict_update j3r (pv 6) (ja (qP (Wd rfl) (by rfl) T.j19 Xd (ja (jq jt (pv 2) (pv 7)) jc)) jc)))))
   (jf (Jb (ql PySem.F.plainAttrs_list PySem.F.slot_list_append PySem.F.type_list_append jU (pv 2) (ja (jF (Xi rfl) (by rfl) T.j3S j30 (ja (j4z PySem.F.plainAttrs_dict PySem.F.slot_dict_items PySem.F.type_dict_items j4l (pv 6)) jc)) jc)))))))))
  (jf (jv (pv 2)))))),?_⟩
 refine jz (σ':=[some _,none,none,none,none,none,none,none]) rfl ?_;have sz:(200:Nat)<sizeLine:=by decide
 have p61:=W.p61;have l8:=W.l8;have pa:=B.pa.1;have la:=B.la.1;exists ixTm (SqT.of B.t) rfl ?_;exists⟨pl,las,nmsOf ls,rfl,B.l,by rw[nmsOf,vt];exact la,fun i a x ea ex=>?_,W.ln,by rw[nmsOf,vt];lia,fun d H1 s1 hd ed=>?_⟩
 ·unfold nmsOf at ex;rw[vv]at ex;obtain⟨p,ep,rfl⟩:=vg.mp ex;exact⟨_,B.la.2 i a p ea ep⟩
 exists⟨va _,?_⟩;walk_at"f l hl H2 s2 t2";have nl:=none_of s1 hl;have s12:=s1.trans s2;have ndl:d≠l:=je ed hl;exists ixTm (SqT.of (s12 _ _ B.t)) rfl ?_;exists⟨b,pl,pp,las,pas,ls,ps,rfl,B.same s12,W,fun li ias H3 s3 hli eli nia lia=>?_⟩;walk_at"g";have s13:=s12.trans s3;have lial:=lia.1;rw[vt]at lial;have nli:li≠l:=fun z=>by rw[z,t2]at hli;cases hli
 refine⟨pp,li,_,_,rfl,SqL.of (s13 _ _ B.p),SqL.of eli,?_⟩;have npl:∀{c u},H c=some u->c≠l:=fun h=>je h nl
 have t3:H3 l=some (.lst []):=s3 _ _ t2;refine j5q (xs:=pas.map V.ref) (ys:=ias.map V.ref) (fun i σ H'=>IvE7 fun(as:List Addr) (E:List (List (Int×Int))) (o3 o4 o5 o6 o7:Option V)=>IvA6 (σ=[some (.ref b),some (.ref d),some (.ref l),o3,o4,o5,o6,o7]) (∀c u,c≠l->H3 c=some u->H' c=some u) (H' l=some (.lst (as.map V.ref))) (∀a∈as,H a=none/\a≠l) (E.length=i) (EndsAt H' as E/\EndOk ls ps E))
  (by rw[vt,vt];lia) ⟨[],[],_,_,_,_,_,rfl,fun c u _ h=>h,t3,(fun a h=>nomatch h),rfl,.nil,fun i p e _ h=>by simp at h⟩ ?_ ?_ ?_
 ·rintro i σ H' _ ⟨as,E,o3,o4,o5,o6,o7,rfl,sm,e1,na,lE,aE,oE⟩;exact⟨SqL.of (sm _ _ (npl B.p) (s13 _ _ B.p)),SqL.of (sm _ _ nli eli)⟩
 ·rintro i u v σ H' P H4 hu hv ⟨as,E,o3,o4,o5,o6,o7,rfl,sm,e1,na,lE,aE,oE⟩ sP tP;obtain⟨a,p,rfl,hp,fb,hat,hf⟩:=B.pa.at_ref hu;obtain⟨ia,is,rfl,his,hia⟩:=lia.at_ref hv;rw[vv,hp]at his;cases his;have hi:=(vx.mp hp).1;have iam:ia∈ias:=by
   rw[vv]at hv;obtain⟨a',ea,e'⟩:=vg.mp hv;injection e' with e';subst e';exact vm ea
  have nial:ia≠l:=fun z=>by have:=nia ia iam;rw[z,t2]at this;cases this
  have k4:∀c u,c≠l->H3 c=some u->H4 c=some u:=fun c u hc h=>sP _ _ (sm _ _ hc h)
  have hat4:H4 a=_:=k4 _ _ (npl hat) (s13 _ _ hat);have hia4:H4 ia=_:=k4 _ _ nial hia;have ed4:H4 d=_:=k4 _ _ ndl (s3 _ _ (s2 _ _ ed));have e14:=sP _ _ e1;have hf4:FormAt H4 fb p.2:=by
   have h0:=FormAt.same s13 hf;generalize p.2=f at h0;have np:∀{c:Addr} {xs:List V},H3 c=some (.tup xs)->c≠l:=fun h=>JG h t3 (fun z=>by cases z)
   cases f with
   | row ps=>obtain⟨c,h1,h2⟩:=h0;exact⟨c,k4 _ _ (np h1) h1,k4 _ _ (np h2) h2⟩
   | side ps=>obtain⟨c,h1,h2⟩:=h0;exact⟨c,k4 _ _ (np h1) h1,k4 _ _ (np h2) h2⟩
   | hold n=>exact k4 _ _ (np h0) h0
   | ring x n=>exact k4 _ _ (np h0) h0
   | rise x g n=>exact k4 _ _ (np h0) h0
   | again x n=>exact k4 _ _ (np h0) h0
  have w8:=(W.f i p hp).2;have wr:=fun x h n (e:p.2 = .rise x h n)=>W.r i p.1 x h n (by rw[hp,<-e])
  have inl:=fun j=>W.inP_lt (j:=j) hp
  have bnd:=yV W (by lia) oE;have elen:∀(j:Nat) (e:List (Int×Int)),E[j]?=some e->e.length<=8:=fun j e h=>j0k W (by lia) oE h
  refine zj (SqT.of tP) ?_;exists ixTm (SqT.of hat4) rfl ?_;walk_at"g";walk_at"f dl hdl H5 s5 t5";exists⟨fun σ' H6=>σ'=[some (.ref b),some (.ref d),some (.ref l),some (.ref a),some (.ref ia),some (.ref fb),some (.ref dl),o7]/\Same H4 H6/\H6 dl=some (.dK ((kv0 ls p.2).map iiK)),?_,?_⟩
  rotate_left
  ·by_cases hr':∃x h n,p.2 = .rise x h n
   ·obtain⟨x,h,n,e⟩:=hr';rw[e]at hf4;have hf5:H5 fb=some (.tup [.str "raise",.str x,.int h,.int n]):=s5 _ _ hf4;obtain⟨j,hj⟩:=wr x h n e;exists ixTm (SqT.of hf5) rfl ?_;exists iteE1 ?_;exists ixTm (SqT.of hf5) rfl ?_;exists ixTm (SqT.of hf5) rfl ?_;have g:DGet H5 d (.str x) (some (.int (j:Nat))):=by
     have g:=DGet.k (k:=Sum.inr x) (s5 _ _ ed4);rw[kN W.ln hj]at g;exact g
    refine⟨d,_,rfl,g,?_⟩;refine⟨dl,_,rfl,DPut.k (k:=Sum.inl (j:Int)) t5 (by show 0<sizeLine;lia),?_⟩;refine⟨rfl,fun c u h=>(jg (je h hdl)).trans (s5 _ _ h),?_⟩;rw[jC,e];show _=some (HO.dK [iiK ((ixOf (nmsOf ls) x:Nat),h)]);rw[qb W.ln hj];rfl
   ·obtain⟨k,xs,hk,dk⟩:=j0r hf4 fun x v n e=>hr' ⟨x,v,n,e⟩
    exists ixTm (SqT.of (s5 _ _ hk)) (at0) ?_;exists iteB0 dk ?_;exists⟨rfl,s5,?_⟩;rw[j5w fun x v n e=>hr' ⟨x,v,n,e⟩];exact t5
  rintro σ' H6 ⟨rfl,s6,t6⟩;walk_at"g";have hia6:=s6 _ _ hia4;have nlist:∀{c u},H4 c=some u->c≠dl:=fun h=>je h hdl
  refine⟨ia,rfl,⟨_,SqL.of hia6⟩,?_⟩;refine qa (xs:=((inP ps p.2).map fun j:Nat=>(j:Int)).map V.int) (fun t σ H7=>∃(kvs:List (Int×Int)) (o7:Option V),σ=[some (.ref b),some (.ref d),some (.ref l),some (.ref a),some (.ref ia),some (.ref fb),some (.ref dl),o7]/\Same H4 H7/\H7 dl=some (.dK (kvs.map iiK))/\(kvs.map (·.1)).Nodup/\∀k v,(k,v)∈kvs↔LastIn E ((inP ps p.2).take t) k v\/(k,v)∈kv0 ls p.2)
   ⟨_,_,rfl,s6,t6,j6o _,fun k v=>⟨.inr,fun h=>h.elim (fun⟨pre,j,post,e,_⟩=>by cases pre<;>simp at e) id⟩⟩ ?_ ?_ ?_
  ·rintro t σ H7 _ ⟨kvs,o7,rfl,s7,t7,nd7,m7⟩;exact SqL.of (s7 _ _ hia4)
  ·rintro t x σ H7 hx ⟨kvs,o7,rfl,s7,t7,nd7,m7⟩;rw[vv,vv]at hx;obtain⟨jj,hjj,rfl⟩:=vg.mp hx;obtain⟨j,hj,rfl⟩:=vg.mp hjj;have jlt:=inl j (vm hj);have e0:kv0 ls p.2=[]:=by
    rcases j6n (ps:=ps) (ls:=ls) p.2 with z | z
    ·rw[z]at hj;simp at hj
    ·exact z
   rw[e0]at m7;have hE:E[j]?=some (E.getD j []):=by rw[vy,vz (by lia)];rfl
   obtain⟨aj,haj,bs,hbs,prs⟩:=aE.get hE;have ndE:((E.getD j []).map (·.1)).Nodup:=((oE j _ _ (vz (by lia)) hE).1).imp fun h=>Int.ne_of_lt h
   have e8:=elen j _ hE;have k8:kvs.length<=8:=by
    have z:=Yt (n:=ls.length) nd7 fun k hk=>by
     obtain⟨q',hq',rfl⟩:=vK.mp hk;rcases(m7 q'.1 q'.2).mp hq' with⟨pre,i',post,_,hin,_⟩ | hin
     ·exact bnd i' _ hin
     ·exact nomatch hin
    rw[vt]at z;lia
   exists⟨.inr (.inr (.inl ⟨rfl,.inl ⟨_,t7⟩⟩)),?_⟩;exists ixLm (SqL.of (s7 _ _ e14)) (Yo (i:=(j:Int)) (by lia) haj) ?_;exists⟨aj,bs,E.getD j [],rfl,s7 _ _ (sP _ _ hbs),prs.1,fun i' c q' h1 h2=>s7 _ _ (sP _ _ (prs.2 i' c q' h1 h2)),?_⟩;walk_at"f d2 hd2 H8 s8 t8";walk_at"g";rw[show([]:List (Key×V))=([]:List (Int×Int)).map iiK from rfl,yw,Wu ndE]at t8;have n2:dl≠d2:=je t7 hd2;refine⟨dl,d2,_,_,rfl,rfl,s8 _ _ t7,t8,n2,by rw[vt,vt];lia,?_⟩;rw[yw];obtain⟨mn,mm⟩:=xC nd7 ndE;refine⟨mergeI kvs (E.getD j []),_,rfl,fun c u h=>(jg (nlist h)).trans (s8 _ _ (s7 _ _ h)),jC,mn,fun k v=>?_⟩;rw[mm,m7,e0,take_snoc hj,j3h];constructor
   ·rintro(h | ⟨h1,h | h⟩)
    ·exact .inl (.inl h)
    ·exact .inl (.inr ⟨h1,h⟩)
    ·exact nomatch h
   ·rintro((h | ⟨h1,h⟩) | h)
    ·exact .inl h
    ·exact .inr ⟨h1,.inl h⟩
    ·exact nomatch h
  rintro σ' H7 ⟨kvs,o7',rfl,s7,t7,nd7,m7⟩;rw[vt,vt,v3]at m7;have k8:kvs.length<=8:=by
   have z:=Yt (n:=ls.length) nd7 fun k hk=>by
    obtain⟨q',hq',rfl⟩:=vK.mp hk;rcases(m7 q'.1 q'.2).mp hq' with⟨pre,i',post,_,hin,_⟩ | hin
    ·exact bnd i' _ hin
    ·obtain⟨x,n,e,ek⟩:=XA.mp hin;obtain⟨j,hj⟩:=wr x _ n e;have h3:=j2l (vm hj);have h4:(nmsOf ls).length=ls.length:=vt _;rw[ek];lia
   rw[vt]at z;lia
  exists⟨.inl ⟨rfl,_,SqL.of (s7 _ _ e14)⟩,?_⟩;exists⟨.inr (.inr (.inl ⟨rfl,.inl ⟨_,t7⟩⟩)),dl,_,rfl,rfl,t7,?_⟩;walk_at"f vw hvw H8 s8 t8";exists⟨vw,dl,kvs,rfl,t8,s8 _ _ t7,by lia,fun r cs ms H9 s9 hr9 e9 n9 perm pw len tup=>?_⟩;walk_at"g";have asl:=aE.1;refine⟨l,_,_,rfl,rfl,s9 _ _ (s8 _ _ (s7 _ _ e14)),by rw[vt];lia,?_⟩;have s49:=s7.trans (s8.trans s9);have nrl:r≠l:=(je (s8 _ _ (s7 _ _ e14)) hr9).symm;have nr:H r=none:=by
   cases z:H r with
   | none=>rfl
   | some u=>rw[s8 _ _ (s7 _ _ (k4 _ _ nrl (s13 _ _ z)))]at hr9;cases hr9
  have ntl:∀{c:Addr} {xs:List V},H9 c=some (.tup xs)->c≠l:=fun h=>JG h (s49 _ _ e14) (fun z=>by cases z)
  refine⟨as++[r],E++[ms],_,_,_,_,_,rfl,fun c u hc h=>(jg hc).trans (s49 _ _ (k4 _ _ hc h)),?_,fun c hc=>?_,by rw[vn,lE];rfl,?_,?_⟩
  ·rw[jC,vj];rfl
  ·rcases vh.mp hc with z | z
   ·exact na c z
   ·rw[vo.mp z];exact⟨nr,nrl⟩
  ·refine All2.snoc (All2.monoM aE fun c hc e h=>?_) ?_
   ·obtain⟨bs,hbs,prs⟩:=h;refine⟨bs,(jg (na c hc).2).trans (s49 _ _ (sP _ _ hbs)),All2.mono prs fun c' q' h'=>?_⟩;have h9:=s49 _ _ (sP _ _ h');exact(jg (ntl h9)).trans h9
   ·exact⟨cs,(jg nrl).trans e9,len,fun i' c q' h1 h2=>(jg (ntl (tup i' c q' h1 h2))).trans (tup i' c q' h1 h2)⟩
  ·refine EndOk.snoc W oE (p:=p) (by rw[lE];exact hp) ?_ fun k v=>?_
   ·exact j3G (perm.map _) nd7 pw
   ·rw[perm.mem_iff,m7];exact⟨fun h=>h.imp id XA.mp,fun h=>h.imp id XA.mpr⟩
 rintro σ' H' ⟨as,E,o3,o4,o5,o6,o7,rfl,sm,e1,na,lE,aE,oE⟩;rw[vt]at lE;walk_at"g";exact q l as E H' (fun c u h=>sm _ _ (npl h) (s13 _ _ h)) nl e1 (fun a ha=>(na a ha).1) (by lia) aE oE
theorem j4v(T:Txt K mg t)(yi:FnOk P w K mg base CX0 3 t.YW t.YX ["book"] (sp_ends)):FnOk P w K mg base CX0 4 t.kq t.kB ["book"] (sp_moved):=by
 refine T.j21.ok WG (fun vs H Q E h=>?_) (fun cdv A outer s H vs Q E hr h=>?_)
 ·cases h;subst_vars;rfl
 obtain⟨b,pl,pp,las,pas,ls,ps,rfl,B,W,q⟩:=h;refine⟨_,(jb (jo (i:=1) WG.nd rfl (.inl rfl) (jT jc))
  (jb (Jt PassesOwn.never rfl (Jh (jk (yi.mono (by decide)) hr (by rfl) T.j1w T.xY.kp T.j11 .nil pass0 (ja (pv 0) jc))) (ju (i:=2) WG.nd rfl (.inl rfl))
   (jf (Jb (ql PySem.F.plainAttrs_list PySem.F.slot_list_append PySem.F.type_list_append jU (pv 1) (ja (qB (ow:=["limb","height"]) (ci:=[]) rfl (CompScope.of (defScope wS) ["book","found","left"] rfl rfl (by decide +kernel)) (wI (by decide) (by decide)) (Jh (pv 2)) (fun _ _ _ _ _=>⟨(qY rfl (jG (ju (i:=0) (JX ["book","found","left"] rfl (by decide +kernel)) rfl (.inl rfl)) (jG (ju (i:=1) (JX ["book","found","left"] rfl (by decide +kernel)) rfl (.inl rfl)) qc))),Q1,(pv 0)⟩)) jc)))))
  (jf (jv (pv 1))))),?_⟩
 refine jz (σ':=[some _,none,none]) rfl ?_;have sz:(200:Nat)<sizeLine:=by decide
 have p61:=W.p61;exists⟨va _,?_⟩;walk_at"f l hl H1 s1 t1";exists⟨b,pl,pp,las,pas,ls,ps,rfl,B.same s1,W,fun e as E H2 s2 he ee ne lE aE oE=>?_⟩;have aE1:=aE.1;have s12:=s1.trans s2;have l2:H2 l=some (.lst []):=s2 _ _ t1;have nle:l≠e:=fun z=>by rw[z,he]at t1;cases t1
 refine⟨e,rfl,⟨_,SqL.of ee⟩,?_⟩;refine qa (xs:=as.map V.ref) (fun i σ H'=>IvE2 fun(cs:List Addr) (o2:Option V)=>IvA4 (σ=[some (.ref b),some (.ref l),o2]) (∀c u,c≠l->H2 c=some u->H' c=some u) (H' l=some (.lst (cs.map V.ref))) ((∀c∈cs,H1 c=none/\c≠l)/\ListsAt H' cs ((E.take i).map fun e=>e.map (·.1))))
  ⟨[],_,rfl,fun c u _ h=>h,l2,(fun c h=>nomatch h),.nil⟩ ?_ ?_ ?_
 ·rintro i σ H' _ ⟨cs,o2,rfl,sm,e1,na,la⟩;exact SqL.of (sm _ _ nle.symm ee)
 ·rintro i x σ H' hx ⟨cs,o2,rfl,sm,e1,na,la⟩;obtain⟨a,ev,rfl,hev,bs,hbs,prs⟩:=aE.at_ref hx;have hi:=(vx.mp hev).1;have lal:=la.1;rw[vt,vi]at lal;have am:a∈as:=by
   rw[vv]at hx;obtain⟨a',ea,e'⟩:=vg.mp hx;injection e' with e';subst e';exact vm ea
  have nal:a≠l:=fun z=>by have:=ne a am;rw[z,t1]at this;cases this
  have hb':H' a=some (.lst (bs.map V.ref)):=sm _ _ nal hbs;have evl:=(oE i _ ev (vz (by lia)) hev).1;have ev100:=j0k W (by lia) oE hev;exists⟨.inl ⟨rfl,_,SqL.of e1⟩,?_⟩;exists⟨a,rfl,⟨_,SqL.of hb'⟩,?_⟩;refine JY (xs:=bs.map V.ref) (fun j ys H''=>ys=((ev.take j).map (·.1)).map V.int/\H'=H'') ⟨rfl,rfl⟩ ?_ ?_ ?_
  ·rintro j ys H'' _ ⟨rfl,rfl⟩;exact SqL.of hb'
  ·rintro j x ys H'' hx2 ⟨rfl,rfl⟩;obtain⟨c,kv,rfl,hkv,ht⟩:=prs.at_ref hx2;have hj:=(vx.mp hkv).1;have ncl:c≠l:=fun z=>by rw[z,l2]at ht;cases ht
   refine qQ (σ':=[none,none]) rfl ?_;refine zj (SqT.of (sm _ _ ncl ht)) ?_;exists iteT ?_;exists⟨by rw[vt,vt,vi];lia,?_,rfl⟩;rw[take_snoc hkv,vj,vj];rfl
  rintro ys H'' ⟨rfl,rfl⟩;rw[show(bs.map V.ref).length=ev.length by rw[vt];exact prs.1,v3];refine⟨by rw[vt,vt];lia,?_⟩;walk_at"f 4 t";exists⟨l,_,_,rfl,rfl,s4 _ _ e1,by rw[vt];lia,?_⟩;have hne:p4≠l:=(je e1 hp4).symm;have n4:H1 p4=none:=by
   cases z:H1 p4 with
   | none=>rfl
   | some u=>rw[sm _ _ hne (s2 _ _ z)]at hp4;cases hp4
  refine⟨cs++[p4],_,rfl,fun c u hc h=>(jg hc).trans (s4 _ _ (sm _ _ hc h)),?_,fun c hc=>?_,?_⟩
  ·rw[jC,vj];rfl
  ·rcases vh.mp hc with z | z
   ·exact na c z
   ·rw[vo.mp z];exact⟨n4,hne⟩
  ·rw[take_snoc hev,vj];exact All2.snoc (All2.monoM la fun c hc ks h=>(jg (na c hc).2).trans (s4 _ _ h)) ((jg hne).trans t4)
 rintro σ' H3 ⟨cs,o2,rfl,sm,e1,na,la⟩;rw[vt,aE1,v3]at la;exists q l cs (E.map fun e=>e.map (·.1)) H3 (fun c u h=>sm _ _ (je h hl) (s12 _ _ h)) hl e1 (fun c hc=>none_of s1 (na c hc).1) (by rw[vt];exact lE) la (j4k lE oE)
theorem W0(T:Txt K mg t):FnOk P w K mg base CX0 1 t.QQ t.QW ["row","moves","limbs"] (sp_check_side):=by
 refine T.kj.ok ZQ (fun vs H Q E h=>?_) (fun cdv A outer s H vs Q E hr h=>?_)
 ·cases h;subst_vars;rfl
 obtain⟨r,l,ll,as,las,M,rfl,el,la,ne,M8,ell,one,q⟩:=h;refine⟨_,(jb (j2 (jr (j6w hr.units) (jT jc) (pv 1) (by with_unfolding_all rfl))
   (jf Z8)
   jw)
  (jf (Jt PassesOwn.never rfl (wP (by rfl) T.ZD (ja (pv 2) jc)) (qY rfl (jG (ju (i:=3) ZQ.nd rfl (.inr rfl)) (jG (ju (i:=4) ZQ.nd rfl (.inl rfl)) qc)))
   (jf (j2 (jr zP (jF j4 (by rfl) T.qG JJ (ja (qB (ow:=["move"]) (ci:=[3]) rfl (CompScope.of (defScope Za) ["row","moves","limbs","number","limb"] rfl rfl (by decide +kernel)) (qS (by decide)) (Jh (pv 1)) (fun _ _ _ _ _=>⟨(ju (i:=0) (JX ["row","moves","limbs","number","limb"] rfl (by decide +kernel)) rfl (.inl rfl)),(XQ (jr (Y3 (K:=K) rfl) (pv 1) (pv 0) (by with_unfolding_all rfl))),kS⟩)) jc)) jd (nomark _))
    (jf Z8)
    jw))))),?_⟩
 refine jz (σ':=[some _,some _,some _,none,none]) rfl ?_;have sz:(200:Nat)<sizeLine:=by decide
 have lal:=la.1;exists⟨va _,?_⟩;walk_at"f 0 t";exists⟨p0,l,as,M,rfl,rfl,t0,s0 _ _ el,lal,fun i b ks e1 e2=>s0 _ _ (la.2 i b ks e1 e2),?_⟩;exists iteB0 (any_empty ne) ?_;exists⟨ll,_,rfl,SqL.of (s0 _ _ ell),?_⟩;refine kD (xs:=las.map V.ref) (fun i σ H'=>IvE2 fun(o3 o4:Option V)=>σ=[some (.int r),some (.ref l),some (.ref ll),o3,o4]/\Same H H') ⟨_,_,rfl,s0⟩ ?_ ?_ ?_
 ·rintro i σ H' _ ⟨o3,o4,rfl,sm⟩;exact SqL.of (sm _ _ ell)
 ·rintro i v σ H' P H1 hx ⟨o3,o4,rfl,sm⟩ sP tP;have s1:=sm.trans sP;refine zj (SqT.of tP) ?_;exists⟨l,rfl,⟨_,SqL.of (s1 _ _ el)⟩,?_⟩;refine JY (xs:=as.map V.ref) (fun j ys H''=>ys.length=((M.take j).filter fun ks=>decide ((i:Int)∈ks)).length/\H1=H'') ⟨rfl,rfl⟩ ?_ ?_ ?_
  ·rintro j ys H'' _ ⟨_,rfl⟩;exact SqL.of (s1 _ _ el)
  ·rintro j x ys H'' hx2 ⟨hy,rfl⟩;obtain⟨a,ks,rfl,hks,ha⟩:=la.at_ref hx2;refine qQ (σ':=[none,some _]) rfl ?_;exists⟨a,_,rfl,.inl (SqL.of (s1 _ _ ha)),rfl,flats ks,?_⟩;rw[inI];walk_at"g";have hle:((M.take j).filter fun ks=>decide ((i:Int)∈ks)).length<=8:=vV (length_filter_le _ _) (vV (List.length_take_le' _ _) M8);refine iteD (fun d=>?_) (fun d=>?_)
   ·exists⟨by lia,?_,rfl⟩;rw[take_snoc hks,filter_append,v6,vd (vG d),vn,vn,hy];rfl
   ·refine⟨?_,rfl⟩;rw[take_snoc hks,filter_append,v6,vc (by simpa using d),vn,hy];rfl
  rintro ys H'' ⟨hy,rfl⟩;rw[vt,lal,v3]at hy;have o1:=one (i:Int);refine⟨by lia,?_⟩;walk_at"f 2 t";exists⟨_,_,rfl,.inl ⟨_,SqL.of t2,rfl⟩,?_⟩;exists iteD (fun d=>?_) (fun d=>?_)
  ·exfalso;lia
  ·walk_at"g";exact⟨_,_,rfl,s1.trans s2⟩
 rintro σ' H' ⟨o3,o4,rfl,sm⟩;exact q H' sm
theorem XL(T:Txt K mg t):FnOk P w K mg base CX0 1 t.zB t.zG ["form","inside"] (sp_length_of):=by
 refine T.K5.ok XY (fun vs H Q E h=>?_) (fun cdv A outer s H vs Q E hr h=>?_)
 ·cases h;subst_vars;rfl
 obtain⟨a,l,f,gs,rfl,hF,el,pre,q⟩:=h;refine⟨_,(jb (j2 (jr Js (jq jA (pv 0) jd) jO (nomark _))
   (jf (jv (jF (xj rfl) (by rfl) T.j5Y j3T (ja (pv 1) jc))))
   jw)
  (jb (j2 (jr Js (jq jA (pv 0) jd) jO (nomark _))
   (jf (jv (jF (xi rfl) (by rfl) T.j07 Wb (ja (pv 1) jc))))
   jw)
  (jb (j2 (jr Js (jq jA (pv 0) jd) jO (nomark _))
   (jf (jv (jh JH (jq jA (pv 0) jd) (jq jt (pv 1) jd))))
   jw)
  (jf (jv (jq jA (pv 0) (wm Yk jd))))))),?_⟩
 refine jz (σ':=[some _,some _]) rfl ?_;have sz:(200:Nat)<sizeLine:=by decide
 cases f with
 | hold n=>
  have ha:H a=some (.tup _):=hF;exists ixTm (SqT.of ha) rfl ?_;exists iteE0 ?_;exists ixTm (SqT.of ha) rfl ?_;exists iteE0 ?_;exists ixTm (SqT.of ha) rfl ?_;exists iteE0 ?_;exists ixTm (SqT.of ha) rfl ?_;exact q _ rfl
 | ring x n=>
  have ha:H a=some (.tup _):=hF;exists ixTm (SqT.of ha) rfl ?_;exists iteE0 ?_;exists ixTm (SqT.of ha) rfl ?_;exists iteE0 ?_;exists ixTm (SqT.of ha) rfl ?_;exists iteE0 ?_;exists ixTm (SqT.of ha) rfl ?_;exact q _ rfl
 | rise x v n=>
  have ha:H a=some (.tup _):=hF;exists ixTm (SqT.of ha) rfl ?_;exists iteE0 ?_;exists ixTm (SqT.of ha) rfl ?_;exists iteE0 ?_;exists ixTm (SqT.of ha) rfl ?_;exists iteE0 ?_;exists ixTm (SqT.of ha) rfl ?_;exact q _ rfl
 | row ps=>
  obtain⟨b,ha,hb⟩:=hF;exists ixTm (SqT.of ha) rfl ?_;exists iteE1 ?_;exists⟨l,gs,rfl,SqL.of el,?_⟩;exact q _ rfl
 | side ps=>
  obtain⟨b,ha,hb⟩:=hF;exists ixTm (SqT.of ha) rfl ?_;exists iteE0 ?_;exists ixTm (SqT.of ha) rfl ?_;exists iteE1 ?_;exists⟨l,gs,rfl,SqL.of el,length_pos_iff.mpr pre,fun g h1 h2=>?_⟩;exact q g ⟨h1,h2⟩
 | again k x=>
  have ha:H a=some (.tup _):=hF;obtain⟨y,r,rfl,k1,k2,y1,y2⟩:=pre;exists ixTm (SqT.of ha) rfl ?_;exists iteE0 ?_;exists ixTm (SqT.of ha) rfl ?_;exists iteE0 ?_;exists ixTm (SqT.of ha) rfl ?_;exists iteE1 ?_;exists ixTm (SqT.of ha) rfl ?_;exists ixLm (SqL.of el) (at0) ?_;walk_at"g";exact q _ ⟨y,rfl,rfl⟩
theorem j1F(T:Txt K mg t)(zU:FnOk P w K mg base CX0 2 t.yk t.ym ["book"] (sp_inner))(Xa:FnOk P w K mg base CX0 4 t.kq t.kB ["book"] (sp_moved))(yg:FnOk P w K mg base CX0 1 t.QQ t.QW ["row","moves","limbs"] (sp_check_side))(yP:FnOk P w K mg base CX0 1 t.zB t.zG ["form","inside"] (sp_length_of)):FnOk P w K mg base CX0 5 t.Zc t.Zd ["book"] (sp_lengths):=by
 refine T.Kn.ok Qv (fun vs H Q E h=>?_) (fun cdv A outer s H vs Q E hr h=>?_)
 ·cases h;subst_vars;rfl
 obtain⟨b,pl,pp,las,pas,ls,ps,gs,hs,rfl,B,S,q⟩:=h;refine⟨_,(jb (jo (i:=1) Qv.nd rfl (.inr rfl) (jk (Xa.mono (by decide)) hr (by rfl) T.j5z T.j21.kp T.j5d .nil pass0 (ja (pv 0) jc)))
  (jb (jo (i:=2) Qv.nd rfl (.inr rfl) (jT jc))
  (jb (Jt PassesOwn.never rfl (wP (by rfl) T.ZD (ja (jk (zU.mono (by decide)) hr (by rfl) T.Xx T.wF.kp T.xU .nil pass0 (ja (pv 0) jc)) jc)) (qY rfl (jG (ju (i:=3) Qv.nd rfl (.inl rfl)) (jG (ju (i:=4) Qv.nd rfl (.inl rfl)) qc)))
   (jb (jo (i:=5) Qv.nd rfl (.inl rfl) (jq jA (jq jt (jq jA (pv 0) jd) (pv 3)) jd))
   (jb (Q2 (jr Js (jq jA (pv 5) jd) jO (nomark _))
    (jf (Jb (jk (yg.mono (by decide)) hr (by rfl) T.Xw T.kj.kp T.xT .nil pass0 (ja (pv 3) (ja (qB (ow:=["part"]) (ci:=[1]) rfl (CompScope.of (defScope Z9) ["book","moves","found","row","inside","form","length"] rfl rfl (by decide +kernel)) (qS (by decide)) (Jh (pv 4)) (fun _ _ _ _ _=>⟨(ju (i:=0) (JX ["book","moves","found","row","inside","form","length"] rfl (by decide +kernel)) rfl (.inl rfl)),Q1,(jq (kG (K:=K) rfl) (pv 1) (pv 0))⟩)) (ja (jq jA (pv 0) jd) jc))))))
    jw)
   (jb (jo (i:=6) Qv.nd rfl (.inl rfl) (jk (yP.mono (by decide)) hr (by rfl) T.j0z T.K5.kp T.j00 .nil pass0 (ja (pv 5) (ja (qB (ow:=["part"]) (ci:=[2]) rfl (CompScope.of (defScope Z9) ["book","moves","found","row","inside","form","length"] rfl rfl (by decide +kernel)) (qS (by decide)) (Jh (pv 4)) (fun _ _ _ _ _=>⟨(ju (i:=0) (JX ["book","moves","found","row","inside","form","length"] rfl (by decide +kernel)) rfl (.inl rfl)),Q1,(jq (kG (K:=K) rfl) (pv 1) (pv 0))⟩)) jc))))
   (jb (j2 (jr zP (pv 6) (jh zL jd jd) (nomark _))
    (jf Z8)
    jw)
   (jf (Jb (ql PySem.F.plainAttrs_list PySem.F.slot_list_append PySem.F.type_list_append jU (pv 2) (ja (pv 6) jc)))))))))
  (jf (jv (pv 2)))))),?_⟩
 refine jz (σ':=[some _,none,none,none,none,none,none]) rfl ?_;have sz:(200:Nat)<sizeLine:=by decide
 have W:=S.w;have pa:=B.pa.1;have gl:=S.gl;have p61:=W.p61;exists⟨b,pl,pp,las,pas,_,_,rfl,B,W,fun lm cms M H1 s1 hlm elm nlm Ml aM oM=>?_⟩;have mg:=S.mv M Ml oM;have aMl:=aM.1;exists⟨va _,?_⟩;walk_at"f l hl H2 s2 t2";have nl:=none_of s1 hl;have s12:=s1.trans s2;exists⟨b,pl,pp,las,pas,_,_,rfl,B.same s12,W,fun li ias H3 s3 hli eli nia lia=>?_⟩;walk_at"g";have s13:=s12.trans s3;have s23:=s2.trans s3;have lial:=lia.1;rw[vt]at lial;have nli:li≠l:=fun z=>by rw[z,t2]at hli;cases hli
 have t3:H3 l=some (.lst []):=s3 _ _ t2;have npl:∀{c u},H c=some u->c≠l:=fun h=>je h nl
 have np1:∀{c u},H1 c=some u->c≠l:=fun h=>je h hl
 refine⟨li,_,rfl,SqL.of eli,?_⟩;refine kD (xs:=ias.map V.ref) (fun i σ H'=>IvE4 fun(o3 o4 o5 o6:Option V)=>IvA2 (σ=[some (.ref b),some (.ref lm),some (.ref l),o3,o4,o5,o6]) ((∀c u,c≠l->H3 c=some u->H' c=some u)/\H' l=some (.lst ((gs.take i).map V.int))))
  ⟨_,_,_,_,rfl,fun c u _ h=>h,t3⟩ ?_ ?_ ?_
 ·rintro i σ H' _ ⟨o3,o4,o5,o6,rfl,sm,e1⟩;exact SqL.of (sm _ _ nli eli)
 ·rintro i v σ H' P H4 hv ⟨o3,o4,o5,o6,rfl,sm,e1⟩ sP tP;obtain⟨ia,is',rfl,his,hia⟩:=lia.at_ref hv;have hi:i<ps.length:=by
   have:=(vx.mp his).1;rw[vt]at this;exact this
  obtain⟨p,hp⟩:∃p,ps[i]?=some p:=⟨_,vz hi⟩
  rw[vv,hp]at his;cases his;obtain⟨a,ea,fb,hat,hf⟩:=B.pa.get hp;have iam:ia∈ias:=by
   rw[vv]at hv;obtain⟨a',ea',e'⟩:=vg.mp hv;injection e' with e';subst e';exact vm ea'
  have nial:ia≠l:=fun z=>by have:=nia ia iam;rw[z,t2]at this;cases this
  have k4:∀c u,c≠l->H3 c=some u->H4 c=some u:=fun c u hc h=>sP _ _ (sm _ _ hc h)
  have k04:∀c u,H c=some u->H4 c=some u:=fun c u h=>k4 _ _ (npl h) (s13 _ _ h)
  have k14:∀c u,H1 c=some u->H4 c=some u:=fun c u h=>k4 _ _ (np1 h) (s23 _ _ h)
  have hia4:H4 ia=some (.lst (((inP ps p.2).map fun j:Nat=>(j:Int)).map V.int)):=k4 _ _ nial hia;have e14:=sP _ _ e1;have hf4:FormAt H4 fb p.2:=FormAt.same k04 hf;have inl:=fun j=>W.inP_lt (j:=j) hp
  have w8:(inP ps p.2).length<=8:=by unfold inP;rw[vt];exact(W.f i p hp).2
  obtain⟨lp,lgd⟩:=S.ln i p hp;have lgi:=S.gb i hi;refine zj (SqT.of tP) ?_;exists ixTm (SqT.of (k04 _ _ B.t)) rfl ?_;exists ixLm (SqL.of (k04 _ _ B.p)) (Yo (i:=(i:Int)) (by lia) ea) ?_;exists ixTm (SqT.of (k04 _ _ hat)) rfl ?_;exists⟨fun σ' H5=>σ'=[some (.ref b),some (.ref lm),some (.ref l),some (.int i),some (.ref ia),some (.ref fb),o6]/\Same H4 H5,?_,?_⟩
  rotate_left
  ·by_cases hs0:∃qs,p.2 = .side qs
   ·obtain⟨qs,e⟩:=hs0;have ap:=S.sd i p qs hp e;generalize inP ps p.2=is at hia4 inl ap w8;rw[e]at hf4;obtain⟨nb,hf5,_⟩:=hf4;exists ixTm (SqT.of hf5) rfl ?_;exists iteE1 ?_;exists⟨ia,rfl,⟨_,SqL.of hia4⟩,?_⟩;have cat:∀j∈is,∃c,cms[j]?=some c/\H4 c=some (.lst ((hs.getD j []).map V.int)):=fun j hj=>by
     have jl:=inl j hj;obtain⟨c,hc,h1⟩:=aM.get (i:=j) (x:=M.getD j []) (by rw[vy,vz (by lia)];rfl);rw[mg j (by lia)]at h1;exact⟨c,hc,k14 _ _ h1⟩
    refine JY (xs:=(is.map fun j:Nat=>(j:Int)).map V.int) (fun t ys H'=>IvE1 fun(cs:List Addr)=>IvA2 (ys=cs.map V.ref) (ListsAt H4 cs ((is.take t).map fun j=>hs.getD j [])/\H4=H')) ⟨[],rfl,.nil,rfl⟩ ?_ ?_ ?_
    ·rintro t ys H' _ ⟨cs,rfl,lc,rfl⟩;exact SqL.of hia4
    ·rintro t x ys H' hx ⟨cs,rfl,lc,rfl⟩;rw[vv,vv]at hx;obtain⟨jj,hjj,rfl⟩:=vg.mp hx;obtain⟨j,hj,rfl⟩:=vg.mp hjj;obtain⟨c,hc,h1⟩:=cat j (vm hj);have lcl:=lc.1;rw[vt,vi]at lcl;refine qQ (σ':=[none,some _]) rfl ?_;exists iteT ?_;exists ixLm (SqL.of (k14 _ _ elm)) (Yo (i:=(j:Int)) (by lia) hc) ?_;refine⟨by rw[vt];lia,cs++[c],by rw[vj];rfl,?_,rfl⟩;rw[take_snoc hj,vj];exact All2.snoc lc h1
    rintro ys H' ⟨cs,rfl,lc,rfl⟩;rw[vt,vt,v3]at lc;have lcl:=lc.1;rw[vt]at lcl;refine⟨by rw[vt];lia,?_⟩;walk_at"f 5 t";exists ixTm (SqT.of (s5 _ _ (k04 _ _ B.t))) rfl ?_;exists⟨_,p5,pl,cs,las,(is.map fun j=>hs.getD j []),rfl,t5,All2.mono lc fun c ks h=>s5 _ _ h,fun ks hks=>?_,by rw[vt];lia,s5 _ _ (k04 _ _ B.l),ap.2,fun H6 s6=>?_⟩
    ·obtain⟨j,hj,rfl⟩:=vK.mp hks;exact ap.1 j hj
    walk_at"g";exact⟨rfl,s5.trans s6⟩
   ·have kd:∃k xs,H4 fb=some (.tup (.str k::xs))/\decide (k=("side" : Str))=false:=by
     generalize p.2=f at hf4 hs0;cases f with
     | side qs=>exact ug ⟨qs,rfl⟩ hs0
     | hold n=>exact⟨_,_,hf4,by decide +kernel⟩
     | ring x n=>exact⟨_,_,hf4,by decide +kernel⟩
     | rise x v n=>exact⟨_,_,hf4,by decide +kernel⟩
     | row qs=>obtain⟨_,h1,_⟩:=hf4;exact⟨_,_,h1,by decide +kernel⟩
     | again k x=>exact⟨_,_,hf4,by decide +kernel⟩
    obtain⟨k,xs,hk,dk⟩:=kd;exists ixTm (SqT.of hk) (at0) ?_;exists iteB0 dk ?_;walk_at"g";exact⟨rfl,Same.refl _⟩
  rintro σ' H5 ⟨rfl,s5⟩;exists⟨ia,rfl,⟨_,SqL.of (s5 _ _ hia4)⟩,?_⟩;have e15:=s5 _ _ e14;refine JY (xs:=((inP ps p.2).map fun j:Nat=>(j:Int)).map V.int) (fun t ys H'=>ys=(((inP ps p.2).take t).map fun j=>gs.getD j 0).map V.int/\H5=H') ⟨rfl,rfl⟩ ?_ ?_ ?_
  ·rintro t ys H' _ ⟨rfl,rfl⟩;exact SqL.of (s5 _ _ hia4)
  ·rintro t x ys H' hx ⟨rfl,rfl⟩;rw[vv,vv]at hx;obtain⟨jj,hjj,rfl⟩:=vg.mp hx;obtain⟨j,hj,rfl⟩:=vg.mp hjj;have jl:=inl j (vm hj);refine qQ (σ':=[none,some _]) rfl ?_;exists iteT ?_;exists ixLm (SqL.of e15) (j44 (by lia) jl) ?_;refine⟨by rw[vt,vt,vi];lia,?_,rfl⟩;rw[take_snoc hj,vj,vj];rfl
  rintro ys H' ⟨rfl,rfl⟩;rw[show(((inP ps p.2).map fun j:Nat=>(j:Int)).map V.int).length=(inP ps p.2).length by rw[vt,vt],v3];refine⟨by rw[vt,vt];lia,?_⟩;walk_at"f 6 t";exists⟨fb,p6,p.2,_,rfl,FormAt.same (s5.trans s6) hf4,t6,lp,fun g hg=>?_⟩;have eg:=lgd g hg;subst eg;exists iteD (fun d=>?_) (fun d=>?_)
  ·exfalso;lia
  exists⟨.inl ⟨rfl,_,SqL.of (s6 _ _ e15)⟩,?_⟩;exists⟨l,_,_,rfl,rfl,s6 _ _ e15,by rw[vt,vi];lia,?_⟩;refine⟨_,_,_,_,rfl,fun c u hc h=>(jg hc).trans (s6 _ _ (s5 _ _ (k4 _ _ hc h))),?_⟩;rw[jC,j5u (by lia),vj];rfl
 rintro σ' H' ⟨o3,o4,o5,o6,rfl,sm,e1⟩;rw[vt,lial,<-gl,v3]at e1;walk_at"g";exact q l H' (fun c u h=>sm _ _ (npl h) (s13 _ _ h)) nl e1
theorem XM(T:Txt K mg t):FnOk P w K mg base CX0 1 t.zC t.zH ["form","inside","sizes"] (sp_pieces_in):=by
 refine T.K6.ok qD (fun vs H Q E h=>?_) (fun cdv A outer s H vs Q E hr h=>?_)
 ·cases h;subst_vars;rfl
 obtain⟨a,l,s0,f,is,gs,rfl,hf,el,es,i8,hj,hne,q⟩:=h;refine⟨_,(jb (j2 (jr Js (jq jA (pv 0) jd) jO (nomark _))
   (jb (jo (i:=3) qD.nd rfl (.inl rfl) (jq jt (pv 1) jd))
   (jb (jo (i:=4) qD.nd rfl (.inl rfl) (Z6 (jr zP (jq jA (pv 0) jd) jd (nomark _)) (jT (ja (jV (ja (pv 3) (ja (jh JK (jq jA (pv 0) jd) jd) (ja (jq jt (pv 2) (pv 3)) jc)))) jc)) (jT jc)))
   (jf (jv (jh KM (jT (ja (jV (ja (pv 3) (ja jd (ja jd jc)))) jc)) (pv 4))))))
   jw)
  (jb (jo (i:=5) qD.nd rfl (.inl rfl) (jT jc))
  (jb (jo (i:=6) qD.nd rfl (.inl rfl) jd)
  (jb (Jt PassesOwn.never rfl (Jh (pv 1)) (ju (i:=3) qD.nd rfl (.inl rfl))
   (jb (Jb (ql PySem.F.plainAttrs_list PySem.F.slot_list_append PySem.F.type_list_append jU (pv 5) (ja (jV (ja (pv 3) (ja jd (ja (pv 6) jc)))) jc)))
   (jf (j2 (jr Js (jq jA (pv 0) jd) jO (nomark _))
    (jf (XR (i:=6) qD.nd rfl (.inl rfl) (jq jt (pv 2) (pv 3)) Xp))
    jw))))
  (jf (jv (pv 5))))))),?_⟩
 refine jz (σ':=[some _,some _,some _,none,none,none,none]) rfl ?_;have sz:(10000:Nat)<sizeLine:=by decide
 have gat:∀j,j<gs.length->gs[j]?=some (gs.getD j 0):=fun j h=>by
  rw[vy,vz h];rfl
 by_cases ha:∃k x,f = .again k x
 ·obtain⟨k,x,rfl⟩:=ha;have hf:H a=some (.tup [.str "again",.int k,.str x]):=hf;obtain⟨j,r,rfl⟩:=List.exists_cons_of_ne_nil (hne k x rfl);have lj:=hj j vq;exists ixTm (SqT.of hf) rfl ?_;exists iteE1 ?_;exists ixLm (SqL.of el) (at0) ?_;exists ixTm (SqT.of hf) rfl ?_;exists iteD (fun c=>?_) (fun c=>?_)
  ·exists ixTm (SqT.of hf) rfl ?_;exists ixLm (SqL.of es) (jL (j:=j) (by rw[vv,gat j lj];rfl)) ?_;exists⟨ud,?_⟩;walk_at"f 1 t";exists⟨uf,?_⟩;walk_at"f 2 t";exists⟨ud,?_⟩;walk_at"f 3 t";exists⟨uf,?_⟩;walk_at"f 4 t";exists⟨p4,p2,_,_,rfl,rfl,t4,s4 _ _ (s3 _ _ t2),ue,?_⟩;walk_at"f 5 t";have s15:=s1.trans (s2.trans (s3.trans (s4.trans s5)));refine q p5 [p3,p1] _ s15 (none_of (s1.trans (s2.trans (s3.trans s4))) hp5) t5 ?_;show PcsAt H5 _ ((j,1,0)::(if 1<k then[(j,k-1,gs.getD j 0)]else[]));rw[vd c];exact .cons (s5 _ _ (s4 _ _ t3)) (.cons (s5 _ _ (s4 _ _ (s3 _ _ (s2 _ _ t1)))) .nil)
  ·exists⟨va _,?_⟩;walk_at"f 2 t";exists⟨ud,?_⟩;walk_at"f 3 t";exists⟨uf,?_⟩;walk_at"f 4 t";exists⟨p4,p2,_,_,rfl,rfl,t4,s4 _ _ (s3 _ _ t2),uf,?_⟩;walk_at"f 5 t";have s15:=s2.trans (s3.trans (s4.trans s5));refine q p5 [p3] _ s15 (none_of (s2.trans (s3.trans s4)) hp5) t5 ?_;show PcsAt H5 _ ((j,1,0)::(if 1<k then[(j,k-1,gs.getD j 0)]else[]));rw[vc c];exact .cons (s5 _ _ (s4 _ _ t3)) .nil
 have key:∃kw xs,H a=some (.tup (.str kw::xs))/\decide (kw=("again" : Str))=false/\((decide (kw=("row" : Str))=true/\∃xs,f = .row xs)\/(decide (kw=("row" : Str))=false/\∀is,pcsI gs f is=is.map fun j=>(j,1,0))):=by
  cases f with
  | hold n=>exact⟨_,_,hf,by decide +kernel,.inr ⟨by decide +kernel,fun _=>rfl⟩⟩
  | ring x n=>exact⟨_,_,hf,by decide +kernel,.inr ⟨by decide +kernel,fun _=>rfl⟩⟩
  | rise x v n=>exact⟨_,_,hf,by decide +kernel,.inr ⟨by decide +kernel,fun _=>rfl⟩⟩
  | row ps=>obtain⟨b,h1,_⟩:=hf;exact⟨_,_,h1,by decide +kernel,.inl ⟨by decide +kernel,_,rfl⟩⟩
  | side ps=>obtain⟨b,h1,_⟩:=hf;exact⟨_,_,h1,by decide +kernel,.inr ⟨by decide +kernel,fun _=>rfl⟩⟩
  | again k x=>exact ug ⟨k,x,rfl⟩ ha
 obtain⟨kw,xs,hk,dk,hkind⟩:=key;exists ixTm (SqT.of hk) (at0) ?_;exists iteB0 dk ?_;exists⟨va _,?_⟩;walk_at"f p hp H1 s1 t1";walk_at"g";have np:∀{c u},H c=some u->c≠p:=fun h=>je h hp
 refine⟨l,rfl,⟨_,SqL.of (s1 _ _ el)⟩,?_⟩;refine qa (xs:=(is.map fun j:Nat=>(j:Int)).map V.int) (fun i σ H'=>IvE4 fun(o3:Option V) (bg:Int) (as:List Addr) (qs:List Pc)=>IvA6 (σ=[some (.ref a),some (.ref l),some (.ref s0),o3,none,some (.ref p),some (.int bg)]) (Same H H') (H' p=some (.lst (as.map V.ref))) (as.length=i) (PcsAt H' as qs) (((∃xs,f = .row xs)->rowPc gs is 0=qs++rowPc gs (is.drop i) bg)/\(¬(∃xs,f = .row xs)->bg=0/\qs=(is.take i).map fun j=>(j,1,0))))
  ⟨_,0,[],[],rfl,s1,t1,rfl,.nil,fun _=>rfl,fun _=>⟨rfl,rfl⟩⟩ ?_ ?_ ?_
 ·rintro i σ H' _ ⟨o3,bg,as,qs,rfl,sm,e1,la,hq,h1,h2⟩;exact SqL.of (sm _ _ el)
 ·rintro i v σ H' hv ⟨o3,bg,as,qs,rfl,sm,e1,la,hq,h1,h2⟩;rw[vv,vv]at hv;obtain⟨jj,hjj,rfl⟩:=vg.mp hv;obtain⟨j,hij,rfl⟩:=vg.mp hjj;have il:=(vx.mp hij).1;have ed:is.drop i=j::is.drop (i+1):=by
   obtain⟨h,rfl⟩:=vx.mp hij;exact List.drop_eq_getElem_cons h
  have lj:=hj j (vm hij);exists⟨.inl ⟨rfl,_,SqL.of e1⟩,?_⟩;exists⟨ud,?_⟩;walk_at"f 2 t";exists⟨p,_,_,rfl,rfl,s2 _ _ e1,by rw[vt];lia,?_⟩;have n2:p2≠p:=fun z=>by rw[z,s2 _ _ e1]at t2;cases t2
  have s3:Same H (upd H2 p (.lst (as.map V.ref++[.ref p2]))):=fun c u h=>(jg (np h)).trans (s2 _ _ (sm _ _ h))
  have e3:upd H2 p (.lst (as.map V.ref++[.ref p2])) p=some (.lst ((as++[p2]).map V.ref)):=by rw[jC,vj];rfl
  have hq3:PcsAt (upd H2 p (.lst (as.map V.ref++[.ref p2]))) (as++[p2]) (qs++[(j,1,bg)]):=by
   refine All2.snoc (All2.mono hq fun c x h=>?_) ((jg n2).trans t2);exact(jg (fun z=>by rw[z,e1]at h;cases h)).trans (s2 _ _ h)
  generalize upd H2 p (.lst (as.map V.ref++[.ref p2]))=H3 at s3 e3 hq3|-;exists ixTm (SqT.of (s3 _ _ hk)) (at0) ?_;walk_at"g";rcases hkind with⟨dr,xs',ef⟩ | ⟨dr,hp'⟩
  ·refine iteB1 dr ?_;exists ixLm (SqL.of (s3 _ _ es)) (jL (j:=j) (by rw[vv,gat j lj];rfl)) ?_;exists⟨_,_,as++[p2],qs++[(j,1,bg)],rfl,s3,e3,by rw[vn,la];rfl,hq3,fun h=>?_,fun h=>ug ⟨xs',ef⟩ h⟩;rw[h1 h,ed,List.append_assoc];rfl
  ·refine iteB0 dr ?_;exists⟨_,_,as++[p2],qs++[(j,1,bg)],rfl,s3,e3,by rw[vn,la];rfl,hq3,fun h=>?_,fun h=>?_⟩
   ·obtain⟨xs',ef⟩:=h;subst ef;have:=hp' [0,0];obtain⟨bb,hb1,_⟩:=hf;rw[hb1]at hk;cases hk;exact ug dr (by decide +kernel)
   ·obtain⟨b0,eq⟩:=h2 h;refine⟨b0,?_⟩;rw[take_snoc hij,vj,eq,b0];rfl
 rintro σ' H' ⟨o3,bg,as,qs,rfl,sm,e1,la,hq,h1,h2⟩;rw[show((is.map fun j:Nat=>(j:Int)).map V.int).length=is.length by rw[vt,vt]]at h1 h2;exists q p as H' sm hp e1 ?_;have e:pcsI gs f is=qs:=by
  by_cases hr':∃xs,f = .row xs
  ·obtain⟨xs',rfl⟩:=hr';show rowPc gs is 0=qs;rw[h1 ⟨xs',rfl⟩,List.drop_length];exact append_nil _
  ·rcases hkind with⟨_,xs',ef⟩ | ⟨_,hp'⟩
   ·exact ug ⟨xs',ef⟩ hr'
   ·rw[hp',(h2 hr').2,v3]
 rw[e];exact hq
theorem XN(T:Txt K mg t)(zU:FnOk P w K mg base CX0 2 t.yk t.ym ["book"] (sp_inner))(yQ:FnOk P w K mg base CX0 1 t.zC t.zH ["form","inside","sizes"] (sp_pieces_in)):FnOk P w K mg base CX0 3 t.QB t.QF ["book","sizes"] (sp_pieces_of):=by
 refine T.yL.ok XZ (fun vs H Q E h=>?_) (fun cdv A outer s H vs Q E hr h=>?_)
 ·cases h;subst_vars;rfl
 obtain⟨b,pl,pp,s0,las,pas,ls,ps,gs,rfl,B,W,es,gl,q⟩:=h;refine⟨_,(jf (jv (qB (ow:=["part","inside"]) (ci:=[1]) rfl (CompScope.of (defScope ZI) ["book","sizes"] rfl rfl (by decide +kernel)) (wI (by decide) (by decide)) (j4C (by rfl) T.j5Z (ja (jq jA (pv 0) jd) (ja (jk (zU.mono (by decide)) hr (by rfl) T.Xx T.wF.kp T.xU .nil pass0 (ja (pv 0) jc)) jc))) (fun _ _ _ _ _=>⟨(qY rfl (jG (ju (i:=0) (JX ["book","sizes"] rfl (by decide +kernel)) rfl (.inl rfl)) (jG (ju (i:=1) (JX ["book","sizes"] rfl (by decide +kernel)) rfl (.inl rfl)) qc))),Q1,(jk (yQ.mono (by decide)) hr (by rfl) T.j0A T.K6.kp T.j01 .nil pass0 (ja (jq (wK (K:=K) rfl) (pv 0) jd) (ja (pv 1) (ja (pv 2) jc))))⟩)))),?_⟩;refine jz (σ':=[some _,some _]) rfl ?_;have sz:(10000:Nat)<sizeLine:=by decide
 have p61:=W.p61;have pa:=B.pa.1;exists ixTm (SqT.of B.t) rfl ?_;exists⟨b,pl,pp,las,pas,ls,ps,rfl,B,W,fun li ias H3 s3 hli eli nia lia=>?_⟩;walk_at"g";have lial:=lia.1;rw[vt]at lial;refine⟨pp,li,_,_,rfl,SqL.of (s3 _ _ B.p),SqL.of eli,?_⟩;refine j3U (xs:=pas.map V.ref) (zs:=ias.map V.ref) (fun i ys H'=>IvE1 fun(as:List Addr)=>IvA4 (ys=as.map V.ref) (as.length=i) (Same H3 H') ((∀a∈as,H a=none)/\PssAt H' as ((ps.take i).map fun p=>pcsI gs p.2 (inP ps p.2)))) (by rw[vt,vt];lia) ⟨[],rfl,rfl,Same.refl _,(fun a h=>nomatch h),.nil⟩ ?_ ?_ ?_
 ·rintro i ys H' _ ⟨as,rfl,hl,sm,na,ha⟩;exact⟨SqL.of (sm _ _ (s3 _ _ B.p)),SqL.of (sm _ _ eli)⟩
 ·rintro i u v ys H' T0 H4 hu hv ⟨as,rfl,hl,sm,na,ha⟩ sP tP;have hi:=(vx.mp hu).1;rw[vt]at hi;obtain⟨a,p,rfl,hp,fb,hat,hf⟩:=B.pa.at_ref hu;obtain⟨ia,is,rfl,his,hia⟩:=lia.at_ref hv;rw[vv,hp]at his;cases his;have hpi:=(vx.mp hp).1;have s4:=sm.trans sP;have s04:=s3.trans s4;have i8:(inP ps p.2).length<=8:=by unfold inP;rw[vt];exact(W.f i p hp).2
  refine qQ (σ':=[none,none,some _]) rfl ?_;refine zj (SqT.of tP) ?_;exists iteT ?_;exists ixTm (SqT.of (s04 _ _ hat)) rfl ?_;exists⟨fb,ia,s0,p.2,inP ps p.2,gs,rfl,FormAt.same s04 hf,s4 _ _ hia,s04 _ _ es,i8,fun j hj=>by have:=W.inP_lt hp hj;lia,fun k x e=>by rw[e];exact cons_ne_nil _ _,fun p5 as5 H5 s5 hp5 e5 hq5=>?_⟩;refine⟨by rw[vt];lia,as++[p5],by rw[vj];rfl,by rw[vn,hl];rfl,s4.trans s5,fun c hc=>(vh.mp hc).elim (na c) fun z=>by rw[vo.mp z];exact none_of s04 hp5,?_⟩;rw[take_snoc hp,vj];refine All2.snoc (All2.mono ha fun c x h=>?_) ⟨as5,e5,hq5⟩;obtain⟨bs,h1,h2⟩:=h;exact⟨bs,s5 _ _ (sP _ _ h1),All2.mono h2 fun c x h=>s5 _ _ (sP _ _ h)⟩
 rintro ys H' ⟨as,rfl,hl,sm,na,ha⟩;rw[vt]at hl ha;refine⟨by rw[vt];lia,?_⟩;walk_at"f 4 t";refine q _ as _ (s3.trans (sm.trans s4)) (none_of (s3.trans sm) hp4) t4 ?_ na;rw[pa,v3]at ha;refine All2.mono ha fun c x h=>?_
 obtain⟨bs,h1,h2⟩:=h;exact⟨bs,s4 _ _ h1,All2.mono h2 fun c x h=>s4 _ _ h⟩
theorem KL(T:Txt K mg t):FnOk P w K mg base CX0 1 t.qF t.qI ["pieces","left","first"] (sp_begunH):=by
 refine T.yH.ok Jc (fun vs H Q E h=>?_) (fun cdv A outer s H vs Q E hr h=>?_)
 ·cases h;subst_vars;rfl
 obtain⟨pp,pl,pa,f,L,gs,PC,rfl,ep,hpa,el,K0,q⟩:=h;refine⟨_,(jb (XS (i:=3) (ow:=["inside"]) (ci:=[]) rfl (CompScope.of (defScope Qp) ["pieces","left","first","found","part","height","now","other","turns","begin"] rfl rfl (by decide +kernel)) (qS (by decide)) Jc.nd rfl (.inl rfl) (Jh (pv 0)) (fun _ _ _ _ _=>⟨(ju (i:=0) (JX ["pieces","left","first","found","part","height","now","other","turns","begin"] rfl (by decide +kernel)) rfl (.inl rfl)),Q1,yZ⟩))
  (jb (Yv (QZ hr) (jq jt (pv 3) (wm Yk jd)) (pv 2) kS rfl)
  (jb (Jt PassesOwn.never rfl (j3x (by rfl) T.zV (ja (jh JK (jF j4 (by rfl) T.qG JJ (ja (pv 0) jc)) jd) (ja (wm Yk jd) (ja (wm Yk jd) jc)))) (ju (i:=4) Jc.nd rfl (.inl rfl))
   (jf (Jt PassesOwn.never rfl (Jh (qP (j1e rfl) (by rfl) T.j1a Xf (ja (jq jt (pv 3) (pv 4)) jc))) (ju (i:=5) Jc.nd rfl (.inl rfl))
    (jb (jo (i:=6) Jc.nd rfl (.inl rfl) (pv 5))
    (jf (Jt PassesOwn.never rfl (Jh (jq jt (pv 0) (pv 4))) (qY rfl (jG (ju (i:=7) Jc.nd rfl (.inl rfl)) (jG (ju (i:=8) Jc.nd rfl (.inl rfl)) (jG (ju (i:=9) Jc.nd rfl (.inl rfl)) qc))))
     (jb (Yv (QZ hr) (jq jt (pv 3) (pv 7)) (pv 6) kS rfl)
     (jf (jo (i:=6) Jc.nd rfl (.inl rfl) (jq jt (pv 1) (pv 7)))))))))))
  (jf (jv (j6y (pv 3))))))),?_⟩
 refine jz (σ':=[some _,some _,some _,none,none,none,none,none,none,none]) rfl ?_;have sz:(10000:Nat)<sizeLine:=by decide
 have n1:=K0.n1;have n61:=K0.n61;have lL:=K0.lL;have pal:=hpa.1;exists⟨pp,rfl,⟨_,SqL.of ep⟩,?_⟩;refine JY (xs:=pa.map V.ref) (fun i ys H'=>∃as:List Addr,ys=as.map V.ref/\as.length=i/\Same H H'/\as.Nodup/\∀a∈as,H a=none/\H' a=some (.dK [])) ⟨[],rfl,rfl,Same.refl _,nodup_nil,fun a h=>nomatch h⟩ ?_ ?_ ?_
 ·rintro i ys H' _ ⟨as,rfl,hl,sm,nd,na⟩;exact SqL.of (sm _ _ ep)
 ·rintro i v ys H' hv ⟨as,rfl,hl,sm,nd,na⟩;have hi:=(vx.mp hv).1;rw[vt]at hi;refine qQ (σ':=[none]) rfl ?_;exists iteT ?_;walk_at"g";walk_at"f d hd H1 s1 t1";refine⟨by rw[vt];lia,as++[d],by rw[vj];rfl,by rw[vn,hl];rfl,sm.trans s1,?_,fun a ha=>?_⟩
  ·refine nodup_append.mpr ⟨nd,ur.mpr ⟨(fun z=>nomatch z),nodup_nil⟩,fun x hx y hy z=>?_⟩;rw[vo.mp hy]at z;rw[z]at hx;rw[(na d hx).2]at hd;cases hd
  ·rcases vh.mp ha with ha | ha
   ·exact⟨(na a ha).1,s1 _ _ (na a ha).2⟩
   ·rw[vo.mp ha];exact⟨none_of sm hd,t1⟩
 rintro ys H' ⟨as,rfl,hl,sm,nd,na⟩;rw[vt]at hl;refine⟨by rw[vt];lia,?_⟩;walk_at"f l hl2 H2 s2 t2";have nl:=none_of sm hl2;have b0:Beg H l as (List.replicate as.length []) H2:=⟨sm.trans s2,t2,⟨by rw[length_replicate],fun i a x h1 h2=>by
  obtain⟨_,e⟩:=vx.mp h2;rw[List.getElem_replicate]at e;subst e;exact s2 _ _ (na a (vm h1)).2⟩,nd,fun a h=>(na a h).1,nl⟩
 clear s2 t2 hl2 na;have al:=hl.trans pal;walk_at"g";obtain⟨a0,ha0,da0⟩:=b0.last (j:=PC.length-1) (by rw[length_replicate];lia);refine ixLm (SqL.of b0.el) (j6a (n:=PC.length) n1 (by rw[vt];lia) (by rw[vv,ha0];rfl)) ?_;exists⟨a0,_,rfl,DPut.k (k:=Sum.inl f) da0 (vD ((KB.none (f:=f) (L:=L)).len _) (by lia)),?_⟩;have b1:=b0.put ha0 f;have h0:PC.length-1<(List.replicate as.length ([]:Tb)).length:=by rw[length_replicate];lia
 have k1:KB f L (putB (List.replicate as.length []) (PC.length-1) f):=KB.none.put h0 (.inl rfl);have t1:Has (putB (List.replicate as.length []) (PC.length-1) f) (PC.length-1) f:=j0M h0;have l1:(putB (List.replicate as.length []) (PC.length-1) f).length=PC.length:=by rw[j0u,length_replicate,al]
 generalize upd H2 a0 _=H3 at b1|-;generalize putB (List.replicate as.length []) (PC.length-1) f=B1 at b1 k1 t1 l1;clear b0 da0 h0;exists⟨_,_,rfl,.inl ⟨_,SqL.of (b1.sm _ _ ep),rfl⟩,?_⟩;rw[vt];exists⟨_,_,rfl,⟨by lia,by lia,by lia,by lia⟩,?_⟩;refine j40 (fun i σ H'=>∃(o4 o5 o6 o7 o8 o9:Option V) (B:List Tb),σ=[some (.ref pp),some (.ref pl),some (.int f),some (.ref l),o4,o5,o6,o7,o8,o9]/\Beg H l as B H'/\KB f L B/\B.length=PC.length/\Has B (PC.length-1) f/\∀p,p<PC.length->PC.length<=p+i->∀h,Has B p h->Run L B h (PC.getD p []))
  ⟨_,_,_,_,_,_,B1,rfl,b1,k1,l1,t1,fun p hp hi=>ug hi (by lia)⟩ ?_ ?_
 ·rintro i σ H' hi ⟨o4,o5,o6,o7,o8,o9,B,rfl,b,kb,lB,tp,cl⟩;obtain⟨p,hp⟩:∃p:Nat,(pa.length:Int)-1-(i:Int)=(p:Int):=⟨PC.length-1-i,by lia⟩
  have pn:p+i+1=PC.length:=by lia
  rw[hp];obtain⟨ap,hap,dap⟩:=b.last (j:=p) (by lia);obtain⟨pc,hpc,bs,hbs,hqs⟩:=hpa.get (i:=p) (x:=PC.getD p []) (by rw[vy,vz (by lia)];rfl);exists ixLm (SqL.of b.el) (jL (j:=p) (by rw[vv,hap];rfl)) ?_;exists⟨ap,_,rfl,dap,?_⟩;walk_at"f kl hkl H4 s4 t4";have nkl:∀{j a},as[j]?=some a->kl≠a:=fun {j a} ha z=>by
   obtain⟨hj,e⟩:=vx.mp ha;obtain⟨a',h1,h2⟩:=b.last (j:=j) (by rw[lB];lia);rw[ha]at h1;cases h1;rw[<-z,hkl]at h2;cases h2
  exists⟨kl,rfl,⟨_,SqL.of t4⟩,?_⟩;refine qa (xs:=(B.getD p []).map fun q=>kV q.1) (fun t σ H'=>∃(o5 o6 o7 o8 o9:Option V) (B':List Tb),σ=[some (.ref pp),some (.ref pl),some (.int f),some (.ref l),some (.int (p:Nat)),o5,o6,o7,o8,o9]/\Beg H l as B' H'/\H' kl=some (.lst ((B.getD p []).map fun q=>kV q.1))/\KB f L B'/\B'.length=PC.length/\Has B' (PC.length-1) f/\(∀p,p<PC.length->PC.length<=p+i->∀h,Has B' p h->Run L B' h (PC.getD p []))/\B'.getD p []=B.getD p []/\∀j q h,j<t->(B.getD p [])[j]?=some q->q.1=Sum.inl h->Run L B' h (PC.getD p []))
   ⟨_,_,_,_,_,B,rfl,b.more s4,t4,kb,lB,tp,cl,rfl,fun j q h z=>ug z (Nat.not_lt_zero _)⟩ ?_ ?_ ?_
  ·rintro t σ H5 _ ⟨o5,o6,o7,o8,o9,B5,rfl,b5,e5,_⟩;exact SqL.of e5
  ·rintro t x σ H5 hx ⟨o5,o6,o7,o8,o9,B5,rfl,b5,e5,k5,l5,t5,c5,p5,r5⟩;rw[vv]at hx;obtain⟨q0,hq0,rfl⟩:=vg.mp hx;obtain⟨h,eh,ah⟩:=kb.al p q0 (vm hq0);rw[eh];show gName 5 (.int h) _ _ _;exists ixLm (SqL.of (b5.sm _ _ ep)) (jL (j:=p) (by rw[vv,hpc];rfl)) ?_;exists⟨pc,rfl,⟨_,SqL.of (b5.sm _ _ hbs)⟩,?_⟩;refine qa (xs:=bs.map V.ref) (fun u σ H'=>IvE4 fun(o7 o8 o9:Option V) (B':List Tb)=>IvA9 (σ=[some (.ref pp),some (.ref pl),some (.int f),some (.ref l),some (.int (p:Nat)),some (.int h),some (.int (nowH L h ((PC.getD p []).take u))),o7,o8,o9]) (Beg H l as B' H') (H' kl=some (.lst ((B.getD p []).map fun q=>kV q.1))) (KB f L B') (B'.length=PC.length) (Has B' (PC.length-1) f) ((∀p,p<PC.length->PC.length<=p+i->∀h,Has B' p h->Run L B' h (PC.getD p []))) (B'.getD p []=B.getD p []) ((∀j q h,j<t->(B.getD p [])[j]?=some q->q.1=Sum.inl h->Run L B' h (PC.getD p []))/\Run L B' h ((PC.getD p []).take u)))
    ⟨_,_,_,B5,rfl,b5,e5,k5,l5,t5,c5,p5,r5,trivial⟩ ?_ ?_ ?_
   ·rintro u σ H6 _ ⟨o7,o8,o9,B6,rfl,b6,_⟩;exact SqL.of (b6.sm _ _ hbs)
   ·rintro u v σ H6 hv ⟨o7,o8,o9,B6,rfl,b6,e6,k6,l6,t6,c6,p6,r6,u6⟩;obtain⟨c,y,rfl,hy,hc⟩:=hqs.at_ref hv;obtain⟨yl,ys,yo⟩:=K0.pc p y (vm hy);have yB:y.1<B6.length:=by lia
    obtain⟨aj,haj,daj⟩:=b6.last yB;have grow:=j3z (h:=nowH L h ((PC.getD p []).take u)) yB;refine j4J (SqT.of (b6.sm _ _ hc)) ?_;exists ixLm (SqL.of b6.el) (jL (j:=y.1) (by rw[vv,haj];rfl)) ?_;exists⟨aj,_,rfl,DPut.k (k:=Sum.inl (nowH L h ((PC.getD p []).take u))) daj (vD (k6.len _) (by lia)),?_⟩;have b7:=b6.put haj (nowH L h ((PC.getD p []).take u));have e7:=(jg (o:=.dK (putK (B6.getD y.1 []) (Sum.inl (nowH L h ((PC.getD p []).take u))) (.bl true))) (nkl haj)).trans e6;generalize upd H6 aj _=H7 at b7 e7|-;exists ixLm (SqL.of (b7.sm _ _ el)) (jL (j:=y.1) (by rw[vv,(kI ys).2];rfl)) ?_;refine⟨some (.int (y.1:Nat)),some (.int y.2.1),some (.int y.2.2),_,?_,b7,e7,k6.put yB (j25 ah fun q' h'=>(K0.pc p q' (List.mem_of_mem_take h')).2.1),j0u.trans l6,grow _ _ t6,fun p' hp' hi' h' hh=>?_,(kZ (by lia)).trans p6,fun j q' h' hj hq' hh=>(r6 j q' h' hj hq' hh).mono grow,?_⟩
    ·rw[take_snoc hy,xH];rfl
    ·refine(c6 p' hp' hi' h' ?_).mono grow;unfold Has at hh|-;rw[kZ (by lia)]at hh;exact hh
    ·rw[take_snoc hy];exact(u6.mono grow).snoc (j0M yB)
   ·rintro σ H6 ⟨o7,o8,o9,B6,rfl,b6,e6,k6,l6,t6,c6,p6,r6,u6⟩;rw[vt,hqs.1,v3]at u6;refine⟨_,_,_,_,_,B6,rfl,b6,e6,k6,l6,t6,c6,p6,fun j q' h' hj hq' hh=>?_⟩;rcases Nat.lt_or_ge j t with z | z
    ·exact r6 j q' h' z hq' hh
    ·have:j=t:=by lia
     subst this;rw[hq0]at hq';cases hq';rw[eh]at hh;cases hh;exact u6
  rintro σ H5 ⟨o5,o6,o7,o8,o9,B5,rfl,b5,e5,k5,l5,t5,c5,p5,r5⟩;rw[vt]at r5;refine⟨_,_,_,_,_,_,B5,rfl,b5,k5,l5,t5,fun p' hp' hi' h' hh=>?_⟩;rcases Nat.lt_or_ge p p' with z | z
  ·exact c5 p' hp' (by lia) h' hh
  ·have:p'=p:=by lia
   subst this;unfold Has at hh;rw[p5]at hh;obtain⟨v,hv⟩:=Option.isSome_iff_exists.mp hh;obtain⟨q',hq',e'⟩:=vK.mp (j2N hv);obtain⟨j,hj,ej⟩:=mem_iff_getElem.mp hq';exact r5 j q' h' hj (by rw[vz hj,ej]) e'
 rintro σ H' ⟨o4,o5,o6,o7,o8,o9,B,rfl,b,kb,lB,tp,cl⟩;exists j6G ?_;exists⟨as,b.nd,fun a ha=>?_,fun H8 fr=>?_⟩
 ·obtain⟨j,hj,e⟩:=mem_iff_getElem.mp ha;obtain⟨a',h1,h2⟩:=b.last (j:=j) (by lia);rw[vz hj,e]at h1;cases h1;exact⟨_,h2⟩
 have nla:l∉as:=fun z=>by
  obtain⟨j,hj,e⟩:=mem_iff_getElem.mp z;obtain⟨a',h1,h2⟩:=b.last (j:=j) (by lia);rw[vz hj,e]at h1;cases h1;rw[b.el]at h2;cases h2
 refine q l as B H8 (fun c u hc=>(fr.1 c fun z=>?_).trans (b.sm _ _ hc)) nl ((fr.1 l nla).trans b.el) ⟨b.at'.1,fun i a x h1 h2=>fr.2 a (vm h1) x (b.at'.2 i a x h1 h2)⟩ ⟨lB,kb,tp,fun p hp h hh=>cl p hp (by lia) h hh⟩;rw[b.nw c z]at hc;cases hc
theorem Y1(T:Txt K mg t)(Jj:FnOk P w K mg base CX0 1 t.J0 t.J3 ["named"] (sp_numbers_of))(yi:FnOk P w K mg base CX0 3 t.YW t.YX ["book"] (sp_ends))(Zb:FnOk P w K mg base CX0 5 t.Zc t.Zd ["book"] (sp_lengths))(Qx:FnOk P w K mg base CX0 3 t.QB t.QF ["book","sizes"] (sp_pieces_of))(zK:FnOk P w K mg base CX0 1 t.qF t.qI ["pieces","left","first"] (sp_begunH)):FnOk P w K mg base CX0 6 t.JF t.J1 ["self","book","name"] (sp_initT t.jN):=by
 refine T.kg.ok qC (fun vs H Q E h=>?_) (fun cdv A outer s H vs Q E hr h=>?_)
 ·cases h;subst_vars;rfl
 obtain⟨a,dx,b,pl,pp,las,pas,ls,ps,gs,hs,x,f,k,rfl,ha,B,N,hk,q⟩:=h;refine⟨_,(jb (jo (i:=3) qC.nd rfl (.inr rfl) (Qo (QZ hr) (jk (Jj.mono (by decide)) hr (by rfl) T.zW T.QI.kp T.zQ .nil pass0 (ja (jq jA (pv 1) jd) jc)) (pv 2)))
  (jb (jo (i:=4) qC.nd rfl (.inr rfl) (qB (ow:=["pairs"]) (ci:=[3]) rfl (CompScope.of (defScope qf) ["self","book","name","limb","left","inside"] rfl rfl (by decide +kernel)) (qS (by decide)) (Jh (jk (yi.mono (by decide)) hr (by rfl) T.j1w T.xY.kp T.j11 .nil pass0 (ja (pv 1) jc))) (fun _ _ _ _ _=>⟨(ju (i:=0) (JX ["self","book","name","limb","left","inside"] rfl (by decide +kernel)) rfl (.inl rfl)),Q1,(j4A (QZ hr) (qP (Wd rfl) (by rfl) T.j19 Xd (ja (pv 0) jc)) (pv 1) ⟨rfl,rfl,rfl,rfl⟩)⟩)))
  (jb (Qr (pv 0) (jq jA (jq jt (jq jA (pv 1) jd) (pv 3)) jd) rfl)
  (jb (Qr (pv 0) (jk (Zb.mono (by decide)) hr (by rfl) T.xz T.Kn.kp T.W6 .nil pass0 (ja (pv 1) jc)) rfl)
  (jb (Qr (pv 0) (pv 4) rfl)
  (jb (Qr (pv 0) (jT jc) rfl)
  (jb (Jt PassesOwn.never rfl (Jh (jk (Qx.mono (by decide)) hr (by rfl) T.wj T.yL.kp T.KZ .nil pass0 (ja (pv 1) (ja (jP (pv 0) rfl) jc)))) (ju (i:=5) qC.nd rfl (.inl rfl))
   (jf (Jb (ql PySem.F.plainAttrs_list PySem.F.slot_list_append PySem.F.type_list_append jU (jP (pv 0) rfl) (ja (qB (ow:=["piece"]) (ci:=[4]) rfl (CompScope.of (defScope qf) ["self","book","name","limb","left","inside"] rfl rfl (by decide +kernel)) (qS (by decide)) (Jh (pv 5)) (fun _ _ _ _ _=>⟨(ju (i:=0) (JX ["self","book","name","limb","left","inside"] rfl (by decide +kernel)) rfl (.inl rfl)),(XQ (jr kR (jq (kG (K:=K) rfl) (pv 1) (jq (wK (K:=K) rfl) (pv 0) jd)) Q0 (nomark _))),(pv 0)⟩)) jc)))))
  (jf (Qr (pv 0) (jk (zK.mono (by decide)) hr (by rfl) T.wz T.yH.kp T.wv .nil pass0 (ja (jP (pv 0) rfl) (ja (pv 4) (ja (jP (pv 0) rfl) jc)))) rfl))))))))),?_⟩
 refine jz (σ':=[some _,some _,some _,none,none,none]) rfl ?_;have sz:(200:Nat)<sizeLine:=by decide
 have W:=N.s.w;have gl:=N.s.gl;have l8:=W.l8;have p61:=W.p61;have la:=B.la.1;have pal:=B.pa.1;have kl:=(vx.mp hk).1;have hj:(nmsOf ls)[k]?=some x:=by unfold nmsOf;rw[vv,hk];rfl
 obtain⟨H0,less,n0,B0⟩:=B.less ha;have z0:Same H0 H:=less H fun c u _ h=>h
 exists ixTm (SqT.of B.t) rfl ?_;exists⟨pl,las,nmsOf ls,rfl,B.l,by rw[nmsOf,vt];exact la,fun i a x ea ex=>?_,W.ln,by rw[nmsOf,vt];lia,fun d H1 s1 hd ed=>?_⟩
 ·unfold nmsOf at ex;rw[vv]at ex;obtain⟨p,ep,rfl⟩:=vg.mp ex;exact⟨_,B.la.2 i a p ea ep⟩
 walk_at"g";have g:DGet H1 d (.str x) (some (.int (k:Nat))):=by
  have g:=DGet.k (k:=Sum.inr x) ed;rw[kN W.ln hj]at g;exact g
 refine⟨d,_,rfl,g,?_⟩;exists⟨b,pl,pp,las,pas,ls,ps,rfl,B.same s1,W,fun l2 as E H2 s2 hl2 e2 na lE aE oE=>?_⟩;exists⟨l2,rfl,⟨_,SqL.of e2⟩,?_⟩;have asl:=aE.1;have lvl:(lvE E (k:Nat)).length=ps.length:=(vt _).trans lE;refine JY (xs:=as.map V.ref) (fun i ys H'=>ys=((lvE E (k:Nat)).take i).map optV/\Same H2 H') ⟨rfl,Same.refl _⟩ ?_ ?_ ?_
 ·rintro i ys H' _ ⟨rfl,sm⟩;exact SqL.of (sm _ _ e2)
 ·rintro i v ys H' hv ⟨rfl,sm⟩;obtain⟨ae,e,rfl,he,bs,hbs,prs⟩:=aE.at_ref hv;have hi:=(vx.mp he).1;have oi:=(oE i _ _ (vz (by lia)) he).1;refine qQ (σ':=[none,some (.int (k:Nat))]) rfl ?_;exists iteT ?_;refine j4I ?_;exists⟨ae,bs,e,rfl,sm _ _ hbs,prs.1,fun i' c q' h1 h2=>sm _ _ (prs.2 i' c q' h1 h2),?_⟩;walk_at"f d2 hd2 H3 s3 t3";rw[show([]:List (Key×V))=([]:List (Int×Int)).map iiK from rfl,yw,Wu (oi.imp fun h=>Int.ne_of_lt h)]at t3;refine⟨d2,rfl,.inl ⟨_,.inl t3⟩,?_⟩;exists⟨_,DGet.k (k:=Sum.inl (k:Int)) t3,?_⟩;rw[j1Z];refine⟨by rw[vt,vi,lvl];lia,?_,sm.trans s3⟩;rw[take_snoc (show(lvE E (k:Nat))[i]?=some (e.lookup (k:Int)) by unfold lvE;rw[vv,he];rfl),vj];rfl
 rintro ys H' ⟨rfl,sm⟩;rw[show(as.map V.ref).length=(lvE E (k:Nat)).length by rw[vt,lvl];lia,v3];refine⟨by rw[vt,lvl];lia,?_⟩;walk_at"f 3 t";have s13:Same H H3:=s1.trans (s2.trans (sm.trans s3));obtain⟨lk,hlk,ek⟩:=B.la.get hk;have np3:p3≠a:=fun z=>by rw[z,sm _ _ (s2 _ _ (s1 _ _ ha))]at hp3;cases hp3
 exists ixTm (SqT.of (s13 _ _ B.t)) rfl ?_;exists ixLm (SqL.of (s13 _ _ B.l)) (jL (j:=k) (by rw[vv,hlk];rfl)) ?_;exists ixTm (SqT.of (s13 _ _ ek)) rfl ?_;exists⟨a,_,dx,[],rfl,s13 _ _ ha,T.j3,T.JT,(by show 0<1000;decide),?_⟩;generalize e4:upd H3 a _=H4;have k4:∀c u,c≠a->H3 c=some u->H4 c=some u:=fun c u n h=>e4▸(jg n).trans h
 have a4:=qp e4;clear e4;have z4:Same H0 H4:=less H4 fun c u n h=>k4 _ _ n (s13 _ _ h)
 exists⟨b,pl,pp,las,pas,ls,ps,gs,hs,rfl,B0.same z4,N.s,fun l5 H5 s5 hl5 e5=>?_⟩;exists⟨a,_,dx,_,rfl,s5 _ _ a4,T.j3,T.j9,few (Jd _ _ _) (by decide),?_⟩;have n5:l5≠a:=fun z=>by rw[z,a4]at hl5;cases hl5
 generalize e6:upd H5 a _=H6;have k6:∀c u,c≠a->H5 c=some u->H6 c=some u:=fun c u n h=>e6▸(jg n).trans h
 have a6:=qp e6;clear e6;have z6:Same H0 H6:=fun c u h=>k6 _ _ (n0 h) (s5 _ _ (z4 _ _ h))
 exists⟨a,_,dx,_,rfl,a6,T.j3,T.JP,vD (Jd _ _ _) (vD (Nat.succ_le_succ (Jd _ _ _)) (by decide)),?_⟩;generalize e7:upd H6 a _=H7;have k7:∀c u,c≠a->H6 c=some u->H7 c=some u:=fun c u n h=>e7▸(jg n).trans h
 have a7:=qp e7;clear e7;exists⟨va _,?_⟩;walk_at"f 8 t";have n8:p8≠a:=fun z=>by rw[z,a7]at hp8;cases hp8
 exists⟨a,_,dx,_,rfl,s8 _ _ a7,T.j3,T.Jk,few3,?_⟩;generalize e9:upd H8 a _=H9;have k9:∀c u,c≠a->H8 c=some u->H9 c=some u:=fun c u n h=>e9▸(jg n).trans h
 have a9:=qp e9;clear e9;have w5:∀c u,c≠a->H5 c=some u->H9 c=some u:=fun c u n h=>k9 _ _ n (s8 _ _ (k7 _ _ n (k6 _ _ n h)))
 have w3:∀c u,c≠a->H3 c=some u->H9 c=some u:=fun c u n h=>w5 _ _ n (s5 _ _ (k4 _ _ n h))
 have z9:Same H0 H9:=fun c u h=>w5 _ _ (n0 h) (s5 _ _ (z4 _ _ h))
 have n8':∀{c u},H7 c=some u->c≠p8:=fun h=>je h hp8
 exists⟨a,_,dx,_,_,rfl,a9,T.j3,T.j9,(jH (by decide +kernel)).trans ((jH (by decide +kernel)).trans qi),?_⟩;exists⟨b,pl,pp,l5,las,pas,ls,ps,gs,rfl,B0.same z9,W,w5 _ _ n5 e5,gl,fun l10 as10 H10 s10 hl10 e10 ha10 na10=>?_⟩;have t10:H10 p8=some (.lst []):=s10 _ _ (k9 _ _ n8 t8);have a10:=s10 _ _ a9;have p10:H10 p3=_:=s10 _ _ (w3 _ _ np3 t3);have np38:p3≠p8:=n8' (k7 _ _ np3 (k6 _ _ np3 (s5 _ _ (k4 _ _ np3 t3))));have nl10:l10≠p8:=fun z=>by rw[z,k9 _ _ n8 t8]at hl10;cases hl10
 have pl10:=ha10.1;rw[vt]at pl10;exists⟨l10,rfl,⟨_,SqL.of e10⟩,?_⟩;refine qa (xs:=as10.map V.ref) (fun i σ H'=>IvE2 fun(o5:Option V) (pa:List Addr)=>IvA4 (σ=[some (.ref a),some (.ref b),some (.str x),some (.int (k:Nat)),some (.ref p3),o5]) (∀c u,c≠p8->H10 c=some u->H' c=some u) (H' p8=some (.lst (pa.map V.ref))) ((∀c∈pa,c≠p8)/\PssAt H' pa ((fPc ps gs (lvE E (k:Nat))).take i)))
  ⟨_,[],rfl,fun c u _ h=>h,t10,(fun c h=>nomatch h),.nil⟩ ?_ ?_ ?_
 ·rintro i σ H' _ ⟨o5,pa,rfl,sm',e8,n8,hpa⟩;exact SqL.of (sm' _ _ nl10 e10)
 ·rintro i v σ H11 hv ⟨o5,pa,rfl,sm',e8,npa,hpa⟩;obtain⟨c0,qs,rfl,hq0,bs,hbs,hbq⟩:=ha10.at_ref hv;have c0m:c0∈as10:=by
   rw[vv]at hv;obtain⟨a',ea,e'⟩:=vg.mp hv;injection e' with e';subst e';exact vm ea
  have nc0:c0≠p8:=fun z=>by have:=na10 c0 c0m;rw[z,k9 _ _ n8 t8]at this;cases this
  have nt8:∀{c:Addr} {xs:List V},H10 c=some (.tup xs)->c≠p8:=fun h=>JG h t10 (fun z=>by cases z)
  have hi:i<ps.length:=by
   have:=(vx.mp hq0).1;rw[vt]at this;exact this
  rw[vv,vz hi]at hq0;have eqs:qs=pcsI gs ps[i].2 (inP ps ps[i].2):=(vL hq0).symm;have q8:qs.length<=8:=eqs▸Wq (N.i8 (vz hi));have qlt:∀y∈qs,y.1<ps.length:=fun y hy=>by
   have:y∈pcB ps gs i:=by unfold pcB;rw[vz hi];rw[eqs]at hy;exact hy
   have:=WA W this;lia
  have hbl:=hbq.1;have pal2:=hpa.1;rw[vi]at pal2;have fpl:(fPc ps gs (lvE E (k:Nat))).length=ps.length:=vt _;have efp:(fPc ps gs (lvE E (k:Nat)))[i]?=some (qs.filter fun q=>((lvE E (k:Nat)).getD q.1 none).isSome):=by
   unfold fPc;rw[vv,vz hi,eqs];rfl
  exists⟨a,_,dx,_,_,rfl,sm' _ _ (Ne.symm n8) a10,T.j3,T.Jk,qi,.inl ⟨rfl,_,SqL.of e8⟩,?_⟩;exists⟨c0,rfl,⟨_,SqL.of (sm' _ _ nc0 hbs)⟩,?_⟩;refine JY (xs:=bs.map V.ref) (fun j ys H''=>IvE1 fun(fb:List Addr)=>IvA3 (ys=fb.map V.ref) (fb.length<=j) (PcsAt H11 fb ((qs.take j).filter fun q=>((lvE E (k:Nat)).getD q.1 none).isSome)/\H11=H'')) ⟨[],rfl,vb _,.nil,rfl⟩ ?_ ?_ ?_
  ·rintro j ys H'' _ ⟨fb,rfl,fl,hf,rfl⟩;exact SqL.of (sm' _ _ nc0 hbs)
  ·rintro j v ys H'' hv' ⟨fb,rfl,fl,hf,rfl⟩;obtain⟨c,y,rfl,hy,hc⟩:=hbq.at_ref hv';have hjl:=(vx.mp hy).1;have hc':H11 c=_:=sm' _ _ (nt8 hc) hc;have yl:=qlt y (vm hy);have ey:(lvE E (k:Nat))[y.1]?=some ((lvE E (k:Nat)).getD y.1 none):=by rw[vy,vz (by lia)];rfl
   refine qQ (σ':=[none,some (.ref p3)]) rfl ?_;exists ixTm (SqT.of hc') rfl ?_;exists ixLm (SqL.of (sm' _ _ np38 p10)) (jL (j:=y.1) (by rw[vv,ey];rfl)) ?_;exists⟨rfl,?_⟩;refine⟨_,rfl,?_⟩;rw[notN];have ef:(qs.take (j+1)).filter (fun q=>((lvE E (k:Nat)).getD q.1 none).isSome)=((qs.take j).filter fun q=>((lvE E (k:Nat)).getD q.1 none).isSome)++(if((lvE E (k:Nat)).getD y.1 none).isSome=true then[y]else[]):=by
    rw[take_snoc hy,filter_append];congr 1;rw[v6,filter_nil]
   cases eo:(lvE E (k:Nat)).getD y.1 none with
   | none=>
    rw[eo]at ef;refine iteF ?_;refine⟨fb,rfl,by lia,?_,rfl⟩;rw[ef];exact(append_nil _).symm▸hf
   | some h=>
    rw[eo]at ef;refine iteT ?_;exists⟨by rw[vt];lia,fb++[c],by rw[vj];rfl,by rw[vn,length_singleton];lia,?_,rfl⟩;rw[ef];exact All2.snoc hf hc'
  rintro ys H'' ⟨fb,rfl,fl,hf,rfl⟩;rw[vt]at fl hf;rw[hbl,v3]at hf;refine⟨by rw[vt];lia,?_⟩;walk_at"f 12 t";exists⟨p8,_,_,rfl,rfl,s12 _ _ e8,by rw[vt];lia,?_⟩;have n12:p12≠p8:=(je e8 hp12).symm;have nt12:∀{c:Addr} {xs:List V},H12 c=some (.tup xs)->c≠p8:=fun h=>JG h (s12 _ _ e8) (fun z=>by cases z)
  refine⟨some (.ref c0),pa++[p12],rfl,fun c u hc h=>(jg hc).trans (s12 _ _ (sm' _ _ hc h)),?_,fun c hc=>(vh.mp hc).elim (npa c) fun z=>by rw[vo.mp z];exact n12,?_⟩
  ·rw[jC,vj];rfl
  ·rw[take_snoc efp];refine All2.snoc (All2.monoM hpa fun c hc e h=>?_) ⟨fb,(jg n12).trans t12,All2.mono hf fun b q h=>(jg (nt12 (s12 _ _ h))).trans (s12 _ _ h)⟩;obtain⟨bs',h1,h2⟩:=h;exact⟨bs',(jg (npa c hc)).trans (s12 _ _ h1),All2.mono h2 fun b q h=>(jg (nt12 (s12 _ _ h))).trans (s12 _ _ h)⟩
 rintro σ H11 ⟨o5,pa,rfl,sm',e8,npa,hpa⟩;rw[vt,pl10,show(fPc ps gs (lvE E (k:Nat))).take ps.length=fPc ps gs (lvE E (k:Nat))from by rw[<-show(fPc ps gs (lvE E (k:Nat))).length=ps.length from vt _,v3]]at hpa;have S:=N.strand lE oE hk;have a11:=sm' _ _ (Ne.symm n8) a10;exists⟨a,_,dx,_,_,rfl,a11,T.j3,T.Jk,qi,?_⟩;exists⟨a,_,dx,_,_,rfl,a11,T.j3,T.JT,(jH (by decide +kernel)).trans ((jH (by decide +kernel)).trans ((jH (by decide +kernel)).trans qi)),?_⟩;exists⟨p8,p3,pa,f,lvE E (k:Nat),gs,_,rfl,e8,hpa,sm' _ _ np38 p10,S,fun l13 ba Bt H13 s13' hl13 e13 fz ok=>?_⟩;exists⟨a,_,dx,_,rfl,s13' _ _ a11,T.j3,T.qw,few4,?_⟩;have n13:l13≠a:=fun z=>by rw[z,a11]at hl13;cases hl13
 have u13:∀c u,c≠a->H13 c=some u->upd H13 a (.ins t.jN dx (fldT ⟨l5,p3,p8,l13,pa,ba⟩ f)) c=some u:=fun c u n h=>(jg n).trans h
 have u9:∀c u,c≠a->c≠p8->H9 c=some u->upd H13 a (.ins t.jN dx (fldT ⟨l5,p3,p8,l13,pa,ba⟩ f)) c=some u:=fun c u n m h=>u13 _ _ n (s13' _ _ (sm' _ _ m (s10 _ _ h)))
 have nla:∀{c:Addr} {xs:List V},H13 c=some (.lst xs)->c≠a:=fun h=>JG h (s13' _ _ a11) (fun z=>by cases z)
 have nta:∀{c:Addr} {xs:List V},H13 c=some (.tup xs)->c≠a:=fun h=>JG h (s13' _ _ a11) (fun z=>by cases z)
 have nfa:∀{c:Addr} {o:Obj} {u:HO},H13 c=some (.frz o u)->c≠a:=fun h=>JG h (s13' _ _ a11) (fun z=>by cases z)
 have n58:l5≠p8:=n8' (k7 _ _ n5 (k6 _ _ n5 e5));have h7:∀c u,c≠a->H c=some u->H7 c=some u:=fun c u n h=>k7 _ _ n (k6 _ _ n (s5 _ _ (k4 _ _ n (s13 _ _ h))))
 refine q ⟨l5,p3,p8,l13,pa,ba⟩ E Bt _ (fun c u n h=>u9 _ _ n (n8' (h7 _ _ n h)) (w3 _ _ n (s13 _ _ h))) lE oE S ⟨⟨dx,jC⟩,u9 _ _ n5 n58 (w5 _ _ n5 e5),u9 _ _ np3 np38 (w3 _ _ np3 t3),u13 _ _ n8 (s13' _ _ e8),?_,u13 _ _ n13 e13,All2.mono fz fun c kvs ⟨o,h⟩=>⟨o,u13 _ _ (nfa h) h⟩⟩ ok;exact All2.mono hpa fun c e ⟨bs,h1,h2⟩=>⟨bs,u13 _ _ (nla (s13' _ _ h1)) (s13' _ _ h1),All2.mono h2 fun b q h=>u13 _ _ (nta (s13' _ _ h)) (s13' _ _ h)⟩
theorem j0I(T:Txt K mg t):FnOk P w K mg base CX0 1 t.zd t.zf ["pieces","sizes","gone"] (sp_progress):=by
 refine T.YS.ok qZ (fun vs H Q E h=>?_) (fun cdv A outer s H vs Q E hr h=>?_)
 ·cases h;subst_vars;rfl
 obtain⟨l,s0,t0,bs,qs,gs,rfl,el,hq,es,q8,ok,t1,t2,q⟩:=h;refine⟨_,(jb (jo (i:=3) qZ.nd rfl (.inl rfl) (jT jc))
  (jb (Jt PassesOwn.never rfl (Jh (pv 0)) (qY rfl (jG (ju (i:=4) qZ.nd rfl (.inl rfl)) (jG (ju (i:=5) qZ.nd rfl (.inl rfl)) (jG (ju (i:=6) qZ.nd rfl (.inl rfl)) qc))))
   (jf (j2 (jr YG (pv 6) (pv 2) (nomark _))
    (jb (jo (i:=7) qZ.nd rfl (.inl rfl) (jF (Yp rfl) (by rfl) T.j27 Xg (ja (jh j5 (jh JK (pv 2) (pv 6)) (jq jt (pv 1) (pv 4))) (ja (pv 5) jc))))
    (jb (jo (i:=8) qZ.nd rfl (.inl rfl) (Z6 (jr Z5 (pv 7) (pv 5) (nomark _)) (jh JK (jh JK (pv 2) (pv 6)) (jh JH (pv 7) (jq jt (pv 1) (pv 4)))) Q0))
    (jf (Jb (ql PySem.F.plainAttrs_list PySem.F.slot_list_append PySem.F.type_list_append jU (pv 3) (ja (jV (ja (pv 4) (ja (pv 6) (ja (pv 7) (ja (pv 8) jc))))) jc))))))
    jw)))
  (jf (jv (pv 3))))),?_⟩
 refine jz (σ':=[some _,some _,some _,none,none,none,none,none,none]) rfl ?_;have sz:(10000:Nat)<sizeLine:=by decide
 have gat:∀j,j<gs.length->gs[j]?=some (gs.getD j 0):=fun j h=>by
  rw[vy,vz h];rfl
 have bl:=hq.1;exists⟨va _,?_⟩;walk_at"f p hp H1 s1 e1";have np:∀{c u},H c=some u->c≠p:=fun h=>je h hp
 exists⟨l,rfl,⟨_,SqL.of (s1 _ _ el)⟩,?_⟩;refine qa (xs:=bs.map V.ref) (fun i σ H'=>IvE6 fun(o4 o5 o6 o7 o8:Option V) (as:List Addr)=>IvA4 (σ=[some (.ref l),some (.ref s0),some (.int t0),some (.ref p),o4,o5,o6,o7,o8]) (Same H H') (H' p=some (.lst (as.map V.ref))) (as.length<=i/\PrgAt H' as (prg gs t0 (qs.take i))))
  ⟨_,_,_,_,_,[],rfl,s1,e1,vb _,.nil⟩ ?_ ?_ ?_
 ·rintro i σ H' _ ⟨o4,o5,o6,o7,o8,as,rfl,sm,ep,la,ha⟩;exact SqL.of (sm _ _ el)
 ·rintro i v σ H' hv ⟨o4,o5,o6,o7,o8,as,rfl,sm,ep,la,ha⟩;obtain⟨c,x,rfl,hx,hc⟩:=hq.at_ref hv;have hi:=(vx.mp hx).1;have okx:=ok x (vm hx);have okx':=okx;obtain⟨x1,g1,g2,n1,n2,b1,b2⟩:=okx';have more:prg gs t0 (qs.take (i+1))=prg gs t0 (qs.take i)++(prg1 gs t0 x).toList:=by
   rw[take_snoc hx];unfold prg;rw[List.filterMap_append];congr 1
  refine j4J (SqT.of (sm _ _ hc)) ?_;exists iteD (fun c1=>?_) (fun c1=>?_)
  ·have ovb:=j4x okx c1;exists ixLm (SqL.of (sm _ _ es)) (jL (j:=x.1) (by rw[vv,gat _ x1];rfl)) ?_;walk_at"g";have eo:(if x.2.1<(t0-x.2.2)/gs.getD x.1 0 then x.2.1 else(t0-x.2.2)/gs.getD x.1 0)=ov gs t0 x:=rfl;have eo2:(if(t0-x.2.2)/gs.getD x.1 0>x.2.1 then x.2.1 else(t0-x.2.2)/gs.getD x.1 0)=ov gs t0 x:=rfl;refine⟨_,_,rfl,?_⟩;rw[eo];exists iteD (fun c2=>?_) (fun c2=>?_)
   ·exists ixLm (SqL.of (sm _ _ es)) (jL (j:=x.1) (by rw[vv,gat _ x1];rfl)) ?_;exists⟨.inl ⟨rfl,_,SqL.of ep⟩,?_⟩;exists⟨uc,?_⟩;walk_at"f 2 e";exists⟨p,_,_,rfl,rfl,s2 _ _ ep,by rw[vt];lia,?_⟩;have n2':p2≠p:=fun z=>by rw[z,s2 _ _ ep]at e2;cases e2
    refine⟨_,_,_,_,_,as++[p2],rfl,fun c u h=>(jg (np h)).trans (s2 _ _ (sm _ _ h)),by rw[jC,vj];rfl,by rw[vn];show as.length+1<=_;lia,?_⟩;have e1':prg1 gs t0 x=some (x.1,x.2.2,ov gs t0 x,some (t0-x.2.2-ov gs t0 x*gs.getD x.1 0)):=by
     unfold prg1;rw[vd c1,vd c2]
    rw[more,e1'];refine All2.snoc (All2.mono ha fun c y h=>?_) ((jg n2').trans e2);exact(jg (fun z=>by rw[z,ep]at h;cases h)).trans (s2 _ _ h)
   ·exists⟨.inl ⟨rfl,_,SqL.of ep⟩,?_⟩;exists⟨uc,?_⟩;walk_at"f 2 e";exists⟨p,_,_,rfl,rfl,s2 _ _ ep,by rw[vt];lia,?_⟩;have n2':p2≠p:=fun z=>by rw[z,s2 _ _ ep]at e2;cases e2
    refine⟨_,_,_,_,_,as++[p2],rfl,fun c u h=>(jg (np h)).trans (s2 _ _ (sm _ _ h)),by rw[jC,vj];rfl,by rw[vn];show as.length+1<=_;lia,?_⟩;have e1':prg1 gs t0 x=some (x.1,x.2.2,ov gs t0 x,none):=by
     unfold prg1;rw[vd c1,vc c2]
    rw[more,e1'];refine All2.snoc (All2.mono ha fun c y h=>?_) ((jg n2').trans e2);exact(jg (fun z=>by rw[z,ep]at h;cases h)).trans (s2 _ _ h)
  ·exists⟨_,_,_,_,_,as,rfl,sm,ep,by lia,?_⟩;have e1':prg1 gs t0 x=none:=by
    unfold prg1;rw[vc c1]
   rw[more,e1'];show PrgAt H' as (_++[]);rw[append_nil];exact ha
 rintro σ' H' ⟨o4,o5,o6,o7,o8,as,rfl,sm,ep,la,ha⟩;rw[vt,bl,v3]at ha;walk_at"g";exact q p as H' sm hp ep ha
theorem KK(T:Txt K mg t):FnOk P w K mg base CX0 1 t.qE t.qH ["self","part"] (sp_raises t.jN):=by
 refine T.wx.ok KS (fun vs H Q E h=>?_) (fun cdv A outer s H vs Q E hr h=>?_)
 ·cases h;subst_vars;rfl
 obtain⟨a,z,f,L,gs,PC,B,i,rfl,A,S,hi,q⟩:=h;refine⟨_,(jf (jv (j4y (wN kR (jq jt (jP (pv 0) rfl) (pv 1)) Q0 (nomark _)) (j4B (j5K (jq jt (jP (pv 0) rfl) (pv 1))))))),?_⟩;refine jz (σ':=[some _,some _]) rfl ?_;obtain⟨dx,ob⟩:=A.ob;have lL:=S.lL;have pal:=A.pa.1;have eL:L[i]?=some (L.getD i none):=by rw[vy,vz (by lia)];rfl
 have eP:PC[i]?=some (PC.getD i []):=by rw[vy,vz (by lia)];rfl
 obtain⟨pc,hpc,bs,hbs,hqs⟩:=A.pa.get eP;exists⟨a,_,dx,_,_,rfl,ob,T.j3,T.JP,Xn,?_⟩;exists ixLm (SqL.of A.hl) (jL (j:=i) (by rw[vv,eL];rfl)) ?_;exists⟨rfl,?_⟩;refine⟨_,rfl,?_⟩;rw[notN];unfold rzB at q;cases eo:L.getD i none with
 | none=>
  rw[eo]at q;exact iteF q
 | some v=>
  rw[eo]at q;refine iteT ?_;refine j5O ?_;exists⟨a,_,dx,_,_,rfl,ob,T.j3,T.Jk,xv,?_⟩;exists ixLm (SqL.of A.hp) (jL (j:=i) (by rw[vv,hpc];rfl)) ?_;refine⟨_,.inl ⟨_,SqL.of hbs,rfl⟩,?_⟩;rw[Bool.not_not,j5m (b:=PC.getD i []) ((vt _).trans hqs.1)];exact q
theorem XJ(T:Txt K mg t):FnOk P w K mg base CX0 1 t.zA t.zF ["many","top","plus","bottom"] (Pr.Kg):=by
 refine T.K4.ok JN (fun vs H Q E h=>?_) (fun cdv A outer s H vs Q E hr h=>?_)
 ·obtain⟨m₀,t₀,p₀,b₀,rfl,h0,q⟩:=h;rfl
 obtain⟨m₀,t₀,p₀,b₀,rfl,h0,q⟩:=h;refine⟨_,(jb (jo (i:=4) JN.nd rfl (.inl rfl) jd)
  (jb (kW PassesOwn.never (jr zP (pv 0) jd (nomark _))
   (jb (XR (i:=4) JN.nd rfl (.inl rfl) (jh jI (jh JH (jh j5 (jh JH (pv 0) (jh JK (pv 0) jd)) jd) (jh j5 (pv 1) (pv 3))) (jh JH (pv 0) (jh j5 (pv 2) (pv 3)))) Xp)
   (jb (jo (i:=5) JN.nd rfl (.inl rfl) (jh Je (pv 1) (pv 3)))
   (jb (jo (i:=6) JN.nd rfl (.inl rfl) (jh jI (jh JH (pv 5) (pv 0)) (jh Je (pv 2) (pv 3))))
   (jb (jo (i:=0) JN.nd rfl (.inl rfl) (jh j5 (pv 6) (pv 3)))
   (jb (jo (i:=2) JN.nd rfl (.inl rfl) (jh Je (pv 6) (pv 3)))
   (jb (jo (i:=1) JN.nd rfl (.inl rfl) (pv 3))
   (jf (jo (i:=3) JN.nd rfl (.inl rfl) (pv 5))))))))))
  (jf (jv (pv 4))))),?_⟩
 refine jz (σ':=[some _,some _,some _,some _,none,none,none]) rfl ?_;exists⟨fun n σ' H'=>IvE7 fun(m t p b tot:Int) (o5 o6:Option V)=>IvA4 (σ'=[some (.int m),some (.int t),some (.int p),some (.int b),some (.int tot),o5,o6]) (H'=H) (n=b.toNat) ((0<=m/\m<=10^100/\-10^125<=t/\t<=10^125/\-10^125<=p/\p<=10^125/\0<=b/\b<=10^125/\(0<m->0<b))/\tot+Fs.fsum m t p b=Fs.fsum m₀ t₀ p₀ b₀),
  ⟨_,_,_,_,_,_,_,_,rfl,rfl,rfl,(by lia),uz _⟩,?_⟩
 rintro n σ' H' ⟨m,t,p,b,tot,o5,o6,rfl,rfl,rfl,hi,hs⟩;exists iteD (fun c=>?_) (fun c=>?_)
 ·have hb:0<b:=by lia
  have hr:=Fs.round (t:=t) (p:=p) hb c;have ht:=Fs.j5r hb t p (m:=m) (by lia);have e1:=j2f (x:=t) (b:=b) (B:=10^125) hb (by lia) (by lia);have e2:=j2f (x:=p) (b:=b) (B:=10^125) hb (by lia) (by lia);have e3:=j4m (x:=m) (y:=m-1) (A:=10^100) (B:=10^100) (by lia) (by lia) (by lia) (by lia);refine⟨_,fun σ' H' h=>h,?_⟩;exists⟨(t%b).toNat,by lia,_,_,_,_,_,_,_,rfl,rfl,rfl,(by lia),by lia⟩
 ·walk_at"g";rw[Fs.xu (by lia)]at hs;have e:tot=Fs.fsum m₀ t₀ p₀ b₀:=by lia
  rw[e];exact q
theorem j0J(T:Txt K mg t)(yO:FnOk P w K mg base CX0 1 t.zA t.zF ["many","top","plus","bottom"] (Pr.Kg)):FnOk P w K mg base CX0 2 t.Zn t.Zq ["start","goal","beats","many"] (Pr.wt):=by
 refine T.wX.ok j0R (fun vs H Q E h=>?_) (fun cdv A outer s H vs Q E hr h=>?_)
 ·obtain⟨s0,g,b,m,rfl,hb,hm,q⟩:=h;rfl
 obtain⟨s0,g,b,m,rfl,hb,hm,q⟩:=h;refine⟨_,(jf (jv (jh jI (jh JH (pv 0) (pv 3)) (jk (yO.mono (by decide)) hr (by rfl) T.j0y T.K4.kp T.X9 .nil pass0 (ja (pv 3) (ja (jh JK (pv 1) (pv 0)) (ja jd (ja (pv 2) jc)))))))),?_⟩;refine jz (σ':=[some _,some _,some _,some _]) rfl ?_;unfold Pr.B4 at hb;exists⟨_,_,_,_,rfl,(by lia),?_⟩;walk_at"g";exact q
theorem j1G(T:Txt K mg t):FnOk P w K mg base CX0 1 t.ZV t.Z0 ["start","goal","beats","height"] (Pr.WK):=by
 refine T.Ko.ok j1Q (fun vs H Q E h=>?_) (fun cdv A outer s H vs Q E hr h=>?_)
 ·obtain⟨s0,g,b,h,rfl,hb,hg,q⟩:=h;rfl
 obtain⟨s0,g,b,h,rfl,hb,hg,q⟩:=h;refine⟨_,(jb (j2 (jr zP (pv 1) (pv 0) (nomark _))
   (jf (jv (wm Yk (jh j5 (jh JH (jh JK (pv 0) (pv 3)) (pv 2)) (jh JK (pv 1) (pv 0))))))
   jw)
  (jf (jv (jh jI (jh j5 (jh JH (jh JK (jh JK (pv 0) (pv 3)) jd) (pv 2)) (jh JK (pv 0) (pv 1))) jd)))),?_⟩
 refine jz (σ':=[some _,some _,some _,some _]) rfl ?_;unfold Pr.B4 at hb;exists iteD (fun c=>?_) (fun c=>?_)
 ·walk_at"g";have e:Rp.reached s0 g b h = -((s0-h)*b/(g-s0)):=by unfold Rp.reached;rw[vd c]
  rw[e]at q;exact q
 ·walk_at"g";have e:Rp.reached s0 g b h=(s0-h-1)*b/(s0-g)+1:=by unfold Rp.reached;rw[vc c]
  rw[e]at q;exact q
theorem j1H(T:Txt K mg t)(Yl:FnOk P w K mg base CX0 1 t.ZV t.Z0 ["start","goal","beats","height"] (Pr.WK)):FnOk P w K mg base CX0 2 t.ZW t.Z1 ["start","goal","beats","height","many"] (Pr.WL):=by
 refine T.W9.ok yG (fun vs H Q E h=>?_) (fun cdv A outer s H vs Q E hr h=>?_)
 ·obtain⟨s0,g,b,h,m,rfl,hb,hh1,hh2,q⟩:=h;rfl
 obtain⟨s0,g,b,h,m,rfl,hb,hh1,hh2,q⟩:=h;refine⟨_,(jb (j2 (jr Js (pv 1) (pv 0) (nomark _))
   (jf (jv (jV (ja jd (ja (Z6 (jr Js (pv 3) (pv 0) (nomark _)) (pv 4) jd) jc)))))
   jw)
  (jb (jo (i:=5) yG.nd rfl (.inl rfl) (Z6 (jr zP (pv 1) (pv 0) (nomark _)) (jh jI (pv 3) jd) (jh JK (pv 3) jd)))
  (jb (jo (i:=6) yG.nd rfl (.inl rfl) (jF (Ks rfl) (by rfl) T.j07 Wb (ja (jk (Yl.mono (by decide)) hr (by rfl) T.xA T.Ko.kp T.W7 .nil pass0 (ja (pv 0) (ja (pv 1) (ja (pv 2) (ja (pv 3) jc))))) (ja jd jc))))
  (jb (jo (i:=7) yG.nd rfl (.inl rfl) (jF (Yp rfl) (by rfl) T.j27 Xg (ja (jk (Yl.mono (by decide)) hr (by rfl) T.xA T.Ko.kp T.W7 .nil pass0 (ja (pv 0) (ja (pv 1) (ja (pv 2) (ja (pv 5) jc))))) (ja (pv 4) jc))))
  (jf (jv (jV (ja (pv 6) (ja (jF (Ks rfl) (by rfl) T.j07 Wb (ja (pv 6) (ja (pv 7) jc))) jc))))))))),?_⟩
 refine jz (σ':=[some _,some _,some _,some _,some _,none,none,none]) rfl ?_;unfold Pr.B4 at hb;have e2:(2:Nat)<=sizeLine:=by decide
 exists iteD (fun c=>?_) (fun c=>?_)
 ·exists iteD (fun c2=>?_) (fun c2=>?_)
  ·exists⟨e2,fun p hp=>q p _ (Pr.Kc hp _) ?_⟩;rw[jC];unfold Rp.fst Rp.lst;rw[vd c,vd c,vd c2]
  ·exists⟨e2,fun p hp=>q p _ (Pr.Kc hp _) ?_⟩;rw[jC];unfold Rp.fst Rp.lst;rw[vd c,vd c,vc c2]
 ·have fin:∀p H',Same H H'->H' p=some (.tup [.int (Rp.imax (Rp.reached s0 g b h) 0),.int (Rp.imax (Rp.imax (Rp.reached s0 g b h) 0) (Rp.imin (Rp.reached s0 g b (Rp.beyond s0 g h)) m))])->Q (.ref p) H':=by
   intro p H' h1 h2;refine q p H' h1 ?_;rw[h2];unfold Rp.fst Rp.lst;rw[vc c,vc c];unfold Rp.fst;rw[vc c]
  exists iteD (fun c2=>?_) (fun c2=>?_)
  ·have eb:Rp.beyond s0 g h=h+1:=by unfold Rp.beyond;rw[vd c2]
   rw[eb]at fin;exists⟨_,_,_,_,rfl,(by unfold Pr.B4;lia),c,?_⟩;exists⟨_,_,rfl,?_⟩;exists⟨_,_,_,_,rfl,(by unfold Pr.B4;lia),c,?_⟩;exists⟨_,_,rfl,?_⟩;exists⟨_,_,rfl,?_⟩;walk_at"g";exact⟨e2,fun p hp=>fin p _ (Pr.Kc hp _) jC⟩
  ·have eb:Rp.beyond s0 g h=h-1:=by unfold Rp.beyond;rw[vc c2]
   rw[eb]at fin;exists⟨_,_,_,_,rfl,(by unfold Pr.B4;lia),c,?_⟩;exists⟨_,_,rfl,?_⟩;exists⟨_,_,_,_,rfl,(by unfold Pr.B4;lia),c,?_⟩;exists⟨_,_,rfl,?_⟩;exists⟨_,_,rfl,?_⟩;walk_at"g";exact⟨e2,fun p hp=>fin p _ (Pr.Kc hp _) jC⟩
theorem W2(T:Txt K mg t)(Kq:FnOk P w K mg base CX0 2 t.ZW t.Z1 ["start","goal","beats","height","many"] (Pr.WL)):FnOk P w K mg base CX0 3 t.QR t.QX ["start","goal","beats","height","many"] (Pr.YM):=by
 refine T.km.ok YL (fun vs H Q E h=>?_) (fun cdv A outer s H vs Q E hr h=>?_)
 ·obtain⟨s0,g,b,h,m,rfl,hb,hh1,hh2,q⟩:=h;rfl
 obtain⟨s0,g,b,h,m,rfl,hb,hh1,hh2,q⟩:=h;refine⟨_,(jb (jo (i:=5) YL.nd rfl (.inl rfl) (jk (Kq.mono (by decide)) hr (by rfl) T.j3m T.W9.kp T.j2V .nil pass0 (ja (pv 0) (ja (pv 1) (ja (pv 2) (ja (pv 3) (ja (pv 4) jc)))))))
  (jf (jv (jh JK (jq jA (pv 5) jd) (jq jA (pv 5) jd))))),?_⟩
 refine jz (σ':=[some _,some _,some _,some _,some _,none]) rfl ?_;exists⟨_,_,_,_,_,rfl,hb,hh1,hh2,fun p H' hs hp=>?_⟩;exists ixTm (SqT.of hp) rfl ?_;exists ixTm (SqT.of hp) rfl ?_;walk_at"g";exact q _ hs
theorem j1I(T:Txt K mg t)(YV:FnOk P w K mg base CX0 2 t.Zn t.Zq ["start","goal","beats","many"] (Pr.wt))(yj:FnOk P w K mg base CX0 3 t.QR t.QX ["start","goal","beats","height","many"] (Pr.YM)):FnOk P w K mg base CX0 4 t.ZX t.Z2 ["asked","start","goal","beats","many"] (sp_weighed):=by
 refine T.xa.ok j1R (fun vs H Q E h=>?_) (fun cdv A outer s H vs Q E hr h=>?_)
 ·cases h;subst_vars;rfl
 obtain⟨o,h,g,b,m,rfl,ak,h0,h1,g0,g1,b0,b1,m0,m1,q⟩:=h;refine⟨_,(jb (j2 (jr Wz (pv 0) Q0 (nomark _))
   (jf (jv (jk (YV.mono (by decide)) hr (by rfl) T.j1y T.wX.kp T.j13 .nil pass0 (ja (pv 1) (ja (pv 2) (ja (pv 3) (ja (pv 4) jc)))))))
   jw)
  (jf (jv (jk (yj.mono (by decide)) hr (by rfl) T.Xy T.km.kp T.xV .nil pass0 (ja (pv 1) (ja (pv 2) (ja (pv 3) (ja (pv 0) (ja (pv 4) jc))))))))),?_⟩
 refine jz (σ':=[some _,some _,some _,some _,some _]) rfl ?_;obtain⟨n,rfl⟩:∃n:Nat,m=(n:Int):=⟨m.toNat,by lia⟩
 rw[Int.toNat_natCast]at q;exists⟨rfl,?_⟩;refine⟨_,rfl,?_⟩;cases o with
 | none=>
  refine iteB1 (by simp[optV]) ?_;exists⟨h,g,b,n,rfl,⟨by lia,by lia,by lia,by lia,by lia,by lia,by lia,by lia⟩,by lia,?_⟩;rw[j2D];exact q H (Same.refl _)
 | some x=>
  have:=ak x rfl;refine iteB0 (by simp[optV]) ?_;exists⟨h,g,b,x,n,rfl,⟨by lia,by lia,by lia,by lia,by lia,by lia,by lia,by lia⟩,by lia,by lia,fun H' s'=>?_⟩;rw[j0c (by lia)];exact q H' s'
theorem j3u(T:Txt K mg t):FnOk P w K mg base CX0 1 t.yR t.yT ["asked","height","many"] (sp_stayed):=by
 refine T.wY.ok j3D (fun vs H Q E h=>?_) (fun cdv A outer s H vs Q E hr h=>?_)
 ·cases h;subst_vars;rfl
 obtain⟨o,h,m,rfl,h0,h1,m0,m1,q⟩:=h;refine⟨_,(jb (j2 (jr Wz (pv 0) Q0 (nomark _))
   (jf (jv (jh JH (pv 1) (pv 2))))
   jw)
  (jf (jv (Z6 (jr Js (pv 1) (pv 0) (nomark _)) (pv 2) jd)))),?_⟩
 refine jz (σ':=[some _,some _,some _]) rfl ?_;cases o with
 | none=>
  exists⟨rfl,?_⟩;refine⟨_,rfl,?_⟩;refine iteB1 (by simp[optV]) ?_;walk_at"g";exact q
 | some x=>
  dsimp only[optV];exists⟨rfl,?_⟩;refine⟨_,rfl,?_⟩;refine iteB0 (by simp) ?_;exists iteD (fun c=>?_) (fun c=>?_)
  ·walk_at"g";have e:wA (some x) h*m=m:=by
    show(if h=x then(1:Int)else 0)*m=m;rw[vd c,uw]
   rw[e]at q;exact q
  ·walk_at"g";have e:wA (some x) h*m=0:=by
    show(if h=x then(1:Int)else 0)*m=0;rw[vc c,Int.zero_mul]
   rw[e]at q;exact q
theorem YC(T:Txt K mg t)(zc:FnOk P w K mg base CX0 1 t.zd t.zf ["pieces","sizes","gone"] (sp_progress))(zJ:FnOk P w K mg base CX0 1 t.qE t.qH ["self","part"] (sp_raises t.jN))(Kr:FnOk P w K mg base CX0 4 t.ZX t.Z2 ["asked","start","goal","beats","many"] (sp_weighed))(ko:FnOk P w K mg base CX0 1 t.yR t.yT ["asked","height","many"] (sp_stayed)):FnOk P w K mg base CX0 5 t.Jx t.Jy ["self","part","height","gone"] (sp_withinL t.jE t.jN):=by
 refine T.YQ.ok jQ (fun vs H Q E h=>?_) (fun cdv A outer s H vs Q E hr h=>?_)
 ·cases h;subst_vars;rfl
 obtain⟨a,z,o,ls,ps,gs,hs,E,k,x,f,B,n,i,h,s0,rfl,A,O,ak,hin,hi,hh,s1,s2,q⟩:=h;refine⟨_,(jb (j2 (WB (zX (jP (pv 0) rfl) T.j3 T.KJ (zJ.mono (by decide)) hr T.wu .nil pass0 (ja (pv 1) jc)))
   (jf (jv (jV (ja (jk (Kr.mono (by decide)) hr (by rfl) T.j3n T.xa.kp T.j2W .nil pass0 (ja (jP (pv 0) rfl) (ja (pv 2) (ja (jq jt (jP (jP (pv 0) rfl) rfl) (pv 1)) (ja (jq jt (jP (jP (pv 0) rfl) rfl) (pv 1)) (ja (pv 3) jc)))))) (ja Q0 jc)))))
   jw)
  (jb (jo (i:=4) jQ.nd rfl (.inl rfl) jd)
  (jb (jo (i:=5) jQ.nd rfl (.inl rfl) jd)
  (jb (Jt PassesOwn.never rfl (Jh (jk (zc.mono (by decide)) hr (by rfl) T.Wr T.YS.kp T.wU .nil pass0 (ja (jq jt (jP (jP (pv 0) rfl) rfl) (pv 1)) (ja (jP (jP (pv 0) rfl) rfl) (ja (pv 3) jc))))) (qY rfl (jG (ju (i:=6) jQ.nd rfl (.inl rfl)) (jG (ju (i:=7) jQ.nd rfl (.inl rfl)) (jG (ju (i:=8) jQ.nd rfl (.inl rfl)) (jG (ju (i:=9) jQ.nd rfl (.inl rfl)) qc)))))
   (jb (XR (i:=4) jQ.nd rfl (.inl rfl) (jh jI (jk (ko.mono (by decide)) hr (by rfl) T.j0B T.wY.kp T.j02 .nil pass0 (ja (jP (pv 0) rfl) (ja (pv 2) (ja (jh JK (pv 7) (pv 5)) jc)))) (jh JH (pv 8) (Qo (QZ hr) (jq jt (jP (pv 0) rfl) (pv 6)) (pv 2)))) Xp)
   (jb (j2 (jr kR (pv 9) Q0 (nomark _))
    (jf (jv (jV (ja (pv 4) (ja (jV (ja (pv 6) (ja (pv 2) (ja (pv 9) jc)))) jc)))))
    jw)
   (jb (jo (i:=5) jQ.nd rfl (.inl rfl) (jh jI (pv 7) (jh JH (pv 8) (jq jt (jP (jP (pv 0) rfl) rfl) (pv 6)))))
   (jf (jo (i:=2) jQ.nd rfl (.inl rfl) (jq jt (jP (jP (pv 0) rfl) rfl) (pv 6))))))))
  (jf (jv (jV (ja (jh jI (pv 4) (jk (ko.mono (by decide)) hr (by rfl) T.j0B T.wY.kp T.j02 .nil pass0 (ja (jP (pv 0) rfl) (ja (pv 2) (ja (jh JK (pv 3) (pv 5)) jc))))) (ja Q0 jc))))))))),?_⟩
 refine jz (σ':=[some _,some _,some _,some _,none,none,none,none,none,none]) rfl ?_;have sz:(200:Nat)<sizeLine:=by decide
 obtain⟨dx,ob⟩:=A.ob;obtain⟨dy,os⟩:=A.st.ob;have S:=O.so;have M:=O.n.lm (k:=k) O.lE O.oE;have pl:(fPc ps gs (lvE E (k:Nat))).length=ps.length:=O.len;have gi:=O.n.g hi;have lL:=S.lL;have lg:=S.lg;have hb:=O.has hh;have eP:(fPc ps gs (lvE E (k:Nat)))[i]?=some ((fPc ps gs (lvE E (k:Nat))).getD i []):=by rw[vy,vz (by lia)];rfl
 have eG:∀{j:Nat},j<ps.length->atI (gs.map V.int) ((j:Nat):Int)=some (.int (gs.getD j 0)):=fun {j} hj=>jL (j:=j) (by rw[vv,vz (by lia),vy,vz (by lia)];rfl)
 obtain⟨pc,hpc,bs,hbs,hqs⟩:=A.st.pa.get eP;exists⟨a,_,dx,_,_,rfl,ob,T.jx,T.jD,qL,?_⟩;refine⟨z.st,dy,_,rfl,os,j6Q (by decide +kernel) (by decide +kernel) (by decide +kernel) (by decide +kernel) (by decide +kernel),?_⟩;exists⟨z.st,z.t,f,_,gs,_,B,i,rfl,A.st,S,by lia,?_⟩;refine⟨_,rfl,?_⟩;cases er:rzB (lvE E (k:Nat)) (fPc ps gs (lvE E (k:Nat))) i with
 | true=>
  have er':=er;unfold rzB at er;obtain⟨er1,er2⟩:=Bool.and_eq_true_iff.mp er;obtain⟨l1,l2⟩:=kI er1;have lb:=S.lb i _ l1;have gb:=S.rs i _ l1 (isEmpty_iff.mp er2);refine iteT ?_;exists⟨a,_,dx,_,_,rfl,ob,T.jx,T.Jg,Wk,?_⟩;exists⟨a,_,dx,_,_,rfl,ob,T.jx,T.jD,qL,?_⟩;refine⟨z.st,_,dy,_,_,rfl,os,T.j3,T.JP,Xn,?_⟩;exists ixLm (SqL.of A.st.hl) (jL (j:=i) (by rw[vv,l2];rfl)) ?_;exists⟨a,_,dx,_,_,rfl,ob,T.jx,T.jD,qL,?_⟩;refine⟨z.st,_,dy,_,_,rfl,os,T.j3,T.j9,yW,?_⟩;exists ixLm (SqL.of A.st.hs) (eG hi) ?_;exists⟨o,h,lef (lvE E (k:Nat)) i,gs.getD i 0,s0,rfl,ak,hb.1,hb.2,lb.1,lb.2,gb.1,gb.2,s1,by lia,fun H1 t1=>?_⟩;exists⟨ue,?_⟩;walk_at"f r hr' H2 t2 e2";refine q r .non _ none H2 (t1.trans t2) e2 rfl ?_ (fun u hu=>by cases hu) (fun _=>rfl);show smB _ _+0=_;rw[Int.add_zero];refine Q6 fun j hj=>?_
  exact congrArg (wA o) (j6S M hi er' (by lia) (by lia)).symm
 | false=>
  have PT:=j6R M hi er;have okp:∀u∈(fPc ps gs (lvE E (k:Nat))).getD i [],PcOk gs u:=fun u hu=>(S.pc i u hu).2.2
  have wok:=j2P (T:=hT ls ps gs E k) (L:=lvE E (k:Nat)) (gs:=gs) (w:=wA o) (s:=s0) _ 0 0 h okp PT.a (vA _) s1;have wov:s0=gs.getD i 0->_:=fun e=>xR (T:=hT ls ps gs E k) (L:=lvE E (k:Nat)) (gs:=gs) (w:=wA o) (s:=s0) ((fPc ps gs (lvE E (k:Nat))).getD i []) 0 0 h fun u hu=>⟨okp u hu,by rw[e];exact PT.e u hu⟩
  have run:=j2E (s:=s0) PT.a okp (O.bo.cl i (by lia) h hh);have inv:=fun y hy=>j5M (gs:=gs) (s:=s0) (PC:=(fPc ps gs (lvE E (k:Nat))).getD i []) (y:=y) hy okp
  have esum:smB (fun j=>wA o (hW (hT ls ps gs E k) (lvE E (k:Nat)) gs h ((fPc ps gs (lvE E (k:Nat))).getD i []) (0+j))) (s0-0).toNat=smB (fun j=>wA o (hT ls ps gs E k i h j)) s0.toNat:=by
   rw[Int.sub_zero];refine Q6 fun j hj=>?_
   rw[uz];exact congrArg (wA o) (PT.h h j (by lia)).symm
  rw[esum,uz]at wok;clear esum;refine iteF ?_;exists⟨a,_,dx,_,_,rfl,ob,T.jx,T.jD,qL,?_⟩;refine⟨z.st,_,dy,_,_,rfl,os,T.j3,T.Jk,xv,?_⟩;exists ixLm (SqL.of A.st.hp) (jL (j:=i) (by rw[vv,hpc];rfl)) ?_;exists⟨a,_,dx,_,_,rfl,ob,T.jx,T.jD,qL,?_⟩;refine⟨z.st,_,dy,_,_,rfl,os,T.j3,T.j9,yW,?_⟩;exists⟨pc,z.t.s,s0,bs,_,gs,rfl,hbs,hqs,A.st.hs,S.p8 i,okp,s1,by lia,fun p1 as1 H1 t1 _ e1 g1=>?_⟩;refine⟨p1,rfl,⟨_,SqL.of e1⟩,?_⟩;generalize prg gs s0 ((fPc ps gs (lvE E (k:Nat))).getD i [])=ys at wok wov run inv g1;have al1:=g1.1;generalize eR:wlp (hT ls ps gs E k) (lvE E (k:Nat)) gs (wA o) s0 0 0 h ys=R at wok wov;refine qa (xs:=as1.map V.ref) (fun u σ H'=>IvE7 fun(told now h':Int) (o6 o7 o8 o9:Option V)=>IvA7 (σ=[some (.ref a),some (.int (i:Nat)),some (.int h'),some (.int s0),some (.int told),some (.int now),o6,o7,o8,o9]) (H1=H') (wlp (hT ls ps gs E k) (lvE E (k:Nat)) gs (wA o) s0 told now h' (ys.drop u)=R) (RunY (lvE E (k:Nat)) B h' (ys.drop u)) (0<=h') (h'<=10^18) (0<=now/\now<=10^80)) ⟨0,0,h,_,_,_,_,rfl,rfl,eR,run,hb.1,hb.2,vA _,by decide⟩ ?_ ?_ ?_
  ·rintro u σ H' _ ⟨told,now,h',o6,o7,o8,o9,rfl,rfl,_⟩;exact SqL.of e1
  ·rintro u v σ H' hv ⟨told,now,h',o6,o7,o8,o9,rfl,rfl,wk,rn,h0,h18,n0,n80⟩;obtain⟨c,y,rfl,hy,hc⟩:=g1.at_ref hv;obtain⟨qq,hqq,yq,yb,b0,bs',o0,o18,yr⟩:=inv y (vm hy);obtain⟨ylt,ys',_⟩:=S.pc i qq hqq;rw[<-yq]at ylt ys';obtain⟨l1,l2⟩:=kI ys';have lb:=S.lb y.1 _ l1;rw[j5l hy]at wk rn;obtain⟨hs',rn⟩:=rn;have jy:y.1<ps.length:=by lia
   have gy:=O.n.g jy;have wal:=A.wd.1;have hwa:z.wa[y.1]?=some z.wa[y.1]:=vz (by lia);obtain⟨kvs,ek,vk⟩:=A.wd.2 y.1 _ hwa;have wb:=O.wh (o:=o) jy ⟨h0,h18⟩;have g:DGet H1 z.wa[y.1] (.int h') (some (.int (whT (hT ls ps gs E k) gs (wA o) y.1 h'))):=by
    have g:=DGet.k (k:=Sum.inl h') (t1 _ _ ek);rw[vk h' hs']at g;exact g
   refine j4K (SqT.of hc) ?_;exists⟨a,_,dx,_,_,rfl,t1 _ _ ob,T.jx,T.Jg,Wk,?_⟩;exists⟨o,h',y.2.1-now,rfl,h0,h18,by lia,by lia,?_⟩;exists⟨a,_,dx,_,_,rfl,t1 _ _ ob,T.jx,T.j7,Ky,?_⟩;exists ixLm (SqL.of (t1 _ _ A.w)) (jL (j:=y.1) (by rw[vv,hwa];rfl)) ?_;exists⟨z.wa[y.1],_,rfl,g,?_⟩;exists⟨rfl,?_⟩;refine⟨_,rfl,?_⟩;unfold wlp at wk;cases ey:y.2.2.2 with
   | some r=>
    rw[ey]at wk;refine iteB1 (by simp[optV]) ?_;exists⟨ud,?_⟩;walk_at"f c2 hc2 H2 t2 e2";exists⟨ue,?_⟩;walk_at"f r2 hr2 H3 t3 e3";rw[<-wk]at wok wov;refine q r2 (.ref c2) _ (some (y.1,h',r)) H3 (t1.trans (t2.trans t3)) e3 ⟨c2,rfl,t3 _ _ e2⟩ wok (fun u' hu'=>?_) wov;cases hu';have:=yr r ey;exact⟨ylt,hs',this.1,by show r<=gs.getD y.1 0;lia⟩
   | none=>
    rw[ey]at wk;refine iteB0 (by simp[optV]) ?_;exists⟨a,_,dx,_,_,rfl,t1 _ _ ob,T.jx,T.jD,qL,?_⟩;refine⟨z.st,_,dy,_,_,rfl,t1 _ _ os,T.j3,T.j9,yW,?_⟩;exists ixLm (SqL.of (t1 _ _ A.st.hs)) (eG jy) ?_;have mb:=j4m (A:=10^18) (B:=10^60) (show -10^18<=y.2.2.1 by lia) o18 (show -10^60<=gs.getD y.1 0 by lia) gy.2;have mp:=vM o0 (show 0<=gs.getD y.1 0 by lia);exists⟨a,_,dx,_,_,rfl,t1 _ _ ob,T.jx,T.jD,qL,?_⟩;refine⟨z.st,_,dy,_,_,rfl,t1 _ _ os,T.j3,T.JP,Xn,?_⟩;exists ixLm (SqL.of (t1 _ _ A.st.hl)) (jL (j:=y.1) (by rw[vv,l2];rfl)) ?_;walk_at"g";exact⟨_,_,_,_,_,_,_,rfl,rfl,wk,rn,lb.1,lb.2,by lia,by lia⟩
  ·rintro σ H' ⟨told,now,h',o6,o7,o8,o9,rfl,rfl,wk,rn,h0,h18,n0,n80⟩;rw[vt,al1,List.drop_length]at wk;exists⟨a,_,dx,_,_,rfl,t1 _ _ ob,T.jx,T.Jg,Wk,?_⟩;exists⟨o,h',s0-now,rfl,h0,h18,by lia,by lia,?_⟩;exists⟨ue,?_⟩;walk_at"f r2 hr2 H3 t3 e3";rw[<-wk]at wok wov;exact q r2 .non _ none H3 (t1.trans t3) e3 rfl wok (fun u' hu'=>by cases hu') wov
theorem yI(T:Txt K mg t)(QJ:FnOk P w K mg base CX0 6 t.JF t.J1 ["self","book","name"] (sp_initT t.jN))(Jw:FnOk P w K mg base CX0 5 t.Jx t.Jy ["self","part","height","gone"] (sp_withinL t.jE t.jN)):FnOk P w K mg base CX0 8 t.j6 t.Jm ["self","book","limb","asked"] (sp_initL t.jE t.jN):=by
 refine T.yJ.ok JW (fun vs H Q E h=>?_) (fun cdv A outer s H vs Q E hr h=>?_)
 ·cases h;subst_vars;rfl
 obtain⟨a,dx,b,pl,pp,las,pas,ls,ps,gs,hs,x,f,k,o,rfl,ha,Bk,N,hk,ak,q⟩:=h;refine⟨_,(jb (Qr (pv 0) (wO T.j3O (QJ.mono (by decide)) hr (by rfl) T.j3o T.ka .nil pass0 (ja (pv 1) (ja (pv 2) jc))) rfl)
  (jb (Qr (pv 0) (jq jt (jP (jP (pv 0) rfl) rfl) (wm Yk jd)) rfl)
  (jb (Qr (pv 0) (pv 3) rfl)
  (jb (Qr (pv 0) (jT jc) rfl)
  (jf (Jt PassesOwn.never rfl (wP (by rfl) T.ZD (ja (jP (jP (pv 0) rfl) rfl) jc)) (qY rfl (jG (ju (i:=4) JW.nd rfl (.inr rfl)) (jG (ju (i:=5) JW.nd rfl (.inl rfl)) qc)))
   (jb (jo (i:=6) JW.nd rfl (.inr rfl) (jq jt (jP (jP (pv 0) rfl) rfl) (pv 4)))
   (jf (Jb (ql PySem.F.plainAttrs_list PySem.F.slot_list_append PySem.F.type_list_append jU (jP (pv 0) rfl) (ja (qP (j1d rfl) (by rfl) T.j19 Xd (ja (qB (ow:=["height"]) (ci:=[4,6,0]) rfl (CompScope.of (defScope qe) ["self","book","limb","asked","part","begun","size"] rfl rfl (by decide +kernel)) (qS (by decide)) (j5L (pv 5)) (fun _ _ _ _ _=>⟨(ju (i:=0) (JX ["self","book","limb","asked","part","begun","size"] rfl (by decide +kernel)) rfl (.inl rfl)),Q1,(jV (ja (pv 0) (ja (jq (wK (K:=K) rfl) (zX (pv 3) T.jx T.zO (Jw.mono (by decide)) hr T.Zh .nil pass0 (ja (pv 1) (ja (pv 0) (ja (pv 2) jc)))) jd) jc)))⟩)) jc)) jc))))))))))),?_⟩
 refine jz (σ':=[some _,some _,some _,some _,none,none,none]) rfl ?_;have sz:(10000:Nat)<sizeLine:=by decide
 have ne:=N.ne;have gl:=N.s.gl;have p61:=N.s.w.p61;walk_at"g";intro so dy hso hdy nsd;have s1:Same H (upd (upd H dy (.own so)) so (.ins t.jN dy [])):=fun c u h=>(jg (je h hso)).trans ((jg (je h hdy)).trans h)
 refine⟨so,dy,b,pl,pp,las,pas,ls,ps,gs,hs,x,f,k,rfl,jC,Bk.same s1,N,hk,fun zs E B H2 k2 lE oE SO SA BO=>⟨rfl,?_⟩⟩;have s2:Same H H2:=fun c u h=>k2 _ _ (je h hso) (s1 _ _ h)
 have O:LtO ls ps gs hs E k x f B:=⟨N,lE,oE,hk,SO,BO⟩
 obtain⟨H0,less,n0,S0⟩:=SA.less (s2 _ _ ha);obtain⟨dz,os⟩:=S0.ob;clear s1 k2 SA;have z2:Same H0 H2:=less H2 fun c u _ h=>h
 have a2:=s2 _ _ ha;exists⟨a,_,dx,[],rfl,a2,T.jx,T.jD,(by show 0<1000;decide),?_⟩;generalize e3:upd H2 a _=H3;have k3:∀c u,c≠a->H2 c=some u->H3 c=some u:=fun c u n h=>e3▸(jg n).trans h
 have a3:=qp e3;clear e3;have z3:=less H3 k3;exists⟨a,_,dx,_,_,rfl,a3,T.jx,T.jD,qi,?_⟩;refine⟨so,_,dz,_,_,rfl,z3 _ _ os,T.j3,T.j9,yW,?_⟩;exists ixLm (SqL.of (z3 _ _ S0.hs)) (j26 ne gl) ?_;exists⟨a,_,dx,_,rfl,a3,T.jx,T.Ja,few (Jd _ _ _) (by decide),?_⟩;generalize e4:upd H3 a _=H4;have k4:∀c u,c≠a->H2 c=some u->H4 c=some u:=fun c u n h=>e4▸(jg n).trans (k3 c u n h)
 have a4:=qp e4;clear e4 k3;exists⟨a,_,dx,_,rfl,a4,T.jx,T.Jg,vD (Jd _ _ _) (vD (Nat.succ_le_succ (Jd _ _ _)) (by decide)),?_⟩;generalize e5:upd H4 a _=H5;have k5:∀c u,c≠a->H2 c=some u->H5 c=some u:=fun c u n h=>e5▸(jg n).trans (k4 c u n h)
 have a5:=qp e5;clear e5 k4;exists⟨va _,?_⟩;walk_at"f pw hpw H6 s6 t6";have nw:pw≠a:=fun z=>by rw[z,a5]at hpw;cases hpw
 exists⟨a,_,dx,_,rfl,s6 _ _ a5,T.jx,T.j7,few3,?_⟩;generalize e7:upd H6 a _=H7;have k7:∀c u,c≠a->H6 c=some u->H7 c=some u:=fun c u n h=>e7▸(jg n).trans h
 have a7:∀wa,H7 a=some (.ins t.jE dx (fldL ⟨so,zs,pw,wa⟩ (gs.getD (ps.length-1) 0) o)):=fun wa=>qp e7
 clear e7;have w2:∀c u,c≠a->H2 c=some u->H7 c=some u:=fun c u n h=>k7 _ _ n (s6 _ _ (k5 _ _ n h))
 have z7:=less H7 w2;have t7:=k7 _ _ nw t6;have nh:∀{c u},c≠a->H2 c=some u->c≠pw:=fun n h=>je (k5 _ _ n h) hpw
 have nh0:∀{c u},H0 c=some u->c≠pw:=fun h=>nh (n0 h) (z2 _ _ h)
 have pl':(fPc ps gs (lvE E (k:Nat))).length=ps.length:=O.len;have lL:=SO.lL;have bal:=S0.ba.1;have lB:=BO.ln;exists⟨a,_,dx,_,_,rfl,a7 [],T.jx,T.jD,qL,?_⟩;refine⟨so,_,dz,_,_,rfl,z7 _ _ os,T.j3,T.qw,j0n,?_⟩;exists⟨zs.b,_,rfl,SqL.of (z7 _ _ S0.hb),?_⟩;refine kD (xs:=zs.ba.map V.ref) (fun i σ H'=>∃(o4 o5 o6:Option V) (wa:List Addr),σ=[some (.ref a),some (.ref b),some (.str x),some (optV o),o4,o5,o6]/\(∀c u,c≠pw->H7 c=some u->H' c=some u)/\H' pw=some (.lst (wa.map V.ref))/\WhAt H' wa B (whT (hT ls ps gs E k) gs (wA o)) i/\∀c∈wa,c≠pw)
  ⟨_,_,_,[],rfl,fun c u _ h=>h,t7,⟨rfl,fun i a h=>by simp at h⟩,fun c h=>nomatch h⟩ ?_ ?_ ?_
 ·rintro i σ H' _ ⟨o4,o5,o6,wa,rfl,sm,e0,hJ,nj⟩;exact SqL.of (sm _ _ (nh0 S0.hb) (z7 _ _ S0.hb))
 ·rintro i v σ H1 P H8 hv ⟨o4,o5,o6,wa,rfl,sm,e0,hJ,nj⟩ sP tP;obtain⟨ab,kvs,rfl,hkv,ob2,hab⟩:=S0.ba.at_ref hv;have hi:=(vx.mp hkv).1;have ekv:kvs=B.getD i []:=by rw[vy,hkv];rfl
  have ip:i<ps.length:=by lia
  have z8:Same H0 H8:=fun c u h=>sP _ _ (sm _ _ (nh0 h) (z7 _ _ h))
  have wal:=hJ.1;have klen:kvs.length<=(lvE E (k:Nat)).length+1:=ekv▸BO.kb.len i;have A8:LtA t.jE t.jN H8 a ⟨so,zs,pw,wa⟩ o ls ps gs E k f B i:=⟨⟨dx,sP _ _ (sm _ _ nw.symm (a7 wa))⟩,S0.same z8,sP _ _ e0,hJ.same sP⟩
  refine zj (SqT.of tP) ?_;exists⟨a,_,dx,_,_,rfl,sP _ _ (sm _ _ nw.symm (a7 wa)),T.jx,T.jD,qL,?_⟩;refine⟨so,_,dz,_,_,rfl,z8 _ _ os,T.j3,T.j9,yW,?_⟩;exists ixLm (SqL.of (z8 _ _ S0.hs)) (jL (j:=i) (show(gs.map V.int)[i]?=some (.int (gs.getD i 0)) by rw[vv,vz (by lia),vy,vz (by lia)];rfl)) ?_;exists⟨a,_,dx,_,_,rfl,sP _ _ (sm _ _ nw.symm (a7 wa)),T.jx,T.j7,Ky,.inl ⟨rfl,_,SqL.of (sP _ _ e0)⟩,?_⟩;exists j4L ?_;exists⟨ab,ob2,kvs,rfl,z8 _ _ hab,?_⟩;refine j32 (fun t ys H'=>∃tas:List Addr,ys=tas.map V.ref/\tas.length=t/\Same H8 H'/\∀(s:Nat) (c:Addr) (q:Key×V),tas[s]?=some c->kvs[s]?=some q->H' c=some (.tup [.int (keyI q.1),.int (whT (hT ls ps gs E k) gs (wA o) i (keyI q.1))]))
   ⟨[],rfl,rfl,Same.refl _,fun s c q h=>by simp at h⟩ ?_ ?_ ?_
  ·rintro t ys H' _ ⟨tas,rfl,tl,s3,ht⟩;exact s3 _ _ (z8 _ _ hab)
  ·rintro t q0 ys H9 hq0 ⟨tas,rfl,tl,s9,ht⟩;have ht2:=(vx.mp hq0).1;obtain⟨h,ex,h0,h18,xh⟩:=BO.key SO (ekv▸vm hq0);rw[ex];show gName 0 (.int h) _ _ _;refine qQ (σ':=[none,some (.int (i:Nat)),some (.int (gs.getD i 0)),some (.ref a)]) rfl ?_;exists iteT ?_;exists⟨a,dx,_,rfl,s9 _ _ (sP _ _ (sm _ _ nw.symm (a7 wa))),xt,?_⟩;walk_at"g";have gi:=N.g ip;refine⟨a,⟨so,zs,pw,wa⟩,o,ls,ps,gs,hs,E,k,x,f,B,i,i,h,gs.getD i 0,rfl,A8.same s9,O,ak,vb _,ip,xh,by lia,by lia,fun r v told y H10 s10 e10 rst re _ non=>?_⟩;obtain rfl:=non rfl;have et:told=whT (hT ls ps gs E k) gs (wA o) i h:=by
    have e:told+0=_:=re;rw[Int.add_zero]at e;exact e
   subst et;exists ixTm (SqT.of e10) rfl ?_;exists⟨ue,?_⟩;walk_at"f t4 ht4 H11 s11 e11";refine⟨by rw[vt];lia,tas++[t4],by rw[vj];rfl,by rw[vn,tl];rfl,s9.trans (s10.trans s11),fun s c q hc hq=>?_⟩;rcases Nat.lt_or_ge s tas.length with z | z
   ·rw[vB z]at hc;exact s11 _ _ (s10 _ _ (ht s c q hc hq))
   ·rw[vC z]at hc;have es:s=tas.length:=by
     have:=(vx.mp hc).1;rw[length_singleton]at this;lia
    subst es;rw[Nat.sub_self]at hc;cases hc;rw[tl,hq0]at hq;cases hq;rw[ex];exact e11
  rintro ys H9 ⟨tas,rfl,tl,s9,ht⟩;refine⟨by rw[vt];lia,?_⟩;walk_at"f p4 hp4 H10 s10 e10";exists⟨p4,tas,(kvs.map fun q=>keyI q.1).map fun h=>(h,.int (whT (hT ls ps gs E k) gs (wA o) i h)),rfl,e10,by rw[vt,vt,tl],fun s c q hc hq=>?_,?_⟩
  ·rw[vv,vv]at hq;obtain⟨h,hx,rfl⟩:=vg.mp hq;obtain⟨q',hq',rfl⟩:=vg.mp hx;exact s10 _ _ (ht s c q' hc hq')
  walk_at"f d hd H11 s11 e11";walk_at"g";have s15:Same H1 H11:=sP.trans (s9.trans (s10.trans s11));have e05:=s15 _ _ e0;refine⟨pw,_,_,rfl,rfl,e05,by rw[vt];lia,?_⟩;have nd:d≠pw:=fun z=>by rw[z,s10 _ _ (s9 _ _ (sP _ _ e0))]at hd;cases hd
  refine⟨_,_,_,wa++[d],rfl,fun c u hc h=>(jg hc).trans (s15 _ _ (sm _ _ hc h)),?_,⟨by rw[vn,wal];rfl,fun j c hc=>?_⟩,fun c hc=>(vh.mp hc).elim (nj c) fun z=>by rw[vo.mp z];exact nd⟩
  ·rw[jC,vj];rfl
  ·rcases Nat.lt_or_ge j wa.length with z | z
   ·rw[vB z]at hc;obtain⟨kv,h1,h2⟩:=hJ.2 j c hc;exact⟨kv,(jg (nj c (vm hc))).trans (s15 _ _ h1),h2⟩
   ·rw[vC z]at hc;have es:j=wa.length:=by
     have:=(vx.mp hc).1;rw[length_singleton]at this;lia
    subst es;rw[Nat.sub_self]at hc;cases hc;refine⟨_,(jg nd).trans e11,fun h hh=>?_⟩;rw[map_map];show valV (mergeK [] ((kvs.map fun q=>keyI q.1).map fun h=>ivK (h,.int (whT (hT ls ps gs E k) gs (wA o) i h)))) _=_;rw[xN (fun h=>.int (whT (hT ls ps gs E k) gs (wA o) i h)),vd,wal];unfold Has at hh;rw[wal,<-ekv]at hh;obtain⟨v,hv⟩:=Option.isSome_iff_exists.mp hh;obtain⟨q',hq',e'⟩:=vK.mp (j2N hv);exact vK.mpr ⟨q',hq',by rw[e'];rfl⟩
 ·rintro σ H8 ⟨o4,o5,o6,wa,rfl,sm,e0,hJ,nj⟩;rw[vt,bal,lB,pl']at hJ;exists q ⟨so,zs,pw,wa⟩ E B H8 (fun c u n h=>sm _ _ (nh n (s2 _ _ h)) (w2 _ _ n (s2 _ _ h))) O ⟨⟨dx,sm _ _ nw.symm (a7 wa)⟩,S0.same fun c u h=>sm _ _ (nh0 h) (z7 _ _ h),e0,hJ⟩
theorem Y0(T:Txt K mg t)(Jw:FnOk P w K mg base CX0 5 t.Jx t.Jy ["self","part","height","gone"] (sp_withinL t.jE t.jN)):FnOk P w K mg base CX0 6 t.Jp t.Jq ["self","beat"] (sp_aheadL t.jE t.jN):=by
 refine T.kf.ok Jz (fun vs H Q E h=>?_) (fun cdv A outer s H vs Q E hr h=>?_)
 ·cases h;subst_vars;rfl
 obtain⟨a,z,o,ls,ps,gs,hs,E,k,x,f,B,t0,rfl,A,O,ak,b0,b1,q⟩:=h;refine⟨_,(jb (jo (i:=2) Jz.nd rfl (.inl rfl) jd)
  (jb (jo (i:=3) Jz.nd rfl (.inl rfl) (jV (ja (jh JK (jF j4 (by rfl) T.qG JJ (ja (jP (pv 0) rfl) jc)) jd) (ja (jP (jP (pv 0) rfl) rfl) (ja (pv 1) jc)))))
  (jb (kW PassesOwn.never (jr kR (pv 3) Q0 (nomark _))
   (jb (jo (i:=4) Jz.nd rfl (.inl rfl) (zX (pv 0) T.jx T.zO (Jw.mono (by decide)) hr T.Zh .nil pass0 (ja (jq jA (pv 3) jd) (ja (jq jA (pv 3) jd) (ja (jq jA (pv 3) jd) jc)))))
   (jb (XR (i:=2) Jz.nd rfl (.inl rfl) (jq jA (pv 4) jd) Xp)
   (jf (jo (i:=3) Jz.nd rfl (.inl rfl) (jq jA (pv 4) jd))))))
  (jf (jv (pv 2)))))),?_⟩
 refine jz (σ':=[some _,some _,none,none,none]) rfl ?_;have sz:(200:Nat)<sizeLine:=by decide
 obtain⟨dx,ob⟩:=A.ob;obtain⟨dy,os⟩:=A.st.ob;have ne:=O.n.ne;have wal:=A.wd.1;have pl:(fPc ps gs (lvE E (k:Nat))).length=ps.length:=O.len;have ht:=O.bo.tp;rw[pl]at ht;have eS:smB (fun j=>wA o ((standH ls ps gs E j).getD k 0)) t0.toNat=smB (fun j=>wA o (hT ls ps gs E k (ps.length-1) f j)) t0.toNat:=by
  refine Q6 fun j hj=>?_
  rw[KW O.n O.lE O.oE O.hk]
 rw[eS]at q;exists⟨a,_,dx,_,_,rfl,ob,T.jx,T.j7,Ky,?_⟩;refine⟨_,_,rfl,.inl ⟨_,SqL.of A.w,rfl⟩,?_⟩;rw[vt,wal];exists⟨a,_,dx,_,_,rfl,ob,T.jx,T.jD,qL,?_⟩;refine⟨z.st,_,dy,_,_,rfl,os,T.j3,T.JT,j42,?_⟩;exists⟨ud,?_⟩;walk_at"f 1 t";rw[show((ps.length:Nat):Int)-1=((ps.length-1:Nat):Int) by lia]at t1;exists⟨fun m σ H'=>IvE4 fun(told:Int) (v:V) (o4:Option V) (y:Option (Nat×Int×Int))=>IvA5 (σ=[some (.ref a),some (.int t0),some (.int told),some v,o4]) (Same H H') (RstAt H' v y) (resT (hT ls ps gs E k) (wA o) (told,y)=smB (fun j=>wA o (hT ls ps gs E k (ps.length-1) f j)) t0.toNat) ((∀u,y=some u->u.1<ps.length/\Has B u.1 u.2.1/\0<=u.2.2/\u.2.2<=gs.getD u.1 0+1)/\m=(match y with | none=>0 | some u=>u.1+1)),
  ⟨_,0,.ref p1,none,some (ps.length-1,f,t0),rfl,s1,⟨p1,rfl,t1⟩,by show 0+_=_;rw[uz],fun u hu=>by cases hu;exact⟨by show ps.length-1<_;lia,ht,b0,b1⟩,rfl⟩,?_⟩
 rintro m σ H' ⟨told,v,o4,y,rfl,sm,rst,re,ok,rfl⟩;exists⟨rfl,?_⟩;refine⟨_,rfl,?_⟩;cases y with
 | none=>
  have ev:v = .non:=rst;subst ev;refine iteB0 (by simp) ?_;walk_at"g";have e:told=smB (fun j=>wA o (hT ls ps gs E k (ps.length-1) f j)) t0.toNat:=by
   have e:told+0=_:=re;rw[<-e,Int.add_zero]
  rw[e];exact q H' sm
 | some u=>
  obtain⟨c,rfl,ec⟩:=rst;obtain⟨u1,u2,u3,u4⟩:=ok u rfl;refine iteB1 (by simp) ?_;refine⟨fun σ H'=>IvE4 fun(told:Int) (v:V) (o4:Option V) (y:Option (Nat×Int×Int))=>IvA5 (σ=[some (.ref a),some (.int t0),some (.int told),some v,o4]) (Same H H') (RstAt H' v y) (resT (hT ls ps gs E k) (wA o) (told,y)=smB (fun j=>wA o (hT ls ps gs E k (ps.length-1) f j)) t0.toNat) ((∀u,y=some u->u.1<ps.length/\Has B u.1 u.2.1/\0<=u.2.2/\u.2.2<=gs.getD u.1 0+1)/\(match y with | none=>0 | some u=>u.1+1)<u.1+1),
   fun σ' H' ⟨told,v,o4,y,h1,h2,h3,h4,h5,h6⟩=>⟨_,h6,told,v,o4,y,h1,h2,h3,h4,h5,rfl⟩,?_⟩
  exists⟨a,dx,_,rfl,sm _ _ ob,xt,?_⟩;exists ixTm (SqT.of ec) rfl ?_;exists ixTm (SqT.of ec) rfl ?_;exists ixTm (SqT.of ec) rfl ?_;exists⟨a,z,o,ls,ps,gs,hs,E,k,x,f,B,ps.length,u.1,u.2.1,u.2.2,rfl,A.same sm,O,ak,by lia,u1,u2,u3,u4,fun r v told' y' H2 s2 e2 rst2 re2 ok2 _=>?_⟩;exists ixTm (SqT.of e2) rfl ?_;exists ixTm (SqT.of e2) rfl ?_;exists⟨told+told',v,_,y',rfl,sm.trans s2,rst2,?_,fun w' hw'=>?_,?_⟩
  ·have e3:told+smB (fun j=>wA o (hT ls ps gs E k u.1 u.2.1 j)) u.2.2.toNat=_:=re;rw[<-re2]at e3;rw[<-e3];exact Int.add_assoc told told' _
  ·obtain⟨w1,w2,w3,w4⟩:=ok2 w' hw';exact⟨by lia,w2,w3,by lia⟩
  ·cases y' with
   | none=>show 0<u.1+1;lia
   | some w'=>have:=(ok2 w' rfl).1;show w'.1+1<u.1+1;lia
theorem j1E(T:Txt K mg t)(jZ:FnOk P w K mg base CX0 6 t.Jp t.Jq ["self","beat"] (sp_aheadL t.jE t.jN)):FnOk P w K mg base CX0 7 t.ZU t.ZZ ["tally","number"] (sp_beatL t.jE t.jN):=by
 refine T.W8.ok zo (fun vs H Q E h=>?_) (fun cdv A outer s H vs Q E hr h=>?_)
 ·cases h;subst_vars;rfl
 obtain⟨a,z,ls,ps,gs,hs,E,k,x,f,B,cc,n0,rfl,A0,O,ak,q⟩:=h;refine⟨_,(jb (j2 (y8 (kY YG Z5 jd (pv 1) (zX (pv 0) T.jx T.qA (jZ.mono (by decide)) hr T.qR .nil pass0 (ja (jh jI (jP (pv 0) rfl) jd) jc))))
   (jf (jv Q0))
   jw)
  (jb (jo (i:=2) zo.nd rfl (.inl rfl) jd)
  (jb (jo (i:=3) zo.nd rfl (.inl rfl) (jP (pv 0) rfl))
  (jb (kW PassesOwn.never (jr Z5 (pv 2) (pv 3) (nomark _))
   (jb (jo (i:=4) zo.nd rfl (.inl rfl) (jh j5 (jh jI (pv 2) (pv 3)) jd))
   (jf (j2 (jr zP (zX (pv 0) T.jx T.qA (jZ.mono (by decide)) hr T.qR .nil pass0 (ja (jh jI (pv 4) jd) jc)) (pv 1) (nomark _))
    (jf (jo (i:=3) zo.nd rfl (.inl rfl) (pv 4)))
    (jf (jo (i:=2) zo.nd rfl (.inl rfl) (jh jI (pv 4) jd)))))))
  (jf (jv (pv 2))))))),?_⟩
 refine jz (σ':=[some _,some _,none,none,none]) rfl ?_;have ne:=O.n.ne;have gt:=O.n.g (show ps.length-1<ps.length by lia);obtain⟨dx,ob⟩:=A0.ob;walk_at"g";by_cases c0:0<=n0
 ·refine iteB1 (vG c0) ?_;exists⟨a,dx,_,rfl,ob,kC,?_⟩;exists⟨a,_,dx,_,_,rfl,ob,T.jx,T.Ja,wH,?_⟩;exists⟨a,z,some cc,ls,ps,gs,hs,E,k,x,f,B,_,rfl,A0,O,ak,by lia,vA _,fun H1 s1=>?_⟩;exists iteN (fun c=>?_) (fun c=>?_)
  ·walk_at"g";exact q _ _ s1 (.inl ⟨fun h=>c h.2,rfl⟩)
  ·exists⟨a,_,dx,_,_,rfl,s1 _ _ ob,T.jx,T.Ja,wH,?_⟩;exists⟨fun m σ H'=>IvE3 fun(lo hi:Int) (o4:Option V)=>IvA7 (σ=[some (.ref a),some (.int n0),some (.int lo),some (.int hi),o4]) (Same H H') (0<=lo) (lo<=hi) (hi<=gs.getD (ps.length-1) 0) (tlN ls ps gs E k (some cc) lo<=n0) (n0<tlN ls ps gs E k (some cc) (hi+1)/\m=(hi-lo).toNat),
    ⟨_,0,gs.getD (ps.length-1) 0,none,rfl,s1,vA _,by lia,vA _,by rw[j2L];exact c0,c,rfl⟩,?_⟩
   rintro m σ H2 ⟨lo,hi,o4,rfl,s2,l0,lh,hL,r1,r2,rfl⟩;exists iteD (fun c2=>?_) (fun c2=>?_)
   ·have mA:lo<=(lo+hi)/2:=by lia
    have mB:(lo+hi)/2<hi:=by lia
    refine⟨fun σ H'=>IvE3 fun(lo' hi':Int) (o4:Option V)=>IvA7 (σ=[some (.ref a),some (.int n0),some (.int lo'),some (.int hi'),o4]) (Same H H') (0<=lo') (lo'<=hi') (hi'<=gs.getD (ps.length-1) 0) (tlN ls ps gs E k (some cc) lo'<=n0) (n0<tlN ls ps gs E k (some cc) (hi'+1)/\(hi'-lo').toNat<(hi-lo).toNat),
     fun σ' H' ⟨lo',hi',o4,h1,h2,h3,h4,h5,h6,h7,h8⟩=>⟨_,h8,lo',hi',o4,h1,h2,h3,h4,h5,h6,h7,rfl⟩,?_⟩
    walk_at"g";generalize(lo+hi)/2=mi at mA mB|-;refine⟨a,dx,_,rfl,s2 _ _ ob,kC,?_⟩;exists⟨a,z,some cc,ls,ps,gs,hs,E,k,x,f,B,_,rfl,A0.same s2,O,ak,by lia,by lia,fun H3 s3=>?_⟩;walk_at"g";have e3:∀t:Int,smB (fun j=>wA (some cc) ((standH ls ps gs E j).getD k 0)) t.toNat=tlN ls ps gs E k (some cc) t:=fun _=>rfl
    rw[e3];refine iteD (fun c3=>?_) (fun c3=>?_)
    ·walk_at"g";exact⟨lo,mi,_,rfl,s2.trans s3,l0,mA,by lia,r1,by lia,by lia⟩
    ·walk_at"g";exact⟨mi+1,hi,_,rfl,s2.trans s3,by lia,by lia,hL,by lia,r2,by lia⟩
   ·walk_at"g";have e:lo=hi:=by lia
    subst e;exact q _ _ s2 (.inr ⟨⟨c0,c⟩,lo,rfl,l0,hL,r1,r2⟩)
 ·refine iteB0 (vH c0) ?_;refine⟨_,rfl,?_⟩;refine iteT ?_;walk_at"g";exact q _ _ (Same.refl _) (.inl ⟨fun h=>c0 h.1,rfl⟩)
theorem j0G(T:Txt K mg t)(Jl:FnOk P w K mg base CX0 8 t.j6 t.Jm ["self","book","limb","asked"] (sp_initL t.jE t.jN))(jZ:FnOk P w K mg base CX0 6 t.Jp t.Jq ["self","beat"] (sp_aheadL t.jE t.jN))(Kp:FnOk P w K mg base CX0 7 t.ZU t.ZZ ["tally","number"] (sp_beatL t.jE t.jN)):FnOk P w K mg base CX0 10 t.Zl t.ze ["book","limb","height","beat"] (sp_firstL):=by
 refine T.Zj.ok wp (fun vs H Q E h=>?_) (fun cdv A outer s H vs Q E hr h=>?_)
 ·cases h;subst_vars;rfl
 obtain⟨b,pl,pp,las,pas,ls,ps,gs,hs,x,f,k,c,t0,rfl,Bk,N,hk,c0,c1,b0,b1,q⟩:=h;refine⟨_,(jb (jo (i:=4) wp.nd rfl (.inl rfl) (wO T.K7 (Jl.mono (by decide)) hr (by rfl) T.kM T.zu .nil pass0 (ja (pv 0) (ja (pv 1) (ja (pv 2) jc)))))
  (jb (j2 (y8 (kY YG YG jd (pv 3) (jP (pv 4) rfl)))
   (jf Z8)
   jw)
  (jf (jv (jk (Kp.mono (by decide)) hr (by rfl) T.j3l T.W8.kp T.j2U .nil pass0 (ja (pv 4) (ja (zX (pv 4) T.jx T.qA (jZ.mono (by decide)) hr T.qR .nil pass0 (ja (pv 3) jc)) jc))))))),?_⟩
 refine jz (σ':=[some _,some _,some _,some _,none]) rfl ?_;have ak:AskOk (some c):=fun y hy=>by cases hy;exact⟨c0,c1⟩
 walk_at"g";intro o dx ho hdx ne;have s3:Same H (upd (upd H dx (.own o)) o (.ins t.jE dx [])):=fun c u h=>(jg (je h ho)).trans ((jg (je h hdx)).trans h)
 refine⟨o,dx,b,pl,pp,las,pas,ls,ps,gs,hs,x,f,k,some c,rfl,jC,Bk.same s3,N,hk,ak,fun z E B H5 k5 O A=>⟨rfl,?_⟩⟩;have s05:Same H H5:=fun c u h=>k5 _ _ (je h ho) (s3 _ _ h)
 obtain⟨dy,ob⟩:=A.ob;exists iteB1 (vG b0) ?_;exists⟨o,_,dy,_,_,rfl,ob,T.jx,T.Ja,wH,?_⟩;exists iteN (fun c=>ug b1 c) (fun _=>?_);exists⟨o,dy,_,rfl,ob,kC,?_⟩;exists⟨o,z,some c,ls,ps,gs,hs,E,k,x,f,B,t0,rfl,A,O,ak,b0,by lia,fun H6 s6=>?_⟩;walk_at"g";exact⟨o,z,ls,ps,gs,hs,E,k,x,f,B,c,_,rfl,A.same s6,O,ak,fun v H7 s7 R=>q v E H7 (s05.trans (s6.trans s7)) O.lE O.oE (R.first b0 b1)⟩
theorem kO(T:Txt K mg t)(Jj:FnOk P w K mg base CX0 1 t.J0 t.J3 ["named"] (sp_numbers_of))(yi:FnOk P w K mg base CX0 3 t.YW t.YX ["book"] (sp_ends))(Zb:FnOk P w K mg base CX0 5 t.Zc t.Zd ["book"] (sp_lengths))(Qx:FnOk P w K mg base CX0 3 t.QB t.QF ["book","sizes"] (sp_pieces_of)):FnOk P w K mg base CX0 6 t.JQ t.qr ["self","book"] (sp_initS t.Ju):=by
 refine T.Km.ok Kd (fun vs H Q E h=>?_) (fun cdv A outer s H vs Q E hr h=>?_)
 ·cases h;subst_vars;rfl
 obtain⟨a,dx,b,pl,pp,las,pas,ls,ps,gs,hs,rfl,ha,B,N,q⟩:=h;refine⟨_,(jb (Qr (pv 0) (jk (Jj.mono (by decide)) hr (by rfl) T.zW T.QI.kp T.zQ .nil pass0 (ja (jq jA (pv 1) jd) jc)) rfl)
  (jb (Qr (pv 0) (qB (ow:=["name","height"]) (ci:=[]) rfl (CompScope.of (defScope qx) ["self","book"] rfl rfl (by decide +kernel)) (wI (by decide) (by decide)) (Jh (jq jA (pv 1) jd)) (fun _ _ _ _ _=>⟨(qY rfl (jG (ju (i:=0) (JX ["self","book"] rfl (by decide +kernel)) rfl (.inl rfl)) (jG (ju (i:=1) (JX ["self","book"] rfl (by decide +kernel)) rfl (.inl rfl)) qc))),Q1,(pv 1)⟩)) rfl)
  (jb (Qr (pv 0) (qB (ow:=["name","form"]) (ci:=[]) rfl (CompScope.of (defScope qx) ["self","book"] rfl rfl (by decide +kernel)) (wI (by decide) (by decide)) (Jh (jq jA (pv 1) jd)) (fun _ _ _ _ _=>⟨(qY rfl (jG (ju (i:=0) (JX ["self","book"] rfl (by decide +kernel)) rfl (.inl rfl)) (jG (ju (i:=1) (JX ["self","book"] rfl (by decide +kernel)) rfl (.inl rfl)) qc))),Q1,(pv 1)⟩)) rfl)
  (jb (Qr (pv 0) (jk (Zb.mono (by decide)) hr (by rfl) T.xz T.Kn.kp T.W6 .nil pass0 (ja (pv 1) jc)) rfl)
  (jb (Qr (pv 0) (jk (yi.mono (by decide)) hr (by rfl) T.j1w T.xY.kp T.j11 .nil pass0 (ja (pv 1) jc)) rfl)
  (jf (Qr (pv 0) (jk (Qx.mono (by decide)) hr (by rfl) T.wj T.yL.kp T.KZ .nil pass0 (ja (pv 1) (ja (jP (pv 0) rfl) jc))) rfl))))))),?_⟩
 refine jz (σ':=[some _,some _]) rfl ?_;have sz:(200:Nat)<sizeLine:=by decide
 have W:=N.s.w;have gl:=N.s.gl;have l8:=W.l8;have p61:=W.p61;have la:=B.la.1;have pal:=B.pa.1;obtain⟨H0,less,n0,B0⟩:=B.less ha;have z0:Same H0 H:=less H fun c u _ h=>h
 exists ixTm (SqT.of B.t) rfl ?_;exists⟨pl,las,nmsOf ls,rfl,B.l,by rw[nmsOf,vt];exact la,fun i a x ea ex=>?_,W.ln,by rw[nmsOf,vt];lia,fun d H1 s1 hd ed=>?_⟩
 ·unfold nmsOf at ex;rw[vv]at ex;obtain⟨p,ep,rfl⟩:=vg.mp ex;exact⟨_,B.la.2 i a p ea ep⟩
 exists⟨a,_,dx,[],rfl,s1 _ _ ha,T.Jv,T.qO,(by show 0<1000;decide),?_⟩;have nd:d≠a:=fun z=>by rw[z,ha]at hd;cases hd
 generalize e2:upd H1 a _=H2;have k2:∀c u,c≠a->H1 c=some u->H2 c=some u:=fun c u n h=>e2▸(jg n).trans h
 have a2:=qp e2;clear e2;have z2:Same H0 H2:=less H2 fun c u n h=>k2 _ _ n (s1 _ _ h)
 have B2:=B0.same z2;exists ixTm (SqT.of B2.t) rfl ?_;exists⟨pl,rfl,⟨_,SqL.of B2.l⟩,?_⟩;refine JY (xs:=las.map V.ref) (fun i ys H'=>ys=((ls.map (·.2)).take i).map V.int/\H2=H') ⟨rfl,rfl⟩ ?_ ?_ ?_
 ·rintro i ys H' _ ⟨rfl,rfl⟩;exact SqL.of B2.l
 ·rintro i v ys H' hv ⟨rfl,rfl⟩;obtain⟨a,p,rfl,hp,hat⟩:=B2.la.at_ref hv;have hi:=(vx.mp hp).1;refine qQ (σ':=[none,none]) rfl ?_;refine zj (SqT.of hat) ?_;exists iteT ?_;exists⟨by rw[vt,vi,vt];lia,?_,rfl⟩;rw[take_snoc (show(ls.map (·.2))[i]?=some p.2 by rw[vv,hp];rfl),vj];rfl
 rintro ys H' ⟨rfl,rfl⟩;rw[show(las.map V.ref).length=(ls.map (·.2)).length by rw[vt,vt];exact la,v3];refine⟨by rw[vt,vt];lia,?_⟩;walk_at"f 3 t";exists⟨a,_,dx,_,rfl,s3 _ _ a2,T.Jv,T.qM,few (Jd _ _ _) (by decide),?_⟩;have n3:p3≠a:=fun z=>by rw[z,a2]at hp3;cases hp3
 generalize e4:upd H3 a _=H4;have k4:∀c u,c≠a->H3 c=some u->H4 c=some u:=fun c u n h=>e4▸(jg n).trans h
 have a4:=qp e4;clear e4;have z4:Same H0 H4:=fun c u h=>k4 _ _ (n0 h) (s3 _ _ (z2 _ _ h))
 have B4:=B0.same z4;exists ixTm (SqT.of B4.t) rfl ?_;exists⟨pp,rfl,⟨_,SqL.of B4.p⟩,?_⟩;refine JY (xs:=pas.map V.ref) (fun i ys H'=>IvE1 fun(fbs:List Addr)=>IvA2 (ys=fbs.map V.ref) (All2 (fun a p=>FormAt H4 a p.2) fbs (ps.take i)/\H4=H')) ⟨[],rfl,.nil,rfl⟩ ?_ ?_ ?_
 ·rintro i ys H' _ ⟨fbs,rfl,af,rfl⟩;exact SqL.of B4.p
 ·rintro i v ys H' hv ⟨fbs,rfl,af,rfl⟩;obtain⟨a',p,rfl,hp,fb,hat,hf⟩:=B4.pa.at_ref hv;have hi:=(vx.mp hp).1;have afl:=af.1;rw[vi]at afl;refine qQ (σ':=[none,none]) rfl ?_;refine zj (SqT.of hat) ?_;exists iteT ?_;exists⟨by rw[vt];lia,fbs++[fb],by rw[vj];rfl,?_,rfl⟩;rw[take_snoc hp];exact All2.snoc af hf
 rintro ys H' ⟨fbs,rfl,af,rfl⟩;rw[vt,pal,v3]at af;have fl:=af.1;refine⟨by rw[vt];lia,?_⟩;walk_at"f 5 t";exists⟨a,_,dx,_,rfl,s5 _ _ a4,T.Jv,T.qN,vD (Jd _ _ _) (vD (Nat.succ_le_succ (Jd _ _ _)) (by decide)),?_⟩;have n5:p5≠a:=fun z=>by rw[z,a4]at hp5;cases hp5
 generalize e6:upd H5 a _=H6;have k6:∀c u,c≠a->H5 c=some u->H6 c=some u:=fun c u n h=>e6▸(jg n).trans h
 have a6:=qp e6;clear e6;have z6:Same H0 H6:=fun c u h=>k6 _ _ (n0 h) (s5 _ _ (z4 _ _ h))
 exists⟨b,pl,pp,las,pas,ls,ps,gs,hs,rfl,B0.same z6,N.s,fun l7 H7 s7 hl7 e7=>?_⟩;exists⟨a,_,dx,_,rfl,s7 _ _ a6,T.Jv,T.Jn,few3,?_⟩;have n7:l7≠a:=fun z=>by rw[z,a6]at hl7;cases hl7
 generalize e8:upd H7 a _=H8;have k8:∀c u,c≠a->H7 c=some u->H8 c=some u:=fun c u n h=>e8▸(jg n).trans h
 have a8:=qp e8;clear e8;have z8:Same H0 H8:=fun c u h=>k8 _ _ (n0 h) (s7 _ _ (z6 _ _ h))
 exists⟨b,pl,pp,las,pas,ls,ps,rfl,B0.same z8,W,fun l9 as E H9 s9 hl9 e9 na lE aE oE=>?_⟩;exists⟨a,_,dx,_,rfl,s9 _ _ a8,T.Jv,T.Qe,few4,?_⟩;have n9:l9≠a:=fun z=>by rw[z,a8]at hl9;cases hl9
 generalize e10:upd H9 a _=H10;have k10:∀c u,c≠a->H9 c=some u->H10 c=some u:=fun c u n h=>e10▸(jg n).trans h
 have a10:=qp e10;clear e10;have z10:Same H0 H10:=fun c u h=>k10 _ _ (n0 h) (s9 _ _ (z8 _ _ h))
 have w7:∀c u,c≠a->H7 c=some u->H10 c=some u:=fun c u n h=>k10 _ _ n (s9 _ _ (k8 _ _ n h))
 exists⟨a,_,dx,_,_,rfl,a10,T.Jv,T.Jn,(jH (by decide +kernel)).trans qi,?_⟩;exists⟨b,pl,pp,l7,las,pas,ls,ps,gs,rfl,B0.same z10,W,w7 _ _ n7 e7,gl,fun l11 as11 H11 s11 hl11 e11 ha11 _=>?_⟩;exists⟨a,_,dx,_,rfl,s11 _ _ a10,T.Jv,T.qv,few5,?_⟩;have n11:l11≠a:=fun z=>by rw[z,a10]at hl11;cases hl11
 have k12:∀c u,c≠a->H11 c=some u->upd H11 a (.ins t.Ju dx (fldS ⟨d,p3,p5,l7,l9,l11,fbs,as,as11⟩)) c=some u:=fun c u n h=>(jg n).trans h
 have u9:∀c u,c≠a->H9 c=some u->upd H11 a (.ins t.Ju dx (fldS ⟨d,p3,p5,l7,l9,l11,fbs,as,as11⟩)) c=some u:=fun c u n h=>k12 _ _ n (s11 _ _ (k10 _ _ n h))
 have u7:∀c u,c≠a->H7 c=some u->_=some u:=fun c u n h=>u9 _ _ n (s9 _ _ (k8 _ _ n h))
 have u5:∀c u,c≠a->H5 c=some u->_=some u:=fun c u n h=>u7 _ _ n (s7 _ _ (k6 _ _ n h))
 have u3:∀c u,c≠a->H3 c=some u->_=some u:=fun c u n h=>u5 _ _ n (s5 _ _ (k4 _ _ n h))
 have u1:∀c u,c≠a->H1 c=some u->_=some u:=fun c u n h=>u3 _ _ n (s3 _ _ (k2 _ _ n h))
 have nq:∀{c:Addr} {xs:List V},H11 c=some (.lst xs)->c≠a:=fun h z=>by rw[z,s11 _ _ a10]at h;cases h
 have nqt:∀{c:Addr} {xs:List V},H11 c=some (.tup xs)->c≠a:=fun h z=>by rw[z,s11 _ _ a10]at h;cases h
 have nt:∀{c:Addr} {xs:List V},H9 c=some (.tup xs)->c≠a:=fun h z=>by rw[z,s9 _ _ a8]at h;cases h
 have nl:∀{c:Addr} {xs:List V},H9 c=some (.lst xs)->c≠a:=fun h z=>by rw[z,s9 _ _ a8]at h;cases h
 have n4t:∀{c:Addr} {xs:List V},H4 c=some (.tup xs)->c≠a:=fun h z=>by rw[z,a4]at h;cases h
 exact q ⟨d,p3,p5,l7,l9,l11,fbs,as,as11⟩ E _ (fun c u n h=>u1 _ _ n (s1 _ _ h)) ⟨⟨dx,jC⟩,u1 _ _ nd ed,u3 _ _ n3 t3,u5 _ _ n5 t5,All2.mono af fun c p h=>FormAt.put (fun b xs hb=>u5 _ _ (n4t hb) (s5 _ _ hb)) h,u7 _ _ n7 e7,u9 _ _ n9 e9,lE,
  All2.mono aE fun c e ⟨bs,h1,h2⟩=>⟨bs,u9 _ _ (nl h1) h1,All2.mono h2 fun b q h=>u9 _ _ (nt h) h⟩,oE,k12 _ _ n11 e11,All2.mono ha11 fun c e ⟨bs,h1,h2⟩=>⟨bs,k12 _ _ (nq h1) h1,All2.mono h2 fun b q h=>k12 _ _ (nqt h) h⟩⟩
theorem j5H(T:Txt K mg t):FnOk P w K mg base CX0 1 t.w6 t.Wh ["start","goal","beats","j"] (Pr.j2J):=by
 refine T.j3M.ok j5Q (fun vs H Q E h=>?_) (fun cdv A outer s H vs Q E hr h=>?_)
 ·obtain⟨s0,g,b,j,rfl,hb,q⟩:=h;rfl
 obtain⟨s0,g,b,j,rfl,hb,q⟩:=h;refine⟨_,(jf (jv (jh jI (pv 0) (jh j5 (jh JH (jh JK (pv 1) (pv 0)) (pv 3)) (pv 2))))),?_⟩;refine jz (σ':=[some _,some _,some _,some _]) rfl ?_;unfold Pr.B4 at hb;walk_at"g";exact q
theorem j3v(T:Txt K mg t)(zc:FnOk P w K mg base CX0 1 t.zd t.zf ["pieces","sizes","gone"] (sp_progress)):FnOk P w K mg base CX0 2 t.yS t.yU ["pieces","sizes","gone"] (sp_within):=by
 refine T.j03.ok Zf (fun vs H Q E h=>?_) (fun cdv A outer s H vs Q E hr h=>?_)
 ·cases h;subst_vars;rfl
 obtain⟨l,s0,t0,bs,qs,gs,rfl,el,hq,es,q8,ok,t1,t2,q⟩:=h;refine⟨_,(jb (jo (i:=3) Zf.nd rfl (.inl rfl) (jT jc))
  (jb (Jt PassesOwn.never rfl (Jh (jk (zc.mono (by decide)) hr (by rfl) T.Wr T.YS.kp T.wU .nil pass0 (ja (pv 0) (ja (pv 1) (ja (pv 2) jc))))) (qY rfl (jG (ju (i:=4) Zf.nd rfl (.inl rfl)) (jG (ju (i:=5) Zf.nd rfl (.inl rfl)) (jG (ju (i:=6) Zf.nd rfl (.inl rfl)) (jG (ju (i:=7) Zf.nd rfl (.inl rfl)) qc)))))
   (jb (Q2 (jr zP (pv 6) jd (nomark _))
    (jf (Jb (ql PySem.F.plainAttrs_list PySem.F.slot_list_append PySem.F.type_list_append jU (pv 3) (ja (jV (ja (pv 4) (ja (jq jt (pv 1) (pv 4)) jc))) jc))))
    jw)
   (jf (j2 (jr kR (pv 7) Q0 (nomark _))
    (jf (Jb (ql PySem.F.plainAttrs_list PySem.F.slot_list_append PySem.F.type_list_append jU (pv 3) (ja (jV (ja (pv 4) (ja (pv 7) jc))) jc))))
    jw))))
  (jf (jv (pv 3))))),?_⟩
 refine jz (σ':=[some _,some _,some _,none,none,none,none,none]) rfl ?_;have sz:(10000:Nat)<sizeLine:=by decide
 have gat:∀j,j<gs.length->gs[j]?=some (gs.getD j 0):=fun j h=>by
  rw[vy,vz h];rfl
 exists⟨va _,?_⟩;walk_at"f p hp H1 s1 e1";have np:∀{c u},H c=some u->c≠p:=fun h=>je h hp
 exists⟨l,s0,t0,bs,qs,gs,rfl,s1 _ _ el,All2.mono hq fun c x h=>s1 _ _ h,s1 _ _ es,q8,ok,t1,t2,fun l2 as2 H2 s2 hl2 e2 ha2=>?_⟩;have lpr:=j2r (gs:=gs) (t:=t0) qs;have al2:=ha2.1;have n2p:l2≠p:=fun z=>by rw[z,e1]at hl2;cases hl2
 have e12:=s2 _ _ e1;exists⟨l2,rfl,⟨_,SqL.of e2⟩,?_⟩;refine qa (xs:=as2.map V.ref) (fun i σ H'=>IvE5 fun(o4 o5 o6 o7:Option V) (as:List Addr)=>IvA4 (σ=[some (.ref l),some (.ref s0),some (.int t0),some (.ref p),o4,o5,o6,o7]) (∀c u,c≠p->H2 c=some u->H' c=some u) (H' p=some (.lst (as.map V.ref))) (as.length<=2*i/\GonAt H' as (((prg gs t0 qs).take i).flatMap (wth1 gs))))
  ⟨_,_,_,_,[],rfl,fun c u _ h=>h,e12,vb _,.nil⟩ ?_ ?_ ?_
 ·rintro i σ H' _ ⟨o4,o5,o6,o7,as,rfl,sm,ep,la,ha⟩;exact SqL.of (sm _ _ n2p e2)
 ·rintro i v σ H' hv ⟨o4,o5,o6,o7,as,rfl,sm,ep,la,ha⟩;obtain⟨c,y,rfl,hy,hc⟩:=ha2.at_ref hv;have hi:=(vx.mp hy).1;have ncp:c≠p:=fun z=>by rw[z,e12]at hc;cases hc
  obtain⟨x,hx,ex⟩:=XB (vm hy);have y1:y.1<gs.length:=by rw[j0L ex];exact(ok x hx).1
  have more:((prg gs t0 qs).take (i+1)).flatMap (wth1 gs)=((prg gs t0 qs).take i).flatMap (wth1 gs)++wth1 gs y:=by
   rw[take_snoc hy,List.flatMap_append,flatMap_cons,List.flatMap_nil,append_nil]
  have es':H' s0=some (.lst (gs.map V.int)):=sm _ _ (np es) (s2 _ _ (s1 _ _ es));refine j4K (SqT.of (sm _ _ ncp hc)) ?_;exists⟨fun σ' H3=>IvE1 fun(as3:List Addr)=>IvA4 (σ'=[some (.ref l),some (.ref s0),some (.int t0),some (.ref p),some (.int (y.1:Nat)),some (.int y.2.1),some (.int y.2.2.1),some (optV y.2.2.2)]) (∀c u,c≠p->H' c=some u->H3 c=some u) (H3 p=some (.lst (as3.map V.ref))) (as3.length<=2*i+1/\GonAt H3 as3 (((prg gs t0 qs).take i).flatMap (wth1 gs)++(if 0<y.2.2.1 then[(y.1,gs.getD y.1 0)]else[]))),?_,?_⟩
  rotate_left
  ·exists iteD (fun c1=>?_) (fun c1=>?_)
   ·exists⟨.inl ⟨rfl,_,SqL.of ep⟩,?_⟩;exists ixLm (SqL.of es') (jL (j:=y.1) (by rw[vv,gat _ y1];rfl)) ?_;exists⟨ue,?_⟩;walk_at"f p2 hp2 H3 s3 e3";exists⟨p,_,_,rfl,rfl,s3 _ _ ep,by rw[vt];lia,?_⟩;have n2':p2≠p:=fun z=>by rw[z,s3 _ _ ep]at e3;cases e3
    refine⟨as++[p2],rfl,fun c u hc h=>(jg hc).trans (s3 _ _ h),by rw[jC,vj];rfl,by rw[vn];show as.length+1<=_;lia,?_⟩;rw[vd c1];refine All2.snoc (All2.mono ha fun c y h=>?_) ((jg n2').trans e3);exact(jg (fun z=>by rw[z,ep]at h;cases h)).trans (s3 _ _ h)
   ·exists⟨as,rfl,fun c u _ h=>h,ep,by lia,?_⟩;rw[vc c1,append_nil];exact ha
  rintro σ' H3 ⟨as3,rfl,sm3,ep3,la3,ha3⟩;have fin:wth1 gs y=(if 0<y.2.2.1 then[(y.1,gs.getD y.1 0)]else[])++(match y.2.2.2 with | some r=>[(y.1,r)] | none=>[]):=rfl;cases er:y.2.2.2 with
  | none=>
   exists⟨rfl,_,rfl,?_⟩;refine iteB0 (by simp[optV]) ?_;exists⟨_,_,_,_,as3,rfl,fun c u hc h=>sm3 _ _ hc (sm _ _ hc h),ep3,by lia,?_⟩;rw[more,fin,er,append_nil];exact ha3
  | some r=>
   exists⟨rfl,_,rfl,?_⟩;refine iteB1 (by simp[optV]) ?_;exists⟨.inl ⟨rfl,_,SqL.of ep3⟩,?_⟩;exists⟨ue,?_⟩;walk_at"f p2 hp2 H4 s4 e4";exists⟨p,_,_,rfl,rfl,s4 _ _ ep3,by rw[vt];lia,?_⟩;have n2':p2≠p:=fun z=>by rw[z,s4 _ _ ep3]at e4;cases e4
   refine⟨_,_,_,_,as3++[p2],rfl,fun c u hc h=>(jg hc).trans (s4 _ _ (sm3 _ _ hc (sm _ _ hc h))),by rw[jC,vj];rfl,by rw[vn];show as3.length+1<=_;lia,?_⟩;rw[more,fin,er,<-List.append_assoc];refine All2.snoc (All2.mono ha3 fun c y h=>?_) ((jg n2').trans e4);exact(jg (fun z=>by rw[z,ep3]at h;cases h)).trans (s4 _ _ h)
 rintro σ' H' ⟨o4,o5,o6,o7,as,rfl,sm,ep,la,ha⟩;rw[vt,al2,v3]at ha;walk_at"g";exact q p as H' (fun c u h=>sm _ _ (np h) (s2 _ _ (s1 _ _ h))) hp ep ha
theorem Wx(T:Txt K mg t)(wZ:FnOk P w K mg base CX0 2 t.yS t.yU ["pieces","sizes","gone"] (sp_within)):FnOk P w K mg base CX0 3 t.Qi t.Qk ["self","beat"] (sp_sceneS t.Ju):=by
 refine T.WS.ok JV (fun vs H Q E h=>?_) (fun cdv A outer s H vs Q E hr h=>?_)
 ·cases h;subst_vars;rfl
 obtain⟨a,z,ls,ps,gs,hs,E,t0,rfl,A,N,t1,t2,q⟩:=h;refine⟨_,(jb (j2 (y8 (kY YG YG jd (pv 1) (jq jt (jP (pv 0) rfl) (wm Yk jd))))
   (jf Z8)
   jw)
  (jb (jo (i:=2) JV.nd rfl (.inl rfl) (qP kz (by rfl) T.j1a Xf (ja (jP (pv 0) rfl) jc)))
  (jb (jo (i:=3) JV.nd rfl (.inl rfl) (jT jc))
  (jb (jo (i:=4) JV.nd rfl (.inl rfl) (jT (ja (jV (ja (jh JK (jF j4 (by rfl) T.qG JJ (ja (jP (pv 0) rfl) jc)) jd) (ja (pv 1) jc))) jc)))
  (jb (kW PassesOwn.never (j6F (pv 4) (fun _=>rfl))
   (jb (jo (i:=5) JV.nd rfl (.inl rfl) (j4z PySem.F.plainAttrs_list PySem.F.slot_list_pop PySem.F.type_list_pop j6s (pv 4)))
   (jf (j2 (jr Z5 (jq jA (pv 5) jd) (jq jt (jP (pv 0) rfl) (jq jA (pv 5) jd)) (nomark _))
    (jb (Jb (ql PySem.F.plainAttrs_list PySem.F.slot_list_append PySem.F.type_list_append jU (pv 3) (ja (pv 5) jc)))
    (jf (Jb (ql PySem.F.plainAttrs_list PySem.F.slot_list_extend PySem.F.type_list_extend j3q (pv 4) (ja (j6A (jk (wZ.mono (by decide)) hr (by rfl) T.j4f T.j03.kp T.j3L .nil pass0 (ja (jq jt (jP (pv 0) rfl) (jq jA (pv 5) jd)) (ja (jP (pv 0) rfl) (ja (jq jA (pv 5) jd) jc)))) (Yu (wm Yk jd))) jc)))))
    (jf (Jt PassesOwn.never rfl (Jh (jq jt (jP (pv 0) rfl) (jq jA (pv 5) jd))) (qY rfl (jG (ju (i:=6) JV.nd rfl (.inl rfl)) (jG (ju (i:=7) JV.nd rfl (.inl rfl)) qc)))
     (jf (Y4 (pv 7) (KN (pv 2) (pv 6) set_list)))))))))
  (jf (jv (jV (ja (pv 2) (ja (pv 3) jc)))))))))),?_⟩
 refine jz (σ':=[some _,some _,none,none,none,none,none,none]) rfl ?_;have sz:(10000:Nat)<sizeLine:=by decide
 have W:=N.s.w;have gl:=N.s.gl;have ne:=N.ne;have p61:=W.p61;have lE:=A.el;have M8:∀i,i<ps.length->(hs.getD i []).length<=8:=fun i hi=>j5B W N.hl N.m (Wo N.s N.hl hi)
 have glast:atI (gs.map V.int) (-1)=some (.int (gs.getD (ps.length-1) 0)):=j26 (by lia) (by rw[gl]);have gat:∀j,j<ps.length->gs[j]?=some (gs.getD j 0):=fun j h=>N.j44 h
 obtain⟨dx,ob⟩:=A.ob;exists iteD (fun _=>?_) (fun c=>ug t1 c);exists⟨a,_,dx,_,_,rfl,ob,T.Jv,T.Jn,Yr,?_⟩;exists ixLm (SqL.of A.hs) (glast) ?_;exists iteN (fun z=>ug t2 z) (fun _=>?_);exists⟨a,_,dx,_,_,rfl,ob,T.Jv,T.qM,j36,?_⟩;exists⟨z.f,_,rfl,.inl (SqL.of A.hf),?_⟩;walk_at"f 1 e";exists⟨va _,?_⟩;walk_at"f 2 e";have s12:=s1.trans s2;exists⟨a,_,dx,_,_,rfl,s12 _ _ ob,T.Jv,T.Jn,Yr,?_⟩;exists⟨_,_,rfl,.inl ⟨_,SqL.of (s12 _ _ A.hs),rfl⟩,?_⟩;rw[vt,gl];exists⟨ue,?_⟩;walk_at"f 3 e";exists⟨uf,?_⟩;walk_at"f 4 e";rw[show((ps.length:Nat):Int)-1=((ps.length-1:Nat):Int) by lia]at e3;have s13:=s12.trans s3;have s14:=s13.trans s4;have n12:p1≠p2:=je e1 hp2;have n14:p1≠p4:=je (s3 _ _ (s2 _ _ e1)) hp4;have n24:p2≠p4:=je (s3 _ _ e2) hp4;have m1:∀{c u},H c=some u->c≠p1:=fun h=>je h hp1
 have m2:∀{c u},H c=some u->c≠p2:=fun h=>je (s1 _ _ h) hp2
 have m4:∀{c u},H c=some u->c≠p4:=fun h=>je (s13 _ _ h) hp4
 have root:=N.nodes M8 (i:=ps.length-1) (t:=t0) (by lia) t1;have b18:∀h∈ls.map (·.2),0<=h/\h<=10^18:=fun h hh=>by
  obtain⟨q0,hq0,rfl⟩:=vK.mp hh;exact N.l18 q0 hq0
 exists⟨fun m σ H'=>IvE8 fun(o5 o6 o7:Option V) (pas tas:List Addr) (D P S:List (Nat×Int))=>IvA2 (σ=[some (.ref a),some (.int t0),some (.ref p1),some (.ref p2),some (.ref p4),o5,o6,o7]) (ScAt ls ps gs E t0 H H' p1 p2 p4 pas tas D P S/\m=(S.map fun x=>nodes ps gs x.1 x.2).sum),
  ⟨_,none,none,none,[],[p3],[],[],[(ps.length-1,t0)],rfl,⟨s14,s4 _ _ (s3 _ _ (s2 _ _ e1)),s4 _ _ (s3 _ _ e2),e4,.nil,All2.snoc (as:=[]) (xs:=[]) .nil (s4 _ _ e3),by simp,fun x hx=>by rw[vo.mp hx];exact⟨by show ps.length-1<_;lia,t1⟩,rfl,(fun x hx=>nomatch hx),by simpa using root,by show(ls.map (·.2)).length=_;rw[vt],b18⟩,rfl⟩,?_⟩
 rintro m σ H' ⟨o5,o6,o7,pas,tas,D,P,S,rfl,Sc,rfl⟩;obtain⟨sm,e1',e2',eT,gP,gT,inv,hS,hP,bP,bnd,ll,hb⟩:=Sc;have slen:S.length<=(S.map fun x=>nodes ps gs x.1 x.2).sum:=j4Z fun x _=>xF (ps:=ps) (gs:=gs) x.1 x.2
 have pl:=gP.1;have tl:=gT.1;exists⟨_,.inl ⟨_,SqL.of eT,rfl⟩,?_⟩;rcases List.eq_nil_or_concat S with rfl | ⟨S0,x,rfl⟩
 ·have et:tas=[]:=List.length_eq_zero_iff.mp tl;subst et;refine iteF ?_;walk_at"g";rw[show([]:List (Nat×Int)).reverse.flatMap (fun x=>Rm.reach ps gs x.1 x.2)=[]from rfl,append_nil]at inv;subst inv;have b0:([].map fun x:Nat×Int=>nodes ps gs x.1 x.2).sum=0:=rfl;refine⟨ue,?_⟩;walk_at"f 5 e";exact q p5 p1 p2 pas P H5 (sm.trans s5) hp1 (none_of s1 hp2) e5 (s5 _ _ e1') ll hb (s5 _ _ e2') n12 (All2.mono gP fun c y h=>s5 _ _ h) (by lia) bP hP
 rw[List.concat_eq_append]at *;obtain⟨tas0,ax,rfl,gT0,hax⟩:=All2.last gT;rw[vj]at eT|-;refine iteB1 (by simp) ?_;obtain⟨x1,x2⟩:=hS x (mem_append_right _ vq);have hS0:∀y∈S0,y.1<ps.length/\0<=y.2:=fun y hy=>hS y (mem_append_left _ hy)
 rw[List.reverse_append,List.flatMap_append,vj,sum_append]at *;have nd1:=xF (ps:=ps) (gs:=gs) x.1 x.2;have esum:([x].map fun x:Nat×Int=>nodes ps gs x.1 x.2).sum=nodes ps gs x.1 x.2:=by simp
 have eflat:([x].reverse.flatMap fun x=>Rm.reach ps gs x.1 x.2)=Rm.reach ps gs x.1 x.2:=by simp
 rw[esum]at slen bnd|-;have s0l:S0.length<=5000:=by rw[vn]at slen;lia
 have t0l:=gT0.1;rw[eflat]at inv;refine⟨fun σ H'=>IvE8 fun(o5 o6 o7:Option V) (pas tas:List Addr) (D P S:List (Nat×Int))=>IvA2 (σ=[some (.ref a),some (.int t0),some (.ref p1),some (.ref p2),some (.ref p4),o5,o6,o7]) (ScAt ls ps gs E t0 H H' p1 p2 p4 pas tas D P S/\(S.map fun x=>nodes ps gs x.1 x.2).sum<(S0.map fun x=>nodes ps gs x.1 x.2).sum+nodes ps gs x.1 x.2),
  fun σ' H' ⟨o5,o6,o7,pas,tas,D,P,S,h1,h2,h3⟩=>⟨_,h3,o5,o6,o7,pas,tas,D,P,S,h1,h2,rfl⟩,?_⟩
 exists⟨.inl ⟨rfl,_,SqL.of eT⟩,?_⟩;refine⟨p4,_,.ref ax,rfl,rfl,eT,by simp,?_⟩;rw[show((tas0.map V.ref)++[ax].map V.ref).dropLast=tas0.map V.ref by simp];have naT:∀{c:Addr} {xs:List V},H' c=some (.tup xs)->c≠p4:=fun h z=>by rw[z,eT]at h;cases h
 have s5:Same H (upd H' p4 (.lst (tas0.map V.ref))):=fun c u h=>(jg (m4 h)).trans (sm _ _ h)
 have eT5:upd H' p4 (.lst (tas0.map V.ref)) p4=some (.lst (tas0.map V.ref)):=jC;have e15:=(jg (o:=HO.lst (tas0.map V.ref)) n14).trans e1';have e25:=(jg (o:=HO.lst (tas0.map V.ref)) n24).trans e2';have gP5:GonAt (upd H' p4 (.lst (tas0.map V.ref))) pas P:=All2.mono gP fun c y h=>(jg (naT h)).trans h
 have gT5:GonAt (upd H' p4 (.lst (tas0.map V.ref))) tas0 S0:=All2.mono gT0 fun c y h=>(jg (naT h)).trans h
 have ax5:=(jg (o:=HO.lst (tas0.map V.ref)) (naT hax)).trans hax;generalize upd H' p4 (.lst (tas0.map V.ref))=H5 at s5 eT5 e15 e25 gP5 gT5 ax5|-;clear naT;have es5:H5 z.s=some (.lst (gs.map V.int)):=s5 _ _ A.hs;have ob5:=s5 _ _ ob;exists ixTm (SqT.of ax5) rfl ?_;exists⟨a,_,dx,_,_,rfl,ob5,T.Jv,T.Jn,Yr,?_⟩;exists ixTm (SqT.of ax5) rfl ?_;exists ixLm (SqL.of es5) (jL (j:=x.1) (by rw[vv,gat _ x1];rfl)) ?_;walk_at"g";obtain⟨p,hp⟩:∃p,ps[x.1]?=some p:=⟨_,vz x1⟩
 have epc:pcB ps gs x.1=pcsI gs p.2 (inP ps p.2):=by unfold pcB;rw[hp]
 refine iteD (fun c1=>?_) (fun c1=>?_)
 ·have ovf:ovB gs x=false:=vH (by lia);have hpq:(ps.map fun p=>pcsI gs p.2 (inP ps p.2))[x.1]?=some (pcB ps gs x.1):=by rw[vv,hp,epc];rfl
  obtain⟨al,eal,bs,hbs,hq⟩:=A.pa.get hpq;have g60:=(N.g x1).2;have pc8:(pcB ps gs x.1).length<=8:=by rw[epc];exact Wq (N.i8 hp)
  have wl:=j5y (gs:=gs) (t:=x.2) (pcB ps gs x.1);exists⟨.inl ⟨rfl,_,SqL.of e25⟩,?_⟩;exists⟨p2,_,_,rfl,rfl,e25,by rw[vt];lia,?_⟩;have na2:∀{c:Addr} {xs:List V},H5 c=some (.tup xs)->c≠p2:=fun h z=>by rw[z,e25]at h;cases h
  have s6:Same H (upd H5 p2 (.lst (pas.map V.ref++[.ref ax]))):=fun c u h=>(jg (m2 h)).trans (s5 _ _ h)
  have e26:upd H5 p2 (.lst (pas.map V.ref++[.ref ax])) p2=some (.lst ((pas++[ax]).map V.ref)):=by rw[jC,vj];rfl
  have e16:=(jg (o:=HO.lst (pas.map V.ref++[.ref ax])) n12).trans e15;have eT6:=(jg (o:=HO.lst (pas.map V.ref++[.ref ax])) n24.symm).trans eT5;have ax6:=(jg (o:=HO.lst (pas.map V.ref++[.ref ax])) (na2 ax5)).trans ax5;have gP6:GonAt (upd H5 p2 (.lst (pas.map V.ref++[.ref ax]))) (pas++[ax]) (P++[x]):=All2.snoc (All2.mono gP5 fun c y h=>(jg (na2 h)).trans h) ax6;have gT6:GonAt (upd H5 p2 (.lst (pas.map V.ref++[.ref ax]))) tas0 S0:=All2.mono gT5 fun c y h=>(jg (na2 h)).trans h
  generalize upd H5 p2 (.lst (pas.map V.ref++[.ref ax]))=H6 at s6 e26 e16 eT6 ax6 gP6 gT6|-;exists⟨.inl ⟨rfl,_,SqL.of eT6⟩,?_⟩;exists⟨a,_,dx,_,_,rfl,s6 _ _ ob,T.Jv,T.qv,j1o,?_⟩;exists ixTm (SqT.of ax6) rfl ?_;exists ixLm (SqL.of (s6 _ _ A.hp)) (Yo (i:=(x.1:Int)) (by lia) eal) ?_;exists⟨a,_,dx,_,_,rfl,s6 _ _ ob,T.Jv,T.Jn,Yr,?_⟩;exists ixTm (SqT.of ax6) rfl ?_;exists⟨al,z.s,x.2,bs,pcB ps gs x.1,gs,rfl,s6 _ _ hbs,All2.mono hq fun c y h=>s6 _ _ h,s6 _ _ A.hs,pc8,fun q hq=>N.pcOk hq,x2,by lia,fun lw was H7 s7 hlw ew hw=>?_⟩;exists⟨rfl,lw,_,rfl,SqL.of ew,?_⟩;walk_at"f lr hlr H8 s8 e8";have s68:=s7.trans s8;have eT8:=s68 _ _ eT6;have wal:=hw.1;refine⟨p4,lr,_,_,rfl,rfl,eT8,e8,by rw[vt,List.length_reverse,vt];lia,?_⟩;have naT8:∀{c:Addr} {xs:List V},H8 c=some (.tup xs)->c≠p4:=fun h z=>by rw[z,eT8]at h;cases h
  have gP9:=fun(c:Addr) (y:Nat×Int) (h:H6 c=some (.tup [.int (y.1:Nat),.int y.2]))=>(jg (o:=HO.lst (tas0.map V.ref++(was.map V.ref).reverse)) (naT8 (s68 _ _ h))).trans (s68 _ _ h)
  have bP':∀y∈P++[x],y.1<ps.length/\0<=y.2/\y.2<gs.getD y.1 0:=fun y hy=>by
   rcases vh.mp hy with h | h
   ·exact bP y h
   ·rw[vo.mp h];exact⟨x1,x2,c1⟩
  refine⟨_,_,_,pas++[ax],tas0++was.reverse,if leafB ps gs x=true then D++[x]else D,P++[x],S0++(wth gs x.2 (pcB ps gs x.1)).reverse,rfl,⟨fun c u h=>(jg (m4 h)).trans (s68 _ _ (s6 _ _ h)),?_,(jg n24).trans (s68 _ _ e26),by rw[jC,vj,List.map_reverse],All2.mono gP6 gP9,?_,?_,?_,?_,bP',?_,?_,?_⟩,?_⟩
  ·rw[Wm ovf];exact(jg n14).trans (s68 _ _ e16)
  ·exact All2.app (All2.mono gT6 gP9) (All2.mono (All2.rev hw) fun c y h=>(jg (naT8 (s8 _ _ h))).trans (s8 _ _ h))
  ·rw[List.reverse_append,List.reverse_reverse,List.flatMap_append,<-inv];by_cases lf:leafB ps gs x=true
   ·have c2:pcB ps gs x.1=[]:=isEmpty_iff.mp lf;rw[vd lf,c2,JU (.inr c2),List.append_assoc];rfl
   ·have c2:¬(gs.getD x.1 0<=x.2\/pcB ps gs x.1=[]):=fun h=>h.elim (by lia) fun e=>lf (isEmpty_iff.mpr e)
    rw[vc lf,Qs W c2]
  ·intro y hy;rcases vh.mp hy with h | h
   ·exact hS0 y h
   ·have h:=List.mem_reverse.mp h;have:=zN W h;exact⟨by lia,Y9 (fun q hq=>N.pcOk hq) h⟩
  ·rw[filter_append,hP];by_cases lf:leafB ps gs x=true
   ·rw[vd lf,filter_append,filter_cons_of_pos lf,filter_cons_of_pos (by rw[ovf];rfl)];rfl
   ·rw[vc lf,List.filter_cons_of_neg lf];exact append_nil _
  ·have:=xE W (i:=x.1) (t:=x.2) c1;rw[vj,sum_append,List.map_reverse,List.sum_reverse,vn];show P.length+1+_<=_;lia
  ·rw[Wm ovf];exact ll
  ·rw[Wm ovf];exact hb
  ·have:=xE W (i:=x.1) (t:=x.2) c1;rw[vj,sum_append,List.map_reverse,List.sum_reverse];lia
 ·have ovt:ovB gs x=true:=vG (by lia);have hE:E[x.1]?=some (E.getD x.1 []):=by rw[vy,vz (by lia)];rfl
  obtain⟨ae,eae,bs,hbs,prs⟩:=A.ea.get hE;have bnd':=yV W (by lia) A.eo x.1;have eb:=j1m N lE A.eo x1;have hbs5:=s5 _ _ hbs;exists⟨a,_,dx,_,_,rfl,ob5,T.Jv,T.Qe,j3Y,?_⟩;exists ixTm (SqT.of ax5) rfl ?_;exists ixLm (SqL.of (s5 _ _ A.hl)) (Yo (i:=(x.1:Int)) (by lia) eae) ?_;refine⟨ae,rfl,⟨_,SqL.of hbs5⟩,?_⟩;have pl':=prs.1;have nae:ae≠p1:=m1 hbs;refine qa (xs:=bs.map V.ref) (fun k σ H7=>IvE2 fun(o6 o7:Option V)=>IvA4 (σ=[some (.ref a),some (.int t0),some (.ref p1),some (.ref p2),some (.ref p4),some (.ref ax),o6,o7]) (∀c u,c≠p1->H5 c=some u->H7 c=some u) (H7 p1=some (.lst ((setE ((E.getD x.1 []).take k) (hOf ls gs E D)).map V.int))) ((setE ((E.getD x.1 []).take k) (hOf ls gs E D)).length=ls.length/\(∀h∈setE ((E.getD x.1 []).take k) (hOf ls gs E D),0<=h/\h<=10^18)))
   ⟨_,_,rfl,fun c u _ h=>h,e15,ll,hb⟩ ?_ ?_ ?_
  ·rintro k σ H7 _ ⟨o6,o7,rfl,sm7,ep7,_⟩;exact SqL.of (sm7 _ _ nae hbs5)
  ·rintro k v σ H7 hv ⟨o6,o7,rfl,sm7,ep7,ll7,hb7⟩;obtain⟨c',y,rfl,hy,hc'⟩:=prs.at_ref hv;have hy0:=vm hy;have yb:=bnd' y hy0;have yh:=eb y hy0;refine zj (SqT.of (sm7 _ _ (m1 hc') (s5 _ _ hc'))) ?_;walk_at"g";have step:setE ((E.getD x.1 []).take (k+1)) (hOf ls gs E D)=(setE ((E.getD x.1 []).take k) (hOf ls gs E D)).set y.1.toNat y.2:=by
    unfold setE;rw[take_snoc hy,foldl_append];rfl
   refine⟨p1,_,_,y.1.toNat,rfl,rfl,ep7,ixZ yb.1 (by rw[vt,ll7];exact yb.2),?_⟩;refine⟨_,_,rfl,fun c u hc h=>(jg hc).trans (sm7 _ _ hc h),jC.trans ?_,by rw[step,length_set];exact ll7,fun h hh=>?_⟩
   ·rw[step,List.map_set]
   ·rw[step]at hh;rcases List.mem_or_eq_of_mem_set hh with z | z
    ·exact hb7 h z
    ·rw[z];exact yh
  rintro σ' H7 ⟨o6,o7,rfl,sm7,ep7,ll7,hb7⟩;rw[vt,pl',v3]at ep7 ll7 hb7;have na1:∀{c:Addr} {xs:List V},H5 c=some (.tup xs)->c≠p1:=fun h z=>by rw[z,e15]at h;cases h
  have over:gs.getD x.1 0<=x.2:=by lia
  refine⟨_,_,_,pas,tas0,D++[x],P,S0,rfl,⟨fun c u h=>sm7 _ _ (m1 h) (s5 _ _ h),?_,sm7 _ _ n12.symm e25,sm7 _ _ n14.symm eT5,All2.mono gP5 fun c y h=>sm7 _ _ (na1 h) h,All2.mono gT5 fun c y h=>sm7 _ _ (na1 h) h,?_,hS0,?_,bP,by lia,?_,?_⟩,by lia⟩
  ·rw[Wn ovt];exact ep7
  ·rw[<-inv,JU (.inl over),List.append_assoc]
  ·rw[hP,filter_append,List.filter_cons_of_neg (by rw[ovt];decide)];exact(append_nil _).symm
  ·rw[Wn ovt];exact ll7
  ·rw[Wn ovt];exact hb7
theorem YD(T:Txt K mg t)(j14:FnOk P w K mg base CX0 1 t.w6 t.Wh ["start","goal","beats","j"] (Pr.j2J))(ZK:FnOk P w K mg base CX0 3 t.Qi t.Qk ["self","beat"] (sp_sceneS t.Ju)):FnOk P w K mg base CX0 4 t.JR t.JS ["self","beat"] (sp_heightsS t.Ju):=by
 refine T.YR.ok Jf (fun vs H Q E h=>?_) (fun cdv A outer s H vs Q E hr h=>?_)
 ·cases h;subst_vars;rfl
 obtain⟨a,z,ls,ps,gs,hs,E,t0,rfl,A,N,t1,t2,q⟩:=h;refine⟨_,(jb (jo (i:=2) Jf.nd rfl (.inl rfl) (zX (pv 0) T.Jv T.Wt (ZK.mono (by decide)) hr T.WQ .nil pass0 (ja (pv 1) jc)))
  (jb (jo (i:=3) Jf.nd rfl (.inl rfl) (jq jA (pv 2) jd))
  (jb (Jt PassesOwn.never rfl (Jh (jq jA (pv 2) jd)) (qY rfl (jG (ju (i:=4) Jf.nd rfl (.inl rfl)) (jG (ju (i:=5) Jf.nd rfl (.inl rfl)) qc)))
   (jb (jo (i:=6) Jf.nd rfl (.inl rfl) (jq jt (jP (pv 0) rfl) (pv 4)))
   (jf (j2 (jr Js (jq jA (pv 6) jd) jO (nomark _))
    (jb (jo (i:=7) Jf.nd rfl (.inl rfl) (Qo (QZ hr) (jP (pv 0) rfl) (jq jA (pv 6) jd)))
    (jf (Y4 (jk (j14.mono (by decide)) hr (by rfl) T.j6r T.j3M.kp T.j68 .nil pass0 (ja (jq jt (pv 3) (pv 7)) (ja (jq jA (pv 6) jd) (ja (jq jA (pv 6) jd) (ja (pv 5) jc))))) (KN (pv 3) (pv 7) set_list))))
    jw))))
  (jf (jv (pv 3)))))),?_⟩
 refine jz (σ':=[some _,some _,none,none,none,none,none,none]) rfl ?_;have sz:(10000:Nat)<sizeLine:=by decide
 have W:=N.s.w;have lE:=A.el;obtain⟨dx,ob⟩:=A.ob;exists⟨a,dx,_,rfl,ob,j3Z (by decide +kernel) (by decide +kernel) (by decide +kernel) (by decide +kernel) (by decide +kernel) (by decide +kernel),?_⟩;exists⟨a,z,ls,ps,gs,hs,E,t0,rfl,A,N,t1,t2,fun r l1 l2 as P H1 s1 hl1 hl2 er h1 ll hb h2 n12 gP pl bP hP=>?_⟩;have fin:=j0V N lE A.eo t1 hP;exists ixTm (SqT.of er) rfl ?_;exists ixTm (SqT.of er) rfl ?_;have m1:∀{c u},H c=some u->c≠l1:=fun h=>je h hl1
 have al:=gP.1;refine⟨l2,rfl,⟨_,SqL.of h2⟩,?_⟩;refine qa (xs:=as.map V.ref) (fun i σ H'=>IvE4 fun(o4 o5 o6 o7:Option V)=>IvA4 (σ=[some (.ref a),some (.int t0),some (.ref r),some (.ref l1),o4,o5,o6,o7]) (∀c u,c≠l1->H1 c=some u->H' c=some u) (H' l1=some (.lst (((P.take i).foldl (rzH ls ps) (strH ls ps gs E t0)).map V.int))) (((P.take i).foldl (rzH ls ps) (strH ls ps gs E t0)).length=ls.length/\(∀h∈((P.take i).foldl (rzH ls ps) (strH ls ps gs E t0)),0<=h/\h<=10^18)))
  ⟨_,_,_,_,rfl,fun c u _ h=>h,h1,ll,hb⟩ ?_ ?_ ?_
 ·rintro i σ H' _ ⟨o4,o5,o6,o7,rfl,sm,ep,_⟩;exact SqL.of (sm _ _ n12.symm h2)
 ·rintro i v σ H' hv ⟨o4,o5,o6,o7,rfl,sm,ep,ll,hb⟩;obtain⟨c,x,rfl,hx,hc⟩:=gP.at_ref hv;obtain⟨x1,x0,x2⟩:=bP x (vm hx);obtain⟨p,hp⟩:∃p,ps[x.1]?=some p:=⟨_,vz x1⟩
  obtain⟨fb,efb,hf⟩:=A.fo.get hp;have more:(P.take (i+1)).foldl (rzH ls ps) (strH ls ps gs E t0)=rzH ls ps ((P.take i).foldl (rzH ls ps) (strH ls ps gs E t0)) x:=by
   rw[take_snoc hx,foldl_append];rfl
  rw[more];generalize(P.take i).foldl (rzH ls ps) (strH ls ps gs E t0)=hts at ep ll hb|-;have n3:∀{c u},H c=some u->H' c=some u:=fun h=>sm _ _ (m1 h) (s1 _ _ h)
  have nc:c≠l1:=fun z=>by rw[z,h1]at hc;cases hc
  have hf1:FormAt H' fb p.2:=FormAt.put (fun b xs hb=>n3 hb) hf;refine zj (SqT.of (sm _ _ nc hc)) ?_;exists⟨a,_,dx,_,_,rfl,n3 ob,T.Jv,T.qN,j37,?_⟩;exists ixLm (SqL.of (n3 A.ho)) (Yo (i:=(x.1:Int)) (by lia) efb) ?_;walk_at"g";by_cases hr':∃y v n,p.2 = .rise y v n
  ·obtain⟨y,v,n,e⟩:=hr';rw[e]at hf1;have hp':ps[x.1]?=some (p.1,.rise y v n):=by rw[hp,<-e]
   obtain⟨k,hk⟩:=W.r x.1 p.1 y v n hp';have ek:=qb W.ln hk;have kl:k<ls.length:=by have:=(vx.mp hk).1;rw[nmsOf,vt]at this;exact this
   have hf6:H' fb=some (.tup [.str "raise",.str y,.int v,.int n]):=hf1;have gx:gs.getD x.1 0=n:=((N.s.ln x.1 (p.1,.rise y v n) hp').2 n (show LenIs (.rise y v n) _ n from rfl)).symm;have eA:rzH ls ps hts x=hts.set k (Rp.ramp (hts.getD k 0) v n x.2):=by
    unfold rzH;rw[hp'];show hts.set (ixOf (nmsOf ls) y) (Rp.ramp (hts.getD (ixOf (nmsOf ls) y) 0) v n x.2)=_;rw[ek]
   refine ixTm (SqT.of hf6) rfl ?_;exists iteE1 ?_;exists⟨a,_,dx,_,_,rfl,n3 ob,T.Jv,T.qO,j38,?_⟩;exists ixTm (SqT.of hf6) rfl ?_;have g:DGet H' z.d (.str y) (some (.int (k:Nat))):=by
    have g:=DGet.k (k:=Sum.inr y) (n3 A.hd);rw[kN W.ln hk]at g;exact g
   refine⟨z.d,_,rfl,g,?_⟩;walk_at"g";have hh:hts[k]?=some (hts.getD k 0):=by rw[vy,vz (by lia)];rfl
   refine ixLm (SqL.of ep) (jL (j:=k) (by rw[vv,hh];rfl)) ?_;exists ixTm (SqT.of hf6) rfl ?_;exists ixTm (SqT.of hf6) rfl ?_;walk_at"g";have h0:=hb _ (vm hh);obtain⟨v0,v1,n1,n2⟩:=N.r18 x.1 p.1 y v n hp';refine⟨_,_,_,_,rfl,by unfold Pr.B4;lia,?_⟩;exists⟨l1,_,_,k,rfl,rfl,ep,by unfold ixN;simp[ll,kl],?_⟩;rw[eA];refine⟨_,_,_,_,rfl,fun c u hc h=>(jg hc).trans (sm _ _ hc h),jC.trans (by rw[List.map_set]),by rw[length_set];exact ll,fun h hh'=>?_⟩;rcases List.mem_or_eq_of_mem_set hh' with z | z
   ·exact hb h z
   ·rw[z];exact j2B h0 ⟨v0,v1⟩ n1 x0 (by lia)
  ·have eA:rzH ls ps hts x=hts:=by
    unfold rzH;rw[hp];obtain⟨pn,pf⟩:=p;cases pf with
    | rise y v n=>exact ug ⟨y,v,n,rfl⟩ hr'
    | _=>rfl
   obtain⟨k,xs,hk,dk⟩:=j0r hf1 fun y v n e=>hr' ⟨y,v,n,e⟩
   refine ixTm (SqT.of hk) (at0) ?_;exists iteB0 dk ?_;walk_at"g";rw[eA];exact⟨_,_,_,_,rfl,sm,ep,ll,hb⟩
 rintro σ' H' ⟨o4,o5,o6,o7,rfl,sm,ep,ll,hb⟩;rw[vt,al,v3,fin]at ep ll;walk_at"g";exact q l1 H' (fun c u h=>sm _ _ (m1 h) (s1 _ _ h)) hl1 ep ll
theorem j4w(T:Txt K mg t)(Q8:FnOk P w K mg base CX0 6 t.JQ t.qr ["self","book"] (sp_initS t.Ju))(Qq:FnOk P w K mg base CX0 4 t.JR t.JS ["self","beat"] (sp_heightsS t.Ju)):FnOk P w K mg base CX0 8 t.Yn t.Yq ["book","beat"] (sp_standG):=by
 refine T.xZ.ok j4S (fun vs H Q E h=>?_) (fun cdv A outer s H vs Q E hr h=>?_)
 ·cases h;subst_vars;rfl
 obtain⟨b,pl,pp,las,pas,ls,ps,gs,hs,t0,rfl,B,N,t1,t2,q⟩:=h;refine⟨_,(jf (jv (zX (wO T.j5e (Q8.mono (by decide)) hr (by rfl) T.j4j T.Kj .nil pass0 (ja (pv 0) jc)) T.Jv T.YB (Qq.mono (by decide)) hr T.YO .nil pass0 (ja (pv 1) jc)))),?_⟩;refine jz (σ':=[some _,some _]) rfl ?_;walk_at"g";intro o dx ho hdx ne;have s0:Same H (upd (upd H dx (.own o)) o (.ins t.Ju dx [])):=fun c u h=>(jg (je h ho)).trans ((jg (je h hdx)).trans h)
 refine⟨o,dx,b,pl,pp,las,pas,ls,ps,gs,hs,rfl,jC,B.same s0,N,fun z E H1 k1 A=>⟨rfl,?_⟩⟩;obtain⟨dy,ob⟩:=A.ob;have s1:Same H H1:=fun c u h=>k1 _ _ (je h ho) (s0 _ _ h)
 refine⟨o,dy,_,rfl,ob,j3Z (by decide +kernel) (by decide +kernel) (by decide +kernel) (by decide +kernel) (by decide +kernel) (by decide +kernel),?_⟩;exists⟨o,z,ls,ps,gs,hs,E,t0,rfl,A,N,t1,t2,fun l H2 s2 hl e2 ll=>?_⟩;exact q l E H2 (s1.trans s2) (none_of s1 hl) A.el A.eo e2 ll
theorem wB(T:Txt K mg t):FnOk P w K mg base CX0 1 t.JC t.JD ["_law_script","_law_k"] (Pr.sp_cell_at K):=by
 refine T.Jo.ok wD (fun vs H Q E h=>?_) (fun cdv A outer s H vs Q E hr h=>?_)
 ·cases h;subst_vars;rfl
 obtain⟨a,ns,k,rfl,hS,h63,h0,q⟩:=h;refine⟨_,(jb (j2 (jr Z5 (pv 1) (jF j4 (by rfl) T.qG JJ (ja (pv 0) jc)) (nomark _))
   (jf (jv (jq jt (pv 0) (pv 1))))
   jw)
  (jf (jv jd))),?_⟩
 refine jz (σ':=[some _,some _]) rfl ?_;exists⟨_,_,rfl,.inl ⟨_,hS,rfl⟩,?_⟩;exists iteD (fun c=>?_) (fun c=>?_)
 ·walk_at"g";exact⟨a,_,k,_,rfl,rfl,hS,Pr.j5h h0 (by rw[vt]at c;exact c),q⟩
 ·walk_at"g";have e:Pr.cell ns k=0:=by
   rw[vt]at c;unfold Pr.cell;rw[vy,List.getElem?_eq_none (by lia)];rfl
  rw[e]at q;exact q
theorem WV(T:Txt K mg t):FnOk P w K mg base CX0 1 t.JZ t.J2 ["_law_cell","_law_k"] (Kh):=by
 refine T.JA.ok W3 (fun vs H Q E h=>?_) (fun cdv A outer s H vs Q E hr h=>?_)
 ·obtain⟨c,k,rfl,k0,k1,q⟩:=h;rfl
 obtain⟨c,k,rfl,k0,k1,q⟩:=h;refine⟨_,(jf (jv (jh Je (jh JH (jh jI (jh jI (jh Je (pv 0) (jh zL jd jd)) (jh JH (pv 1) (pv 1))) jd) jd) (jh jI (jh zL jd jd) jd)))),?_⟩;refine jz (σ':=[some _,some _]) rfl ?_;have m0:=ve c (show(10^30:Int)≠0 by decide);have m1:=vf c (show(0:Int)<10^30 by decide);have kk:0<=k*k/\k*k<=10^40:=⟨vM k0 k0,by have:=Int.mul_le_mul k1 k1 k0 (by decide);lia⟩
 walk_at"g";exact q
theorem WU(T:Txt K mg t)(jM:FnOk P w K mg base CX0 1 t.JC t.JD ["_law_script","_law_k"] (Pr.sp_cell_at K))(jS:FnOk P w K mg base CX0 1 t.JZ t.J2 ["_law_cell","_law_k"] (Kh)):FnOk P w K mg base CX0 2 t.QM t.QS ["_law_script","_law_j","_law_k"] (sp_greatB K):=by
 refine T.yd.ok YJ (fun vs H Q E h=>?_) (fun cdv A outer s H vs Q E hr h=>?_)
 ·cases h;subst_vars;rfl
 obtain⟨a,ns,j,k,rfl,hS,h63,j0,j1,k0,k1,q⟩:=h;refine⟨_,(jb (jo (i:=3) YJ.nd rfl (.inl rfl) (jk (jS.mono (by decide)) hr (by rfl) T.JM T.JA.kp T.JL .nil pass0 (ja (jk (jM.mono (by decide)) hr (by rfl) T.JE T.Jo.kp T.JB .nil pass0 (ja (pv 0) (ja (pv 1) jc))) (ja (pv 2) jc))))
  (jf (jv (jh JH (pv 3) (jk (jS.mono (by decide)) hr (by rfl) T.JM T.JA.kp T.JL .nil pass0 (ja (jk (jM.mono (by decide)) hr (by rfl) T.JE T.Jo.kp T.JB .nil pass0 (ja (pv 0) (ja (jh jI (pv 1) jd) jc))) (ja (jh jI (pv 2) jd) jc))))))),?_⟩
 refine jz (σ':=[some _,some _,some _,none]) rfl ?_;have b1:=Z4 (Pr.cell ns j) k;have b2:=Z4 (Pr.cell ns (j+1)) (k+20);exists⟨a,ns,_,rfl,hS,h63,by lia,?_⟩;exists⟨_,_,rfl,by lia,by lia,?_⟩;exists⟨a,ns,_,rfl,hS,h63,by lia,?_⟩;exists⟨_,_,rfl,by lia,by lia,?_⟩;walk_at"g";exact q
theorem XI(T:Txt K mg t):FnOk P w K mg base CX0 1 t.QA t.QE ["_law_place","_law_k"] (sp_wordB):=by
 refine T.zx.ok XX (fun vs H Q E h=>?_) (fun cdv A outer s H vs Q E hr h=>?_)
 ·cases h;subst_vars;rfl
 obtain⟨p,k,rfl,hp,hk,q⟩:=h;refine⟨_,(jf (jv (jh Y2 (jh Y2 (jh Y2 (y6 j4V jO kU (Yu (pv 0))) (jq j47 jO (jh Je (pv 1) jd))) (jq j47 jO (jh j5 (pv 1) jd))) (y6 j4V jO (Yu (pv 0)) kU)))),?_⟩;refine jz (σ':=[some _,some _]) rfl ?_;have sz:(200:Nat)<sizeLine:=by decide
 have hc:(Str.ofString "abcdefghijklnopqrstuvwxyz").cps.toList[((k%25:Nat):Int).toNat]?=some (abB.cps.toList.getD (k%25) 97):=by
  have l:(Str.ofString "abcdefghijklnopqrstuvwxyz").cps.toList.length=25:=by decide +kernel
  show _=some ((Str.ofString "abcdefghijklnopqrstuvwxyz").cps.toList.getD (k%25) 97);rw[Int.toNat_natCast,vy,vz (by lia)];rfl
 have l1:(Txt.slice (Str.ofString "mm") none (some ((p:Nat):Int))).length<=4:=vV j0d (by decide +kernel);have l2:(Txt.slice (Str.ofString "mm") (some ((p:Nat):Int)) none).length<=4:=vV j0d (by decide +kernel);have l3:∀c,(⟨#[c]⟩:Str).length=1:=fun c=>rfl
 exists⟨(by decide +kernel),?_⟩;walk_at"g";rw[show((k:Nat):Int)%25=((k%25:Nat):Int) by lia];refine⟨_,_,_,rfl,rfl,(by decide +kernel),j3P (by lia) hc,?_⟩;refine⟨_,_,rfl,rfl,by rw[l3];lia,?_⟩;walk_at"g";have hq:atI (Str.ofString "nopq").cps.toList (((k:Nat):Int)/25)=some (if k<25 then 110 else 111):=by
  by_cases c:k<25
  ·rw[vd c,show((k:Nat):Int)/25=0 by lia];decide +kernel
  ·rw[vc c,show((k:Nat):Int)/25=1 by lia];decide +kernel
 refine⟨_,_,(if k<25 then 110 else 111),rfl,rfl,(by decide +kernel),?_,?_⟩
 ·exact hq
 refine⟨_,_,rfl,rfl,by rw[Str.length_append,l3,l3];lia,?_⟩;exists⟨(by decide +kernel),?_⟩;refine⟨_,_,rfl,rfl,by rw[Str.length_append,Str.length_append,l3,l3];lia,?_⟩;exact q
theorem WX(T:Txt K mg t):FnOk P w K mg base CX0 1 t.QN t.QT ["_law_number","_law_names","_law_movers","_law_kind"] (sp_namedB):=by
 refine T.zR.ok qk (fun vs H Q E h=>?_) (fun cdv A outer s H vs Q E hr h=>?_)
 ·cases h;subst_vars;rfl
 obtain⟨n,nl,ml,mas,L,nm,Ms,kd,rfl,N,n1,n0,n2,hk,q⟩:=h;refine⟨_,(jb (jo (i:=4) qk.nd rfl (.inl rfl) (jT jc))
  (jb (jo (i:=5) qk.nd rfl (.inr rfl) (jT jc))
  (jb (Jt PassesOwn.never rfl (QG (by rfl) T.zV (ja (jF j4 (by rfl) T.qG JJ (ja (pv 1) jc)) jc)) (ju (i:=6) qk.nd rfl (.inl rfl))
   (jb (jo (i:=7) qk.nd rfl (.inl rfl) (jh Je (jh JK (jh JK (jF j4 (by rfl) T.qG JJ (ja (pv 1) jc)) jd) (jh JH (pv 6) (jh jI jd (jh Je (pv 0) jd)))) (jF j4 (by rfl) T.qG JJ (ja (pv 1) jc))))
   (jb (XS (i:=8) (ow:=["_law_one"]) (ci:=[5]) rfl (CompScope.of (defScope zY) ["_law_number","_law_names","_law_movers","_law_kind","_law_some","_law_used","_law_j","_law_at","_law_twice"] rfl rfl (by decide +kernel)) (qS (by decide)) qk.nd rfl (.inl rfl) (Jh (jq jt (pv 2) (pv 7))) (fun _ _ _ _ _=>⟨(ju (i:=0) (JX ["_law_number","_law_names","_law_movers","_law_kind","_law_some","_law_used","_law_j","_law_at","_law_twice"] rfl (by decide +kernel)) rfl (.inl rfl)),(XQ (jr (Y3 (K:=K) rfl) (pv 0) (pv 1) (by with_unfolding_all rfl))),(pv 0)⟩))
   (jb (Q2 (PW.pt (zi (jr Js (pv 3) jO (nomark _)) (Q3 (jr Z5 (pv 6) (jh jI jd (jh Je (jh j5 (pv 0) jd) jd)) (nomark _)))))
    (jf (Jb (ql PySem.F.plainAttrs_list PySem.F.slot_list_append PySem.F.type_list_append jU (pv 4) (ja (jq jt (pv 1) (pv 7)) jc))))
    jw)
   (jf (j2 (PW.pt (zi (jr Js (pv 3) jO (nomark _)) (zi (jr (j1K hr.units) (jq jt (pv 2) (pv 7)) (jT jc) (nomark _)) (zi (jr (j1J hr.units) (pv 8) (jT jc) (nomark _)) (Q3 (jr Z5 (jF j4 (by rfl) T.qG JJ (ja (pv 4) jc)) jd (nomark _)))))))
    (jb (Jb (ql PySem.F.plainAttrs_list PySem.F.slot_list_append PySem.F.type_list_append jU (pv 4) (ja (jq jt (pv 1) (pv 7)) jc)))
    (jf (jo (i:=5) qk.nd rfl (.inr rfl) (jh KM (pv 5) (jq jt (pv 2) (pv 7))))))
    jw))))))
  (jf (jv (qP zq (by rfl) T.wG kx (ja (pv 4) jc))))))),?_⟩
 refine jz (σ':=[some _,some _,some _,some _,none,none,none,none,none]) rfl ?_;have sz:(200:Nat)<sizeLine:=by decide
 have n20:=N.n20;have m8:∀j,(Ms.getD j []).length<=8:=fun j=>by
  by_cases h:j<nm.length
  ·exact(N.mv h).choose_spec.2.2.1
  ·rw[vy,List.getElem?_eq_none (by have:=N.ml;lia)];exact va _
 exists⟨va _,?_⟩;walk_at"f ps hps H1 s1 t1";exists⟨va _,?_⟩;walk_at"f pu hpu H2 s2 t2";have s02:=s1.trans s2;have nps:∀{c u},H c=some u->c≠ps:=fun h=>je h hps
 have pus:pu≠ps:=(je t1 hpu).symm;exists⟨_,_,rfl,.inl ⟨_,SqL.of (s02 _ _ N.en),rfl⟩,?_⟩;rw[vt];exists⟨_,rfl,by lia,by lia,?_⟩;refine zh (fun t σ H'=>IvE4 fun(o6 o7 o8:Option V) (pu':Addr)=>IvA4 (σ=[some (.int n),some (.ref nl),some (.ref ml),some (.str kd),some (.ref ps),some (.ref pu'),o6,o7,o8]) (pu'≠ps) (∀c u,H c=some u->H' c=some u) (H' ps=some (.lst (((nmS n nm.length Ms (decide (kd = "row")) t).1.map fun j=>nm.getD j ⟨#[]⟩).map V.str))/\H' pu'=some (.lst ((nmS n nm.length Ms (decide (kd = "row")) t).2.map V.str)))) ⟨_,_,_,pu,rfl,pus,s02,s2 _ _ t1,t2⟩ ?_ ?_
 ·rintro t σ H3 ht ⟨o6,o7,o8,pu',rfl,npu,sm,eP,eU⟩;have m0:=ve n (show(3:Int)≠0 by decide);have m1:=vf n (show(0:Int)<3 by decide);exists⟨_,_,rfl,.inl ⟨_,SqL.of (sm _ _ N.en),rfl⟩,?_⟩;rw[vt];exists⟨_,_,rfl,.inl ⟨_,SqL.of (sm _ _ N.en),rfl⟩,?_⟩;rw[vt];walk_at"g";have eat:((nm.length:Int)-1-(0+(t:Int))*(1+n%3))%(nm.length:Int)=((atB n nm.length t:Nat):Int):=by
   unfold atB;have a:=ve ((nm.length:Int)-1-(t:Int)*(1+n%3)) (show(nm.length:Int)≠0 by lia);rw[uz];lia
  rw[eat];have al:=j18 (n:=n) (t:=t) n1;have stp:=j4q (n:=n) (len:=nm.length) (Ms:=Ms) (ro:=decide (kd = "row")) t;have us:=j4r (n:=n) (len:=nm.length) (ro:=decide (kd = "row")) m8 t;have sl:=wM (n:=n) (len:=nm.length) (Ms:=Ms) (ro:=decide (kd = "row")) t;generalize nmS n nm.length Ms (decide (kd = "row")) t=S at eP eU stp us sl;generalize atB n nm.length t=j at al stp|-;clear eat;obtain⟨ma,hma,ema,ml8,mw⟩:=N.mv al;have aM:atI (mas.map V.ref) ((j:Nat):Int)=some (.ref ma):=jL (by rw[vv,hma];rfl);refine ixLm (SqL.of (sm _ _ N.em)) (aM) ?_;refine⟨ma,rfl,⟨_,SqL.of (sm _ _ ema)⟩,?_⟩;refine JY (xs:=(Ms.getD j []).map V.str) (fun i ys H'=>ys=(((Ms.getD j []).take i).filter fun s=>decide (s∈S.2)).map V.str/\H3=H') ⟨rfl,rfl⟩ ?_ ?_ ?_
  ·rintro i ys H' _ ⟨rfl,rfl⟩;exact SqL.of (sm _ _ ema)
  ·rintro i x ys H' hx ⟨rfl,rfl⟩;rw[vv]at hx;obtain⟨k,hk',rfl⟩:=vg.mp hx;have ik:=(vx.mp hk').1;refine qQ (σ':=[none,some _]) rfl ?_;exists⟨pu',_,rfl,.inl (SqL.of eU),rfl,flatB _,?_⟩;rw[inB];walk_at"g";rw[take_snoc hk',filter_append];have lf:(((Ms.getD j []).take i).filter fun s=>decide (s∈S.2)).length<=8:=vV (length_filter_le _ _) (by rw[vi];lia);refine iteD (fun c=>?_) (fun c=>?_)
   ·exists⟨by rw[vt];lia,?_,rfl⟩;rw[vj,v6,vd (vG c),filter_nil];rfl
   ·refine⟨?_,rfl⟩;rw[v6,vc (by rw[vH c];exact vF),filter_nil,append_nil]
  rintro ys H' ⟨rfl,rfl⟩;rw[show((Ms.getD j []).map V.str).length=(Ms.getD j []).length from vt _,v3];have lf:((Ms.getD j []).filter fun s=>decide (s∈S.2)).length<=8:=vV (length_filter_le _ _) ml8;have wf:∀x∈(Ms.getD j []).filter (fun s=>decide (s∈S.2)),Ws.isW x=true:=fun x hx=>mw x (vO.mp hx).1
  refine⟨by rw[vt];lia,?_⟩;walk_at"f 5 t";have k5:Same H H5:=fun c u h=>s5 _ _ (sm _ _ h)
  have eP5:=s5 _ _ eP;have eU5:=s5 _ _ eU;have n5:p5≠ps:=(je eP hp5).symm;exists⟨fun σ' H'=>IvE1 fun(I1:List Nat)=>IvA4 (σ'=[some (.int n),some (.ref nl),some (.ref ml),some (.str kd),some (.ref ps),some (.ref pu'),some (.int (0+(t:Int))),some (.int (j:Nat)),some (.ref p5)]) (∀c u,c≠ps->H5 c=some u->H' c=some u) (H' ps=some (.lst ((I1.map fun j=>nm.getD j ⟨#[]⟩).map V.str))) ((kd = "row"->I1=(nmS n nm.length Ms (decide (kd = "row")) (t+1)).1/\(nmS n nm.length Ms (decide (kd = "row")) (t+1)).2=S.2)/\(kd≠"row"->I1=S.1)),?_,?_⟩
  rotate_left
  ·exists iteD (fun c=>?_) (fun c=>?_)
   ·rw[vd (vG c)]at stp;exists iteD (fun c2=>?_) (fun c2=>?_)
    ·rw[vd (by lia)]at stp;exists⟨.inl ⟨rfl,_,SqL.of eP5⟩,?_⟩;exists ixLm (SqL.of (k5 _ _ N.en)) (ZC al) ?_;exists⟨ps,_,_,rfl,rfl,eP5,by rw[vt,vt];lia,?_⟩;refine⟨S.1++[j],rfl,fun c u hc h=>(jg hc).trans h,?_,fun _=>by rw[stp];exact⟨rfl,rfl⟩,fun h=>ug c h⟩;rw[jC,vj,vj];rfl
    ·rw[vc (by lia)]at stp;walk_at"g";exact⟨S.1,rfl,fun c u _ h=>h,eP5,fun _=>by rw[stp];exact⟨rfl,rfl⟩,fun h=>ug c h⟩
   ·walk_at"g";exact⟨S.1,rfl,fun c u _ h=>h,eP5,fun h=>ug h c,fun _=>rfl⟩
  rintro σ' H6 ⟨I1,rfl,k6,e6,hrow,hside⟩;have k06:Same H H6:=fun c u h=>k6 _ _ (nps h) (k5 _ _ h)
  exists iteD (fun c=>?_) (fun c=>?_)
  ·have nr:kd≠"row":=fun z=>by rw[z]at c;exact ug c (by decide +kernel)
   obtain rfl:=hside nr;rw[vc (by rw[vH nr];exact vF)]at stp;exists ixLm (SqL.of (k06 _ _ N.em)) (aM) ?_;exists⟨va _,?_⟩;walk_at"f 7 t";refine⟨_,_,.lst (s7 _ _ (k06 _ _ ema)) (yn _),j35 t7,shpB mw,shp0,?_⟩;rw[eqvB];exists iteN (fun d1=>?_) (fun d1=>?_)
   ·exists⟨va _,?_⟩;walk_at"f 8 t";have s68:=s7.trans s8;refine⟨_,_,.lst (s68 _ _ (k6 _ _ n5 t5)) (yn _),j35 t8,shpB wf,shp0,?_⟩;rw[eqvB];exists iteD (fun d2=>?_) (fun d2=>?_)
    ·exists⟨_,_,rfl,.inl ⟨_,SqL.of (s68 _ _ e6),rfl⟩,?_⟩;rw[vt,vt];exists iteD (fun d3=>?_) (fun d3=>?_)
     ·rw[vd ⟨d1,d2,by lia⟩]at stp;exists⟨.inl ⟨rfl,_,SqL.of (s68 _ _ e6)⟩,?_⟩;exists ixLm (SqL.of (s68 _ _ (k06 _ _ N.en))) (ZC al) ?_;exists⟨ps,_,_,rfl,rfl,s68 _ _ e6,by rw[vt,vt];lia,?_⟩;generalize eG:upd H8 ps _=H9;have e9:H9 ps=some (.lst (((S.1++[j]).map fun j=>nm.getD j ⟨#[]⟩).map V.str)):=by
       rw[vj,vj];exact qp eG
      have k9:∀c u,c≠ps->H6 c=some u->H9 c=some u:=fun c u hc h=>eG▸(jg hc).trans (s68 c u h)
      clear eG;exists ixLm (SqL.of (k9 _ _ (nps N.em) (k06 _ _ N.em))) (aM) ?_;refine⟨pu',ma,_,_,rfl,rfl,k9 _ _ npu (k6 _ _ npu eU5),k9 _ _ (nps ema) (k06 _ _ ema),by rw[vt,vt];lia,?_⟩;walk_at"f 10 t";exists⟨_,_,_,p10,rfl,(je e9 hp10).symm,fun c u h=>s10 _ _ (k9 _ _ (nps h) (k06 _ _ h)),by rw[stp];exact s10 _ _ e9,by rw[stp,vj];exact t10⟩
     ·rw[vc (fun z=>d3 (by lia))]at stp;walk_at"g";exact⟨_,_,_,pu',rfl,npu,fun c u h=>s68 _ _ (k06 _ _ h),by rw[stp];exact s68 _ _ e6,by rw[stp];exact s68 _ _ (k6 _ _ npu eU5)⟩
    ·rw[vc (fun z=>d2 z.2.1)]at stp;walk_at"g";exact⟨_,_,_,pu',rfl,npu,fun c u h=>s68 _ _ (k06 _ _ h),by rw[stp];exact s68 _ _ e6,by rw[stp];exact s68 _ _ (k6 _ _ npu eU5)⟩
   ·rw[vc (fun z=>z.1 d1)]at stp;walk_at"g";exact⟨_,_,_,pu',rfl,npu,fun c u h=>s7 _ _ (k06 _ _ h),by rw[stp];exact s7 _ _ e6,by rw[stp];exact s7 _ _ (k6 _ _ npu eU5)⟩
  ·have cr:kd = "row":=hk.resolve_right c;obtain⟨r1,r2⟩:=hrow cr;walk_at"g";exact⟨_,_,_,pu',rfl,npu,k06,by rw[<-r1];exact e6,by rw[r2];exact k6 _ _ npu eU5⟩
 ·rintro σ H' ⟨o6,o7,o8,pu',rfl,npu,sm,eP,eU⟩;exists⟨ps,_,rfl,.inl ⟨SqL.of eP,?_⟩⟩;walk_at"f b hb H3 s3 t3";exact q b H3 (fun c u h=>s3 _ _ (sm _ _ h)) t3
theorem XE(T:Txt K mg t)(QK:FnOk P w K mg base CX0 1 t.QN t.QT ["_law_number","_law_names","_law_movers","_law_kind"] (sp_namedB)):FnOk P w K mg base CX0 2 t.zz t.zE ["_law_number","_law_names","_law_movers","_law_limbs","_law_bounds"] (sp_formB):=by
 refine T.K2.ok Qf (fun vs H Q E h=>?_) (fun cdv A outer s H vs Q E hr h=>?_)
 ·cases h;subst_vars;rfl
 obtain⟨n,nl,ml,pl,bd,mas,las,ls,nm,Ms,b0,b1,b2,b3,b4,rfl,N,Lm,Bd,n0,n2,q⟩:=h;refine⟨_,(jb (jo (i:=5) Qf.nd rfl (.inl rfl) (jh Je (pv 0) jd))
  (jb (jo (i:=6) Qf.nd rfl (.inl rfl) (jh j5 (pv 0) jd))
  (jb (jo (i:=7) Qf.nd rfl (.inl rfl) (jh jI jd (jh Je (jh j5 (pv 0) (jh zL jd jd)) (jq jt (pv 4) (jh Je (jh j5 (pv 0) jd) jd)))))
  (jb (Q2 (PW.pt (zi (jr (j1J hr.units) (pv 1) (jT jc) (nomark _)) (Q3 (jr zP (pv 5) jd (nomark _)))))
   (jf (jo (i:=5) Qf.nd rfl (.inl rfl) (jh Je (jh j5 (pv 0) jd) jd)))
   jw)
  (jb (j2 (jr Z5 (pv 5) jd (nomark _))
   (jf (jv (jV (ja jO (ja (jq jA (jq jt (pv 3) (jh Je (pv 6) (jF j4 (by rfl) T.qG JJ (ja (pv 3) jc)))) jd) (ja (jh Je (jh j5 (pv 6) jd) (jq jt (pv 4) jd)) (ja (pv 7) jc)))))))
   jw)
  (jb (j2 (jr Js (pv 5) jd (nomark _))
   (jf (jv (jV (ja jO (ja (jq jt (jh KM (jh KM (jT (ja jO (ja jO jc))) (y6 j2H (pv 1) kU (Yu jd))) (jT (ja jO jc))) (jh Je (pv 6) jd)) (ja (pv 7) jc))))))
   jw)
  (jb (j2 (jr Js (pv 5) jd (nomark _))
   (jf (jv (jV (ja jO (ja (jk (QK.mono (by decide)) hr (by rfl) T.yp T.zR.kp T.ya .nil pass0 (ja (pv 6) (ja (pv 1) (ja (pv 2) (ja jO jc))))) jc)))))
   jw)
  (jb (j2 (PW.pt (zi (jr Js (pv 5) jd (nomark _)) (Q3 (jr zP (jF j4 (by rfl) T.qG JJ (ja (jk (QK.mono (by decide)) hr (by rfl) T.yp T.zR.kp T.ya .nil pass0 (ja (pv 6) (ja (pv 1) (ja (pv 2) (ja jO jc))))) jc)) jd (nomark _)))))
   (jf (jv (jV (ja jO (ja (jk (QK.mono (by decide)) hr (by rfl) T.yp T.zR.kp T.ya .nil pass0 (ja (pv 6) (ja (pv 1) (ja (pv 2) (ja jO jc))))) jc)))))
   jw)
  (jb (j2 (jr Js (pv 5) jd (nomark _))
   (jb (jo (i:=8) Qf.nd rfl (.inl rfl) (jh JK (jh JK (jF j4 (by rfl) T.qG JJ (ja (pv 1) jc)) jd) (jh Je (pv 6) (jF (Yp rfl) (by rfl) T.j27 Xg (ja jd (ja (jF j4 (by rfl) T.qG JJ (ja (pv 1) jc)) jc))))))
   (jf (jv (jV (ja jO (ja (jh jI jd (jh Je (jh j5 (pv 0) (jh zL jd jd)) (jq jt (pv 4) jd))) (ja (jq jt (pv 1) (pv 8)) jc)))))))
   jw)
  (jf (jv (jV (ja jO (ja (pv 7) jc)))))))))))))),?_⟩
 refine jz (σ':=[some _,some _,some _,some _,some _,none,none,none,none]) rfl ?_;have sz:(200:Nat)<sizeLine:=by decide
 have n20:=N.n20;have l1:=Lm.l1;have lal:=Lm.la.1;obtain⟨eb,b01,b02,b11,b12,b21,b22,b31,b32,b41,b42⟩:=Bd;have k0:=ve n (show(8:Int)≠0 by decide);have k1:=vf n (show(0:Int)<8 by decide);have i0:=ve (n/8) (show(2:Int)≠0 by decide);have i1:=vf (n/8) (show(0:Int)<2 by decide);obtain⟨bx,ebx,bx1,bx2⟩:=at01 (b2:=b2) (b3:=b3) (b4:=b4) ⟨b01,b02⟩ ⟨b11,b12⟩ i0 i1;have m0:0<=n/100:=by lia
 have m1:n/100<=10^40:=by lia
 have v0:=ve (n/10^12) (show bx≠0 by lia);have v1:=vf (n/10^12) (show 0<bx by lia);exists j4M ?_;exists ixLm (SqL.of eb) (ebx) ?_;exists⟨fun σ' H'=>IvE1 fun(kk:Int)=>IvA4 (σ'=[some (.int n),some (.ref nl),some (.ref ml),some (.ref pl),some (.ref bd),some (.int kk),some (.int (n/100)),some (.int (1+n/10^12%bx)),none]) (Same H H') (0<=kk) (kk<8/\(4<kk->1<=nm.length)),?_,?_⟩
 rotate_left
 ·exists⟨va _,?_⟩;walk_at"f e3 he3 H3 s3 t3";refine⟨_,_,.lst (s3 _ _ N.en) (yn _),j35 t3,shpB N.w,shp0,?_⟩;rw[eqvB];exists iteD (fun c=>?_) (fun c=>?_)
  ·exists iteD (fun c2=>?_) (fun c2=>?_)
   ·walk_at"g";have w0:=ve (n/16) (show(5:Int)≠0 by decide);have w1:=vf (n/16) (show(0:Int)<5 by decide);exact⟨_,rfl,s3,w0,by lia,fun h=>ug h (by lia)⟩
   ·walk_at"g";exact⟨_,rfl,s3,k0,k1,fun h=>ug h c2⟩
  ·walk_at"g";exact⟨_,rfl,s3,k0,k1,fun _=>length_pos_iff.mpr c⟩
 rintro σ' H1 ⟨kk,rfl,s1,kk0,kk1,kn⟩;have N1:=N.same s1;have Lm1:=Lm.same s1;have eb1:=s1 _ _ eb;exists iteD (fun c=>?_) (fun c=>?_)
 ·exists⟨_,_,rfl,.inl ⟨_,SqL.of Lm1.el,rfl⟩,?_⟩;rw[vt,lal];walk_at"g";have w0:=ve (n/100) (show(ls.length:Int)≠0 by lia);have w1:=vf (n/100) (show(0:Int)<(ls.length:Int) by lia);generalize n/100%(ls.length:Int)=r at w0 w1|-;obtain⟨j,rfl⟩:∃j:Nat,r=(j:Int):=⟨r.toNat,by lia⟩
  have jl:j<ls.length:=by lia
  obtain⟨lk,hlk,elk⟩:=Lm1.la.get (vz jl);refine ixLm (SqL.of Lm1.el) (jL (j:=j) (by rw[vv,hlk];rfl)) ?_;exists ixTm (SqT.of elk) rfl ?_;exists ixLm (SqL.of eb1) rfl ?_;walk_at"g";have h0:=ve (n/100/10) (show b2≠0 by lia);have h1:=vf (n/100/10) (show 0<b2 by lia);refine⟨uc,?_⟩;walk_at"f b6 hb6 H6 s6 t6";refine q b6 (.rise ls[j].1 (n/100/10%b2) (1+n/10^12%bx)) H6 (s1.trans s6) t6 ⟨⟨j,?_⟩,h0,by lia,by lia,by lia⟩;unfold nmsOf;rw[vv,vz jl];rfl
 exists iteD (fun c4=>?_) (fun c4=>?_)
 ·exists⟨ue,?_⟩;walk_at"f b3 hb3 H3 s3 t3";exists⟨nl,_,rfl,SqL.of (s3 _ _ N1.en),?_⟩;walk_at"f b4 hb4 H4 s4 t4";have cl:=ZE (nm.map V.str) none (some 1);rw[vt]at cl;refine⟨b3,b4,_,_,rfl,rfl,s4 _ _ t3,t4,by show 2+_<=sizeLine;lia,?_⟩;walk_at"f b5 hb5 H5 s5 t5";exists⟨uf,?_⟩;walk_at"f b6 hb6 H6 s6 t6";refine⟨b5,b6,_,_,rfl,rfl,s6 _ _ t5,t6,by rw[vn];show 2+_+1<=sizeLine;lia,?_⟩;walk_at"f b7 hb7 H7 s7 t7";walk_at"g";have w0:=ve (n/100) (show(3:Int)≠0 by decide);have w1:=vf (n/100) (show(0:Int)<3 by decide);have hw0:∀v∈[V.str "ding",V.str "dong"]++cutV (nm.map V.str) none (some 1)++[V.str "din"],∃w:Str,v = .str w/\Ws.isW w=true:=fun v hv=>by
   rcases vh.mp hv with z | z
   ·rcases vh.mp z with z | z
    ·rcases mem_cons.mp z with rfl | z
     ·exact⟨_,rfl,by decide +kernel⟩
     ·rw[vo.mp z];exact⟨_,rfl,by decide +kernel⟩
    ·obtain⟨w',hw',rfl⟩:=vK.mp (j29 z);exact⟨w',rfl,N.w w' hw'⟩
   ·rw[vo.mp z];exact⟨_,rfl,by decide +kernel⟩
  obtain⟨w',hw',ww⟩:=j06 (k:=n/100%3) hw0 w0 (by rw[vn,vn];show _<(((2+_+1:Nat)):Int);lia);refine ixLm (SqL.of t7) (hw') ?_;exists⟨ud,?_⟩;walk_at"f b8 hb8 H8 s8 t8";exact q b8 (.ring w' (1+n/10^12%bx)) H8 (s1.trans (s3.trans (s4.trans (s5.trans (s6.trans (s7.trans s8)))))) t8 ⟨by lia,by lia,ww⟩
 exists iteD (fun c5=>?_) (fun c5=>?_)
 ·have nm1:=kn (by lia);exists⟨_,nl,ml,mas,_,nm,Ms,"row",rfl,N1,nm1,m0,m1,.inl rfl,fun b2 H2 s2 e2=>?_⟩;exists⟨ue,?_⟩;walk_at"f b6 hb6 H6 s6 t6";have ln:=wM (n:=n/100) (len:=nm.length) (Ms:=Ms) (ro:=decide (("row" : Str) = "row")) nm.length;refine q b6 (.row (nmS (n/100) nm.length Ms (decide (("row" : Str) = "row")) nm.length).1) H6 (s1.trans (s2.trans s6)) ⟨b2,t6,s6 _ _ e2⟩ ⟨j4p (by decide +kernel) _ nm1,by lia,j1D nm1 _⟩
 exists iteD (fun c6=>?_) (fun c6=>?_)
 ·have nm1:=kn (by lia);exists⟨_,nl,ml,mas,_,nm,Ms,"side",rfl,N1,nm1,m0,m1,.inr rfl,fun b2 H2 s2 e2=>?_⟩;have ln:=wM (n:=n/100) (len:=nm.length) (Ms:=Ms) (ro:=decide (("side" : Str) = "row")) nm.length;refine⟨_,_,rfl,.inr ⟨_,SqT.of e2,rfl⟩,?_⟩;rw[vt,vt];exists iteD (fun c7=>?_) (fun c7=>?_)
  ·exists⟨_,nl,ml,mas,_,nm,Ms,"side",rfl,N1.same s2,nm1,m0,m1,.inr rfl,fun b3 H3 s3 e3=>?_⟩;exists⟨ue,?_⟩;walk_at"f b6 hb6 H6 s6 t6";refine q b6 (.side (nmS (n/100) nm.length Ms (decide (("side" : Str) = "row")) nm.length).1) H6 (s1.trans (s2.trans (s3.trans s6))) ⟨b3,t6,s6 _ _ e3⟩ ⟨by lia,by lia,j1D nm1 _,(j4o (by decide +kernel) _).1.n N.il⟩
  ·exists iteD (fun c8=>?_) (fun c8=>?_)
   ·exact ug c8 (by lia)
   exists⟨ue,?_⟩;walk_at"f b6 hb6 H6 s6 t6";exact q b6 (.hold (1+n/10^12%bx)) H6 (s1.trans (s2.trans s6)) t6 ⟨by lia,by lia⟩
 refine iteF ?_;exists iteD (fun c8=>?_) (fun c8=>?_)
 ·have nm1:=kn (by lia);exists⟨_,_,rfl,.inl ⟨_,SqL.of N1.en,rfl⟩,?_⟩;rw[vt];exists⟨_,_,rfl,.inl ⟨_,SqL.of N1.en,rfl⟩,?_⟩;rw[vt];refine⟨_,_,rfl,?_⟩;dsimp only;walk_at"g";obtain⟨j,ej,jl⟩:∃j:Nat,(nm.length:Int)-1-n/100%(if(nm.length:Int)<3 then(nm.length:Int)else 3)=(j:Int)/\j<nm.length:=by
   have a:=ve (n/100) (show(if(nm.length:Int)<3 then(nm.length:Int)else 3)≠0 by split<;>lia);have b:=vf (n/100) (show 0<(if(nm.length:Int)<3 then(nm.length:Int)else 3) by split<;>lia);generalize n/100%(if(nm.length:Int)<3 then(nm.length:Int)else 3)=z at a b|-;refine⟨((nm.length:Int)-1-z).toNat,?_,?_⟩
   ·split at b<;>lia
   ·split at b<;>lia
  rw[ej];refine j4M ?_;exists ixLm (SqL.of eb1) rfl ?_;walk_at"g";have h0:=ve (n/10^12) (show b3≠0 by lia);have h1:=vf (n/10^12) (show 0<b3 by lia);refine ixLm (SqL.of N1.en) (ZC jl) ?_;exists⟨ud,?_⟩;walk_at"f b6 hb6 H6 s6 t6";exact q b6 (.again (1+n/10^12%b3) j) H6 (s1.trans s6) t6 ⟨by lia,by lia,jl⟩
 exists⟨ue,?_⟩;walk_at"f b6 hb6 H6 s6 t6";exact q b6 (.hold (1+n/10^12%bx)) H6 (s1.trans s6) t6 ⟨by lia,by lia⟩
theorem XG(T:Txt K mg t):FnOk P w K mg base CX0 1 t.Qz t.QD ["_law_form_here","_law_known"] (sp_longB):=by
 refine T.zw.ok XW (fun vs H Q E h=>?_) (fun cdv A outer s H vs Q E hr h=>?_)
 ·cases h;subst_vars;rfl
 obtain⟨fa,d,f,nm,gs,L,M,rfl,hF,ed,nd,ng,pre,gb,q⟩:=h;refine⟨_,(jb (j2 (jr Js (jq jA (pv 0) jd) jO (nomark _))
   (jf (jv (jF (xj rfl) (by rfl) T.j5Y j3T (ja (qB (ow:=["_law_name"]) (ci:=[1]) rfl (CompScope.of (defScope zI) ["_law_form_here","_law_known"] rfl rfl (by decide +kernel)) (qS (by decide)) (j1L (jq jA (pv 0) jd)) (fun _ _ _ _ _=>⟨(ju (i:=0) (JX ["_law_form_here","_law_known"] rfl (by decide +kernel)) rfl (.inl rfl)),Q1,(Qo (QZ hr) (pv 1) (pv 0))⟩)) jc))))
   jw)
  (jb (j2 (jr Js (jq jA (pv 0) jd) jO (nomark _))
   (jf (jv (jF (xi rfl) (by rfl) T.j07 Wb (ja (qB (ow:=["_law_name"]) (ci:=[1]) rfl (CompScope.of (defScope zI) ["_law_form_here","_law_known"] rfl rfl (by decide +kernel)) (qS (by decide)) (j1L (jq jA (pv 0) jd)) (fun _ _ _ _ _=>⟨(ju (i:=0) (JX ["_law_form_here","_law_known"] rfl (by decide +kernel)) rfl (.inl rfl)),Q1,(Qo (QZ hr) (pv 1) (pv 0))⟩)) jc))))
   jw)
  (jb (j2 (jr Js (jq jA (pv 0) jd) jO (nomark _))
   (jf (jv (jh JH (jq jA (pv 0) jd) (Qo (QZ hr) (pv 1) (jq jA (pv 0) jd)))))
   jw)
  (jf (jv (jq jA (pv 0) (jh JK (jF j4 (by rfl) T.qG JJ (ja (pv 0) jc)) jd))))))),?_⟩
 refine jz (σ':=[some _,some _]) rfl ?_;have sz:(200:Nat)<sizeLine:=by decide
 have get:∀j,j<nm.length->DGet H d (.str (nm.getD j ⟨#[]⟩)) (some (.int (gs.getD j 0))):=fun j hj=>by
  have g:=DGet.k (k:=Sum.inr (nm.getD j ⟨#[]⟩)) ed;rw[wL nd ng hj]at g;exact g
 obtain⟨j8,jlt⟩:=pre.js;cases f with
 | hold n=>
  have ha:H fa=some (.tup _):=hF;exists ixTm (SqT.of ha) rfl ?_;exists iteE0 ?_;exists ixTm (SqT.of ha) rfl ?_;exists iteE0 ?_;exists ixTm (SqT.of ha) rfl ?_;exists iteE0 ?_;exists⟨_,_,rfl,.inr ⟨_,SqT.of ha,rfl⟩,?_⟩;exists ixTm (SqT.of ha) rfl ?_;exact q _ H (Same.refl _) rfl
 | ring x n=>
  have ha:H fa=some (.tup _):=hF;exists ixTm (SqT.of ha) rfl ?_;exists iteE0 ?_;exists ixTm (SqT.of ha) rfl ?_;exists iteE0 ?_;exists ixTm (SqT.of ha) rfl ?_;exists iteE0 ?_;exists⟨_,_,rfl,.inr ⟨_,SqT.of ha,rfl⟩,?_⟩;exists ixTm (SqT.of ha) rfl ?_;exact q _ H (Same.refl _) rfl
 | rise x h n=>
  have ha:H fa=some (.tup _):=hF;exists ixTm (SqT.of ha) rfl ?_;exists iteE0 ?_;exists ixTm (SqT.of ha) rfl ?_;exists iteE0 ?_;exists ixTm (SqT.of ha) rfl ?_;exists iteE0 ?_;exists⟨_,_,rfl,.inr ⟨_,SqT.of ha,rfl⟩,?_⟩;exists ixTm (SqT.of ha) rfl ?_;exact q _ H (Same.refl _) rfl
 | row is=>
  obtain⟨b,ha,hb⟩:=hF;have j8:is.length<=8:=j8;have jlt:∀j∈is,j<nm.length:=jlt;exists ixTm (SqT.of ha) rfl ?_;exists iteE1 ?_;exists ixTm (SqT.of ha) rfl ?_;refine⟨b,rfl,⟨_,SqT.of hb⟩,?_⟩;refine Wg (xs:=(is.map fun j=>nm.getD j ⟨#[]⟩).map V.str) (fun t ys H'=>ys=((is.take t).map fun j=>gs.getD j 0).map V.int/\H=H') ⟨rfl,rfl⟩ ?_ ?_ ?_
  ·rintro t ys H' _ ⟨rfl,rfl⟩;exact SqT.of hb
  ·rintro t v ys H' hv ⟨rfl,rfl⟩;rw[vv,vv]at hv;obtain⟨x,hx,rfl⟩:=vg.mp hv;obtain⟨j,hj,rfl⟩:=vg.mp hx;have ht:=(vx.mp hj).1;refine qQ (σ':=[none,some (.ref d)]) rfl ?_;exists iteT ?_;exists⟨d,_,rfl,get j (jlt j (vm hj)),?_⟩;refine⟨by rw[vt,vt,vi];lia,?_,rfl⟩;rw[take_snoc hj,vj,vj];rfl
  rintro ys H' ⟨rfl,rfl⟩;rw[show((is.map fun j=>nm.getD j ⟨#[]⟩).map V.str).length=is.length by rw[vt,vt],v3];refine⟨by rw[vt,vt];lia,?_⟩;walk_at"f 1 t";exists⟨p1,_,rfl,SqL.of t1,?_⟩;exact q _ H1 s1 rfl
 | side is=>
  obtain⟨b,ha,hb⟩:=hF;have j8:is.length<=8:=j8;have jlt:∀j∈is,j<nm.length:=jlt;have i2:=pre.1;exists ixTm (SqT.of ha) rfl ?_;exists iteE0 ?_;exists ixTm (SqT.of ha) rfl ?_;exists iteE1 ?_;exists ixTm (SqT.of ha) rfl ?_;refine⟨b,rfl,⟨_,SqT.of hb⟩,?_⟩;refine Wg (xs:=(is.map fun j=>nm.getD j ⟨#[]⟩).map V.str) (fun t ys H'=>ys=((is.take t).map fun j=>gs.getD j 0).map V.int/\H=H') ⟨rfl,rfl⟩ ?_ ?_ ?_
  ·rintro t ys H' _ ⟨rfl,rfl⟩;exact SqT.of hb
  ·rintro t v ys H' hv ⟨rfl,rfl⟩;rw[vv,vv]at hv;obtain⟨x,hx,rfl⟩:=vg.mp hv;obtain⟨j,hj,rfl⟩:=vg.mp hx;have ht:=(vx.mp hj).1;refine qQ (σ':=[none,some (.ref d)]) rfl ?_;exists iteT ?_;exists⟨d,_,rfl,get j (jlt j (vm hj)),?_⟩;refine⟨by rw[vt,vt,vi];lia,?_,rfl⟩;rw[take_snoc hj,vj,vj];rfl
  rintro ys H' ⟨rfl,rfl⟩;rw[show((is.map fun j=>nm.getD j ⟨#[]⟩).map V.str).length=is.length by rw[vt,vt],v3];refine⟨by rw[vt,vt];lia,?_⟩;walk_at"f 1 t";exists⟨p1,_,rfl,SqL.of t1,by rw[vt];lia,fun g h1 h2=>?_⟩;obtain⟨j,hj,e⟩:=vK.mp h1;exact q g H1 s1 ⟨⟨j,hj,e.symm⟩,fun j hj=>h2 _ (vK.mpr ⟨j,hj,rfl⟩)⟩
 | again k j=>
  have ha:H fa=some (.tup _):=hF;have jl:=jlt j vq;have gj:=gb j jl;have k1:=pre.1;have k2:=pre.2.1;exists ixTm (SqT.of ha) rfl ?_;exists iteE0 ?_;exists ixTm (SqT.of ha) rfl ?_;exists iteE0 ?_;exists ixTm (SqT.of ha) rfl ?_;exists iteE1 ?_;exists ixTm (SqT.of ha) rfl ?_;exists ixTm (SqT.of ha) rfl ?_;exists⟨d,_,rfl,get j jl,?_⟩;walk_at"g";exact q _ H (Same.refl _) rfl
theorem WW(T:Txt K mg t):FnOk P w K mg base CX0 1 t.Qb t.Qc ["_law_form_here","_law_names","_law_movers"] (sp_movesB):=by
 refine T.ye.ok qj (fun vs H Q E h=>?_) (fun cdv A outer s H vs Q E hr h=>?_)
 ·cases h;subst_vars;rfl
 obtain⟨fa,nl,ml,mas,f,nm,Ms,L,M,rfl,hF,en,em,aM,nd,ln,n20,pre,k4,q⟩:=h;refine⟨_,(jb (j2 (jr Js (jq jA (pv 0) jd) jO (nomark _))
   (jf (jv (jT (ja (jq jA (pv 0) jd) jc))))
   jw)
  (jb (jo (i:=3) qj.nd rfl (.inl rfl) (jT jc))
  (jb (Q2 (PW.pt (j0N (jr Js (jq jA (pv 0) jd) jO (nomark _)) (XT (jr Js (jq jA (pv 0) jd) jO (nomark _)))))
   (jf (jo (i:=3) qj.nd rfl (.inl rfl) (qP kz (by rfl) T.j1a Xf (ja (jq jA (pv 0) jd) jc))))
   jw)
  (jb (Q2 (jr Js (jq jA (pv 0) jd) jO (nomark _))
   (jf (jo (i:=3) qj.nd rfl (.inl rfl) (jT (ja (jq jA (pv 0) jd) jc))))
   jw)
  (jb (jo (i:=4) qj.nd rfl (.inl rfl) (jT jc))
  (jb (Jt PassesOwn.never rfl (Jh (pv 3)) (ju (i:=5) qj.nd rfl (.inl rfl))
   (jf (Jt PassesOwn.never rfl (Jh (jq jt (pv 2) (ql PySem.F.plainAttrs_list PySem.F.slot_list_index PySem.F.type_list_index xD (pv 1) (ja (pv 5) jc)))) (ju (i:=6) qj.nd rfl (.inl rfl))
    (jf (j2 (jr XO (pv 6) (pv 4) (by with_unfolding_all rfl))
     (jf (Jb (ql PySem.F.plainAttrs_list PySem.F.slot_list_append PySem.F.type_list_append jU (pv 4) (ja (pv 6) jc))))
     jw)))))
  (jf (jv (pv 4))))))))),?_⟩
 refine jz (σ':=[some _,some _,some _,none,none,none,none]) rfl ?_;have sz:(200:Nat)<sizeLine:=by decide
 cases f
 case rise x h n=>
  have ha:H fa=some (.tup _):=hF;exists ixTm (SqT.of ha) rfl ?_;exists iteE1 ?_;exists ixTm (SqT.of ha) rfl ?_;exists⟨uf,?_⟩;walk_at"f 1 t";refine q p1 [x] H1 s1 hp1 t1 ⟨pairwise_singleton _ _,fun s=>?_⟩ (by show 1<=80;decide);rw[vo];constructor
  ·rintro rfl;exact .inr ⟨h,n,rfl⟩
  ·rintro(⟨j,hj,_⟩ | ⟨h',n',e⟩)
   ·exact nomatch hj
   ·injection e with e1;exact e1.symm
 case' hold n=>
  have ha:H fa=some (.tup _):=hF;exists ixTm (SqT.of ha) rfl ?_;exists iteE0 ?_;exists⟨va _,?_⟩;walk_at"f 1 t";have ha1:=s1 _ _ ha;exists⟨fun σ' H'=>IvE1 fun(pi:Addr)=>IvA2 (σ'=[some (.ref fa),some (.ref nl),some (.ref ml),some (.ref pi),none,none,none]) (Same H H'/\H' pi=some (.lst (((rsB (Fn.hold n)).map fun j=>nm.getD j ⟨#[]⟩).map V.str))),?_,?_⟩
  rotate_left
  ·exists ixTm (SqT.of ha1) rfl ?_;exists iteE0 ?_;exists ixTm (SqT.of ha1) rfl ?_;exists iteE0 ?_;walk_at"g";exact⟨p1,rfl,s1,t1⟩
  rintro σ' H2 ⟨p2,rfl,s02,e2⟩;have ha2:=s02 _ _ ha;exists⟨fun σ' H'=>IvE1 fun(pi:Addr)=>IvA2 (σ'=[some (.ref fa),some (.ref nl),some (.ref ml),some (.ref pi),none,none,none]) (Same H H'/\H' pi=some (.lst (((Fn.hold n).js.map fun j=>nm.getD j ⟨#[]⟩).map V.str))),?_,?_⟩
  rotate_left
  ·exists ixTm (SqT.of ha2) rfl ?_;exists iteE0 ?_;walk_at"g";exact⟨p2,rfl,s02,e2⟩
  rintro σ' H3 ⟨pi,rfl,s03,ei⟩;have nr:∀u0 u1 u2,(Fn.hold n)≠.rise u0 u1 u2:=fun _ _ _ z=>by cases z
  clear hF;generalize(Fn.hold n)=f at ei nr pre q
 case' ring x n=>
  have ha:H fa=some (.tup _):=hF;exists ixTm (SqT.of ha) rfl ?_;exists iteE0 ?_;exists⟨va _,?_⟩;walk_at"f 1 t";have ha1:=s1 _ _ ha;exists⟨fun σ' H'=>IvE1 fun(pi:Addr)=>IvA2 (σ'=[some (.ref fa),some (.ref nl),some (.ref ml),some (.ref pi),none,none,none]) (Same H H'/\H' pi=some (.lst (((rsB (Fn.ring x n)).map fun j=>nm.getD j ⟨#[]⟩).map V.str))),?_,?_⟩
  rotate_left
  ·exists ixTm (SqT.of ha1) rfl ?_;exists iteE0 ?_;exists ixTm (SqT.of ha1) rfl ?_;exists iteE0 ?_;walk_at"g";exact⟨p1,rfl,s1,t1⟩
  rintro σ' H2 ⟨p2,rfl,s02,e2⟩;have ha2:=s02 _ _ ha;exists⟨fun σ' H'=>IvE1 fun(pi:Addr)=>IvA2 (σ'=[some (.ref fa),some (.ref nl),some (.ref ml),some (.ref pi),none,none,none]) (Same H H'/\H' pi=some (.lst (((Fn.ring x n).js.map fun j=>nm.getD j ⟨#[]⟩).map V.str))),?_,?_⟩
  rotate_left
  ·exists ixTm (SqT.of ha2) rfl ?_;exists iteE0 ?_;walk_at"g";exact⟨p2,rfl,s02,e2⟩
  rintro σ' H3 ⟨pi,rfl,s03,ei⟩;have nr:∀u0 u1 u2,(Fn.ring x n)≠.rise u0 u1 u2:=fun _ _ _ z=>by cases z
  clear hF;generalize(Fn.ring x n)=f at ei nr pre q
 case' row is=>
  obtain⟨b,ha,hb⟩:=hF;exists ixTm (SqT.of ha) rfl ?_;exists iteE0 ?_;exists⟨va _,?_⟩;walk_at"f 1 t";have ha1:=s1 _ _ ha;exists⟨fun σ' H'=>IvE1 fun(pi:Addr)=>IvA2 (σ'=[some (.ref fa),some (.ref nl),some (.ref ml),some (.ref pi),none,none,none]) (Same H H'/\H' pi=some (.lst (((rsB (Fn.row is)).map fun j=>nm.getD j ⟨#[]⟩).map V.str))),?_,?_⟩
  rotate_left
  ·exists ixTm (SqT.of ha1) rfl ?_;exists iteE1 ?_;refine iteT ?_;exists ixTm (SqT.of ha1) rfl ?_;exists⟨b,_,rfl,.inr (SqT.of (s1 _ _ hb)),?_⟩;walk_at"f 2 t";walk_at"g";exact⟨p2,rfl,s1.trans s2,t2⟩
  rintro σ' H2 ⟨p2,rfl,s02,e2⟩;have ha2:=s02 _ _ ha;exists⟨fun σ' H'=>IvE1 fun(pi:Addr)=>IvA2 (σ'=[some (.ref fa),some (.ref nl),some (.ref ml),some (.ref pi),none,none,none]) (Same H H'/\H' pi=some (.lst (((Fn.row is).js.map fun j=>nm.getD j ⟨#[]⟩).map V.str))),?_,?_⟩
  rotate_left
  ·exists ixTm (SqT.of ha2) rfl ?_;exists iteE0 ?_;walk_at"g";exact⟨p2,rfl,s02,e2⟩
  rintro σ' H3 ⟨pi,rfl,s03,ei⟩;have nr:∀u0 u1 u2,(Fn.row is)≠.rise u0 u1 u2:=fun _ _ _ z=>by cases z
  generalize(Fn.row is)=f at ei nr pre q;clear ha hb
 case' side is=>
  obtain⟨b,ha,hb⟩:=hF;exists ixTm (SqT.of ha) rfl ?_;exists iteE0 ?_;exists⟨va _,?_⟩;walk_at"f 1 t";have ha1:=s1 _ _ ha;exists⟨fun σ' H'=>IvE1 fun(pi:Addr)=>IvA2 (σ'=[some (.ref fa),some (.ref nl),some (.ref ml),some (.ref pi),none,none,none]) (Same H H'/\H' pi=some (.lst (((rsB (Fn.side is)).map fun j=>nm.getD j ⟨#[]⟩).map V.str))),?_,?_⟩
  rotate_left
  ·exists ixTm (SqT.of ha1) rfl ?_;exists iteE0 ?_;exists ixTm (SqT.of ha1) rfl ?_;exists iteE1 ?_;exists ixTm (SqT.of ha1) rfl ?_;exists⟨b,_,rfl,.inr (SqT.of (s1 _ _ hb)),?_⟩;walk_at"f 2 t";walk_at"g";exact⟨p2,rfl,s1.trans s2,t2⟩
  rintro σ' H2 ⟨p2,rfl,s02,e2⟩;have ha2:=s02 _ _ ha;exists⟨fun σ' H'=>IvE1 fun(pi:Addr)=>IvA2 (σ'=[some (.ref fa),some (.ref nl),some (.ref ml),some (.ref pi),none,none,none]) (Same H H'/\H' pi=some (.lst (((Fn.side is).js.map fun j=>nm.getD j ⟨#[]⟩).map V.str))),?_,?_⟩
  rotate_left
  ·exists ixTm (SqT.of ha2) rfl ?_;exists iteE0 ?_;walk_at"g";exact⟨p2,rfl,s02,e2⟩
  rintro σ' H3 ⟨pi,rfl,s03,ei⟩;have nr:∀u0 u1 u2,(Fn.side is)≠.rise u0 u1 u2:=fun _ _ _ z=>by cases z
  generalize(Fn.side is)=f at ei nr pre q;clear ha hb
 case' again k j=>
  have ha:H fa=some (.tup _):=hF;exists ixTm (SqT.of ha) rfl ?_;exists iteE0 ?_;exists⟨va _,?_⟩;walk_at"f 1 t";have ha1:=s1 _ _ ha;exists⟨fun σ' H'=>IvE1 fun(pi:Addr)=>IvA2 (σ'=[some (.ref fa),some (.ref nl),some (.ref ml),some (.ref pi),none,none,none]) (Same H H'/\H' pi=some (.lst (((rsB (Fn.again k j)).map fun j=>nm.getD j ⟨#[]⟩).map V.str))),?_,?_⟩
  rotate_left
  ·exists ixTm (SqT.of ha1) rfl ?_;exists iteE0 ?_;exists ixTm (SqT.of ha1) rfl ?_;exists iteE0 ?_;walk_at"g";exact⟨p1,rfl,s1,t1⟩
  rintro σ' H2 ⟨p2,rfl,s02,e2⟩;have ha2:=s02 _ _ ha;exists⟨fun σ' H'=>IvE1 fun(pi:Addr)=>IvA2 (σ'=[some (.ref fa),some (.ref nl),some (.ref ml),some (.ref pi),none,none,none]) (Same H H'/\H' pi=some (.lst (((Fn.again k j).js.map fun j=>nm.getD j ⟨#[]⟩).map V.str))),?_,?_⟩
  rotate_left
  ·exists ixTm (SqT.of ha2) rfl ?_;exists iteE1 ?_;exists ixTm (SqT.of ha2) rfl ?_;exists⟨uf,?_⟩;walk_at"f 3 t";walk_at"g";exact⟨p3,rfl,s02.trans s3,t3⟩
  rintro σ' H3 ⟨pi,rfl,s03,ei⟩;have nr:∀u0 u1 u2,(Fn.again k j)≠.rise u0 u1 u2:=fun _ _ _ z=>by cases z
  clear hF;generalize(Fn.again k j)=f at ei nr pre q
 all_goals
  obtain⟨j8,jlt⟩:=pre.js;exists⟨va _,?_⟩;walk_at"f pf hpf H4 s4 t4";have s04:=s03.trans s4;have mf:∀{c u},H c=some u->c≠pf:=fun h=>je (s03 _ _ h) hpf
  have npf:pi≠pf:=je ei hpf;have aMl:=aM.1;exists⟨pi,rfl,⟨_,SqL.of (s4 _ _ ei)⟩,?_⟩;refine qa (xs:=(f.js.map fun j=>nm.getD j ⟨#[]⟩).map V.str) (fun t σ H'=>∃(o5 o6:Option V) (ks:List Str),σ=[some (.ref fa),some (.ref nl),some (.ref ml),some (.ref pi),some (.ref pf),o5,o6]/\(∀c u,c≠pf->H4 c=some u->H' c=some u)/\H' pf=some (.lst (ks.map V.str))/\ks.Nodup/\ks.length<=8*t/\∀s,s∈ks↔∃j∈f.js.take t,s∈Ms.getD j []) ⟨_,_,[],rfl,fun c u _ h=>h,t4,.nil,vb _,fun s=>⟨(fun h=>nomatch h),fun⟨j,hj,_⟩=>nomatch hj⟩⟩ ?_ ?_ ?_
  ·rintro t σ H' _ ⟨o5,o6,ks,rfl,sm,_⟩;exact SqL.of (sm _ _ npf (s4 _ _ ei))
  ·rintro t v σ H5 hv ⟨o5,o6,ks,rfl,sm,e5,knd,kl,mem⟩;rw[vv,vv]at hv;obtain⟨x,hx,rfl⟩:=vg.mp hv;obtain⟨j,hj,rfl⟩:=vg.mp hx;have tl:=(vx.mp hj).1;have jl:=jlt j (vm hj);obtain⟨l1,l2,l3⟩:=lidxB nd jl;have eMj:Ms[j]?=some (Ms.getD j []):=by rw[vy,vz (by lia)];rfl
   have mj4:=k4 _ (vm eMj);obtain⟨ma,hma⟩:∃ma,mas[j]?=some ma:=⟨_,vz (by lia)⟩
   have ema:=aM.2 j ma _ hma eMj;have k5:∀{c u},H c=some u->H5 c=some u:=fun h=>sm _ _ (mf h) (s04 _ _ h)
   exists⟨.inl ⟨rfl,_,SqL.of (k5 en)⟩,?_⟩;exists⟨nl,_,.str _,.str _,j,rfl,rfl,SqL.of (k5 en),rfl,flatB _,l1,l2,l3,?_⟩;exists ixLm (SqL.of (k5 em)) (jL (show(mas.map V.ref)[j]?=some (.ref ma) by rw[vv,hma];rfl)) ?_;refine⟨ma,rfl,⟨_,SqL.of (k5 ema)⟩,?_⟩;refine qa (xs:=(Ms.getD j []).map V.str) (fun u σ H'=>∃(o6:Option V) (ks':List Str),σ=[some (.ref fa),some (.ref nl),some (.ref ml),some (.ref pi),some (.ref pf),some (.str (nm.getD j ⟨#[]⟩)),o6]/\(∀c u,c≠pf->H4 c=some u->H' c=some u)/\H' pf=some (.lst (ks'.map V.str))/\ks'.Nodup/\ks'.length<=8*t+u/\∀s,s∈ks'↔s∈ks\/s∈(Ms.getD j []).take u) ⟨_,ks,rfl,sm,e5,knd,kl,fun s=>⟨.inl,fun h=>h.elim id fun h=>nomatch h⟩⟩ ?_ ?_ ?_
   ·rintro u σ H' _ ⟨o6,ks',rfl,sm',_⟩;exact SqL.of (sm' _ _ (mf ema) (s04 _ _ ema))
   ·rintro u v σ H6 hv ⟨o6,ks',rfl,sm',e6,knd',kl',mem'⟩;rw[vv]at hv;obtain⟨y,hy,rfl⟩:=vg.mp hv;have ul:=(vx.mp hy).1;exists⟨pf,_,rfl,.inl (SqL.of e6),rfl,flatB _,?_⟩;rw[vd rfl,Xo];refine⟨_,rfl,?_⟩;refine iteN (fun c=>?_) (fun c=>?_)
    ·exists⟨.inl ⟨rfl,_,SqL.of e6⟩,?_⟩;exists⟨pf,_,_,rfl,rfl,e6,by rw[vt];lia,?_⟩;refine⟨_,ks'++[y],rfl,fun c u hc h=>(jg hc).trans (sm' _ _ hc h),by rw[jC,vj];rfl,nodup_append.mpr ⟨knd',pairwise_singleton _ _,fun a ha b hb e=>c (by rw[<-vo.mp hb,<-e];exact ha)⟩,by rw[vn,length_singleton];lia,fun s=>?_⟩;rw[vh,mem',vo,take_snoc hy,vh,vo,or_assoc]
    ·exists⟨_,ks',rfl,sm',e6,knd',by lia,fun s=>?_⟩;rw[mem',take_snoc hy,vh,vo];refine⟨fun h=>h.elim .inl fun h=>.inr (.inl h),?_⟩;rintro(h | h | rfl)
     ·exact .inl h
     ·exact .inr h
     ·exact(mem' _).mp c
   ·rintro σ H6 ⟨o6,ks',rfl,sm',e6,knd',kl',mem'⟩;rw[vt]at kl' mem';rw[v3]at mem';exists⟨_,_,ks',rfl,sm',e6,knd',by lia,fun s=>?_⟩;rw[mem',mem,take_snoc hj];constructor
    ·rintro(⟨j',hj',h⟩ | h)
     ·exact⟨j',mem_append_left _ hj',h⟩
     ·exact⟨j,mem_append_right _ vq,h⟩
    ·rintro⟨j',hj',h⟩;rcases vh.mp hj' with z | z
     ·exact .inl ⟨j',z,h⟩
     ·rw[vo.mp z]at h;exact .inr h
  ·rintro σ H5 ⟨o5,o6,ks,rfl,sm,e5,knd,kl,mem⟩;rw[show((f.js.map fun j=>nm.getD j ⟨#[]⟩).map V.str).length=f.js.length by rw[vt,vt]]at kl mem;rw[v3]at mem;walk_at"g";exact q pf ks H5 (fun c u h=>sm _ _ (mf h) (s04 _ _ h)) (none_of s03 hpf) e5 ⟨knd,fun s=>(mem s).trans ⟨.inl,fun h=>h.elim id fun⟨h',n',e⟩=>ug e (nr _ _ _)⟩⟩ (by lia)
theorem XF(T:Txt K mg t):FnOk P w K mg base CX0 1 t.Qy t.QC ["_law_names","_law_known","_law_most"] (sp_lastB):=by
 refine T.yK.ok Q5 (fun vs H Q E h=>?_) (fun cdv A outer s H vs Q E hr h=>?_)
 ·cases h;subst_vars;rfl
 obtain⟨nl,d,nm,gs,most,rfl,en,ed,nd,ng,n1,n20,gb,q⟩:=h;refine⟨_,(jb (jo (i:=3) Q5.nd rfl (.inl rfl) (jT jc))
  (jb (jo (i:=4) Q5.nd rfl (.inl rfl) jd)
  (jb (Jt PassesOwn.never rfl (j6C (by rfl) T.j1b (ja (pv 0) jc)) (ju (i:=5) Q5.nd rfl (.inl rfl))
   (jf (j2 (PW.pt (zi (jr Z5 (jF j4 (by rfl) T.qG JJ (ja (pv 3) jc)) jd (nomark _)) (Q3 (jr YG (jh jI (pv 4) (Qo (QZ hr) (pv 1) (pv 5))) (pv 2) (nomark _)))))
    (jb (Jb (ql PySem.F.plainAttrs_list PySem.F.slot_list_append PySem.F.type_list_append jU (pv 3) (ja (pv 5) jc)))
    (jf (jo (i:=4) Q5.nd rfl (.inl rfl) (jh jI (pv 4) (Qo (QZ hr) (pv 1) (pv 5))))))
    jw)))
  (jf (jv (qP zq (by rfl) T.wG kx (ja (pv 3) jc))))))),?_⟩
 refine jz (σ':=[some _,some _,some _,none,none,none]) rfl ?_;have sz:(200:Nat)<sizeLine:=by decide
 have get:∀(h:Hp) j,h d=some (.dK (knK nm gs))->j<nm.length->DGet h d (.str (nm.getD j ⟨#[]⟩)) (some (.int (gs.getD j 0))):=fun h j eh hj=>by
  have g:=DGet.k (k:=Sum.inr (nm.getD j ⟨#[]⟩)) eh;rw[wL nd ng hj]at g;exact g
 exists⟨va _,?_⟩;walk_at"f ps hps H1 s1 t1";have nps:∀{c u},H c=some u->c≠ps:=fun h=>je h hps
 exists⟨nl,_,rfl,SqL.of (s1 _ _ en),?_⟩;refine j5p (xs:=nm.map V.str) (fun t σ H'=>IvE3 fun(o5:Option V) (is:List Nat) (tot:Int)=>IvA6 (σ=[some (.ref nl),some (.ref d),some (.int most),some (.ref ps),some (.int tot),o5]) (∀c u,c≠ps->H1 c=some u->H' c=some u) (H' ps=some (.lst ((is.map fun j=>nm.getD j ⟨#[]⟩).map V.str))) (is.length<=5) (∀j∈is,j<nm.length) ((t=0->is=[]/\tot=0)/\(0<t->is≠[]))) ⟨_,[],0,rfl,fun c u _ h=>h,t1,va _,(fun j h=>nomatch h),fun _=>⟨rfl,rfl⟩,fun h=>ug h (by lia)⟩ ?_ ?_ ?_
 ·rintro t σ H' _ ⟨o5,is,tot,rfl,sm,_⟩;exact SqL.of (sm _ _ (nps en) (s1 _ _ en))
 ·rintro t v σ H' hi hv ⟨o5,is,tot,rfl,sm,eP,il,jl,z0,z1⟩;rw[vt]at hi hv;rw[vv]at hv;obtain⟨x,hx,rfl⟩:=vg.mp hv;have ej:x=nm.getD (nm.length-1-t) ⟨#[]⟩:=by rw[vy,hx];rfl
  subst ej;have jn:nm.length-1-t<nm.length:=by lia
  clear hx hv;generalize nm.length-1-t=j at jn|-;have k':∀{c u},H c=some u->H' c=some u:=fun h=>sm _ _ (nps h) (s1 _ _ h)
  have g:=gb j jn;exists⟨_,_,rfl,.inl ⟨_,SqL.of eP,rfl⟩,?_⟩;rw[vt,vt];exists iteD (fun c=>?_) (fun c=>?_)
  ·exists⟨d,_,rfl,get H' j (k' ed) jn,?_⟩;exists iteD (fun c2=>?_) (fun c2=>?_)
   ·exists⟨.inl ⟨rfl,_,SqL.of eP⟩,?_⟩;exists⟨ps,_,_,rfl,rfl,eP,by rw[vt,vt];lia,?_⟩;generalize eU:upd H' ps _=H2;have e2:H2 ps=some (.lst (((is++[j]).map fun j=>nm.getD j ⟨#[]⟩).map V.str)):=by
     rw[vj,vj];exact qp eU
    have sm2:∀c u,c≠ps->H1 c=some u->H2 c=some u:=fun c u hc h=>eU▸(jg hc).trans (sm c u hc h)
    clear eU;exists⟨d,_,rfl,get H2 j (sm2 _ _ (nps ed) (s1 _ _ ed)) jn,?_⟩;exists⟨_,is++[j],_,rfl,sm2,e2,by rw[vn];show _+1<=5;lia,fun j' hj'=>?_,fun h=>ug h (by lia),fun _ h=>by simp at h⟩;rcases vh.mp hj' with z | z
    ·exact jl j' z
    ·rw[vo.mp z];exact jn
   ·exists⟨_,is,tot,rfl,sm,eP,il,jl,fun h=>ug h (by lia),fun _ h=>?_⟩;rcases Nat.eq_zero_or_pos t with z | z
    ·obtain⟨_,rfl⟩:=z0 z;exact c2 (by lia)
    ·exact z1 z h
  ·exists⟨_,is,tot,rfl,sm,eP,il,jl,fun h=>ug h (by lia),fun _ h=>?_⟩;rw[h]at c;exact c (by show((0:Nat):Int)<5;lia)
 ·rintro σ H' ⟨o5,is,tot,rfl,sm,eP,il,jl,z0,z1⟩;rw[vt]at z1;exists⟨ps,_,rfl,.inl ⟨SqL.of eP,?_⟩⟩;walk_at"f b hb H3 s3 t3";exact q b is H3 (fun c u h=>s3 _ _ (sm _ _ (nps h) (s1 _ _ h))) t3 (z1 (by lia)) il jl
theorem XH(T:Txt K mg t)(jS:FnOk P w K mg base CX0 1 t.JZ t.J2 ["_law_cell","_law_k"] (Kh)):FnOk P w K mg base CX0 2 t.qU t.qW ["_law_pool","_law_many"] (sp_takeB):=by
 refine T.jR.ok Ke (fun vs H Q E h=>?_) (fun cdv A outer s H vs Q E hr h=>?_)
 ·cases h;subst_vars;rfl
 obtain⟨p,x,y,m,rfl,ep,m1,m2,y0,y1,q⟩:=h;refine⟨_,(jb (j2 (jr zP (jq jt (pv 0) jd) jd (nomark _))
   (jb (jo (i:=2) Ke.nd rfl (.inl rfl) (jh Je (jq jt (pv 0) jd) (pv 1)))
   (jb (Y4 (jh j5 (jq jt (pv 0) jd) (pv 1)) (KN (pv 0) jd set_list))
   (jf (jv (pv 2)))))
   jw)
  (jb (Y4 (jh Je (jh JH (jh jI (jq jt (pv 0) jd) (pv 1)) jd) (jh jI (jh zL jd jd) jd)) (KN (pv 0) jd set_list))
  (jb (Y4 (jk (jS.mono (by decide)) hr (by rfl) T.JM T.JA.kp T.JL .nil pass0 (ja (jq jt (pv 0) jd) (ja (pv 1) jc))) (KN (pv 0) jd set_list))
  (jf (jv (jh Je (jh j5 (jq jt (pv 0) jd) jd) (pv 1))))))),?_⟩
 refine jz (σ':=[some _,some _,none]) rfl ?_;exists ixLm (SqL.of ep) rfl ?_;exists iteD (fun c=>?_) (fun c=>?_)
 ·have e:tkB x y m=(x%m,x/m,y):=vd (by lia);rw[e]at q;exists ixLm (SqL.of ep) rfl ?_;exists ixLm (SqL.of ep) rfl ?_;exists⟨p,_,_,0,rfl,rfl,ep,rfl,?_⟩;walk_at"g";exact q _ (fun c u hc h=>(jg hc).trans h) jC
 ·have e:tkB x y m=(mixB ((y+m)*314159265358979323846264338327%(10^30+57)) m/1000%m,x,mixB ((y+m)*314159265358979323846264338327%(10^30+57)) m):=vc (by lia);rw[e]at q;exists ixLm (SqL.of ep) rfl ?_;exists⟨p,_,_,1,rfl,rfl,ep,rfl,?_⟩;have v0:=ve ((y+m)*314159265358979323846264338327) (show(10^30+57:Int)≠0 by decide);have v1:=vf ((y+m)*314159265358979323846264338327) (show(0:Int)<10^30+57 by decide);generalize(y+m)*314159265358979323846264338327%(10^30+57)=v at v0 v1 q|-;generalize eU:upd H p _=H1;have e1:H1 p=some (.lst [.int x,.int v]):=qp eU;have k1:∀c u,c≠p->H c=some u->H1 c=some u:=fun c u hc h=>eU▸(jg hc).trans h
  clear eU;exists ixLm (SqL.of e1) rfl ?_;exists⟨v,m,rfl,by lia,m2,?_⟩;exists⟨p,_,_,1,rfl,rfl,e1,rfl,?_⟩;generalize eU:upd H1 p _=H2;have e2:H2 p=some (.lst [.int x,.int (mixB v m)]):=qp eU;have k2:∀c u,c≠p->H c=some u->H2 c=some u:=fun c u hc h=>eU▸(jg hc).trans (k1 c u hc h)
  clear eU;exists ixLm (SqL.of e2) rfl ?_;walk_at"g";exact q _ k2 e2
theorem Wy(T:Txt K mg t)(jJ:FnOk P w K mg base CX0 2 t.qU t.qW ["_law_pool","_law_many"] (sp_takeB)):FnOk P w K mg base CX0 3 t.Qj t.Ql ["_law_pool","_law_kind","_law_names","_law_movers","_law_bounds"] (sp_namingB):=by
 refine T.YE.ok Jr (fun vs H Q E h=>?_) (fun cdv A outer s H vs Q E hr h=>?_)
 ·cases h;subst_vars;rfl
 obtain⟨p,nl,ml,bd,x,y,kd,H0,mas,L,nm,Ms,b0,b1,b2,b3,b4,rfl,ep,y0,y1,of,N,n1,Bd,q⟩:=h;refine⟨_,(jb (j2 (jr Js (pv 1) jd (nomark _))
   (jb (jo (i:=5) Jr.nd rfl (.inl rfl) (jh jI jd (jk (jJ.mono (by decide)) hr (by rfl) T.jX T.jR.kp T.jW .nil pass0 (ja (pv 0) (ja (jq jt (pv 4) jd) jc)))))
   (jf (jv (jV (ja jO (ja (pv 5) (ja (jq jt (pv 2) (jk (jJ.mono (by decide)) hr (by rfl) T.jX T.jR.kp T.jW .nil pass0 (ja (pv 0) (ja (jF j4 (by rfl) T.qG JJ (ja (pv 2) jc)) jc)))) jc)))))))
   jw)
  (jb (j2 (jr Js (pv 1) jd (nomark _))
   (jb (jo (i:=6) Jr.nd rfl (.inl rfl) (jh jI jd (jk (jJ.mono (by decide)) hr (by rfl) T.jX T.jR.kp T.jW .nil pass0 (ja (pv 0) (ja jd jc)))))
   (jf (jv (jV (ja jO (ja (qP zq (by rfl) T.wG kx (ja (qB (ow:=["_law_j"]) (ci:=[2,0]) rfl (CompScope.of (defScope Qm) ["_law_pool","_law_kind","_law_names","_law_movers","_law_bounds","_law_times","_law_many","_law_some","_law_used","_law_j","_law_at","_law_twice"] rfl rfl (by decide +kernel)) (qS (by decide)) (QG (by rfl) T.zV (ja (pv 6) jc)) (fun _ _ _ _ _=>⟨(ju (i:=0) (JX ["_law_pool","_law_kind","_law_names","_law_movers","_law_bounds","_law_times","_law_many","_law_some","_law_used","_law_j","_law_at","_law_twice"] rfl (by decide +kernel)) rfl (.inl rfl)),Q1,(jq (kG (K:=K) rfl) (pv 1) (jk (jJ.mono (by decide)) hr (by rfl) T.jX T.jR.kp T.jW .nil pass0 (ja (pv 2) (ja (jF (j31 (K:=K) rfl) (by rfl) T.qG JJ (ja (pv 1) jc)) jc))))⟩)) jc)) jc))))))
   jw)
  (jb (jo (i:=7) Jr.nd rfl (.inl rfl) (jT jc))
  (jb (jo (i:=8) Jr.nd rfl (.inr rfl) (jT jc))
  (jb (Jt PassesOwn.never rfl (QG (by rfl) T.zV (ja (jh jI jd (jk (jJ.mono (by decide)) hr (by rfl) T.jX T.jR.kp T.jW .nil pass0 (ja (pv 0) (ja jd jc)))) jc)) (ju (i:=9) Jr.nd rfl (.inl rfl))
   (jb (jo (i:=10) Jr.nd rfl (.inl rfl) (jk (jJ.mono (by decide)) hr (by rfl) T.jX T.jR.kp T.jW .nil pass0 (ja (pv 0) (ja (jF j4 (by rfl) T.qG JJ (ja (pv 2) jc)) jc))))
   (jb (XS (i:=11) (ow:=["_law_one"]) (ci:=[8]) rfl (CompScope.of (defScope Qm) ["_law_pool","_law_kind","_law_names","_law_movers","_law_bounds","_law_times","_law_many","_law_some","_law_used","_law_j","_law_at","_law_twice"] rfl rfl (by decide +kernel)) (qS (by decide)) Jr.nd rfl (.inl rfl) (Jh (jq jt (pv 3) (pv 10))) (fun _ _ _ _ _=>⟨(ju (i:=0) (JX ["_law_pool","_law_kind","_law_names","_law_movers","_law_bounds","_law_times","_law_many","_law_some","_law_used","_law_j","_law_at","_law_twice"] rfl (by decide +kernel)) rfl (.inl rfl)),(XQ (jr (Y3 (K:=K) rfl) (pv 0) (pv 1) (by with_unfolding_all rfl))),(pv 0)⟩))
   (jf (j2 (PW.pt (zi (jr (j1K hr.units) (jq jt (pv 3) (pv 10)) (jT jc) (nomark _)) (Q3 (jr (j1J hr.units) (pv 11) (jT jc) (nomark _)))))
    (jb (Jb (ql PySem.F.plainAttrs_list PySem.F.slot_list_append PySem.F.type_list_append jU (pv 7) (ja (jq jt (pv 2) (pv 10)) jc)))
    (jf (jo (i:=8) Jr.nd rfl (.inr rfl) (jh KM (pv 8) (jq jt (pv 3) (pv 10))))))
    jw)))))
  (jb (j2 (jr Z5 (jF j4 (by rfl) T.qG JJ (ja (pv 7) jc)) jd (nomark _))
   (jf (jv (jV (ja jO (ja (jh jI jd (jk (jJ.mono (by decide)) hr (by rfl) T.jX T.jR.kp T.jW .nil pass0 (ja (pv 0) (ja (jq jt (pv 4) jd) jc)))) jc)))))
   jw)
  (jf (jv (jV (ja jO (ja (qP zq (by rfl) T.wG kx (ja (pv 7) jc)) jc))))))))))),?_⟩
 refine jz (σ':=[some _,some _,some _,some _,some _,none,none,none,none,none,none,none]) rfl ?_;have sz:(200:Nat)<sizeLine:=by decide
 have n20:=N.n20;obtain⟨eb,b01,b02,b11,b12,b21,b22,b31,b32,b41,b42⟩:=Bd;exists iteD (fun c=>?_) (fun c=>?_)
 ·exists ixLm (SqL.of (of _ _ eb).2) rfl ?_;walk_at"g";have r:=JI (x:=x) (y:=y) b31;refine⟨p,x,y,_,rfl,ep,b31,by lia,y0,y1,fun H1 x1 e1=>?_⟩;have y01:=qh (x:=x) (m:=b3) y0 y1;have o1:=of.ex x1;exists⟨_,_,rfl,.inl ⟨_,SqL.of (o1 _ _ N.en).2,rfl⟩,?_⟩;rw[vt];exists⟨p,_,_,_,rfl,e1,by lia,by lia,y01.1,y01.2,fun H2 x2 e2=>?_⟩;have r2:=JI (x:=(tkB x y b3).2.1) (y:=(tkB x y b3).2.2) (m:=(nm.length:Int)) (by lia);have o2:=o1.ex x2;generalize tkB (tkB x y b3).2.1 (tkB x y b3).2.2 (nm.length:Int)=T2 at r2 e2|-;obtain⟨j,ej⟩:∃j:Nat,T2.1=(j:Int):=⟨T2.1.toNat,by lia⟩
  rw[ej]at r2|-;have jl:j<nm.length:=by lia
  refine ixLm (SqL.of (o2 _ _ N.en).2) (ZC jl) ?_;exists⟨ud,?_⟩;walk_at"f b6 hb6 H6 s6 t6";exact q b6 (.again (1+(tkB x y b3).1) j) H6 (x1.trans (x2.trans (.of s6))) t6 ⟨by lia,by lia,jl⟩
 exists iteD (fun c5=>?_) (fun c5=>?_)
 ·walk_at"g";have r:=JI (x:=x) (y:=y) (m:=5) (by lia);have y01:=qh (x:=x) (m:=5) y0 y1;refine⟨p,x,y,_,rfl,ep,by lia,by lia,y0,y1,fun H1 x1 e1=>?_⟩;generalize tkB x y 5=T at r y01 e1|-;have o1:=of.ex x1;exists⟨_,rfl,by lia,by lia,?_⟩;refine j1j (fun i ys H'=>IvE3 fun(is:List Nat) (x y:Int)=>IvA6 (ys=is.map (fun j=>V.str (nm.getD j ⟨#[]⟩))) (is.length=i) (∀j∈is,j<nm.length) (Ex p H1 H') (H' p=some (.lst [.int x,.int y])) (0<=y/\y<10^30+57)) ⟨[],_,_,rfl,rfl,(fun j h=>nomatch h),.refl _,e1,y01⟩ ?_ ?_
  ·rintro i ys H' hi ⟨is,x2,y2,rfl,il,jl,xx,epx,yy⟩;have o2:=o1.ex xx;refine qQ (σ':=[none,some _,some _]) rfl ?_;exists iteT ?_;exists⟨_,_,rfl,.inl ⟨_,SqL.of (o2 _ _ N.en).2,rfl⟩,?_⟩;rw[show(nm.map V.str).length=nm.length from vt _];walk_at"g";have r2:=JI (x:=x2) (y:=y2) (m:=(nm.length:Int)) (by lia);have y02:=qh (x:=x2) (m:=(nm.length:Int)) yy.1 yy.2;refine⟨p,x2,y2,_,rfl,epx,by lia,by lia,yy.1,yy.2,fun H3 x3 e3=>?_⟩;generalize tkB x2 y2 (nm.length:Int)=T2 at r2 y02 e3|-;obtain⟨j,ej⟩:∃j:Nat,T2.1=(j:Int):=⟨T2.1.toNat,by lia⟩
   rw[ej]at r2|-;have jn:j<nm.length:=by lia
   refine ixLm (SqL.of (o2.ex x3 _ _ N.en).2) (ZC jn) ?_;refine⟨by rw[vt];lia,is++[j],_,_,by rw[vj];rfl,by rw[vn,il];rfl,fun j' hj'=>?_,xx.trans x3,e3,y02⟩;rcases vh.mp hj' with z | z
   ·exact jl j' z
   ·rw[vo.mp z];exact jn
  rintro ys H3 ⟨is,x3,y3,rfl,il,jl,xx,ep3,yy⟩;refine⟨by rw[vt];lia,?_⟩;walk_at"f b hb H4 s4 t4";exists⟨b,_,rfl,.inl ⟨SqL.of t4,?_⟩⟩;walk_at"f b5 hb5 H5 s5 t5";exists⟨ue,?_⟩;walk_at"f b6 hb6 H6 s6 t6";refine q b6 (.row is) H6 (x1.trans (xx.trans (.of (s4.trans (s5.trans s6))))) ⟨b5,t6,?_⟩ ⟨fun z=>?_,by lia,jl⟩
  ·rw[s6 _ _ t5,map_map];rfl
  ·rw[z]at il;have:(0:Nat)=_:=il;lia
 exists⟨va _,?_⟩;walk_at"f ps hps H1 s1 t1";exists⟨va _,?_⟩;walk_at"f pu hpu H2 s2 t2";have s02:=s1.trans s2;have psp:ps≠p:=(je ep hps).symm;have pup:pu≠p:=(je (s1 _ _ ep) hpu).symm;have nps:∀{c u},H c=some u->c≠ps:=fun h=>je h hps
 have pus:pu≠ps:=(je t1 hpu).symm;walk_at"g";have r:=JI (x:=x) (y:=y) (m:=3) (by lia);have y01:=qh (x:=x) (m:=3) y0 y1;refine⟨p,x,y,_,rfl,s02 _ _ ep,by lia,by lia,y0,y1,fun H3 x3 e3=>?_⟩;generalize tkB x y 3=T at r y01 e3|-;have o3:Off p H0 H3:=fun c u h=>⟨(of c u h).1,x3 _ _ (of c u h).1 (s02 _ _ (of c u h).2)⟩
 have e3s:=x3 _ _ psp (s2 _ _ t1);have e3u:=x3 _ _ pup t2;have h3s:∀{c u},c≠p->H c=some u->H3 c=some u:=fun n h=>x3 _ _ n (s02 _ _ h)
 exists⟨_,rfl,by lia,by lia,?_⟩;refine zh (fun t σ H'=>∃(o9 o10 o11:Option V) (pu':Addr) (is:List Nat) (us:List Str) (x y:Int),σ=[some (.ref p),some (.int kd),some (.ref nl),some (.ref ml),some (.ref bd),none,none,some (.ref ps),some (.ref pu'),o9,o10,o11]/\pu'≠ps/\pu'≠p/\Ex p H H'/\H' ps=some (.lst ((is.map fun j=>nm.getD j ⟨#[]⟩).map V.str))/\H' pu'=some (.lst (us.map V.str))/\H' p=some (.lst [.int x,.int y])/\0<=y/\y<10^30+57/\is.length<=t/\us.length<=8*t/\(∀j∈is,j<nm.length)/\ApartS Ms is/\∀s,s∈us↔∃j∈is,s∈Ms.getD j []) ⟨_,_,_,pu,[],[],_,_,rfl,pus,pup,fun c u n h=>h3s n h,e3s,e3u,e3,y01.1,y01.2,vb _,vb _,(fun j h=>nomatch h),⟨(fun j h=>nomatch h),.nil⟩,fun s=>⟨(fun h=>nomatch h),fun⟨j,h,_⟩=>nomatch h⟩⟩ ?_ ?_
 ·rintro t σ H4 ht ⟨o9,o10,o11,pu',is,us,x4,y4,rfl,npu,npp,x04,e4s,e4u,e4,y40,y41,il,ul,jl,ap,mem⟩;have t4:t<4:=by lia
  have o4:=of.ex x04;exists⟨_,_,rfl,.inl ⟨_,SqL.of (o4 _ _ N.en).2,rfl⟩,?_⟩;rw[vt];walk_at"g";have r2:=JI (x:=x4) (y:=y4) (m:=(nm.length:Int)) (by lia);have y02:=qh (x:=x4) (m:=(nm.length:Int)) y40 y41;refine⟨p,x4,y4,_,rfl,e4,by lia,by lia,y40,y41,fun H5 x5 e5=>?_⟩;generalize tkB x4 y4 (nm.length:Int)=T2 at r2 y02 e5|-;obtain⟨j,ej⟩:∃j:Nat,T2.1=(j:Int):=⟨T2.1.toNat,by lia⟩
  rw[ej]at r2|-;have al:j<nm.length:=by lia
  have x05:=x04.trans x5;have o5:=of.ex x05;have e5s:=x5 _ _ psp e4s;have e5u:=x5 _ _ npp e4u;clear x5 x04 o4 e4s e4u e4 y40 y41;obtain⟨ma,hma,ema,ml8,mw⟩:=N.mv al;have aM:atI (mas.map V.ref) ((j:Nat):Int)=some (.ref ma):=jL (by rw[vv,hma];rfl);exists ixLm (SqL.of (o5 _ _ N.em).2) (aM) ?_;refine⟨ma,rfl,⟨_,SqL.of (o5 _ _ ema).2⟩,?_⟩;refine JY (xs:=(Ms.getD j []).map V.str) (fun i ys H'=>ys=(((Ms.getD j []).take i).filter fun s=>decide (s∈us)).map V.str/\H5=H') ⟨rfl,rfl⟩ ?_ ?_ ?_
  ·rintro i ys H' _ ⟨rfl,rfl⟩;exact SqL.of (o5 _ _ ema).2
  ·rintro i x ys H' hx ⟨rfl,rfl⟩;rw[vv]at hx;obtain⟨k,hk',rfl⟩:=vg.mp hx;have ik:=(vx.mp hk').1;refine qQ (σ':=[none,some _]) rfl ?_;exists⟨pu',_,rfl,.inl (SqL.of e5u),rfl,flatB _,?_⟩;rw[inB];walk_at"g";rw[take_snoc hk',filter_append];have lf:(((Ms.getD j []).take i).filter fun s=>decide (s∈us)).length<=8:=vV (length_filter_le _ _) (by rw[vi];lia);refine iteD (fun c=>?_) (fun c=>?_)
   ·exists⟨by rw[vt];lia,?_,rfl⟩;rw[vj,v6,vd (vG c),filter_nil];rfl
   ·refine⟨?_,rfl⟩;rw[v6,vc (by rw[vH c];exact vF),filter_nil,append_nil]
  rintro ys H' ⟨rfl,rfl⟩;rw[show((Ms.getD j []).map V.str).length=(Ms.getD j []).length from vt _,v3];have lf:((Ms.getD j []).filter fun s=>decide (s∈us)).length<=8:=vV (length_filter_le _ _) ml8;have wf:∀x∈(Ms.getD j []).filter (fun s=>decide (s∈us)),Ws.isW x=true:=fun x hx=>mw x (vO.mp hx).1
  refine⟨by rw[vt];lia,?_⟩;walk_at"f p5 hp5 H6 s6 t6";have o6:=o5.ex (.of s6);exists ixLm (SqL.of (o6 _ _ N.em).2) (aM) ?_;exists⟨va _,?_⟩;walk_at"f 7 t";have s67:=s6.trans s7;refine⟨_,_,.lst (s7 _ _ (o6 _ _ ema).2) (yn _),j35 t7,shpB mw,shp0,?_⟩;rw[eqvB];exists iteN (fun d1=>?_) (fun d1=>?_)
  ·exists⟨va _,?_⟩;walk_at"f 8 t";have s58:=s67.trans s8;have x08:=x05.trans (.of s58);refine⟨_,_,.lst (s8 _ _ (s7 _ _ t6)) (yn _),j35 t8,shpB wf,shp0,?_⟩;rw[eqvB];exists iteD (fun d2=>?_) (fun d2=>?_)
   ·exists⟨.inl ⟨rfl,_,SqL.of (s58 _ _ e5s)⟩,?_⟩;walk_at"g";have o8:=of.ex x08;refine ixLm (SqL.of (o8 _ _ N.en).2) (ZC al) ?_;exists⟨ps,_,_,rfl,rfl,s58 _ _ e5s,by rw[vt,vt];lia,?_⟩;generalize eG:upd H8 ps _=H9;have e9:H9 ps=some (.lst (((is++[j]).map fun j=>nm.getD j ⟨#[]⟩).map V.str)):=by
     rw[vj,vj];exact qp eG
    have k9:∀c u,c≠ps->H8 c=some u->H9 c=some u:=fun c u hc h=>eG▸(jg hc).trans h
    clear eG;have n9:∀{c u},H0 c=some u->H9 c=some u:=fun {c u} h=>k9 _ _ (nps (of _ _ h).2) (o8 _ _ h).2
    exists ixLm (SqL.of (n9 N.em)) (aM) ?_;refine⟨pu',ma,_,_,rfl,rfl,k9 _ _ npu (s58 _ _ e5u),n9 ema,by rw[vt,vt];lia,?_⟩;walk_at"f 10 t";walk_at"g";have e9p:=s10 _ _ (k9 _ _ psp.symm (s58 _ _ e5));refine⟨_,_,_,p10,is++[j],us++Ms.getD j [],_,_,rfl,(je e9 hp10).symm,(je (k9 _ _ psp.symm (s58 _ _ e5)) hp10).symm,fun c u n h=>s10 _ _ (k9 _ _ (nps h) (x08 _ _ n h)),s10 _ _ e9,by rw[vj];exact t10,e9p,y02.1,y02.2,by rw[vn];show _+1<=_;lia,by rw[vn];lia,fun j' hj'=>?_,⟨fun j' hj'=>?_,List.pairwise_append.mpr ⟨ap.2,pairwise_singleton ..,fun a ha b hb s hs hs'=>?_⟩⟩,fun s=>?_⟩
    ·rcases vh.mp hj' with z | z
     ·exact jl j' z
     ·rw[vo.mp z];exact al
    ·rcases vh.mp hj' with z | z
     ·exact ap.1 j' z
     ·rw[vo.mp z];exact d1
    ·rw[vo.mp hb]at hs';have:s∈(Ms.getD j []).filter fun s=>decide (s∈us):=vO.mpr ⟨hs',vG ((mem s).mpr ⟨a,ha,hs⟩)⟩
     rw[d2]at this;cases this
    ·rw[vh,mem];constructor
     ·rintro(⟨j',hj',hs⟩ | hs)
      ·exact⟨j',mem_append_left _ hj',hs⟩
      ·exact⟨_,mem_append_right _ vq,hs⟩
     ·rintro⟨j',hj',hs⟩;rcases vh.mp hj' with z | z
      ·exact .inl ⟨j',z,hs⟩
      ·rw[vo.mp z]at hs;exact .inr hs
   ·walk_at"g";exact⟨_,_,_,pu',is,us,_,_,rfl,npu,npp,x08,s58 _ _ e5s,s58 _ _ e5u,s58 _ _ e5,y02.1,y02.2,by lia,by lia,jl,ap,mem⟩
  ·walk_at"g";exact⟨_,_,_,pu',is,us,_,_,rfl,npu,npp,x05.trans (.of s67),s67 _ _ e5s,s67 _ _ e5u,s67 _ _ e5,y02.1,y02.2,by lia,by lia,jl,ap,mem⟩
 rintro σ H4 ⟨o9,o10,o11,pu',is,us,x4,y4,rfl,npu,npp,x04,e4s,e4u,e4,y40,y41,il,ul,jl,ap,mem⟩;exists⟨_,_,rfl,.inl ⟨_,SqL.of e4s,rfl⟩,?_⟩;rw[vt,vt];exists iteD (fun c2=>?_) (fun c2=>?_)
 ·walk_at"g";have o4:=of.ex x04;refine ixLm (SqL.of (o4 _ _ eb).2) rfl ?_;walk_at"g";have r2:=JI (x:=x4) (y:=y4) b01;refine⟨p,x4,y4,_,rfl,e4,by lia,by lia,y40,y41,fun H5 x5 e5=>?_⟩;exists⟨ue,?_⟩;walk_at"f b6 hb6 H6 s6 t6";exact q b6 (.hold (1+(tkB x4 y4 b0).1)) H6 (x04.trans (x5.trans (.of s6))) t6 ⟨by lia,by lia⟩
 exists⟨ps,_,rfl,.inl ⟨SqL.of e4s,?_⟩⟩;walk_at"f b5 hb5 H5 s5 t5";exists⟨ue,?_⟩;walk_at"f b6 hb6 H6 s6 t6";exact q b6 (.side is) H6 (x04.trans (.of (s5.trans s6))) ⟨b5,t6,s6 _ _ t5⟩ ⟨by lia,by lia,jl,ap.n N.il⟩
theorem kQ(T:Txt K mg t)(jJ:FnOk P w K mg base CX0 2 t.qU t.qW ["_law_pool","_law_many"] (sp_takeB))(ZL:FnOk P w K mg base CX0 3 t.Qj t.Ql ["_law_pool","_law_kind","_law_names","_law_movers","_law_bounds"] (sp_namingB)):FnOk P w K mg base CX0 4 t.qo t.qu ["_law_pool","_law_names","_law_movers","_law_limbs","_law_bounds"] (sp_formT):=by
 refine T.ZS.ok qg (fun vs H Q E h=>?_) (fun cdv A outer s H vs Q E hr h=>?_)
 ·cases h;subst_vars;rfl
 obtain⟨p,nl,ml,pl,bd,x,y,H0,mas,las,ls,nm,Ms,b0,b1,b2,b3,b4,rfl,ep,y0,y1,of,N,Lm,Bd,q⟩:=h;refine⟨_,(jb (jo (i:=5) qg.nd rfl (.inl rfl) (jk (jJ.mono (by decide)) hr (by rfl) T.jX T.jR.kp T.jW .nil pass0 (ja (pv 0) (ja jd jc))))
  (jb (j2 (PW.pt (zi (jr zP (pv 5) jd (nomark _)) (Q3 (jr (j1K hr.units) (pv 1) (jT jc) (nomark _)))))
   (jf (jv (jk (ZL.mono (by decide)) hr (by rfl) T.WT T.YE.kp T.WR .nil pass0 (ja (pv 0) (ja (pv 5) (ja (pv 1) (ja (pv 2) (ja (pv 4) jc))))))))
   jw)
  (jb (jo (i:=6) qg.nd rfl (.inl rfl) (jh jI jd (jk (jJ.mono (by decide)) hr (by rfl) T.jX T.jR.kp T.jW .nil pass0 (ja (pv 0) (ja (jq jt (pv 4) (jk (jJ.mono (by decide)) hr (by rfl) T.jX T.jR.kp T.jW .nil pass0 (ja (pv 0) (ja jd jc)))) jc)))))
  (jb (j2 (jr Z5 (pv 5) jd (nomark _))
   (jb (jo (i:=7) qg.nd rfl (.inl rfl) (jq jA (jq jt (pv 3) (jk (jJ.mono (by decide)) hr (by rfl) T.jX T.jR.kp T.jW .nil pass0 (ja (pv 0) (ja (jF j4 (by rfl) T.qG JJ (ja (pv 3) jc)) jc)))) jd))
   (jf (jv (jV (ja jO (ja (pv 7) (ja (jk (jJ.mono (by decide)) hr (by rfl) T.jX T.jR.kp T.jW .nil pass0 (ja (pv 0) (ja (jq jt (pv 4) jd) jc))) (ja (pv 6) jc))))))))
   jw)
  (jb (j2 (jr Js (pv 5) jd (nomark _))
   (jb (jo (i:=8) qg.nd rfl (.inl rfl) (jh KM (jT (ja jO (ja jO (ja jO jc)))) (y6 j2H (pv 1) kU (Yu jd))))
   (jf (jv (jV (ja jO (ja (jq jt (pv 8) (jk (jJ.mono (by decide)) hr (by rfl) T.jX T.jR.kp T.jW .nil pass0 (ja (pv 0) (ja (jF j4 (by rfl) T.qG JJ (ja (pv 8) jc)) jc)))) (ja (pv 6) jc)))))))
   jw)
  (jf (jv (jV (ja jO (ja (pv 6) jc)))))))))),?_⟩
 refine jz (σ':=[some _,some _,some _,some _,some _,none,none,none,none]) rfl ?_;have sz:(200:Nat)<sizeLine:=by decide
 have n20:=N.n20;obtain⟨eb,b01,b02,b11,b12,b21,b22,b31,b32,b41,b42⟩:=Bd;walk_at"g";have r:=JI (x:=x) (y:=y) (m:=8) (by lia);have y01:=qh (x:=x) (m:=8) y0 y1;refine⟨p,x,y,_,rfl,ep,by lia,by lia,y0,y1,fun H1 x1 e1=>?_⟩;generalize tkB x y 8=T at r y01 e1|-;have o1:=of.ex x1;exists iteD (fun c=>?_) (fun c=>?_)
 ·exists⟨va _,?_⟩;walk_at"f e3 he3 H3 s3 t3";have o3:=o1.ex (.of s3);refine⟨_,_,.lst (o3 _ _ N.en).2 (yn _),j35 t3,shpB N.w,shp0,?_⟩;rw[eqvB];exists iteN (fun d=>?_) (fun d=>?_)
  ·walk_at"g";exact⟨p,nl,ml,bd,_,_,_,H0,mas,_,nm,Ms,b0,b1,b2,b3,b4,rfl,s3 _ _ e1,y01.1,y01.2,o3,N,length_pos_iff.mpr d,⟨eb,b01,b02,b11,b12,b21,b22,b31,b32,b41,b42⟩,fun a f H' x' hf pre=>q a f H' (x1.trans ((Ex.of s3).trans x')) hf pre⟩
  ·walk_at"g";have r2:=JI (x:=T.2.1) (y:=T.2.2) (m:=2) (by lia);have y02:=qh (x:=T.2.1) (m:=2) y01.1 y01.2;refine⟨p,_,_,_,rfl,s3 _ _ e1,by lia,by lia,y01.1,y01.2,fun H4 x4 e4=>?_⟩;generalize tkB T.2.1 T.2.2 2=T2 at r2 y02 e4|-;have o4:=o3.ex x4;obtain⟨bx,ebx,bx1,bx2⟩:=at01 (b2:=b2) (b3:=b3) (b4:=b4) ⟨b01,b02⟩ ⟨b11,b12⟩ r2.1 r2.2;refine ixLm (SqL.of (o4 _ _ eb).2) (ebx) ?_;walk_at"g";have r3:=JI (x:=T2.2.1) (y:=T2.2.2) (m:=bx) bx1;refine⟨p,_,_,_,rfl,e4,by lia,by lia,y02.1,y02.2,fun H5 x5 e5=>?_⟩;exists iteD (fun c3=>?_) (fun c3=>?_)
   ·exact ug c3 (by lia)
   exists iteD (fun c4=>?_) (fun c4=>?_)
   ·exact ug c4 (by lia)
   exists⟨ue,?_⟩;walk_at"f b6 hb6 H6 s6 t6";exact q b6 (.hold (1+(tkB T2.2.1 T2.2.2 bx).1)) H6 (x1.trans ((Ex.of s3).trans (x4.trans (x5.trans (.of s6))))) t6 ⟨by lia,by lia⟩
 refine iteF ?_;walk_at"g";have r2:=JI (x:=T.2.1) (y:=T.2.2) (m:=2) (by lia);have y02:=qh (x:=T.2.1) (m:=2) y01.1 y01.2;refine⟨p,_,_,_,rfl,e1,by lia,by lia,y01.1,y01.2,fun H4 x4 e4=>?_⟩;generalize tkB T.2.1 T.2.2 2=T2 at r2 y02 e4|-;have o4:=o1.ex x4;obtain⟨bx,ebx,bx1,bx2⟩:=at01 (b2:=b2) (b3:=b3) (b4:=b4) ⟨b01,b02⟩ ⟨b11,b12⟩ r2.1 r2.2;refine ixLm (SqL.of (o4 _ _ eb).2) (ebx) ?_;walk_at"g";have r3:=JI (x:=T2.2.1) (y:=T2.2.2) (m:=bx) bx1;have y03:=qh (x:=T2.2.1) (m:=bx) y02.1 y02.2;refine⟨p,_,_,_,rfl,e4,by lia,by lia,y02.1,y02.2,fun H5 x5 e5=>?_⟩;generalize tkB T2.2.1 T2.2.2 bx=T3 at r3 y03 e5|-;have o5:=o4.ex x5;have x05:=x1.trans (x4.trans x5);have l1:=Lm.l1;have lal:=Lm.la.1;have l8:=N.l8;rw[show(nmsOf ls).length=ls.length from vt _]at l8;exists iteD (fun c3=>?_) (fun c3=>?_)
 ·exists⟨_,_,rfl,.inl ⟨_,SqL.of (o5 _ _ Lm.el).2,rfl⟩,?_⟩;rw[vt,lal];walk_at"g";have r4:=JI (x:=T3.2.1) (y:=T3.2.2) (m:=(ls.length:Int)) (by lia);have y04:=qh (x:=T3.2.1) (m:=(ls.length:Int)) y03.1 y03.2;refine⟨p,_,_,_,rfl,e5,by lia,by lia,y03.1,y03.2,fun H6 x6 e6=>?_⟩;generalize tkB T3.2.1 T3.2.2 (ls.length:Int)=T4 at r4 y04 e6|-;obtain⟨j,ej⟩:∃j:Nat,T4.1=(j:Int):=⟨T4.1.toNat,by lia⟩
  rw[ej]at r4|-;have jl:j<ls.length:=by lia
  have o6:=o5.ex x6;obtain⟨lk,hlk,elk⟩:=Lm.la.get (vz jl);refine ixLm (SqL.of (o6 _ _ Lm.el).2) (jL (j:=j) (by rw[vv,hlk];rfl)) ?_;exists ixTm (SqT.of (o6 _ _ elk).2) rfl ?_;exists ixLm (SqL.of (o6 _ _ eb).2) rfl ?_;walk_at"g";have r5:=JI (x:=T4.2.1) (y:=T4.2.2) (m:=b2) b21;refine⟨p,_,_,_,rfl,e6,by lia,by lia,y04.1,y04.2,fun H7 x7 e7=>?_⟩;generalize tkB T4.2.1 T4.2.2 b2=T5 at r5 e7|-;exists⟨uc,?_⟩;walk_at"f b6 hb6 H8 s8 t8";refine q b6 (.rise ls[j].1 T5.1 (1+T3.1)) H8 (x05.trans (x6.trans (x7.trans (.of s8)))) t8 ⟨⟨j,?_⟩,r5.1,by lia,by lia,by lia⟩;unfold nmsOf;rw[vv,vz jl];rfl
 exists iteD (fun c4=>?_) (fun c4=>?_)
 ·exists⟨ud,?_⟩;walk_at"f b3' hb3' H6 s6 t6";exists⟨nl,_,rfl,SqL.of (s6 _ _ (o5 _ _ N.en).2),?_⟩;walk_at"f b4' hb4' H7 s7 t7";have cl:=ZE (nm.map V.str) none (some 1);rw[vt]at cl;refine⟨b3',b4',_,_,rfl,rfl,s7 _ _ t6,t7,by show 3+_<=sizeLine;lia,?_⟩;walk_at"f b5' hb5' H8 s8 t8";have s58:=s6.trans (s7.trans s8);have n5:b5'≠p:=(je (s7 _ _ (s6 _ _ e5)) hb5').symm;exists⟨_,_,rfl,.inl ⟨_,SqL.of t8,rfl⟩,?_⟩;walk_at"g";have r4:=JI (x:=T3.2.1) (y:=T3.2.2) (m:=((([V.str "ding",V.str "dong",V.str "din"]++cutV (nm.map V.str) none (some 1)).length:Nat):Int)) (by rw[vn];show 1<=(((3+_:Nat)):Int);lia);refine⟨p,_,_,_,rfl,s58 _ _ e5,by rw[vn];show 1<=(((3+_:Nat)):Int);lia,by rw[vn];show(((3+_:Nat)):Int)<=_;lia,y03.1,y03.2,fun H9 x9 e9=>?_⟩;generalize tkB T3.2.1 T3.2.2 ((([V.str "ding",V.str "dong",V.str "din"]++cutV (nm.map V.str) none (some 1)).length:Nat):Int)=T4 at r4 e9|-;have hw0:∀v∈[V.str "ding",V.str "dong",V.str "din"]++cutV (nm.map V.str) none (some 1),∃w:Str,v = .str w/\Ws.isW w=true:=fun v hv=>by
   rcases vh.mp hv with z | z
   ·rcases mem_cons.mp z with rfl | z
    ·exact⟨_,rfl,by decide +kernel⟩
    ·rcases mem_cons.mp z with rfl | z
     ·exact⟨_,rfl,by decide +kernel⟩
     ·rw[vo.mp z];exact⟨_,rfl,by decide +kernel⟩
   ·obtain⟨w',hw',rfl⟩:=vK.mp (j29 z);exact⟨w',rfl,N.w w' hw'⟩
  obtain⟨w',hw',ww⟩:=j06 (k:=T4.1) hw0 r4.1 r4.2;refine ixLm (SqL.of (x9 _ _ n5 t8)) (hw') ?_;exists⟨ud,?_⟩;walk_at"f b8 hb8 H10 s10 t10";exact q b8 (.ring w' (1+T3.1)) H10 (x05.trans ((Ex.of s58).trans (x9.trans (.of s10)))) t10 ⟨by lia,by lia,ww⟩
 exists⟨ue,?_⟩;walk_at"f b6 hb6 H6 s6 t6";exact q b6 (.hold (1+T3.1)) H6 (x05.trans (.of s6)) t6 ⟨by lia,by lia⟩
theorem kP(T:Txt K mg t)(jM:FnOk P w K mg base CX0 1 t.JC t.JD ["_law_script","_law_k"] (Pr.sp_cell_at K))(jS:FnOk P w K mg base CX0 1 t.JZ t.J2 ["_law_cell","_law_k"] (Kh))(qz:FnOk P w K mg base CX0 1 t.QA t.QE ["_law_place","_law_k"] (sp_wordB))(qy:FnOk P w K mg base CX0 1 t.Qz t.QD ["_law_form_here","_law_known"] (sp_longB))(Qa:FnOk P w K mg base CX0 1 t.Qb t.Qc ["_law_form_here","_law_names","_law_movers"] (sp_movesB))(Qw:FnOk P w K mg base CX0 1 t.Qy t.QC ["_law_names","_law_known","_law_most"] (sp_lastB))(jJ:FnOk P w K mg base CX0 2 t.qU t.qW ["_law_pool","_law_many"] (sp_takeB))(za:FnOk P w K mg base CX0 4 t.qo t.qu ["_law_pool","_law_names","_law_movers","_law_limbs","_law_bounds"] (sp_formT)):FnOk P w K mg base CX0 5 t.qm t.qt ["_law_script","_law_many","_law_bounds"] (sp_bookB K):=by
 refine T.ZR.ok jB (fun vs H Q E h=>?_) (fun cdv A outer s H vs Q E hr h=>?_)
 ·cases h;subst_vars;rfl
 obtain⟨a,bd,ns,many,b0,b1,b2,b3,b4,rfl,hS,h63,m2,m16,Bd,q⟩:=h;refine⟨_,(jb (jo (i:=3) jB.nd rfl (.inl rfl) (jT (ja (jh j5 (jF Wc (by rfl) T.j3R j1c (ja (jk (jM.mono (by decide)) hr (by rfl) T.JE T.Jo.kp T.JB .nil pass0 (ja (pv 0) (ja jd jc))) jc)) jd) (ja jd jc))))
  (jb (jo (i:=4) jB.nd rfl (.inl rfl) (jk (jJ.mono (by decide)) hr (by rfl) T.jX T.jR.kp T.jW .nil pass0 (ja (pv 3) (ja jd jc))))
  (jb (jo (i:=5) jB.nd rfl (.inl rfl) (jT jc))
  (jb (Jt PassesOwn.never rfl (QG (by rfl) T.zV (ja (jh jI jd (jk (jJ.mono (by decide)) hr (by rfl) T.jX T.jR.kp T.jW .nil pass0 (ja (pv 3) (ja jd jc)))) jc)) (ju (i:=6) jB.nd rfl (.inl rfl))
   (jf (Jb (ql PySem.F.plainAttrs_list PySem.F.slot_list_append PySem.F.type_list_append jU (pv 5) (ja (jV (ja (jk (qz.mono (by decide)) hr (by rfl) T.ZH T.zx.kp T.ZB .nil pass0 (ja (pv 4) (ja (pv 6) jc))) (ja (jk (jJ.mono (by decide)) hr (by rfl) T.jX T.jR.kp T.jW .nil pass0 (ja (pv 3) (ja (jq jt (pv 2) jd) jc))) jc))) jc)))))
  (jb (jo (i:=7) jB.nd rfl (.inl rfl) (jk (jJ.mono (by decide)) hr (by rfl) T.jX T.jR.kp T.jW .nil pass0 (ja (pv 3) (ja (jh jI (jh JH jd (pv 1)) jd) jc))))
  (jb (jo (i:=8) jB.nd rfl (.inl rfl) (jk (jJ.mono (by decide)) hr (by rfl) T.jX T.jR.kp T.jW .nil pass0 (ja (pv 3) (ja jd jc))))
  (jb (jo (i:=9) jB.nd rfl (.inl rfl) (jT jc))
  (jb (jo (i:=10) jB.nd rfl (.inl rfl) (jT jc))
  (jb (jo (i:=11) jB.nd rfl (.inl rfl) yZ)
  (jb (jo (i:=12) jB.nd rfl (.inl rfl) (jT jc))
  (jb (Jt PassesOwn.never rfl (QG (by rfl) T.zV (ja (jh jI (pv 1) jd) jc)) (ju (i:=6) jB.nd rfl (.inl rfl))
   (jb (jo (i:=13) jB.nd rfl (.inl rfl) (jF Wc (by rfl) T.j3R j1c (ja (jk (jM.mono (by decide)) hr (by rfl) T.JE T.Jo.kp T.JB .nil pass0 (ja (pv 0) (ja (jh jI jd (pv 6)) jc))) jc)))
   (jb (jo (i:=14) jB.nd rfl (.inl rfl) (jT (ja (pv 13) (ja (jk (jS.mono (by decide)) hr (by rfl) T.JM T.JA.kp T.JL .nil pass0 (ja (pv 13) (ja (jh jI jd (pv 6)) jc))) jc))))
   (jb (Q2 (jr Z5 (pv 13) (jh zL jd jd) (nomark _))
    (jf (Y4 jd (KN (pv 14) jd set_list)))
    jw)
   (jb (jo (i:=15) jB.nd rfl (.inl rfl) (jk (za.mono (by decide)) hr (by rfl) T.KI T.ZS.kp T.Kl .nil pass0 (ja (pv 14) (ja (pv 9) (ja (pv 10) (ja (pv 5) (ja (pv 2) jc)))))))
   (jb (Q2 (PW.pt (zi (jr Js (pv 6) (pv 1) (nomark _)) (Q3 (jr Js (pv 8) jd (nomark _)))))
    (jf (jo (i:=15) jB.nd rfl (.inl rfl) (jV (ja jO (ja (jk (Qw.mono (by decide)) hr (by rfl) T.wg T.yK.kp T.KY .nil pass0 (ja (pv 9) (ja (pv 11) (ja (jq jt (pv 2) jd) jc)))) jc)))))
    jw)
   (jb (Q2 (jr zP (jk (qy.mono (by decide)) hr (by rfl) T.ZG T.zw.kp T.ZA .nil pass0 (ja (pv 15) (ja (pv 11) jc))) (jq jt (pv 2) jd) (nomark _))
    (jf (jo (i:=15) jB.nd rfl (.inl rfl) (jV (ja jO (ja jd jc)))))
    jw)
   (jb (Jb (ql PySem.F.plainAttrs_list PySem.F.slot_list_append PySem.F.type_list_append jU (pv 10) (ja (jk (Qa.mono (by decide)) hr (by rfl) T.kK T.ye.kp T.ke .nil pass0 (ja (pv 15) (ja (pv 9) (ja (pv 10) jc)))) jc)))
   (jb (jo (i:=16) jB.nd rfl (.inl rfl) (jk (qz.mono (by decide)) hr (by rfl) T.ZH T.zx.kp T.ZB .nil pass0 (ja (pv 4) (ja (jh jI jd (pv 6)) jc))))
   (jb (Q2 (jr Js (pv 6) (pv 7) (nomark _))
    (jf (jo (i:=16) jB.nd rfl (.inl rfl) (jq jA (jq jt (pv 5) (jh Je (pv 6) (jF j4 (by rfl) T.qG JJ (ja (pv 5) jc)))) jd)))
    jw)
   (jb (Jb (ql PySem.F.plainAttrs_list PySem.F.slot_list_append PySem.F.type_list_append jU (pv 9) (ja (pv 16) jc)))
   (jb (Jb (ql PySem.F.plainAttrs_list PySem.F.slot_list_append PySem.F.type_list_append jU (pv 12) (ja (jV (ja (pv 16) (ja (pv 15) jc))) jc)))
   (jf (Yv (QZ hr) (pv 11) (pv 16) (jk (qy.mono (by decide)) hr (by rfl) T.ZG T.zw.kp T.ZA .nil pass0 (ja (pv 15) (ja (pv 11) jc))) rfl))))))))))))))
  (jf (jv (jV (ja (jV (ja (pv 5) (ja (pv 12) jc))) (ja (Qo (QZ hr) (pv 11) (jq jt (pv 9) (pv 1))) jc)))))))))))))))),?_⟩
 refine jz (σ':=[some _,some _,some _,none,none,none,none,none,none,none,none,none,none,none,none,none,none]) rfl ?_;have sz:(200:Nat)<sizeLine:=by decide
 obtain⟨eb,b01,b02,b11,b12,b21,b22,b31,b32,b41,b42⟩:=Bd;exists⟨a,ns,_,rfl,hS,h63,by lia,?_⟩;refine⟨_,rfl,?_⟩;exists⟨ue,?_⟩;walk_at"f po hpo H1 s1 t1";generalize(if Pr.cell ns 0<0 then -Pr.cell ns 0 else Pr.cell ns 0)/2=x0 at t1;walk_at"g";have r1:=JI (x:=x0) (y:=7) (m:=3) (by lia);have y1:=qh (x:=x0) (y:=7) (m:=3) (by decide) (by decide);refine⟨po,_,_,_,rfl,t1,by lia,by lia,by lia,by lia,fun H2 x2 e2=>?_⟩;generalize tkB x0 7 3=T1 at r1 y1 e2|-;obtain⟨p,e3⟩:∃p:Nat,T1.1=(p:Int):=⟨T1.1.toNat,by lia⟩
 have hp:p<3:=by lia
 have s2:Same H H2:=fun c u h=>x2 _ _ (je h hpo) (s1 _ _ h)
 rw[e3];clear s1 x2;exists⟨va _,?_⟩;walk_at"f pl hpl H3 s3 t3";have npp:pl≠po:=(je e2 hpl).symm;walk_at"g";have r2:=JI (x:=T1.2.1) (y:=T1.2.2) (m:=8) (by lia);have y2:=qh (x:=T1.2.1) (m:=8) y1.1 y1.2;refine⟨po,_,_,_,rfl,s3 _ _ e2,by lia,by lia,y1.1,y1.2,fun H4 x4 e4=>?_⟩;generalize tkB T1.2.1 T1.2.2 8=T2 at r2 y2 e4|-;have s4:Same H H4:=fun c u h=>x4 _ _ (je h hpo) (s3 _ _ (s2 _ _ h))
 have t4:=x4 _ _ npp t3;have hpl':H pl=none:=none_of s2 hpl;clear s2 s3 x4 t3 hpl;exists⟨_,rfl,by lia,by lia,?_⟩;refine zh (fun i σ H'=>IvE5 fun(o6:Option V) (las:List Addr) (ls:List (Str×Int)) (x y:Int)=>IvA9 (σ=[some (.ref a),some (.int (many:Nat)),some (.ref bd),some (.ref po),some (.int (p:Nat)),some (.ref pl),o6,none,none,none,none,none,none,none,none,none,none]) (Same H H') (H' pl=some (.lst (las.map V.ref))) (All2 (LimbAt H') las ls) (nmsOf ls=lmB p i) (ls.length=i) (∀q∈ls,0<=q.2/\q.2<=10^18) (H' po=some (.lst [.int x,.int y])) (0<=y/\y<10^30+57)) ⟨_,[],[],_,_,rfl,s4,t4,.nil,rfl,rfl,(fun q h=>nomatch h),e4,y2⟩ ?_ ?_
 ·rintro i σ H' hi ⟨o6,las,ls,x,y,rfl,sm,el,la,nm,ll,lh,ep,y0,y1'⟩;have i4:i<8:=by lia
  have lal:=la.1;exists⟨.inl ⟨rfl,_,SqL.of el⟩,?_⟩;exists⟨p,i,by rw[uz];rfl,hp,by lia,?_⟩;exists ixLm (SqL.of (sm _ _ eb)) rfl ?_;walk_at"g";have r3:=JI (x:=x) (y:=y) (m:=b2) b21;have y3:=qh (x:=x) (m:=b2) y0 y1';refine⟨po,_,_,_,rfl,ep,by lia,by lia,y0,y1',fun H2 x2 e2=>?_⟩;generalize tkB x y b2=T3 at r3 y3 e2|-;have kp:∀c xs,H' c=some (.tup xs)->H2 c=some (.tup xs):=fun c xs h=>x2 _ _ (JG h ep fun z=>by cases z) h
  have el2:=x2 _ _ npp el;exists⟨ue,?_⟩;walk_at"f 3 t";exists⟨pl,_,_,rfl,rfl,s3 _ _ el2,by rw[vt];lia,?_⟩;have kt:∀c xs,H3 c=some (.tup xs)->upd H3 pl (.lst (las.map V.ref++[.ref p3])) c=some (.tup xs):=fun c xs h=>(jg (JG h (s3 _ _ el2) fun z=>by cases z)).trans h
  refine⟨_,las++[p3],ls++[(wdB p i,T3.1)],_,_,rfl,fun c u h=>?_,by rw[jC,vj];rfl,(la.mono fun c x h=>kt _ _ (s3 _ _ (kp _ _ h))).snoc (kt _ _ t3),?_,by rw[vn,ll];rfl,fun q hq=>?_,(jg npp.symm).trans (s3 _ _ e2),y3⟩
  ·exact(jg (je h hpl')).trans (s3 _ _ (x2 _ _ (je h hpo) (sm _ _ h)))
  ·rw[j0v,<-nm];unfold nmsOf;rw[vj];rfl
  ·rcases vh.mp hq with z | z
   ·exact lh q z
   ·rw[vo.mp z];exact⟨r3.1,by show T3.1<=10^18;lia⟩
 rintro σ' H5 ⟨o6,las,ls,x,y,rfl,sm5,el5,la5,nm,ll,lh,ep5,y0,y1'⟩;clear s4 t4 e4 e2 H2 H3 H4;have m1:1<=ls.length:=by lia
 have m4:ls.length<=8:=by lia
 replace nm:nmsOf ls=lmB p ls.length:=by rw[nm,ll]
 obtain⟨lnd,lW⟩:=j4e (m:=ls.length) hp (by lia);rw[<-nm]at lnd lW;clear ll;have Ll:(nmsOf ls).length=ls.length:=vt _;have lal:=la5.1;walk_at"g";have r3:=JI (x:=x) (y:=y) (m:=2*(many:Int)+2) (by lia);have y3:=qh (x:=x) (m:=2*(many:Int)+2) y0 y1';refine⟨po,_,_,_,rfl,ep5,by lia,by lia,y0,y1',fun H6 x6 e6=>?_⟩;generalize tkB x y (2*(many:Int)+2)=T3 at r3 y3 e6|-;have r4:=JI (x:=T3.2.1) (y:=T3.2.2) (m:=2) (by lia);exists⟨po,_,_,_,rfl,e6,by lia,by lia,y3.1,y3.2,fun H2 x7 e7=>?_⟩;generalize tkB T3.2.1 T3.2.2 2=T4 at r4 e7|-;have sm:Same H H2:=fun c u h=>x7 _ _ (je h hpo) (x6 _ _ (je h hpo) (sm5 _ _ h))
 have el:=x7 _ _ npp (x6 _ _ npp el5);have la:All2 (LimbAt H2) las ls:=la5.mono fun c x h=>x7 _ _ (JG h ep5 fun z=>by cases z) (x6 _ _ (JG h ep5 fun z=>by cases z) h)
 clear sm5 el5 la5 x6 x7 e6 e7 ep5 H5 H6;obtain⟨cc,ecc⟩:∃cc:Nat,T3.1=(cc:Int):=⟨T3.1.toNat,by lia⟩
 rw[ecc];generalize T4.1=en4;obtain⟨nd,nW⟩:=j4n (p:=p) (st:=9) (c:=cc) (m:=ls.length) hp m1 (by lia) (by lia);have ng:∀{k:Nat},k<17->(nmB p 9 cc ls.length).getD k ⟨#[]⟩=wdB p (ixB 9 cc ls.length k):=fun h=>j2w h
 have nL:=j2x (p:=p) (st:=9) (c:=cc) (m:=ls.length);generalize nmB p 9 cc ls.length=names at nd nW ng nL;exists⟨va _,?_⟩;walk_at"f nl hnl H3 s3 t3";exists⟨va _,?_⟩;walk_at"f ml hml H4 s4 t4";walk_at"g";walk_at"f d hd' H5 s5 t5";exists⟨va _,?_⟩;walk_at"f pp hpp H6 s6 t6";have s36:=s4.trans (s5.trans s6);have s26:=s3.trans s36;have BB:BkB pl nl ml d pp las [] [] ls names [] [] [] b4 H6:=by
  refine⟨⟨s36 _ _ t3,s6 _ _ (s5 _ _ t4),.nil,(fun ks hk=>nomatch hk),rfl,va _,by lia,(fun x hx=>nomatch hx),lW⟩,⟨s26 _ _ el,la.mono fun c x h=>s26 _ _ h,m1⟩,s6 _ _ t5,t6,.nil,⟨rfl,rfl,(fun i f h=>by simp at h),fun i h=>ug h (Nat.not_lt_zero i)⟩,fun j hj=>ug hj (Nat.not_lt_zero j),va _⟩
 have SS:SpB pl nl ml pp bd []:=⟨je el hnl,je (s3 _ _ el) hml,je (s5 _ _ (s4 _ _ (s3 _ _ el))) hpp,je t3 hml,je (s5 _ _ (s4 _ _ t3)) hpp,je (s5 _ _ t4) hpp,je (sm _ _ eb) hnl,je (s3 _ _ (sm _ _ eb)) hml,je (s5 _ _ (s4 _ _ (s3 _ _ (sm _ _ eb)))) hpp,(fun x hx=>nomatch hx)⟩
 have hN1:H nl=none:=none_of sm hnl;have hM1:H ml=none:=none_of (sm.trans s3) hml;have hD1:H d=none:=none_of (sm.trans (s3.trans s4)) hd';have hP1:H pp=none:=none_of (sm.trans (s3.trans (s4.trans s5))) hpp;have sm6:=sm.trans s26;clear s26 s36 t3 t4 t5 t6 el la sm s3 s4 s5 s6 hnl hml hd' hpp;exists⟨_,rfl,by lia,by lia,?_⟩;refine zh (fun i σ H'=>IvE10 fun(o5 o11 o12 o13 o14:Option V) (pas mas:List Addr) (fs:List Fn) (Ms:List (List Str)) (gs:List Int)=>IvA4 (σ=[some (.ref a),some (.int (many:Nat)),some (.ref bd),some (.ref po),some (.int (p:Nat)),some (.ref pl),o5,some (.int (cc:Nat)),some (.int en4),some (.ref nl),some (.ref ml),some (.ref d),some (.ref pp),o11,o12,o13,o14]) (Same H H') (BkB pl nl ml d pp las pas mas ls names fs Ms gs b4 H') (SpB pl nl ml pp bd mas/\fs.length=i))
  ⟨_,_,_,_,_,[],[],[],[],[],rfl,sm6,BB,SS,rfl⟩ ?_ ?_
 ·rintro i σ H7 hi ⟨o5,o11,o12,o13,o14,pas,mas,fs,Ms,gs,rfl,sm,C,S,fl⟩;have i16:i<17:=by lia
  have tl:(names.take fs.length).length=fs.length:=by rw[vi];lia
  have pal:pas.length=fs.length:=C.pa.1.trans Ze;have gl:=C.dk.gl;have Ml:Ms.length=fs.length:=by have:=C.n.ml;lia
  have mal:mas.length=fs.length:=by have:=C.n.am.1;lia
  have tnd:(names.take fs.length).Nodup:=nd.sublist (take_sublist _ _);have ng1:∀j,j<fs.length->1<=gs.getD j 0/\gs.getD j 0<=b4:=fun j hj=>⟨(C.dk.g j hj).1,C.gb j hj⟩
  exists⟨a,ns,_,rfl,sm.seq hS,h63,by lia,?_⟩;refine⟨_,rfl,?_⟩;walk_at"g";generalize(if Pr.cell ns (1+(0+(i:Int)))<0 then -Pr.cell ns (1+(0+(i:Int)))else Pr.cell ns (1+(0+(i:Int))))=num;refine⟨_,_,rfl,by lia,by lia,?_⟩;have nb:=Z4 num (1+(0+(i:Int)));generalize mixB num (1+(0+(i:Int)))=yo at nb|-;exists⟨ue,?_⟩;walk_at"f ow how Ha sa ta";exists⟨fun σ' H'=>IvE1 fun(xo:Int)=>IvA2 (σ'=[some (.ref a),some (.int (many:Nat)),some (.ref bd),some (.ref po),some (.int (p:Nat)),some (.ref pl),some (.int (0+(i:Int))),some (.int (cc:Nat)),some (.int en4),some (.ref nl),some (.ref ml),some (.ref d),some (.ref pp),some (.int num),some (.ref ow),o13,o14]) (Same H7 H'/\H' ow=some (.lst [.int xo,.int yo])),?_,?_⟩
  rotate_left
  ·exists iteD (fun c=>?_) (fun c=>?_)
   ·exists⟨ow,_,_,0,rfl,rfl,ta,rfl,?_⟩;exact⟨0,rfl,fun c u h=>(jg (je h how)).trans (sa _ _ h),jC⟩
   ·walk_at"g";exact⟨num,rfl,sa,ta⟩
  rintro σ' Hb ⟨xo,rfl,sb,tb⟩;have ob:Off ow H7 Hb:=fun c u h=>⟨je h how,sb _ _ h⟩
  exists⟨ow,nl,ml,pl,bd,xo,yo,H7,mas,las,ls,names.take fs.length,Ms,b0,b1,b2,b3,b4,rfl,tb,nb.1,nb.2,ob,C.n,C.l,⟨sm _ _ eb,b01,b02,b11,b12,b21,b22,b31,b32,b41,b42⟩,fun fa0 f0 H8 x8 hf0 pre0=>?_⟩;have s8:Same H7 H8:=(ob.ex x8).same;rw[tl]at pre0;have C8:=C.same s8;exists⟨fun σ' H'=>IvE2 fun(fa:Addr) (f:Fn)=>IvA3 (σ'=[some (.ref a),some (.int (many:Nat)),some (.ref bd),some (.ref po),some (.int (p:Nat)),some (.ref pl),some (.int (0+(i:Int))),some (.int (cc:Nat)),some (.int en4),some (.ref nl),some (.ref ml),some (.ref d),some (.ref pp),some (.int num),some (.ref ow),some (.ref fa),o14]) (Same H8 H') (FormAt H' fa (toldF (names.take fs.length) f)/\PreN (nmsOf ls) (Ms.map (plB (nmsOf ls))) fs.length f),?_,?_⟩
  rotate_left
  ·exists iteD (fun c=>?_) (fun c=>?_)
   ·exists iteD (fun c2=>?_) (fun c2=>?_)
    ·exists ixLm (SqL.of (s8 _ _ (sm _ _ eb))) rfl ?_;exists⟨nl,d,names.take fs.length,gs,b4,rfl,C8.n.en,C8.ed,tnd,by lia,by lia,by lia,fun j hj=>ng1 j (by lia),fun b is H9 s9 e9 ne l5 jl=>?_⟩;exists⟨ue,?_⟩;walk_at"f fa hfa H10 s10 t10";walk_at"g";exact⟨fa,.row is,rfl,s9.trans s10,⟨b,t10,s10 _ _ e9⟩,ne,by lia,fun j hj=>by have:=jl j hj;lia⟩
    ·walk_at"g";exact⟨fa0,f0,rfl,Same.refl _,hf0,pre0⟩
   ·walk_at"g";exact⟨fa0,f0,rfl,Same.refl _,hf0,pre0⟩
  rintro σ' H9 ⟨fa1,f1,rfl,s9,hf1,pre1⟩;have C9:=C8.same s9;have sm9:=sm.trans (s8.trans s9);clear C8 C hf0 pre0 s8 s9 sm;exists⟨fun σ' H'=>IvE3 fun(fa:Addr) (f:Fn) (g:Int)=>IvA5 (σ'=[some (.ref a),some (.int (many:Nat)),some (.ref bd),some (.ref po),some (.int (p:Nat)),some (.ref pl),some (.int (0+(i:Int))),some (.int (cc:Nat)),some (.int en4),some (.ref nl),some (.ref ml),some (.ref d),some (.ref pp),some (.int num),some (.ref ow),some (.ref fa),o14]) (Same H9 H') (FormAt H' fa (toldF (names.take fs.length) f)) (PreN (nmsOf ls) (Ms.map (plB (nmsOf ls))) fs.length f) (LenN gs f g/\g<=b4),?_,?_⟩
  rotate_left
  ·exists⟨fa1,d,f1,names.take fs.length,gs,nmsOf ls,Ms.map (plB (nmsOf ls)),rfl,hf1,C9.ed,tnd,by lia,by rw[tl];exact pre1,fun j hj=>by have:=ng1 j (by lia);lia,fun g H10 s10 lg=>?_⟩;exists ixLm (SqL.of (s10 _ _ (sm9 _ _ eb))) rfl ?_;exists iteD (fun c=>?_) (fun c=>?_)
   ·exists⟨ue,?_⟩;walk_at"f fa hfa H11 s11 t11";walk_at"g";exact⟨fa,.hold 1,1,rfl,s10.trans s11,t11,⟨by decide,by decide⟩,rfl,b41⟩
   ·walk_at"g";exact⟨fa1,f1,g,rfl,s10,FormAt.same s10 hf1,pre1,lg,by lia⟩
  rintro σ' H10 ⟨fa,f,g,rfl,s10,hf,pre,lg,gb⟩;have C10:=C9.same s10;have sm10:=sm9.trans s10;clear C9 hf1 pre1 s10 sm9;exists⟨.inl ⟨rfl,_,SqL.of C10.n.em⟩,?_⟩;exists⟨fa,nl,ml,mas,f,names.take fs.length,Ms,nmsOf ls,Ms.map (plB (nmsOf ls)),rfl,hf,C10.n.en,C10.n.em,C10.n.am,tnd,by lia,by lia,by rw[tl];exact pre,fun ks hk=>by have:=C10.n.il.len hk;lia,fun l ks H11 s11 hl el mv kl=>?_⟩;exists⟨ml,_,_,rfl,rfl,s11 _ _ C10.n.em,by rw[vt];lia,?_⟩;generalize eG:upd H11 ml _=H12;have e12:H12 ml=some (.lst ((mas++[l]).map V.ref)):=by rw[vj];exact qp eG
  have k12:∀c u,c≠ml->H11 c=some u->H12 c=some u:=fun c u hc h=>eG▸(jg hc).trans h
  clear eG;have k2:∀c u,c≠ml->H10 c=some u->H12 c=some u:=fun c u hc h=>k12 c u hc (s11 _ _ h)
  have lne:∀{c u},H10 c=some u->l≠c:=fun h=>(je h hl).symm
  have el12:=k12 _ _ (lne C10.n.em) el;have nmd:d≠ml:=JG C10.ed C10.n.em (fun z=>by cases z);have nnd:d≠nl:=JG C10.ed C10.n.en (fun z=>by cases z);have npd:d≠pp:=JG C10.ed C10.ep (fun z=>by cases z);exists⟨p,9+i,by rw[show(9+(0+(i:Int)))=((9+i:Nat):Int) by lia];rfl,hp,by lia,?_⟩;exists⟨fun σ' H'=>σ'=[some (.ref a),some (.int (many:Nat)),some (.ref bd),some (.ref po),some (.int (p:Nat)),some (.ref pl),some (.int (0+(i:Int))),some (.int (cc:Nat)),some (.int en4),some (.ref nl),some (.ref ml),some (.ref d),some (.ref pp),some (.int num),some (.ref ow),some (.ref fa),some (.str (names.getD fs.length ⟨#[]⟩))]/\H12=H',?_,?_⟩
  rotate_left
  ·have nk:=ng i16;rw[<-fl]at nk;exists iteD (fun c=>?_) (fun c=>?_)
   ·have ic:i=cc:=by lia
    exists⟨_,_,rfl,.inl ⟨_,SqL.of (k2 _ _ S.lm C10.l.el),rfl⟩,?_⟩;rw[vt,lal];walk_at"g";rw[show(0+(i:Int))%(ls.length:Int)=((i%ls.length:Nat):Int) by rw[uz];exact(Int.natCast_emod _ _).symm];have jm:=Nat.mod_lt i (show 0<ls.length by lia);obtain⟨lk,hlk,elk⟩:=C10.l.la.get (vz jm);have elk':H10 lk=some (.tup [.str (ls[i%ls.length]).1,.int (ls[i%ls.length]).2]):=elk;refine ixLm (SqL.of (k2 _ _ S.lm C10.l.el)) (jL (j:=i%ls.length) (by rw[vv,hlk];rfl)) ?_;exists ixTm (SqT.of (k2 _ _ (JG elk' C10.n.em fun z=>by cases z) elk')) rfl ?_;exists⟨?_,rfl⟩;have ew:(ls[i%ls.length]).1=wdB p (i%ls.length):=by
     have h1:(nmsOf ls)[i%ls.length]?=some (ls[i%ls.length]).1:=by unfold nmsOf;rw[vv,vz jm];rfl
     rw[nm,j4d jm]at h1;exact(vL h1).symm
    rw[nk,fl];unfold ixB;rw[vd ic,ew]
   ·exists⟨?_,rfl⟩;rw[nk,fl];unfold ixB;rw[vc (by lia)]
  rintro σ' H12' ⟨rfl,rfl⟩;exists⟨.inl ⟨rfl,_,SqL.of (k2 _ _ S.nm C10.n.en)⟩,?_⟩;exists⟨nl,_,_,rfl,rfl,k2 _ _ S.nm C10.n.en,by rw[vt];lia,?_⟩;generalize eG:upd H12 nl _=H13;have e13:H13 nl=some (.lst ((names.take (fs.length+1)).map V.str)):=by
   rw[take_snoc (show names[fs.length]?=some (names.getD fs.length ⟨#[]⟩) by rw[vy,vz (by lia)];rfl),vj];exact qp eG
  have k13:∀c u,c≠nl->H12 c=some u->H13 c=some u:=fun c u hc h=>eG▸(jg hc).trans h
  clear eG;have a13:atI ((names.take (fs.length+1)).map V.str) (0+(i:Int))=some (.str (names.getD fs.length ⟨#[]⟩)):=by
   rw[<-fl,uz];refine jL ?_;rw[vv,List.getElem?_take_of_lt (by lia),vy,vz (by lia)];rfl
  have k3:∀c u,c≠ml->c≠nl->H10 c=some u->H13 c=some u:=fun c u h1 h2 h=>k13 c u h2 (k2 c u h1 h)
  exists⟨.inl ⟨rfl,_,SqL.of (k3 _ _ S.mp.symm S.np.symm C10.ep)⟩,?_⟩;exists⟨ue,?_⟩;walk_at"f c hc H14 s14 t14";exists⟨pp,_,_,rfl,rfl,s14 _ _ (k3 _ _ S.mp.symm S.np.symm C10.ep),by rw[vt];lia,?_⟩;generalize eG:upd H14 pp _=H15;have e15:H15 pp=some (.lst ((pas++[c]).map V.ref)):=by rw[vj];exact qp eG
  have k15:∀c u,c≠pp->H14 c=some u->H15 c=some u:=fun c u hc h=>eG▸(jg hc).trans h
  clear eG;have k4:∀c u,c≠ml->c≠nl->c≠pp->H10 c=some u->H15 c=some u:=fun c u h1 h2 h3 h=>k15 c u h3 (s14 _ _ (k3 c u h1 h2 h))
  have kt:∀c xs,H10 c=some (.tup xs)->H15 c=some (.tup xs):=fun c xs h=>k4 c _ (JG h C10.n.em fun z=>by cases z) (JG h C10.n.en fun z=>by cases z) (JG h C10.ep fun z=>by cases z) h
  have npc:c≠pp:=(je (k3 _ _ S.mp.symm S.np.symm C10.ep) hc).symm;exists⟨fa,d,f,names.take fs.length,gs,nmsOf ls,Ms.map (plB (nmsOf ls)),rfl,FormAt.keep kt hf,k4 _ _ nmd nnd npd C10.ed,tnd,by lia,by rw[tl];exact pre,fun j hj=>by have:=ng1 j (by lia);lia,fun g' H16 s16 lg'=>?_⟩;obtain rfl:=lg.uniq lg';exists⟨d,_,rfl,DPut.k (k:=Sum.inr (names.getD fs.length ⟨#[]⟩)) (s16 _ _ (k4 _ _ nmd nnd npd C10.ed)) (by rw[j2n (by lia)];lia),?_⟩;have xn:names.getD fs.length ⟨#[]⟩∉names.take fs.length:=fun z=>by
   obtain⟨j,hj,e⟩:=mem_iff_getElem.mp z;rw[getElem_take]at e;have jl:j<fs.length:=by rw[tl]at hj;exact hj
   have e2:names[j]?=some (names.getD fs.length ⟨#[]⟩):=by rw[vz (by lia),e]
   have e3:names[fs.length]?=some (names.getD fs.length ⟨#[]⟩):=by rw[vy,vz (by lia)];rfl
   have:=qb nd e2;have:=qb nd e3;lia
  rw[j2o (by lia) xn];generalize eG:upd H16 d _=H17;have e17:H17 d=some (.dK (knK (names.take (fs.length+1)) (gs++[g]))):=by
   rw[take_snoc (show names[fs.length]?=some (names.getD fs.length ⟨#[]⟩) by rw[vy,vz (by lia)];rfl)];exact qp eG
  have k17:∀c u,c≠d->H15 c=some u->H17 c=some u:=fun c u hc h=>eG▸(jg hc).trans (s16 _ _ h)
  clear eG;have C17:=C10.add (fa:=fa) (l:=l) (c:=c) (f:=f) (ks:=ks) (g:=g) (H':=H17) S (by rw[<-WN pre];exact hf) pre mv lg gb b42 (by lia) (by lia) nW (fun x u h1 h2 h3 h4 h=>k17 _ _ h4 (k4 _ _ h1 h2 h3 h)) (k17 _ _ nmd.symm (k15 _ _ S.mp (s14 _ _ (k13 _ _ S.nm.symm e12)))) (k17 _ _ (lne C10.ed) (k15 _ _ (lne C10.ep) (s14 _ _ (k13 _ _ (lne C10.n.en) el12)))) (k17 _ _ nnd.symm (k15 _ _ S.np (s14 _ _ e13))) (k17 _ _ npd.symm e15) (k17 _ _ (JG t14 (s14 _ _ (k3 _ _ nmd nnd C10.ed)) fun z=>by cases z) (k15 _ _ npc t14)) e17;exact⟨_,_,_,_,_,pas++[c],mas++[l],fs++[f],Ms++[ks],gs++[g],rfl,fun x u h=>k17 _ _ (je h hD1) (k4 _ _ (je h hM1) (je h hN1) (je h hP1) (sm10 _ _ h)),C17,S.add ⟨lne C10.n.en,lne C10.n.em,lne C10.ep⟩,by rw[vn,fl];rfl⟩
 rintro σ' H7 ⟨o5,o11,o12,o13,o14,pas,mas,fs,Ms,gs,rfl,sm,C,S,fl⟩
 replace fl:fs.length=many+1:=by lia
 have gl:=C.dk.gl;have tl:(names.take fs.length).length=fs.length:=by rw[vi];lia
 have tnd:(names.take fs.length).Nodup:=nd.sublist (take_sublist _ _);exists⟨ue,?_⟩;walk_at"f b hbb H8 s8 t8";have C8:=C.same s8;exists ixLm (SqL.of C8.n.en) (ZC (j:=many) (by lia)) ?_;have g:=DGet.k (k:=Sum.inr ((names.take fs.length).getD many ⟨#[]⟩)) C8.ed;rw[wL tnd (by lia) (by lia)]at g;refine⟨d,_,rfl,g,?_⟩;exists⟨ue,?_⟩;walk_at"f r hr' H9 s9 t9";exact q r b pl pp las pas names ls fs _ gs H9 (sm.trans (s8.trans s9)) (by rw[show fs.length-1=many by lia];exact t9) ((C8.book t8).same s9) C.dk (C.dk.sn C.fl nd lnd (by lia) (by lia) (by lia) lh) fl nL nd nW m1 (by lia) lnd lW S.lp C.gb
theorem XD(T:Txt K mg t)(jM:FnOk P w K mg base CX0 1 t.JC t.JD ["_law_script","_law_k"] (Pr.sp_cell_at K))(jS:FnOk P w K mg base CX0 1 t.JZ t.J2 ["_law_cell","_law_k"] (Kh))(qz:FnOk P w K mg base CX0 1 t.QA t.QE ["_law_place","_law_k"] (sp_wordB))(yN:FnOk P w K mg base CX0 2 t.zz t.zE ["_law_number","_law_names","_law_movers","_law_limbs","_law_bounds"] (sp_formB))(qy:FnOk P w K mg base CX0 1 t.Qz t.QD ["_law_form_here","_law_known"] (sp_longB))(Qa:FnOk P w K mg base CX0 1 t.Qb t.Qc ["_law_form_here","_law_names","_law_movers"] (sp_movesB))(Qw:FnOk P w K mg base CX0 1 t.Qy t.QC ["_law_names","_law_known","_law_most"] (sp_lastB))(Q9:FnOk P w K mg base CX0 5 t.qm t.qt ["_law_script","_law_many","_law_bounds"] (sp_bookB K)):FnOk P w K mg base CX0 6 t.zy t.zD ["_law_script","_law_many","_law_bounds"] (sp_bookB K):=by
 refine T.K1.ok jY (fun vs H Q E h=>?_) (fun cdv A outer s H vs Q E hr h=>?_)
 ·cases h;subst_vars;rfl
 obtain⟨a,bd,ns,many,b0,b1,b2,b3,b4,rfl,hS,h63,m2,m16,Bd,q⟩:=h;refine⟨_,(jb (j2 (jr j6U (jF Wc (by rfl) T.j3R j1c (ja (jk (jM.mono (by decide)) hr (by rfl) T.JE T.Jo.kp T.JB .nil pass0 (ja (pv 0) (ja jd jc))) jc)) (jh zL jd jd) (nomark _))
   (jf (jv (jk (Q9.mono (by decide)) hr (by rfl) T.KH T.ZR.kp T.Kk .nil pass0 (ja (pv 0) (ja (pv 1) (ja (pv 2) jc))))))
   jw)
  (jb (jo (i:=3) jY.nd rfl (.inl rfl) (jk (jS.mono (by decide)) hr (by rfl) T.JM T.JA.kp T.JL .nil pass0 (ja (jk (jS.mono (by decide)) hr (by rfl) T.JM T.JA.kp T.JL .nil pass0 (ja (jk (jM.mono (by decide)) hr (by rfl) T.JE T.Jo.kp T.JB .nil pass0 (ja (pv 0) (ja jd jc))) (ja jd jc))) (ja jd jc))))
  (jb (jo (i:=4) jY.nd rfl (.inl rfl) (jT jc))
  (jb (Jt PassesOwn.never rfl (QG (by rfl) T.zV (ja (jh jI jd (jh Je (jh j5 (pv 3) jd) jd)) jc)) (ju (i:=5) jY.nd rfl (.inl rfl))
   (jb (jo (i:=6) jY.nd rfl (.inl rfl) (jh Je (jk (jS.mono (by decide)) hr (by rfl) T.JM T.JA.kp T.JL .nil pass0 (ja (pv 3) (ja (jh jI jd (pv 5)) jc))) (jq jt (pv 2) jd)))
   (jf (Jb (ql PySem.F.plainAttrs_list PySem.F.slot_list_append PySem.F.type_list_append jU (pv 4) (ja (jV (ja (jk (qz.mono (by decide)) hr (by rfl) T.ZH T.zx.kp T.ZB .nil pass0 (ja (jh Je (pv 3) jd) (ja (pv 5) jc))) (ja (pv 6) jc))) jc))))))
  (jb (jo (i:=7) jY.nd rfl (.inl rfl) (jT jc))
  (jb (jo (i:=8) jY.nd rfl (.inl rfl) (jT jc))
  (jb (jo (i:=9) jY.nd rfl (.inl rfl) yZ)
  (jb (jo (i:=10) jY.nd rfl (.inl rfl) (jT jc))
  (jb (Jt PassesOwn.never rfl (QG (by rfl) T.zV (ja (jh jI (pv 1) jd) jc)) (ju (i:=5) jY.nd rfl (.inl rfl))
   (jb (jo (i:=11) jY.nd rfl (.inl rfl) (jk (jS.mono (by decide)) hr (by rfl) T.JM T.JA.kp T.JL .nil pass0 (ja (jk (jS.mono (by decide)) hr (by rfl) T.JM T.JA.kp T.JL .nil pass0 (ja (jk (jM.mono (by decide)) hr (by rfl) T.JE T.Jo.kp T.JB .nil pass0 (ja (pv 0) (ja (jh jI jd (pv 5)) jc))) (ja (jh jI jd (pv 5)) jc))) (ja (jh jI jd (pv 5)) jc))))
   (jb (jo (i:=12) jY.nd rfl (.inl rfl) (jk (yN.mono (by decide)) hr (by rfl) T.j0x T.K2.kp T.X8 .nil pass0 (ja (pv 11) (ja (pv 7) (ja (pv 8) (ja (pv 4) (ja (pv 2) jc)))))))
   (jb (Q2 (PW.pt (zi (jr Js (pv 5) (pv 1) (nomark _)) (Q3 (jr Js (jh Je (jh j5 (pv 3) jd) jd) jd (nomark _)))))
    (jf (jo (i:=12) jY.nd rfl (.inl rfl) (jV (ja jO (ja (jk (Qw.mono (by decide)) hr (by rfl) T.wg T.yK.kp T.KY .nil pass0 (ja (pv 7) (ja (pv 9) (ja (jq jt (pv 2) jd) jc)))) jc)))))
    jw)
   (jb (Q2 (jr zP (jk (qy.mono (by decide)) hr (by rfl) T.ZG T.zw.kp T.ZA .nil pass0 (ja (pv 12) (ja (pv 9) jc))) (jq jt (pv 2) jd) (nomark _))
    (jf (jo (i:=12) jY.nd rfl (.inl rfl) (jV (ja jO (ja jd jc)))))
    jw)
   (jb (Jb (ql PySem.F.plainAttrs_list PySem.F.slot_list_append PySem.F.type_list_append jU (pv 8) (ja (jk (Qa.mono (by decide)) hr (by rfl) T.kK T.ye.kp T.ke .nil pass0 (ja (pv 12) (ja (pv 7) (ja (pv 8) jc)))) jc)))
   (jb (jo (i:=13) jY.nd rfl (.inl rfl) (jk (qz.mono (by decide)) hr (by rfl) T.ZH T.zx.kp T.ZB .nil pass0 (ja (jh Je (pv 3) jd) (ja (jh jI jd (pv 5)) jc))))
   (jb (Q2 (PW.pt (zi (jr Js (pv 5) (jh Je (jh j5 (pv 3) jd) (jh jI (pv 1) jd)) (nomark _)) (Q3 (jr Js (jh Je (jh j5 (pv 3) jd) jd) jd (nomark _)))))
    (jf (jo (i:=13) jY.nd rfl (.inl rfl) (jq jA (jq jt (pv 4) (jh Je (pv 5) (jF j4 (by rfl) T.qG JJ (ja (pv 4) jc)))) jd)))
    jw)
   (jb (Jb (ql PySem.F.plainAttrs_list PySem.F.slot_list_append PySem.F.type_list_append jU (pv 7) (ja (pv 13) jc)))
   (jb (Jb (ql PySem.F.plainAttrs_list PySem.F.slot_list_append PySem.F.type_list_append jU (pv 10) (ja (jV (ja (jq jt (pv 7) (pv 5)) (ja (pv 12) jc))) jc)))
   (jf (Yv (QZ hr) (pv 9) (jq jt (pv 7) (pv 5)) (jk (qy.mono (by decide)) hr (by rfl) T.ZG T.zw.kp T.ZA .nil pass0 (ja (pv 12) (ja (pv 9) jc))) rfl))))))))))))
  (jf (jv (jV (ja (jV (ja (pv 4) (ja (pv 10) jc))) (ja (Qo (QZ hr) (pv 9) (jq jt (pv 7) (pv 1))) jc)))))))))))))),?_⟩
 refine jz (σ':=[some _,some _,some _,none,none,none,none,none,none,none,none,none,none,none]) rfl ?_;have sz:(200:Nat)<sizeLine:=by decide
 have Bd':=Bd;obtain⟨eb,b01,b02,b11,b12,b21,b22,b31,b32,b41,b42⟩:=Bd;exists⟨a,ns,_,rfl,hS,h63,by lia,?_⟩;refine⟨_,rfl,?_⟩;exists iteD (fun c=>?_) (fun c=>?_)
 ·walk_at"g";exact⟨a,bd,ns,many,b0,b1,b2,b3,b4,rfl,hS,h63,m2,m16,Bd',q⟩
 clear c;exists⟨a,ns,_,rfl,hS,h63,by lia,?_⟩;exists⟨_,_,rfl,by lia,by lia,?_⟩;exists⟨_,_,rfl,by lia,by lia,?_⟩;have hb:=Z4 (mixB (Pr.cell ns 0) 0) 90;generalize mixB (mixB (Pr.cell ns 0) 0) 90=hd at hb|-;obtain⟨p,e3⟩:∃p:Nat,hd%3=(p:Int):=⟨(hd%3).toNat,by lia⟩
 have hp:p<3:=by lia
 exists⟨va _,?_⟩;walk_at"f pl hpl H1 s1 t1";exists⟨_,rfl,by lia,by lia,?_⟩;refine zh (fun i σ H'=>∃(o5 o6:Option V) (las:List Addr) (ls:List (Str×Int)),σ=[some (.ref a),some (.int (many:Nat)),some (.ref bd),some (.int hd),some (.ref pl),o5,o6,none,none,none,none,none,none,none]/\Same H H'/\H' pl=some (.lst (las.map V.ref))/\All2 (LimbAt H') las ls/\nmsOf ls=lmB p i/\ls.length=i/\∀q∈ls,0<=q.2/\q.2<=10^18) ⟨_,_,[],[],rfl,s1,t1,.nil,rfl,rfl,(fun q h=>nomatch h)⟩ ?_ ?_
 ·rintro i σ H' hi ⟨o5,o6,las,ls,rfl,sm,el,la,nm,ll,lh⟩;have i4:i<8:=by lia
  have lal:=la.1;exists⟨_,_,rfl,by lia,by lia,?_⟩;exists ixLm (SqL.of (sm _ _ eb)) rfl ?_;walk_at"g";have v0:=ve (mixB hd (200+(0+(i:Int)))) (show b2≠0 by lia);have v1:=vf (mixB hd (200+(0+(i:Int)))) (show 0<b2 by lia);generalize mixB hd (200+(0+(i:Int)))%b2=v at v0 v1|-;refine⟨.inl ⟨rfl,_,SqL.of el⟩,?_⟩;exists⟨p,i,by rw[e3,uz];rfl,hp,by lia,?_⟩;exists⟨ue,?_⟩;walk_at"f 3 t";exists⟨pl,_,_,rfl,rfl,s3 _ _ el,by rw[vt];lia,?_⟩;have kt:∀c xs,H3 c=some (.tup xs)->upd H3 pl (.lst (las.map V.ref++[.ref p3])) c=some (.tup xs):=fun c xs h=>(jg (JG h (s3 _ _ el) fun z=>by cases z)).trans h
  refine⟨_,_,las++[p3],ls++[(wdB p i,v)],rfl,fun c u h=>?_,by rw[jC,vj];rfl,(la.mono fun c x h=>kt _ _ (s3 _ _ h)).snoc (kt _ _ t3),?_,by rw[vn,ll];rfl,fun q hq=>?_⟩
  ·refine(jg ?_).trans (s3 _ _ (sm _ _ h));exact je h hpl
  ·rw[j0v,<-nm];unfold nmsOf;rw[vj];rfl
  ·rcases vh.mp hq with z | z
   ·exact lh q z
   ·rw[vo.mp z];exact⟨v0,by show v<=10^18;lia⟩
 rintro σ' H2 ⟨o5,o6,las,ls,rfl,sm,el,la,nm,ll,lh⟩;have m1:1<=ls.length:=by lia
 have m4:ls.length<=8:=by lia
 replace nm:nmsOf ls=lmB p ls.length:=by rw[nm,ll]
 obtain⟨lnd,lW⟩:=j4e (m:=ls.length) hp (by lia);rw[<-nm]at lnd lW;clear ll s1 t1 H1;have Ll:(nmsOf ls).length=ls.length:=vt _;have lal:=la.1;obtain⟨cc,hcc⟩:∃cc:Nat,∀i:Nat,i<=many->(i=cc↔((i:Int)=hd/48%((many:Int)+1)/\hd/24%2=0)):=by
  have u0:=ve (hd/48) (show((many:Int)+1)≠0 by lia);have u1:=vf (hd/48) (show(0:Int)<(many:Int)+1 by lia);by_cases c:hd/24%2=0
  ·exact⟨(hd/48%((many:Int)+1)).toNat,fun i hi=>by lia⟩
  ·exact⟨100,fun i hi=>by lia⟩
 obtain⟨nd,nW⟩:=j4n (p:=p) (st:=9) (c:=cc) (m:=ls.length) hp m1 (by lia) (by lia);have ng:∀{k:Nat},k<17->(nmB p 9 cc ls.length).getD k ⟨#[]⟩=wdB p (ixB 9 cc ls.length k):=fun h=>j2w h
 have nL:=j2x (p:=p) (st:=9) (c:=cc) (m:=ls.length);generalize nmB p 9 cc ls.length=names at nd nW ng nL;exists⟨va _,?_⟩;walk_at"f nl hnl H3 s3 t3";exists⟨va _,?_⟩;walk_at"f ml hml H4 s4 t4";walk_at"g";walk_at"f d hd' H5 s5 t5";exists⟨va _,?_⟩;walk_at"f pp hpp H6 s6 t6";have s36:=s4.trans (s5.trans s6);have s26:=s3.trans s36;have BB:BkB pl nl ml d pp las [] [] ls names [] [] [] b4 H6:=by
  refine⟨⟨s36 _ _ t3,s6 _ _ (s5 _ _ t4),.nil,(fun ks hk=>nomatch hk),rfl,va _,by lia,(fun x hx=>nomatch hx),lW⟩,⟨s26 _ _ el,la.mono fun c x h=>s26 _ _ h,m1⟩,s6 _ _ t5,t6,.nil,⟨rfl,rfl,(fun i f h=>by simp at h),fun i h=>ug h (Nat.not_lt_zero i)⟩,fun j hj=>ug hj (Nat.not_lt_zero j),va _⟩
 have SS:SpB pl nl ml pp bd []:=⟨je el hnl,je (s3 _ _ el) hml,je (s5 _ _ (s4 _ _ (s3 _ _ el))) hpp,je t3 hml,je (s5 _ _ (s4 _ _ t3)) hpp,je (s5 _ _ t4) hpp,je (sm _ _ eb) hnl,je (s3 _ _ (sm _ _ eb)) hml,je (s5 _ _ (s4 _ _ (s3 _ _ (sm _ _ eb)))) hpp,(fun x hx=>nomatch hx)⟩
 have hN1:H nl=none:=none_of sm hnl;have hM1:H ml=none:=none_of (sm.trans s3) hml;have hD1:H d=none:=none_of (sm.trans (s3.trans s4)) hd';have hP1:H pp=none:=none_of (sm.trans (s3.trans (s4.trans s5))) hpp;have sm6:=sm.trans s26;clear s26 s36 t3 t4 t5 t6 el la sm s3 s4 s5 s6 hnl hml hd' hpp;exists⟨_,rfl,by lia,by lia,?_⟩;refine zh (fun i σ H'=>IvE9 fun(o5 o11 o12 o13:Option V) (pas mas:List Addr) (fs:List Fn) (Ms:List (List Str)) (gs:List Int)=>IvA4 (σ=[some (.ref a),some (.int (many:Nat)),some (.ref bd),some (.int hd),some (.ref pl),o5,o6,some (.ref nl),some (.ref ml),some (.ref d),some (.ref pp),o11,o12,o13]) (Same H H') (BkB pl nl ml d pp las pas mas ls names fs Ms gs b4 H') (SpB pl nl ml pp bd mas/\fs.length=i))
  ⟨_,_,_,_,[],[],[],[],[],rfl,sm6,BB,SS,rfl⟩ ?_ ?_
 ·rintro i σ H7 hi ⟨o5,o11,o12,o13,pas,mas,fs,Ms,gs,rfl,sm,C,S,fl⟩;have i16:i<17:=by lia
  have tl:(names.take fs.length).length=fs.length:=by rw[vi];lia
  have pal:pas.length=fs.length:=C.pa.1.trans Ze;have gl:=C.dk.gl;have Ml:Ms.length=fs.length:=by have:=C.n.ml;lia
  have mal:mas.length=fs.length:=by have:=C.n.am.1;lia
  have tnd:(names.take fs.length).Nodup:=nd.sublist (take_sublist _ _);have ng1:∀j,j<fs.length->1<=gs.getD j 0/\gs.getD j 0<=b4:=fun j hj=>⟨(C.dk.g j hj).1,C.gb j hj⟩
  exists⟨a,ns,_,rfl,sm.seq hS,h63,by lia,?_⟩;exists⟨_,_,rfl,by lia,by lia,?_⟩;exists⟨_,_,rfl,by lia,by lia,?_⟩;have nb:=Z4 (mixB (Pr.cell ns (1+(0+(i:Int)))) (1+(0+(i:Int)))) (91+(0+(i:Int)));generalize mixB (mixB (Pr.cell ns (1+(0+(i:Int)))) (1+(0+(i:Int)))) (91+(0+(i:Int)))=num at nb|-;exists⟨num,nl,ml,pl,bd,mas,las,ls,names.take fs.length,Ms,b0,b1,b2,b3,b4,rfl,C.n,C.l,⟨sm _ _ eb,b01,b02,b11,b12,b21,b22,b31,b32,b41,b42⟩,by lia,by lia,fun fa0 f0 H8 s8 hf0 pre0=>?_⟩;rw[tl]at pre0;have C8:=C.same s8;exists⟨fun σ' H'=>IvE2 fun(fa:Addr) (f:Fn)=>IvA3 (σ'=[some (.ref a),some (.int (many:Nat)),some (.ref bd),some (.int hd),some (.ref pl),some (.int (0+(i:Int))),o6,some (.ref nl),some (.ref ml),some (.ref d),some (.ref pp),some (.int num),some (.ref fa),o13]) (Same H8 H') (FormAt H' fa (toldF (names.take fs.length) f)/\PreN (nmsOf ls) (Ms.map (plB (nmsOf ls))) fs.length f),?_,?_⟩
  rotate_left
  ·exists iteD (fun c=>?_) (fun c=>?_)
   ·exists iteD (fun c2=>?_) (fun c2=>?_)
    ·exists ixLm (SqL.of (s8 _ _ (sm _ _ eb))) rfl ?_;exists⟨nl,d,names.take fs.length,gs,b4,rfl,C8.n.en,C8.ed,tnd,by lia,by lia,by lia,fun j hj=>ng1 j (by lia),fun b is H9 s9 e9 ne l5 jl=>?_⟩;exists⟨ue,?_⟩;walk_at"f fa hfa H10 s10 t10";walk_at"g";exact⟨fa,.row is,rfl,s9.trans s10,⟨b,t10,s10 _ _ e9⟩,ne,by lia,fun j hj=>by have:=jl j hj;lia⟩
    ·walk_at"g";exact⟨fa0,f0,rfl,Same.refl _,hf0,pre0⟩
   ·walk_at"g";exact⟨fa0,f0,rfl,Same.refl _,hf0,pre0⟩
  rintro σ' H9 ⟨fa1,f1,rfl,s9,hf1,pre1⟩;have C9:=C8.same s9;have sm9:=sm.trans (s8.trans s9);clear C8 C hf0 pre0 s8 s9 sm;exists⟨fun σ' H'=>IvE3 fun(fa:Addr) (f:Fn) (g:Int)=>IvA5 (σ'=[some (.ref a),some (.int (many:Nat)),some (.ref bd),some (.int hd),some (.ref pl),some (.int (0+(i:Int))),o6,some (.ref nl),some (.ref ml),some (.ref d),some (.ref pp),some (.int num),some (.ref fa),o13]) (Same H9 H') (FormAt H' fa (toldF (names.take fs.length) f)) (PreN (nmsOf ls) (Ms.map (plB (nmsOf ls))) fs.length f) (LenN gs f g/\g<=b4),?_,?_⟩
  rotate_left
  ·exists⟨fa1,d,f1,names.take fs.length,gs,nmsOf ls,Ms.map (plB (nmsOf ls)),rfl,hf1,C9.ed,tnd,by lia,by rw[tl];exact pre1,fun j hj=>by have:=ng1 j (by lia);lia,fun g H10 s10 lg=>?_⟩;exists ixLm (SqL.of (s10 _ _ (sm9 _ _ eb))) rfl ?_;exists iteD (fun c=>?_) (fun c=>?_)
   ·exists⟨ue,?_⟩;walk_at"f fa hfa H11 s11 t11";walk_at"g";exact⟨fa,.hold 1,1,rfl,s10.trans s11,t11,⟨by decide,by decide⟩,rfl,b41⟩
   ·walk_at"g";exact⟨fa1,f1,g,rfl,s10,FormAt.same s10 hf1,pre1,lg,by lia⟩
  rintro σ' H10 ⟨fa,f,g,rfl,s10,hf,pre,lg,gb⟩;have C10:=C9.same s10;have sm10:=sm9.trans s10;clear C9 hf1 pre1 s10 sm9;exists⟨.inl ⟨rfl,_,SqL.of C10.n.em⟩,?_⟩;exists⟨fa,nl,ml,mas,f,names.take fs.length,Ms,nmsOf ls,Ms.map (plB (nmsOf ls)),rfl,hf,C10.n.en,C10.n.em,C10.n.am,tnd,by lia,by lia,by rw[tl];exact pre,fun ks hk=>by have:=C10.n.il.len hk;lia,fun l ks H11 s11 hl el mv kl=>?_⟩;exists⟨ml,_,_,rfl,rfl,s11 _ _ C10.n.em,by rw[vt];lia,?_⟩;generalize eG:upd H11 ml _=H12;have e12:H12 ml=some (.lst ((mas++[l]).map V.ref)):=by rw[vj];exact qp eG
  have k12:∀c u,c≠ml->H11 c=some u->H12 c=some u:=fun c u hc h=>eG▸(jg hc).trans h
  clear eG;have k2:∀c u,c≠ml->H10 c=some u->H12 c=some u:=fun c u hc h=>k12 c u hc (s11 _ _ h)
  have lne:∀{c u},H10 c=some u->l≠c:=fun h=>(je h hl).symm
  have el12:=k12 _ _ (lne C10.n.em) el;have nmd:d≠ml:=JG C10.ed C10.n.em (fun z=>by cases z);have nnd:d≠nl:=JG C10.ed C10.n.en (fun z=>by cases z);have npd:d≠pp:=JG C10.ed C10.ep (fun z=>by cases z);exists⟨p,9+i,by rw[e3,show(9+(0+(i:Int)))=((9+i:Nat):Int) by lia];rfl,hp,by lia,?_⟩;exists⟨fun σ' H'=>σ'=[some (.ref a),some (.int (many:Nat)),some (.ref bd),some (.int hd),some (.ref pl),some (.int (0+(i:Int))),o6,some (.ref nl),some (.ref ml),some (.ref d),some (.ref pp),some (.int num),some (.ref fa),some (.str (names.getD fs.length ⟨#[]⟩))]/\H12=H',?_,?_⟩
  rotate_left
  ·have hz:=hcc i (by lia);have nk:=ng i16;rw[<-fl]at nk;exists iteD (fun c=>?_) (fun c=>?_)
   ·exists iteD (fun c2=>?_) (fun c2=>?_)
    ·have ic:i=cc:=hz.mpr ⟨by lia,c2⟩;exists⟨_,_,rfl,.inl ⟨_,SqL.of (k2 _ _ S.lm C10.l.el),rfl⟩,?_⟩;rw[vt,lal];walk_at"g";rw[show(0+(i:Int))%(ls.length:Int)=((i%ls.length:Nat):Int) by rw[uz];exact(Int.natCast_emod _ _).symm];have jm:=Nat.mod_lt i (show 0<ls.length by lia);obtain⟨lk,hlk,elk⟩:=C10.l.la.get (vz jm);have elk':H10 lk=some (.tup [.str (ls[i%ls.length]).1,.int (ls[i%ls.length]).2]):=elk;refine ixLm (SqL.of (k2 _ _ S.lm C10.l.el)) (jL (j:=i%ls.length) (by rw[vv,hlk];rfl)) ?_;exists ixTm (SqT.of (k2 _ _ (JG elk' C10.n.em fun z=>by cases z) elk')) rfl ?_;exists⟨?_,rfl⟩;have ew:(ls[i%ls.length]).1=wdB p (i%ls.length):=by
      have h1:(nmsOf ls)[i%ls.length]?=some (ls[i%ls.length]).1:=by unfold nmsOf;rw[vv,vz jm];rfl
      rw[nm,j4d jm]at h1;exact(vL h1).symm
     rw[nk,fl];unfold ixB;rw[vd ic,ew]
    ·exists⟨?_,rfl⟩;rw[nk,fl];unfold ixB;rw[vc (fun z=>c2 (hz.mp z).2)]
   ·exists⟨?_,rfl⟩;rw[nk,fl];unfold ixB;rw[vc (fun z=>c (by have:=(hz.mp z).1;lia))]
  rintro σ' H12' ⟨rfl,rfl⟩;exists⟨.inl ⟨rfl,_,SqL.of (k2 _ _ S.nm C10.n.en)⟩,?_⟩;exists⟨nl,_,_,rfl,rfl,k2 _ _ S.nm C10.n.en,by rw[vt];lia,?_⟩;generalize eG:upd H12 nl _=H13;have e13:H13 nl=some (.lst ((names.take (fs.length+1)).map V.str)):=by
   rw[take_snoc (show names[fs.length]?=some (names.getD fs.length ⟨#[]⟩) by rw[vy,vz (by lia)];rfl),vj];exact qp eG
  have k13:∀c u,c≠nl->H12 c=some u->H13 c=some u:=fun c u hc h=>eG▸(jg hc).trans h
  clear eG;have a13:atI ((names.take (fs.length+1)).map V.str) (0+(i:Int))=some (.str (names.getD fs.length ⟨#[]⟩)):=by
   rw[<-fl,uz];refine jL ?_;rw[vv,List.getElem?_take_of_lt (by lia),vy,vz (by lia)];rfl
  have k3:∀c u,c≠ml->c≠nl->H10 c=some u->H13 c=some u:=fun c u h1 h2 h=>k13 c u h2 (k2 c u h1 h)
  exists⟨.inl ⟨rfl,_,SqL.of (k3 _ _ S.mp.symm S.np.symm C10.ep)⟩,?_⟩;exists ixLm (SqL.of e13) (a13) ?_;exists⟨ue,?_⟩;walk_at"f c hc H14 s14 t14";exists⟨pp,_,_,rfl,rfl,s14 _ _ (k3 _ _ S.mp.symm S.np.symm C10.ep),by rw[vt];lia,?_⟩;generalize eG:upd H14 pp _=H15;have e15:H15 pp=some (.lst ((pas++[c]).map V.ref)):=by rw[vj];exact qp eG
  have k15:∀c u,c≠pp->H14 c=some u->H15 c=some u:=fun c u hc h=>eG▸(jg hc).trans h
  clear eG;have k4:∀c u,c≠ml->c≠nl->c≠pp->H10 c=some u->H15 c=some u:=fun c u h1 h2 h3 h=>k15 c u h3 (s14 _ _ (k3 c u h1 h2 h))
  have kt:∀c xs,H10 c=some (.tup xs)->H15 c=some (.tup xs):=fun c xs h=>k4 c _ (JG h C10.n.em fun z=>by cases z) (JG h C10.n.en fun z=>by cases z) (JG h C10.ep fun z=>by cases z) h
  have npc:c≠pp:=(je (k3 _ _ S.mp.symm S.np.symm C10.ep) hc).symm;exists⟨fa,d,f,names.take fs.length,gs,nmsOf ls,Ms.map (plB (nmsOf ls)),rfl,FormAt.keep kt hf,k4 _ _ nmd nnd npd C10.ed,tnd,by lia,by rw[tl];exact pre,fun j hj=>by have:=ng1 j (by lia);lia,fun g' H16 s16 lg'=>?_⟩;obtain rfl:=lg.uniq lg';exists ixLm (SqL.of (s16 _ _ (k15 _ _ S.np (s14 _ _ e13)))) (a13) ?_;refine⟨d,_,rfl,DPut.k (k:=Sum.inr (names.getD fs.length ⟨#[]⟩)) (s16 _ _ (k4 _ _ nmd nnd npd C10.ed)) (by rw[j2n (by lia)];lia),?_⟩;have xn:names.getD fs.length ⟨#[]⟩∉names.take fs.length:=fun z=>by
   obtain⟨j,hj,e⟩:=mem_iff_getElem.mp z;rw[getElem_take]at e;have jl:j<fs.length:=by rw[tl]at hj;exact hj
   have e2:names[j]?=some (names.getD fs.length ⟨#[]⟩):=by rw[vz (by lia),e]
   have e3:names[fs.length]?=some (names.getD fs.length ⟨#[]⟩):=by rw[vy,vz (by lia)];rfl
   have:=qb nd e2;have:=qb nd e3;lia
  rw[j2o (by lia) xn];generalize eG:upd H16 d _=H17;have e17:H17 d=some (.dK (knK (names.take (fs.length+1)) (gs++[g]))):=by
   rw[take_snoc (show names[fs.length]?=some (names.getD fs.length ⟨#[]⟩) by rw[vy,vz (by lia)];rfl)];exact qp eG
  have k17:∀c u,c≠d->H15 c=some u->H17 c=some u:=fun c u hc h=>eG▸(jg hc).trans (s16 _ _ h)
  clear eG;have C17:=C10.add (fa:=fa) (l:=l) (c:=c) (f:=f) (ks:=ks) (g:=g) (H':=H17) S (by rw[<-WN pre];exact hf) pre mv lg gb b42 (by lia) (by lia) nW (fun x u h1 h2 h3 h4 h=>k17 _ _ h4 (k4 _ _ h1 h2 h3 h)) (k17 _ _ nmd.symm (k15 _ _ S.mp (s14 _ _ (k13 _ _ S.nm.symm e12)))) (k17 _ _ (lne C10.ed) (k15 _ _ (lne C10.ep) (s14 _ _ (k13 _ _ (lne C10.n.en) el12)))) (k17 _ _ nnd.symm (k15 _ _ S.np (s14 _ _ e13))) (k17 _ _ npd.symm e15) (k17 _ _ (JG t14 (s14 _ _ (k3 _ _ nmd nnd C10.ed)) fun z=>by cases z) (k15 _ _ npc t14)) e17;exact⟨_,_,_,_,pas++[c],mas++[l],fs++[f],Ms++[ks],gs++[g],rfl,fun x u h=>k17 _ _ (je h hD1) (k4 _ _ (je h hM1) (je h hN1) (je h hP1) (sm10 _ _ h)),C17,S.add ⟨lne C10.n.en,lne C10.n.em,lne C10.ep⟩,by rw[vn,fl];rfl⟩
 rintro σ' H7 ⟨o5,o11,o12,o13,pas,mas,fs,Ms,gs,rfl,sm,C,S,fl⟩
 replace fl:fs.length=many+1:=by lia
 have gl:=C.dk.gl;have tl:(names.take fs.length).length=fs.length:=by rw[vi];lia
 have tnd:(names.take fs.length).Nodup:=nd.sublist (take_sublist _ _);exists⟨ue,?_⟩;walk_at"f b hbb H8 s8 t8";have C8:=C.same s8;exists ixLm (SqL.of C8.n.en) (ZC (j:=many) (by lia)) ?_;have g:=DGet.k (k:=Sum.inr ((names.take fs.length).getD many ⟨#[]⟩)) C8.ed;rw[wL tnd (by lia) (by lia)]at g;refine⟨d,_,rfl,g,?_⟩;exists⟨ue,?_⟩;walk_at"f r hr' H9 s9 t9";exact q r b pl pp las pas names ls fs _ gs H9 (sm.trans (s8.trans s9)) (by rw[show fs.length-1=many by lia];exact t9) ((C8.book t8).same s9) C.dk (C.dk.sn C.fl nd lnd (by lia) (by lia) (by lia) lh) fl nL nd nW m1 (by lia) lnd lW S.lp C.gb
theorem j0F(T:Txt K mg t)(jZ:FnOk P w K mg base CX0 6 t.Jp t.Jq ["self","beat"] (sp_aheadL t.jE t.jN)):FnOk P w K mg base CX0 7 t.Zk t.Zo ["tally","beat"] (sp_aheadL t.jE t.jN):=by
 refine T.wV.ok j0P (fun vs H Q E h=>?_) (fun cdv A outer s H vs Q E hr h=>?_)
 ·cases h;subst_vars;rfl
 obtain⟨a,z,o,ls,ps,gs,hs,E,k,x,f,B,t0,rfl,A,O,ak,b0,b1,q⟩:=h;refine⟨_,(jb (j2 (y8 (kY YG YG jd (pv 1) (jh jI (jP (pv 0) rfl) jd)))
   (jf Z8)
   jw)
  (jf (jv (zX (pv 0) T.jx T.qA (jZ.mono (by decide)) hr T.qR .nil pass0 (ja (pv 1) jc))))),?_⟩
 refine jz (σ':=[some _,some _]) rfl ?_;obtain⟨dx,ob⟩:=A.ob;exists iteB1 (vG b0) ?_;exists⟨a,_,dx,_,_,rfl,ob,T.jx,T.Ja,wH,?_⟩;exists iteN (fun c=>ug b1 c) (fun _=>?_);exists⟨a,dx,_,rfl,ob,kC,?_⟩;walk_at"g";exact⟨a,z,o,ls,ps,gs,hs,E,k,x,f,B,t0,rfl,A,O,ak,b0,b1,q⟩
theorem wC(T:Txt K mg t)(Jl:FnOk P w K mg base CX0 8 t.j6 t.Jm ["self","book","limb","asked"] (sp_initL t.jE t.jN))(YT:FnOk P w K mg base CX0 7 t.Zk t.Zo ["tally","beat"] (sp_aheadL t.jE t.jN)):FnOk P w K mg base CX0 10 t.qV t.qX ["book","limb","height","beat"] (sp_countL):=by
 refine T.QH.ok wE (fun vs H Q E h=>?_) (fun cdv A outer s H vs Q E hr h=>?_)
 ·cases h;subst_vars;rfl
 obtain⟨b,pl,pp,las,pas,ls,ps,gs,hs,x,f,k,c,t0,rfl,Bk,N,hk,c0,c1,b0,b1,q⟩:=h;refine⟨_,(jf (jv (jk (YT.mono (by decide)) hr (by rfl) T.j1v T.wV.kp T.j10 .nil pass0 (ja (wO T.K7 (Jl.mono (by decide)) hr (by rfl) T.kM T.zu .nil pass0 (ja (pv 0) (ja (pv 1) (ja (pv 2) jc)))) (ja (pv 3) jc))))),?_⟩;refine jz (σ':=[some _,some _,some _,some _]) rfl ?_;have ak:AskOk (some c):=fun y hy=>by cases hy;exact⟨c0,c1⟩
 walk_at"g";intro o dx ho hdx ne;have s3:Same H (upd (upd H dx (.own o)) o (.ins t.jE dx [])):=fun c u h=>(jg (je h ho)).trans ((jg (je h hdx)).trans h)
 refine⟨o,dx,b,pl,pp,las,pas,ls,ps,gs,hs,x,f,k,some c,rfl,jC,Bk.same s3,N,hk,ak,fun z E B H5 k5 O A=>⟨rfl,?_⟩⟩;have s05:Same H H5:=fun c u h=>k5 _ _ (je h ho) (s3 _ _ h)
 walk_at"g";exact⟨o,z,some c,ls,ps,gs,hs,E,k,x,f,B,t0,rfl,A,O,ak,b0,b1,fun H6 s6=>q E H6 (s05.trans s6) O.lE O.oE⟩
theorem WZ(T:Txt K mg t):FnOk P w K mg base CX0 1 t.QP t.QV ["_law_found"] (Pr.j0U):=by
 refine T.kh.ok W4 (fun vs H Q E h=>?_) (fun cdv A outer s H vs Q E hr h=>?_)
 ·obtain⟨i,rfl,q⟩:=h;rfl
 obtain⟨i,rfl,q⟩:=h;refine⟨_,(jf (jv (j4y (jF j0a (by rfl) T.ku YF (ja (pv 0) (ja (j2y (v:=.ty "int") (by rfl) T.j6O j6e rfl) jc))) (j4B (j6z (jF j0a (by rfl) T.ku YF (ja (pv 0) (ja (j2y (v:=.ty "bool") (by rfl) T.j6c j5j rfl) jc)))))))),?_⟩;refine jz (σ':=[some _]) rfl ?_;exists⟨_,_,_,_,rfl,.int i,j3c,?_⟩;exists iteT ?_;exists⟨_,_,_,_,rfl,.int i,j1s,?_⟩;walk_at"g";exact q
theorem WY(T:Txt K mg t)(qT:FnOk P w K mg base CX0 10 t.qV t.qX ["book","limb","height","beat"] (sp_countL))(Ym:FnOk P w K mg base CX0 8 t.Yn t.Yq ["book","beat"] (sp_standG))(yf:FnOk P w K mg base CX0 1 t.QP t.QV ["_law_found"] (Pr.j0U)):FnOk P w K mg base CX0 11 t.QO t.QU ["_law_book_here","_law_limb","_law_height","_law_beat","_law_found","_law_beats"] (sp_rightL):=by
 refine T.zS.ok ZP (fun vs H Q E h=>?_) (fun cdv A outer s H vs Q E hr h=>?_)
 ·cases h;subst_vars;rfl
 obtain⟨b,pl,pp,las,pas,ls,ps,gs,hs,E,x,f,k,c,t0,v,rfl,Bk,N,lE,oE,hk,c0,c1,b0,b1,R,q⟩:=h;refine⟨_,(jb (jo (i:=6) ZP.nd rfl (.inl rfl) (ql PySem.F.plainAttrs_list PySem.F.slot_list_index PySem.F.type_list_index xD (qB (ow:=["_law_one"]) (ci:=[]) rfl (CompScope.of (defScope zZ) ["_law_book_here","_law_limb","_law_height","_law_beat","_law_found","_law_beats","_law_k","_law_ahead"] rfl rfl (by decide +kernel)) (qS (by decide)) (Jh (jq jA (pv 0) jd)) (fun _ _ _ _ _=>⟨(ju (i:=0) (JX ["_law_book_here","_law_limb","_law_height","_law_beat","_law_found","_law_beats","_law_k","_law_ahead"] rfl (by decide +kernel)) rfl (.inl rfl)),Q1,(jq (wK (K:=K) rfl) (pv 0) jd)⟩)) (ja (pv 1) jc)))
  (jb (jo (i:=7) ZP.nd rfl (.inl rfl) (jk (qT.mono (by decide)) hr (by rfl) T.Zw T.QH.kp T.Zi .nil pass0 (ja (pv 0) (ja (pv 1) (ja (pv 2) (ja (pv 3) jc))))))
  (jb (j2 (jr Wz (pv 4) Q0 (nomark _))
   (jf (jv (wN Js (jk (qT.mono (by decide)) hr (by rfl) T.Zw T.QH.kp T.Zi .nil pass0 (ja (pv 0) (ja (pv 1) (ja (pv 2) (ja (jh jI (pv 5) jd) jc))))) (pv 7) (nomark _))))
   jw)
  (jb (j2 (PW.pt (j0N (y8 (WB (jk (yf.mono (by decide)) hr (by rfl) T.Xv T.kh.kp T.xS .nil pass0 (ja (pv 4) jc)))) (j0N (jr Z5 (pv 4) (pv 3) (nomark _)) (XT (jr zP (pv 4) (pv 5) (nomark _))))))
   (jf (jv kS))
   jw)
  (jb (j2 (jr j6V (jq jt (jk (Ym.mono (by decide)) hr (by rfl) T.j2s T.xZ.kp T.j20 .nil pass0 (ja (pv 0) (ja (pv 4) jc))) (pv 6)) (pv 2) (nomark _))
   (jf (jv kS))
   jw)
  (jf (jv (wN Js (jk (qT.mono (by decide)) hr (by rfl) T.Zw T.QH.kp T.Zi .nil pass0 (ja (pv 0) (ja (pv 1) (ja (pv 2) (ja (pv 4) jc))))) (pv 7) (nomark _))))))))),?_⟩
 refine jz (σ':=[some _,some _,some _,some _,some _,some _,none,none]) rfl ?_;have sz:(200:Nat)<sizeLine:=by decide
 have ne:=N.ne;have l8:=N.s.w.l8;have kl:=(vx.mp hk).1;have lal:=Bk.la.1;have lnd:=N.s.w.ln;have uq:∀{E':List (List (Int×Int))},E'.length=ps.length->EndOk ls ps E'->E'=E:=fun l o=>endU N.s.w lE oE l o
 exists ixTm (SqT.of Bk.t) rfl ?_;exists⟨pl,rfl,⟨_,SqL.of Bk.l⟩,?_⟩;refine JY (xs:=las.map V.ref) (fun i ys H'=>ys=((nmsOf ls).take i).map V.str/\H=H') ⟨rfl,rfl⟩ ?_ ?_ ?_
 ·rintro i ys H' _ ⟨rfl,rfl⟩;exact SqL.of Bk.l
 ·rintro i w' ys H' hv ⟨rfl,rfl⟩;obtain⟨c',p',rfl,hp',hc'⟩:=Bk.la.at_ref hv;have il:=(vx.mp hp').1;refine qQ (σ':=[none]) rfl ?_;exists iteT ?_;exists ixTm (SqT.of hc') rfl ?_;refine⟨by rw[vt,vi];lia,?_,rfl⟩;rw[take_snoc (show(nmsOf ls)[i]?=some p'.1 by unfold nmsOf;rw[vv,hp'];rfl),vj];rfl
 rintro ys H' ⟨rfl,rfl⟩;rw[show(las.map V.ref).length=(nmsOf ls).length by rw[vt,lal];exact(vt _).symm,v3];refine⟨by rw[vt];show(ls.map _).length<=_;rw[vt];lia,?_⟩;walk_at"f 1 t";have gx:(nmsOf ls).getD k ⟨#[]⟩=x:=by
  rw[vy];unfold nmsOf;rw[vv,hk];rfl
 obtain⟨l1,l2,l3⟩:=lidxB lnd (show k<(nmsOf ls).length by show k<(ls.map _).length;rw[vt];exact kl);rw[gx]at l1 l2 l3;refine⟨.inl ⟨rfl,_,SqL.of t1⟩,?_⟩;exists⟨p1,_,.str x,.str x,k,rfl,rfl,SqL.of t1,rfl,flatB _,l1,l2,l3,?_⟩;exists⟨b,pl,pp,las,pas,ls,ps,gs,hs,x,f,k,c,t0,rfl,Bk.same s1,N,hk,c0,c1,b0,by lia,fun E2 H2 s2 lE2 oE2=>?_⟩;obtain rfl:=uq lE2 oE2;have Bk2:=Bk.same (s1.trans s2);exists⟨rfl,?_⟩;refine⟨_,rfl,?_⟩;rcases R with⟨rfl,ez⟩ | ⟨bb,rfl,tb,bl,sb,eb⟩
 ·refine iteB1 (by simp) ?_;exists⟨b,pl,pp,las,pas,ls,ps,gs,hs,x,f,k,c,_,rfl,Bk2,N,hk,c0,c1,by lia,by lia,fun E3 H3 s3 lE3 oE3=>?_⟩;obtain rfl:=endU N.s.w lE oE lE3 oE3;walk_at"g";rw[ez,vG rfl];exact q H3 (s1.trans (s2.trans s3))
 ·refine iteB0 (by simp) ?_;exists⟨_,rfl,?_⟩;exists iteF ?_;exists iteD (fun z0=>?_) (fun z0=>?_)
  ·exact ug z0 (by lia)
  exists iteD (fun z0=>?_) (fun z0=>?_)
  ·exact ug z0 (by lia)
  exists⟨b,pl,pp,las,pas,ls,ps,gs,hs,bb,rfl,Bk2,N,by lia,by lia,fun l E3 H3 s3 _ lE3 oE3 el ln=>?_⟩;obtain rfl:=endU N.s.w lE oE lE3 oE3;exists ixLm (SqL.of el) (jL (j:=k) (show((standH ls ps gs E3 bb).map V.int)[k]?=some (.int c) by rw[vv,vz (by lia),<-sb,vy,vz (by lia)];rfl)) ?_;exists iteN (fun z0=>?_) (fun _=>?_)
  ·exact ug rfl z0
  exists⟨b,pl,pp,las,pas,ls,ps,gs,hs,x,f,k,c,bb,rfl,Bk2.same s3,N,hk,c0,c1,by lia,by lia,fun E4 H4 s4 lE4 oE4=>?_⟩;obtain rfl:=endU N.s.w lE oE lE4 oE4;walk_at"g";rw[eb,vG rfl];exact q H4 (s1.trans (s2.trans (s3.trans s4)))
theorem j6v(T:Txt K mg t)(zb:FnOk P w K mg base CX0 10 t.Zl t.ze ["book","limb","height","beat"] (sp_firstL))(Ym:FnOk P w K mg base CX0 8 t.Yn t.Yq ["book","beat"] (sp_standG))(jM:FnOk P w K mg base CX0 1 t.JC t.JD ["_law_script","_law_k"] (Pr.sp_cell_at K))(zT:FnOk P w K mg base CX0 2 t.QM t.QS ["_law_script","_law_j","_law_k"] (sp_greatB K))(yM:FnOk P w K mg base CX0 6 t.zy t.zD ["_law_script","_law_many","_law_bounds"] (sp_bookB K))(QL:FnOk P w K mg base CX0 11 t.QO t.QU ["_law_book_here","_law_limb","_law_height","_law_beat","_law_found","_law_beats"] (sp_rightL)):FnOk P w K mg base CX0 12 t.j24 t.j0e ["_law_script"] (Pr.sp_law K):=by
 refine T.j5X.ok zp (fun vs H Q E h=>?_) (fun cdv A outer s H vs Q E hr h=>?_)
 ·cases h;subst_vars;rfl
 obtain⟨a,ns,rfl,hS,h63,hB,q⟩:=h;obtain⟨ds_first_at_3,hD_first_at_3,hV_first_at_3⟩:=T.xW;refine⟨_,(jb (jo (i:=1) zp.nd rfl (.inl rfl) (jF (Ks rfl) (by rfl) T.j07 Wb (ja jd (ja (jF (Yp rfl) (by rfl) T.j27 Xg (ja (jh JK (jF j4 (by rfl) T.qG JJ (ja (pv 0) jc)) jd) (ja jd jc))) jc))))
  (jb (Y4 (jk (yM.mono (by decide)) hr (by rfl) T.j0w T.K1.kp T.X7 .nil pass0 (ja (pv 0) (ja (pv 1) (ja (jT (ja jd (ja (jh zL jd jd) (ja (jh jI (jh zL jd jd) jd) (ja (jh zL jd jd) (ja (jh zL jd jd) jc)))))) jc)))) (qY rfl (jG (ju (i:=2) zp.nd rfl (.inl rfl)) (jG (ju (i:=3) zp.nd rfl (.inl rfl)) qc))))
  (jb (jo (i:=4) zp.nd rfl (.inl rfl) (jh Je (jk (jM.mono (by decide)) hr (by rfl) T.JE T.Jo.kp T.JB .nil pass0 (ja (pv 0) (ja jd jc))) (jF j4 (by rfl) T.qG JJ (ja (jq jA (pv 2) jd) jc))))
  (jb (jo (i:=5) zp.nd rfl (.inl rfl) (jq jA (jq jt (jq jA (pv 2) jd) (pv 4)) jd))
  (jb (Jt PassesOwn.never rfl (QG (by rfl) T.zV (ja jd jc)) (ju (i:=6) zp.nd rfl (.inl rfl))
   (jb (jo (i:=7) zp.nd rfl (.inl rfl) (jh Je (jk (zT.mono (by decide)) hr (by rfl) T.kJ T.yd.kp T.kc .nil pass0 (ja (pv 0) (ja (jh jI jd (pv 6)) (ja (jh jI jd (pv 6)) jc)))) (jh jI (pv 3) jd)))
   (jb (jo (i:=8) zp.nd rfl (.inl rfl) (jq jt (jk (Ym.mono (by decide)) hr (by rfl) T.j2s T.xZ.kp T.j20 .nil pass0 (ja (pv 2) (ja (pv 7) jc))) (pv 4)))
   (jb (jo (i:=9) zp.nd rfl (.inl rfl) (jh Je (jk (zT.mono (by decide)) hr (by rfl) T.kJ T.yd.kp T.kc .nil pass0 (ja (pv 0) (ja (jh jI jd (pv 6)) (ja (jh jI jd (pv 6)) jc)))) (jh jI (pv 3) jd)))
   (jb (jo (i:=10) zp.nd rfl (.inl rfl) (jk (zb.mono (by decide)) hr (by rfl) T.yu T.Zj.kp T.wT .nil pass0 (ja (pv 2) (ja (pv 5) (ja (pv 8) (ja (pv 9) jc))))))
   (jb (j2 (PW.pt (zi (jr YG (pv 9) (pv 7) (nomark _)) (Q3 (PW.pt (j0N (jr Wz (pv 10) Q0 (nomark _)) (XT (jr zP (pv 10) (pv 7) (nomark _))))))))
    (jf (jv kS))
    jw)
   (jb (j2 (y8 (WB (jk (QL.mono (by decide)) hr (by rfl) T.yt T.zS.kp T.yc .nil pass0 (ja (pv 2) (ja (pv 5) (ja (pv 8) (ja (pv 9) (ja (pv 10) (ja (pv 3) jc)))))))))
    (jf (jv kS))
    jw)
   (jb (jo (i:=10) zp.nd rfl (.inl rfl) (jk (zb.mono (by decide)) hr (by rfl) T.yu T.Zj.kp T.wT .nil pass0 (ja (pv 2) (ja (pv 5) (ja (jh jI (pv 8) jd) (ja (pv 7) jc))))))
   (jf (j2 (y8 (WB (jk (QL.mono (by decide)) hr (by rfl) T.yt T.zS.kp T.yc .nil pass0 (ja (pv 2) (ja (pv 5) (ja (jh jI (pv 8) jd) (ja (pv 7) (ja (pv 10) (ja (pv 3) jc)))))))))
    (jf (jv kS))
    jw))))))))))
  (jb (jo (i:=10) zp.nd rfl (.inl rfl) (jk (zb.mono (by decide)) hr (by rfl) T.yu T.Zj.kp hD_first_at_3 hV_first_at_3 pass0 (ja (pv 2) (ja (pv 5) (ja (pv 8) jc)))))
  (jb (j2 (PW.pt (j0N (jr Wz (pv 10) Q0 (nomark _)) (XT (y8 (WB (jk (QL.mono (by decide)) hr (by rfl) T.yt T.zS.kp T.yc .nil pass0 (ja (pv 2) (ja (pv 5) (ja (pv 8) (ja jd (ja (pv 10) (ja (pv 3) jc))))))))))))
   (jf (jv kS))
   jw)
  (jf (jv (wN Js (jk (zb.mono (by decide)) hr (by rfl) T.yu T.Zj.kp hD_first_at_3 hV_first_at_3 pass0 (ja (pv 2) (ja (pv 5) (ja (jq jA (jq jt (jq jA (pv 2) jd) (pv 4)) jd) jc)))) jd (nomark _))))))))))),?_⟩
 refine jz (σ':=[some _,none,none,none,none,none,none,none,none,none,none]) rfl ?_;have sz:(200:Nat)<sizeLine:=by decide
 exists⟨_,_,rfl,.inl ⟨_,hS,rfl⟩,?_⟩;rw[vt];exists⟨_,_,rfl,?_⟩;exists⟨_,_,rfl,?_⟩;obtain⟨many,em,mn2,mn16⟩:∃many:Nat,(if(2:Int)<(if(16:Int)<(ns.length:Int)-1 then 16 else(ns.length:Int)-1)then(if(16:Int)<(ns.length:Int)-1 then 16 else(ns.length:Int)-1)else 2)=(many:Int)/\2<=many/\many<=16:=by
  refine⟨(if(2:Int)<(if(16:Int)<(ns.length:Int)-1 then 16 else(ns.length:Int)-1)then(if(16:Int)<(ns.length:Int)-1 then 16 else(ns.length:Int)-1)else 2).toNat,?_,?_,?_⟩<;>(split<;>split<;>lia)
 rw[em];exists⟨(by show 5<=sizeLine;lia),?_⟩;walk_at"f bd hbd H1 s1 t1";exists⟨a,bd,ns,many,30,10^18,10^18+1,10^18,10^60,rfl,s1.seq hS,h63,mn2,mn16,⟨t1,by decide,by decide,by decide,by decide,by decide,by decide,by decide,by decide,by decide,by decide⟩,fun r b pl pp las pas names ls fs M gs H2 s2 hr2 Bk D N fl nL nd nW l1 l8 lnd lW nlp gb=>?_⟩;have pl':(drawnPs names fs).length=fs.length:=Ze;rw[<-pl']at hr2;have ne:=N.ne;have g1:=N.g (show(drawnPs names fs).length-1<(drawnPs names fs).length by lia);generalize drawnPs names fs=ps at Bk N hr2 ne g1 pl';clear D gb nd nW lnd lW nL fl em pl';have s02:=s1.trans s2;have lal:=Bk.la.1;refine zj (SqT.of hr2) ?_;exists⟨a,ns,_,rfl,s02.seq hS,h63,by lia,?_⟩;exists ixTm (SqT.of Bk.t) rfl ?_;refine⟨_,_,rfl,.inl ⟨_,SqL.of Bk.l,rfl⟩,?_⟩;rw[vt,lal];walk_at"g";have k0:=ve (Pr.cell ns 1) (show(ls.length:Int)≠0 by lia);have k1:=vf (Pr.cell ns 1) (show(0:Int)<(ls.length:Int) by lia);generalize Pr.cell ns 1%(ls.length:Int)=kk at k0 k1|-;obtain⟨k,rfl⟩:∃k:Nat,kk=(k:Int):=⟨kk.toNat,by lia⟩
 have kl:k<ls.length:=by lia
 obtain⟨x,f,hk⟩:∃(x:Str) (f:Int),ls[k]?=some (x,f):=⟨_,_,vz kl⟩
 obtain⟨lk,hlk,elk⟩:=Bk.la.get hk;have elk':H2 lk=some (.tup [.str x,.int f]):=elk;refine ixTm (SqT.of Bk.t) rfl ?_;exists ixLm (SqL.of Bk.l) (jL (j:=k) (by rw[vv,hlk];rfl)) ?_;exists ixTm (SqT.of elk') rfl ?_;exists⟨_,rfl,by lia,by lia,?_⟩;refine zh (fun i σ H'=>IvE5 fun(o6 o7 o8 o9 o10:Option V)=>IvA2 (σ=[some (.ref a),some (.int (many:Nat)),some (.ref b),some (.int (gs.getD (ps.length-1) 0)),some (.int (k:Nat)),some (.str x),o6,o7,o8,o9,o10]) (Same H2 H'/\(0<i->∃(E:List (List (Int×Int))) (t:Int),E.length=ps.length/\EndOk ls ps E/\0<=t/\t<=gs.getD (ps.length-1) 0/\o8=some (.int ((standH ls ps gs E t).getD k 0)))))
  ⟨_,_,_,_,_,rfl,Same.refl _,fun h=>ug h (by lia)⟩ ?_ ?_
 ·rintro i σ H3 hi ⟨o6,o7,o8,o9,o10,rfl,sm,_⟩;have Bk3:=Bk.same sm;exists⟨a,ns,_,_,rfl,(s02.trans sm).seq hS,h63,by lia,by lia,by lia,by lia,?_⟩;walk_at"g";have w0:=ve (mixB (Pr.cell ns (1+(0+(i:Int)))) (50+(0+(i:Int)))*mixB (Pr.cell ns (1+(0+(i:Int))+1)) (50+(0+(i:Int))+20)) (show gs.getD (ps.length-1) 0+1≠0 by lia);have w1:=vf (mixB (Pr.cell ns (1+(0+(i:Int)))) (50+(0+(i:Int)))*mixB (Pr.cell ns (1+(0+(i:Int))+1)) (50+(0+(i:Int))+20)) (show 0<gs.getD (ps.length-1) 0+1 by lia);generalize mixB (Pr.cell ns (1+(0+(i:Int)))) (50+(0+(i:Int)))*mixB (Pr.cell ns (1+(0+(i:Int))+1)) (50+(0+(i:Int))+20)%(gs.getD (ps.length-1) 0+1)=th at w0 w1|-;refine⟨b,pl,pp,las,pas,ls,ps,gs,M,th,rfl,Bk3,N,w0,by lia,fun l E H4 s4 _ lE oE el ln=>?_⟩;have hI:=standI N lE oE hk w0;generalize eh:(standH ls ps gs E th).getD k 0=ht at hI;exists ixLm (SqL.of el) (jL (j:=k) (show((standH ls ps gs E th).map V.int)[k]?=some (.int ht) by rw[vv,vz (by lia),<-eh,vy,vz (by lia)];rfl)) ?_;have Bk4:=Bk3.same s4;exists⟨a,ns,_,_,rfl,(s02.trans (sm.trans s4)).seq hS,h63,by lia,by lia,by lia,by lia,?_⟩;walk_at"g";have v0:=ve (mixB (Pr.cell ns (3+(0+(i:Int)))) (90+(0+(i:Int)))*mixB (Pr.cell ns (3+(0+(i:Int))+1)) (90+(0+(i:Int))+20)) (show gs.getD (ps.length-1) 0+1≠0 by lia);have v1:=vf (mixB (Pr.cell ns (3+(0+(i:Int)))) (90+(0+(i:Int)))*mixB (Pr.cell ns (3+(0+(i:Int))+1)) (90+(0+(i:Int))+20)) (show 0<gs.getD (ps.length-1) 0+1 by lia);generalize mixB (Pr.cell ns (3+(0+(i:Int)))) (90+(0+(i:Int)))*mixB (Pr.cell ns (3+(0+(i:Int))+1)) (90+(0+(i:Int))+20)%(gs.getD (ps.length-1) 0+1)=bt at v0 v1|-;refine⟨b,pl,pp,las,pas,ls,ps,gs,M,x,f,k,ht,bt,rfl,Bk4,N,hk,by lia,by lia,v0,by lia,fun v E5 H5 s5 lE5 oE5 R=>?_⟩;obtain rfl:=endU N.s.w lE oE lE5 oE5;have Bk5:=Bk4.same s5;exists iteD (fun c=>?A) (fun c=>?B)
  case' A=>
   obtain⟨bb,ev,bb1,bb2⟩:=R.by' v0 c (by lia) eh
   subst ev;exists⟨rfl,?_⟩;refine⟨_,rfl,?_⟩;refine iteB0 (by simp) ?_;exists iteD (fun z=>ug z (by lia)) (fun _=>?_)
  case' B=>
   refine iteF ?_
  all_goals
   exists⟨b,pl,pp,las,pas,ls,ps,gs,M,E5,x,f,k,ht,bt,_,rfl,Bk5,N,lE,oE,hk,by lia,by lia,v0,by lia,R,fun H6 s6=>?_⟩;have Bk6:=Bk5.same s6;exists iteF ?_;exists⟨b,pl,pp,las,pas,ls,ps,gs,M,x,f,k,ht+1,th,rfl,Bk6,N,hk,by lia,by lia,w0,by lia,fun v' E7 H7 s7 lE7 oE7 R7=>?_⟩;obtain rfl:=endU N.s.w lE oE lE7 oE7;exists⟨b,pl,pp,las,pas,ls,ps,gs,M,E7,x,f,k,ht+1,th,_,rfl,Bk6.same s7,N,lE,oE,hk,by lia,by lia,w0,by lia,R7,fun H8 s8=>?_⟩;exists iteF ?_;walk_at"g";exact⟨_,_,_,_,_,rfl,sm.trans (s4.trans (s5.trans (s6.trans (s7.trans s8)))),fun _=>⟨E7,th,lE,oE,w0,by lia,by rw[eh]⟩⟩
 rintro σ H3 ⟨o6,o7,o8,o9,o10,rfl,sm,hE⟩;obtain⟨E,th,lE,oE,w0,w1,rfl⟩:=hE (by decide);have Bk3:=Bk.same sm;have hI:=standI N lE oE hk w0;exists⟨b,pl,pp,las,pas,ls,ps,gs,M,x,f,k,_,0,rfl,Bk3,N,hk,by lia,by lia,vA _,by lia,fun v E4 H4 s4 lE4 oE4 R=>?_⟩;obtain rfl:=endU N.s.w lE oE lE4 oE4;obtain⟨bb,ev,bb1,bb2⟩:=R.by' (vA _) w0 w1 rfl
 subst ev;have Bk4:=Bk3.same s4;exists⟨rfl,?_⟩;refine⟨_,rfl,?_⟩;refine iteB0 (by simp) ?_;exists⟨b,pl,pp,las,pas,ls,ps,gs,M,E4,x,f,k,_,0,_,rfl,Bk4,N,lE,oE,hk,by lia,by lia,vA _,by lia,R,fun H5 s5=>?_⟩;have Bk5:=Bk4.same s5;have k5:=sm.trans (s4.trans s5);exists iteF ?_;exists ixTm (SqT.of Bk5.t) rfl ?_;exists ixLm (SqL.of Bk5.l) (jL (j:=k) (by rw[vv,hlk];rfl)) ?_;exists ixTm (SqT.of (k5 _ _ elk')) rfl ?_;walk_at"g";have fb:=N.l18 _ (vm hk);have fb':0<=f/\f<=10^18:=fb;refine⟨b,pl,pp,las,pas,ls,ps,gs,M,x,f,k,f,0,rfl,Bk5,N,hk,by lia,by lia,vA _,by lia,fun v E6 H6 s6 lE6 oE6 R6=>?_⟩;obtain⟨b6,ev,b61,b62⟩:=R6.by' (vA _) (vA _) (by lia) (stand0 N lE6 oE6 hk)
 subst ev;have e6:b6=0:=by lia
 subst e6;walk_at"g";exact q _
theorem j5f(T:Txt K mg t):FnOk P w K mg base CX0 12 t.j24 t.j0e ["_law_script"] (Pr.sp_law K):=by
 have Jj:FnOk P w K mg base CX0 1 t.J0 t.J3 _ _:=W1 T;have YU:FnOk P w K mg base CX0 1 t.Zm t.Zp _ _:=j0H T;have zU:FnOk P w K mg base CX0 2 t.yk t.ym _ _:=j4u T Jj YU;have yi:FnOk P w K mg base CX0 3 t.YW t.YX _ _:=j5G T Jj zU;have Xa:FnOk P w K mg base CX0 4 t.kq t.kB _ _:=j4v T yi;have yg:FnOk P w K mg base CX0 1 t.QQ t.QW _ _:=W0 T;have yP:FnOk P w K mg base CX0 1 t.zB t.zG _ _:=XL T;have Zb:FnOk P w K mg base CX0 5 t.Zc t.Zd _ _:=j1F T zU Xa yg yP;have yQ:FnOk P w K mg base CX0 1 t.zC t.zH _ _:=XM T;have Qx:FnOk P w K mg base CX0 3 t.QB t.QF _ _:=XN T zU yQ;have zK:FnOk P w K mg base CX0 1 t.qF t.qI _ _:=KL T;have QJ:FnOk P w K mg base CX0 6 t.JF t.J1 _ _:=Y1 T Jj yi Zb Qx zK;have zc:FnOk P w K mg base CX0 1 t.zd t.zf _ _:=j0I T;have zJ:FnOk P w K mg base CX0 1 t.qE t.qH _ _:=KK T;have yO:FnOk P w K mg base CX0 1 t.zA t.zF _ _:=XJ T;have YV:FnOk P w K mg base CX0 2 t.Zn t.Zq _ _:=j0J T yO;have Yl:FnOk P w K mg base CX0 1 t.ZV t.Z0 _ _:=j1G T;have Kq:FnOk P w K mg base CX0 2 t.ZW t.Z1 _ _:=j1H T Yl;have yj:FnOk P w K mg base CX0 3 t.QR t.QX _ _:=W2 T Kq;have Kr:FnOk P w K mg base CX0 4 t.ZX t.Z2 _ _:=j1I T YV yj;have ko:FnOk P w K mg base CX0 1 t.yR t.yT _ _:=j3u T;have Jw:FnOk P w K mg base CX0 5 t.Jx t.Jy _ _:=YC T zc zJ Kr ko;have Jl:FnOk P w K mg base CX0 8 t.j6 t.Jm _ _:=yI T QJ Jw;have jZ:FnOk P w K mg base CX0 6 t.Jp t.Jq _ _:=Y0 T Jw;have Kp:FnOk P w K mg base CX0 7 t.ZU t.ZZ _ _:=j1E T jZ;have zb:FnOk P w K mg base CX0 10 t.Zl t.ze _ _:=j0G T Jl jZ Kp;have Q8:FnOk P w K mg base CX0 6 t.JQ t.qr _ _:=kO T Jj yi Zb Qx;have j14:FnOk P w K mg base CX0 1 t.w6 t.Wh _ _:=j5H T;have wZ:FnOk P w K mg base CX0 2 t.yS t.yU _ _:=j3v T zc;have ZK:FnOk P w K mg base CX0 3 t.Qi t.Qk _ _:=Wx T wZ;have Qq:FnOk P w K mg base CX0 4 t.JR t.JS _ _:=YD T j14 ZK;have Ym:FnOk P w K mg base CX0 8 t.Yn t.Yq _ _:=j4w T Q8 Qq;have jM:FnOk P w K mg base CX0 1 t.JC t.JD _ _:=wB T;have jS:FnOk P w K mg base CX0 1 t.JZ t.J2 _ _:=WV T;have zT:FnOk P w K mg base CX0 2 t.QM t.QS _ _:=WU T jM jS;have qz:FnOk P w K mg base CX0 1 t.QA t.QE _ _:=XI T;have QK:FnOk P w K mg base CX0 1 t.QN t.QT _ _:=WX T;have yN:FnOk P w K mg base CX0 2 t.zz t.zE _ _:=XE T QK;have qy:FnOk P w K mg base CX0 1 t.Qz t.QD _ _:=XG T;have Qa:FnOk P w K mg base CX0 1 t.Qb t.Qc _ _:=WW T;have Qw:FnOk P w K mg base CX0 1 t.Qy t.QC _ _:=XF T;have jJ:FnOk P w K mg base CX0 2 t.qU t.qW _ _:=XH T jS;have ZL:FnOk P w K mg base CX0 3 t.Qj t.Ql _ _:=Wy T jJ;have za:FnOk P w K mg base CX0 4 t.qo t.qu _ _:=kQ T jJ ZL;have Q9:FnOk P w K mg base CX0 5 t.qm t.qt _ _:=kP T jM jS qz qy Qa Qw jJ za;have yM:FnOk P w K mg base CX0 6 t.zy t.zD _ _:=XD T jM jS qz yN qy Qa Qw Q9;have YT:FnOk P w K mg base CX0 7 t.Zk t.Zo _ _:=j0F T jZ;have qT:FnOk P w K mg base CX0 10 t.qV t.qX _ _:=wC T Jl YT;have yf:FnOk P w K mg base CX0 1 t.QP t.QV _ _:=WZ T;have QL:FnOk P w K mg base CX0 11 t.QO t.QU _ _:=WY T qT Ym yf;exact j6v T zb Ym jM zT yM QL
end
@[elab_as_elim] theorem uu1{P:List Value->Prop}(us:List Value)(hl:us.length=1)(h:∀a0,P [a0]):P us:=match us,hl with | [a0],_=>h a0
theorem bb1{K:Frg}{x q:Str}{st:Stmt}{f:Addr}{fd:FuncData}{x0:Str}(F:Fun K x q st f fd)(h:∀(kV doc pm:Value) (an:Option Addr) (cdv ct:Value) (a0:Value),bindArgs (W.fnOf x q (defArgs st) (defBody st) (defScope st) .none kV doc pm an cdv ct) ⟨[a0],[]⟩=pure ([x0].zip [a0])):Binds K fd [x0] []:=F.binds fun a b c d e g us hl=>uu1 us hl (h a b c d e g)
@[elab_as_elim] theorem uu2{P:List Value->Prop}(us:List Value)(hl:us.length=2)(h:∀a0 a1,P [a0,a1]):P us:=match us,hl with | [a0,a1],_=>h a0 a1
theorem bb2{K:Frg}{x q:Str}{st:Stmt}{f:Addr}{fd:FuncData}{x0 x1:Str}(F:Fun K x q st f fd)(h:∀(kV doc pm:Value) (an:Option Addr) (cdv ct:Value) (a0 a1:Value),bindArgs (W.fnOf x q (defArgs st) (defBody st) (defScope st) .none kV doc pm an cdv ct) ⟨[a0,a1],[]⟩=pure ([x0,x1].zip [a0,a1])):Binds K fd [x0,x1] []:=F.binds fun a b c d e g us hl=>uu2 us hl (h a b c d e g)
@[elab_as_elim] theorem uu3{P:List Value->Prop}(us:List Value)(hl:us.length=3)(h:∀a0 a1 a2,P [a0,a1,a2]):P us:=match us,hl with | [a0,a1,a2],_=>h a0 a1 a2
theorem bb3{K:Frg}{x q:Str}{st:Stmt}{f:Addr}{fd:FuncData}{x0 x1 x2:Str}(F:Fun K x q st f fd)(h:∀(kV doc pm:Value) (an:Option Addr) (cdv ct:Value) (a0 a1 a2:Value),bindArgs (W.fnOf x q (defArgs st) (defBody st) (defScope st) .none kV doc pm an cdv ct) ⟨[a0,a1,a2],[]⟩=pure ([x0,x1,x2].zip [a0,a1,a2])):Binds K fd [x0,x1,x2] []:=F.binds fun a b c d e g us hl=>uu3 us hl (h a b c d e g)
@[elab_as_elim] theorem uu4{P:List Value->Prop}(us:List Value)(hl:us.length=4)(h:∀a0 a1 a2 a3,P [a0,a1,a2,a3]):P us:=match us,hl with | [a0,a1,a2,a3],_=>h a0 a1 a2 a3
theorem bb4{K:Frg}{x q:Str}{st:Stmt}{f:Addr}{fd:FuncData}{x0 x1 x2 x3:Str}(F:Fun K x q st f fd)(h:∀(kV doc pm:Value) (an:Option Addr) (cdv ct:Value) (a0 a1 a2 a3:Value),bindArgs (W.fnOf x q (defArgs st) (defBody st) (defScope st) .none kV doc pm an cdv ct) ⟨[a0,a1,a2,a3],[]⟩=pure ([x0,x1,x2,x3].zip [a0,a1,a2,a3])):Binds K fd [x0,x1,x2,x3] []:=F.binds fun a b c d e g us hl=>uu4 us hl (h a b c d e g)
@[elab_as_elim] theorem uu5{P:List Value->Prop}(us:List Value)(hl:us.length=5)(h:∀a0 a1 a2 a3 a4,P [a0,a1,a2,a3,a4]):P us:=match us,hl with | [a0,a1,a2,a3,a4],_=>h a0 a1 a2 a3 a4
theorem bb5{K:Frg}{x q:Str}{st:Stmt}{f:Addr}{fd:FuncData}{x0 x1 x2 x3 x4:Str}(F:Fun K x q st f fd)(h:∀(kV doc pm:Value) (an:Option Addr) (cdv ct:Value) (a0 a1 a2 a3 a4:Value),bindArgs (W.fnOf x q (defArgs st) (defBody st) (defScope st) .none kV doc pm an cdv ct) ⟨[a0,a1,a2,a3,a4],[]⟩=pure ([x0,x1,x2,x3,x4].zip [a0,a1,a2,a3,a4])):Binds K fd [x0,x1,x2,x3,x4] []:=F.binds fun a b c d e g us hl=>uu5 us hl (h a b c d e g)
@[elab_as_elim] theorem uu6{P:List Value->Prop}(us:List Value)(hl:us.length=6)(h:∀a0 a1 a2 a3 a4 a5,P [a0,a1,a2,a3,a4,a5]):P us:=match us,hl with | [a0,a1,a2,a3,a4,a5],_=>h a0 a1 a2 a3 a4 a5
theorem bb6{K:Frg}{x q:Str}{st:Stmt}{f:Addr}{fd:FuncData}{x0 x1 x2 x3 x4 x5:Str}(F:Fun K x q st f fd)(h:∀(kV doc pm:Value) (an:Option Addr) (cdv ct:Value) (a0 a1 a2 a3 a4 a5:Value),bindArgs (W.fnOf x q (defArgs st) (defBody st) (defScope st) .none kV doc pm an cdv ct) ⟨[a0,a1,a2,a3,a4,a5],[]⟩=pure ([x0,x1,x2,x3,x4,x5].zip [a0,a1,a2,a3,a4,a5])):Binds K fd [x0,x1,x2,x3,x4,x5] []:=F.binds fun a b c d e g us hl=>uu6 us hl (h a b c d e g)
theorem j6K{K:Frg}{h:Heap}{mg:Str->Option Value}(X:K.In h)(G:h.Ns mainGlobals mg)
  {C_Stage:Addr}
  (aC_Stage:W.nsIn K mainGlobals "Stage"= some (some (.ref C_Stage))) (pg_Stage:W.plainGet K C_Stage Str.empty=true) (hd_Stage:W.hasDictIn K C_Stage=true) (po_Stage:W.plainOver K C_Stage=true) (sa_Stage:W.findIn K (.ref C_Stage) "__setattr__"= some (some (.builtin "object.__setattr__"))) (mk_Stage:W.makesIn K C_Stage=true) (kc_Stage:W.keepIn K (.ref C_Stage)=true) (qO:W.findIn K (.ref C_Stage) "limbs"= some none) (qM:W.findIn K (.ref C_Stage) "first"= some none) (qN:W.findIn K (.ref C_Stage) "forms"= some none) (Jn:W.findIn K (.ref C_Stage) "sizes"= some none) (Qe:W.findIn K (.ref C_Stage) "left"= some none) (qv:W.findIn K (.ref C_Stage) "pieces"= some none)
  {C_LimbTally:Addr}
  (aC_LimbTally:W.nsIn K mainGlobals "LimbTally"= some (some (.ref C_LimbTally))) (pg_LimbTally:W.plainGet K C_LimbTally Str.empty=true) (hd_LimbTally:W.hasDictIn K C_LimbTally=true) (po_LimbTally:W.plainOver K C_LimbTally=true) (sa_LimbTally:W.findIn K (.ref C_LimbTally) "__setattr__"= some (some (.builtin "object.__setattr__"))) (mk_LimbTally:W.makesIn K C_LimbTally=true) (kc_LimbTally:W.keepIn K (.ref C_LimbTally)=true) (jD:W.findIn K (.ref C_LimbTally) "strand"= some none) (Ja:W.findIn K (.ref C_LimbTally) "last"= some none) (Jg:W.findIn K (.ref C_LimbTally) "asked"= some none) (j7:W.findIn K (.ref C_LimbTally) "wholes"= some none)
  {C_Strand:Addr}
  (aC_Strand:W.nsIn K mainGlobals "Strand"= some (some (.ref C_Strand))) (pg_Strand:W.plainGet K C_Strand Str.empty=true) (hd_Strand:W.hasDictIn K C_Strand=true) (po_Strand:W.plainOver K C_Strand=true) (sa_Strand:W.findIn K (.ref C_Strand) "__setattr__"= some (some (.builtin "object.__setattr__"))) (mk_Strand:W.makesIn K C_Strand=true) (kc_Strand:W.keepIn K (.ref C_Strand)=true) (JT:W.findIn K (.ref C_Strand) "first"= some none) (j9:W.findIn K (.ref C_Strand) "sizes"= some none) (JP:W.findIn K (.ref C_Strand) "left"= some none) (Jk:W.findIn K (.ref C_Strand) "pieces"= some none) (qw:W.findIn K (.ref C_Strand) "begun"= some none)
  {f1:Addr} {d1:FuncData}
  (a1:W.nsIn K mainGlobals "_wall"= some (some (.ref f1))) (F1:Fun K "_wall" "_wall" XU f1 d1)
  {f2:Addr} {d2:FuncData}
  (a2:W.nsIn K mainGlobals "numbers_of"= some (some (.ref f2))) (F2:Fun K "numbers_of" "numbers_of" yE f2 d2)
  {f3:Addr} {d3:FuncData}
  (a3:W.nsIn K mainGlobals "names_in"= some (some (.ref f3))) (F3:Fun K "names_in" "names_in" Y6 f3 d3)
  {f4:Addr} {d4:FuncData}
  (a4:W.nsIn K mainGlobals "inner"= some (some (.ref f4))) (F4:Fun K "inner" "inner" wR f4 d4)
  {f5:Addr} {d5:FuncData}
  (a5:W.nsIn K mainGlobals "ends"= some (some (.ref f5))) (F5:Fun K "ends" "ends" j1O f5 d5)
  {f6:Addr} {d6:FuncData}
  (a6:W.nsIn K mainGlobals "moved"= some (some (.ref f6))) (F6:Fun K "moved" "moved" wS f6 d6)
  {f7:Addr} {d7:FuncData}
  (a7:W.nsIn K mainGlobals "check_side"= some (some (.ref f7))) (F7:Fun K "check_side" "check_side" Za f7 d7)
  {f8:Addr} {d8:FuncData}
  (a8:W.nsIn K mainGlobals "length_of"= some (some (.ref f8))) (F8:Fun K "length_of" "length_of" Yh f8 d8)
  {f9:Addr} {d9:FuncData}
  (a9:W.nsIn K mainGlobals "lengths"= some (some (.ref f9))) (F9:Fun K "lengths" "lengths" Z9 f9 d9)
  {f10:Addr} {d10:FuncData}
  (a10:W.nsIn K mainGlobals "floor_sum"= some (some (.ref f10))) (F10:Fun K "floor_sum" "floor_sum" Yg f10 d10)
  {f11:Addr} {d11:FuncData}
  (a11:W.nsIn K mainGlobals "ramp"= some (some (.ref f11))) (F11:Fun K "ramp" "ramp" j1P f11 d11)
  {f12:Addr} {d12:FuncData}
  (a12:W.nsIn K mainGlobals "ramp_sum"= some (some (.ref f12))) (F12:Fun K "ramp_sum" "ramp_sum" Y8 f12 d12)
  {f13:Addr} {d13:FuncData}
  (a13:W.nsIn K mainGlobals "reached"= some (some (.ref f13))) (F13:Fun K "reached" "reached" KP f13 d13)
  {f14:Addr} {d14:FuncData}
  (a14:W.nsIn K mainGlobals "stretch"= some (some (.ref f14))) (F14:Fun K "stretch" "stretch" KQ f14 d14)
  {f15:Addr} {d15:FuncData}
  (a15:W.nsIn K mainGlobals "ramp_count"= some (some (.ref f15))) (F15:Fun K "ramp_count" "ramp_count" yF f15 d15)
  {f16:Addr} {d16:FuncData}
  (a16:W.nsIn K mainGlobals "pieces_in"= some (some (.ref f16))) (F16:Fun K "pieces_in" "pieces_in" Yi f16 d16)
  {f17:Addr} {d17:FuncData}
  (a17:W.nsIn K mainGlobals "pieces_of"= some (some (.ref f17))) (F17:Fun K "pieces_of" "pieces_of" ZI f17 d17)
  {f18:Addr} {d18:FuncData}
  (a18:W.nsIn K mainGlobals "progress"= some (some (.ref f18))) (F18:Fun K "progress" "progress" Y7 f18 d18)
  {f19:Addr} {d19:FuncData}
  (a19:W.nsIn K mainGlobals "heights_begun"= some (some (.ref f19))) (F19:Fun K "heights_begun" "heights_begun" Qp f19 d19)
  {f20:Addr} {d20:FuncData}
  (a20:W.findIn K (.ref C_Strand) "__init__"= some (some (.ref f20))) (i20:W.isFn K (.ref f20)=true) (F20:Fun K "__init__" "Strand.__init__" qf f20 d20)
  {f21:Addr} {d21:FuncData}
  (a21:W.findIn K (.ref C_Strand) "raises"= some (some (.ref f21))) (i21:W.isFn K (.ref f21)=true) (F21:Fun K "raises" "Strand.raises" zM f21 d21)
  {f22:Addr} {d22:FuncData}
  (a22:W.nsIn K mainGlobals "weighed"= some (some (.ref f22))) (F22:Fun K "weighed" "weighed" KR f22 d22)
  {f23:Addr} {d23:FuncData}
  (a23:W.nsIn K mainGlobals "stayed"= some (some (.ref f23))) (F23:Fun K "stayed" "stayed" WE f23 d23)
  {f24:Addr} {d24:FuncData}
  (a24:W.findIn K (.ref C_LimbTally) "__init__"= some (some (.ref f24))) (i24:W.isFn K (.ref f24)=true) (F24:Fun K "__init__" "LimbTally.__init__" qe f24 d24)
  {f25:Addr} {d25:FuncData}
  (a25:W.findIn K (.ref C_LimbTally) "within"= some (some (.ref f25))) (i25:W.isFn K (.ref f25)=true) (F25:Fun K "within" "LimbTally.within" Qt f25 d25)
  {f26:Addr} {d26:FuncData}
  (a26:W.findIn K (.ref C_LimbTally) "ahead"= some (some (.ref f26))) (i26:W.isFn K (.ref f26)=true) (F26:Fun K "ahead" "LimbTally.ahead" Q4 f26 d26)
  {f27:Addr} {d27:FuncData}
  (a27:W.nsIn K mainGlobals "ahead_of"= some (some (.ref f27))) (F27:Fun K "ahead_of" "ahead_of" Y5 f27 d27)
  {f28:Addr} {d28:FuncData}
  (a28:W.nsIn K mainGlobals "height_count"= some (some (.ref f28))) (F28:Fun K "height_count" "height_count" Zz f28 d28)
  {f29:Addr} {d29:FuncData}
  (a29:W.nsIn K mainGlobals "beat_of"= some (some (.ref f29))) (F29:Fun K "beat_of" "beat_of" KO f29 d29)
  {od30 an30:Option Addr} {sl30:Array (Option Value)} {oc30 kV30 dc30 pm30 cd30 ct30:Value} {f30:Addr} {T30:Addr} {ot30:Value} {otd30:Option Addr} {ost30:Array (Option Value)} {n30:Nat} {tk0_30:Tok}
  (a30:W.nsIn K mainGlobals "first_at"= some (some (.ref f30))) (l30:K.lookup f30=some ⟨oc30,od30,.func (W.fnOf "first_at" "first_at" (defArgs zn) (defBody zn) (defScope zn) (.ref T30) kV30 dc30 pm30 an30 cd30 ct30),sl30⟩) (c30:W.codeIn K cd30 "first_at"= true) (k30:W.keepIn K (.ref f30)=true) (t30:K.lookup T30=some ⟨ot30,otd30,.seq #[.int 0 tk0_30] n30,ost30⟩)
  {f31:Addr} {d31:FuncData}
  (a31:W.nsIn K mainGlobals "within"= some (some (.ref f31))) (F31:Fun K "within" "within" WF f31 d31)
  {f32:Addr} {d32:FuncData}
  (a32:W.findIn K (.ref C_Stage) "__init__"= some (some (.ref f32))) (i32:W.isFn K (.ref f32)=true) (F32:Fun K "__init__" "Stage.__init__" qx f32 d32)
  {f33:Addr} {d33:FuncData}
  (a33:W.findIn K (.ref C_Stage) "scene"= some (some (.ref f33))) (i33:W.isFn K (.ref f33)=true) (F33:Fun K "scene" "Stage.scene" ZO f33 d33)
  {f34:Addr} {d34:FuncData}
  (a34:W.findIn K (.ref C_Stage) "heights_at"= some (some (.ref f34))) (i34:W.isFn K (.ref f34)=true) (F34:Fun K "heights_at" "Stage.heights_at" Qu f34 d34)
  {f35:Addr} {d35:FuncData}
  (a35:W.findIn K (.ref C_Stage) "words_at"= some (some (.ref f35))) (i35:W.isFn K (.ref f35)=true) (F35:Fun K "words_at" "Stage.words_at" zk f35 d35)
  {f36:Addr} {d36:FuncData}
  (a36:W.nsIn K mainGlobals "stand"= some (some (.ref f36))) (F36:Fun K "stand" "stand" XV f36 d36)
  {f37:Addr} {d37:FuncData}
  (a37:W.nsIn K mainGlobals "_law_cell_at"= some (some (.ref f37))) (F37:Fun K "_law_cell_at" "_law_cell_at" Zy f37 d37)
  {f38:Addr} {d38:FuncData}
  (a38:W.nsIn K mainGlobals "_law_mixed"= some (some (.ref f38))) (F38:Fun K "_law_mixed" "_law_mixed" yA f38 d38)
  {f39:Addr} {d39:FuncData}
  (a39:W.nsIn K mainGlobals "_law_whole"= some (some (.ref f39))) (F39:Fun K "_law_whole" "_law_whole" yD f39 d39)
  {f40:Addr} {d40:FuncData}
  (a40:W.nsIn K mainGlobals "_law_great"= some (some (.ref f40))) (F40:Fun K "_law_great" "_law_great" yz f40 d40)
  {f41:Addr} {d41:FuncData}
  (a41:W.nsIn K mainGlobals "_law_word"= some (some (.ref f41))) (F41:Fun K "_law_word" "_law_word" Yf f41 d41)
  {f42:Addr} {d42:FuncData}
  (a42:W.nsIn K mainGlobals "_law_named"= some (some (.ref f42))) (F42:Fun K "_law_named" "_law_named" zY f42 d42)
  {f43:Addr} {d43:FuncData}
  (a43:W.nsIn K mainGlobals "_law_form"= some (some (.ref f43))) (F43:Fun K "_law_form" "_law_form" Yb f43 d43)
  {f44:Addr} {d44:FuncData}
  (a44:W.nsIn K mainGlobals "_law_long"= some (some (.ref f44))) (F44:Fun K "_law_long" "_law_long" zI f44 d44)
  {f45:Addr} {d45:FuncData}
  (a45:W.nsIn K mainGlobals "_law_moves"= some (some (.ref f45))) (F45:Fun K "_law_moves" "_law_moves" yC f45 d45)
  {f46:Addr} {d46:FuncData}
  (a46:W.nsIn K mainGlobals "_law_last"= some (some (.ref f46))) (F46:Fun K "_law_last" "_law_last" Yd f46 d46)
  {f47:Addr} {d47:FuncData}
  (a47:W.nsIn K mainGlobals "_law_take"= some (some (.ref f47))) (F47:Fun K "_law_take" "_law_take" Ye f47 d47)
  {f48:Addr} {d48:FuncData}
  (a48:W.nsIn K mainGlobals "_law_naming"= some (some (.ref f48))) (F48:Fun K "_law_naming" "_law_naming" Qm f48 d48)
  {f49:Addr} {d49:FuncData}
  (a49:W.nsIn K mainGlobals "_law_form_told"= some (some (.ref f49))) (F49:Fun K "_law_form_told" "_law_form_told" zm f49 d49)
  {f50:Addr} {d50:FuncData}
  (a50:W.nsIn K mainGlobals "_law_book_told"= some (some (.ref f50))) (F50:Fun K "_law_book_told" "_law_book_told" zl f50 d50)
  {f51:Addr} {d51:FuncData}
  (a51:W.nsIn K mainGlobals "_law_book"= some (some (.ref f51))) (F51:Fun K "_law_book" "_law_book" Ya f51 d51)
  {f52:Addr} {d52:FuncData}
  (a52:W.nsIn K mainGlobals "_law_right"= some (some (.ref f52))) (F52:Fun K "_law_right" "_law_right" zZ f52 d52)
  {f53:Addr} {d53:FuncData}
  (a53:W.nsIn K mainGlobals "law"= some (some (.ref f53))) (F53:Fun K "law" "law" j4R f53 d53)
  {Qg:Addr}
  (g_MOST_NAMES:W.nsIn K mainGlobals "MOST_NAMES"= some (some (.ref Qg))) (kk_MOST_NAMES:TabK K Qg [("row",.flat (.int 8)),("side",.flat (.int 4))])
  (z0:W.nsIn K mainGlobals "abs"= some none) (z1:W.nsIn K mainGlobals "bool"= some none) (z2:W.nsIn K mainGlobals "dict"= some none) (z3:W.nsIn K mainGlobals "enumerate"= some none) (z4:W.nsIn K mainGlobals "int"= some none) (z5:W.nsIn K mainGlobals "isinstance"= some none) (z6:W.nsIn K mainGlobals "len"= some none) (z7:W.nsIn K mainGlobals "list"= some none) (z8:W.nsIn K mainGlobals "max"= some none) (z9:W.nsIn K mainGlobals "min"= some none) (z10:W.nsIn K mainGlobals "range"= some none) (z11:W.nsIn K mainGlobals "reversed"= some none) (z12:W.nsIn K mainGlobals "sorted"= some none) (z13:W.nsIn K mainGlobals "sum"= some none) (z14:W.nsIn K mainGlobals "tuple"= some none) (z15:W.nsIn K mainGlobals "zip"= some none) :
  ∃t:Ad,Txt K mg t:=by
 have F30:=j5s (st:=zn) l30 c30 k30;exact⟨⟨f1,_,f2,_,f3,_,f4,_,f5,_,f6,_,f7,_,f8,_,f9,_,f10,_,f11,_,f12,_,f13,_,f14,_,f15,_,f16,_,f17,_,f18,_,f19,_,f20,_,f21,_,f22,_,f23,_,f24,_,f25,_,f26,_,f27,_,f28,_,f29,_,f30,_,T30,f31,_,f32,_,f33,_,f34,_,f35,_,f36,_,f37,_,f38,_,f39,_,f40,_,f41,_,f42,_,f43,_,f44,_,f45,_,f46,_,f47,_,f48,_,f49,_,f50,_,f51,_,f52,_,f53,_,C_Strand,C_LimbTally,C_Stage,_⟩,⟨F1,W.mg_of X G a1,bb1 F1 fun _ _ _ _ _ _ _=>rfl,
  F2,W.mg_of X G a2,bb1 F2 fun _ _ _ _ _ _ _=>rfl,
  F3,W.mg_of X G a3,bb1 F3 fun _ _ _ _ _ _ _=>rfl,
  F4,W.mg_of X G a4,bb1 F4 fun _ _ _ _ _ _ _=>rfl,
  F5,W.mg_of X G a5,bb1 F5 fun _ _ _ _ _ _ _=>rfl,
  F6,W.mg_of X G a6,bb1 F6 fun _ _ _ _ _ _ _=>rfl,
  F7,W.mg_of X G a7,bb3 F7 fun _ _ _ _ _ _ _ _ _=>rfl,
  F8,W.mg_of X G a8,bb2 F8 fun _ _ _ _ _ _ _ _=>rfl,
  F9,W.mg_of X G a9,bb1 F9 fun _ _ _ _ _ _ _=>rfl,
  F10,W.mg_of X G a10,bb4 F10 fun _ _ _ _ _ _ _ _ _ _=>rfl,
  F11,W.mg_of X G a11,bb4 F11 fun _ _ _ _ _ _ _ _ _ _=>rfl,
  F12,W.mg_of X G a12,bb4 F12 fun _ _ _ _ _ _ _ _ _ _=>rfl,
  F13,W.mg_of X G a13,bb4 F13 fun _ _ _ _ _ _ _ _ _ _=>rfl,
  F14,W.mg_of X G a14,bb5 F14 fun _ _ _ _ _ _ _ _ _ _ _=>rfl,
  F15,W.mg_of X G a15,bb5 F15 fun _ _ _ _ _ _ _ _ _ _ _=>rfl,
  F16,W.mg_of X G a16,bb3 F16 fun _ _ _ _ _ _ _ _ _=>rfl,
  F17,W.mg_of X G a17,bb2 F17 fun _ _ _ _ _ _ _ _=>rfl,
  F18,W.mg_of X G a18,bb3 F18 fun _ _ _ _ _ _ _ _ _=>rfl,
  F19,W.mg_of X G a19,bb3 F19 fun _ _ _ _ _ _ _ _ _=>rfl,
  F20,⟨a20,i20,F20.kp⟩,bb3 F20 fun _ _ _ _ _ _ _ _ _=>rfl,
  F21,⟨a21,i21,F21.kp⟩,bb2 F21 fun _ _ _ _ _ _ _ _=>rfl,
  F22,W.mg_of X G a22,bb5 F22 fun _ _ _ _ _ _ _ _ _ _ _=>rfl,
  F23,W.mg_of X G a23,bb3 F23 fun _ _ _ _ _ _ _ _ _=>rfl,
  F24,⟨a24,i24,F24.kp⟩,bb4 F24 fun _ _ _ _ _ _ _ _ _ _=>rfl,
  F25,⟨a25,i25,F25.kp⟩,bb4 F25 fun _ _ _ _ _ _ _ _ _ _=>rfl,
  F26,⟨a26,i26,F26.kp⟩,bb2 F26 fun _ _ _ _ _ _ _ _=>rfl,
  F27,W.mg_of X G a27,bb2 F27 fun _ _ _ _ _ _ _ _=>rfl,
  F28,W.mg_of X G a28,bb4 F28 fun _ _ _ _ _ _ _ _ _ _=>rfl,
  F29,W.mg_of X G a29,bb2 F29 fun _ _ _ _ _ _ _ _=>rfl,
  F30,W.mg_of X G a30,(FunD.binds (ps:=["book","limb","height","beat"]) (ds:=[]) 4 F30 t30 rfl rfl fun _ _ _ _ _ _ us hl=>match us,hl with | [_,_,_,_],_=>⟨_,rfl,rfl⟩),
  ⟨[.int 0 tk0_30],(FunD.binds (ps:=["book","limb","height","beat"]) 3 F30 t30 rfl rfl fun _ _ _ _ _ _ us hl=>match us,hl with | [_,_,_],_=>⟨_,rfl,rfl⟩),(.cons ⟨_,rfl⟩ .nil)⟩,
  F31,W.mg_of X G a31,bb3 F31 fun _ _ _ _ _ _ _ _ _=>rfl,
  F32,⟨a32,i32,F32.kp⟩,bb2 F32 fun _ _ _ _ _ _ _ _=>rfl,
  F33,⟨a33,i33,F33.kp⟩,bb2 F33 fun _ _ _ _ _ _ _ _=>rfl,
  F34,⟨a34,i34,F34.kp⟩,bb2 F34 fun _ _ _ _ _ _ _ _=>rfl,
  F35,⟨a35,i35,F35.kp⟩,bb2 F35 fun _ _ _ _ _ _ _ _=>rfl,
  F36,W.mg_of X G a36,bb2 F36 fun _ _ _ _ _ _ _ _=>rfl,
  F37,W.mg_of X G a37,bb2 F37 fun _ _ _ _ _ _ _ _=>rfl,
  F38,W.mg_of X G a38,bb2 F38 fun _ _ _ _ _ _ _ _=>rfl,
  F39,W.mg_of X G a39,bb1 F39 fun _ _ _ _ _ _ _=>rfl,
  F40,W.mg_of X G a40,bb3 F40 fun _ _ _ _ _ _ _ _ _=>rfl,
  F41,W.mg_of X G a41,bb2 F41 fun _ _ _ _ _ _ _ _=>rfl,
  F42,W.mg_of X G a42,bb4 F42 fun _ _ _ _ _ _ _ _ _ _=>rfl,
  F43,W.mg_of X G a43,bb5 F43 fun _ _ _ _ _ _ _ _ _ _ _=>rfl,
  F44,W.mg_of X G a44,bb2 F44 fun _ _ _ _ _ _ _ _=>rfl,
  F45,W.mg_of X G a45,bb3 F45 fun _ _ _ _ _ _ _ _ _=>rfl,
  F46,W.mg_of X G a46,bb3 F46 fun _ _ _ _ _ _ _ _ _=>rfl,
  F47,W.mg_of X G a47,bb2 F47 fun _ _ _ _ _ _ _ _=>rfl,
  F48,W.mg_of X G a48,bb5 F48 fun _ _ _ _ _ _ _ _ _ _ _=>rfl,
  F49,W.mg_of X G a49,bb5 F49 fun _ _ _ _ _ _ _ _ _ _ _=>rfl,
  F50,W.mg_of X G a50,bb3 F50 fun _ _ _ _ _ _ _ _ _=>rfl,
  F51,W.mg_of X G a51,bb3 F51 fun _ _ _ _ _ _ _ _ _=>rfl,
  F52,W.mg_of X G a52,bb6 F52 fun _ _ _ _ _ _ _ _ _ _ _ _=>rfl,
  F53,W.mg_of X G a53,bb1 F53 fun _ _ _ _ _ _ _=>rfl,
  ⟨pg_Strand,hd_Strand,po_Strand,sa_Strand⟩,⟨mk_Strand,a20,i20,kc_Strand⟩,W.mg_of X G aC_Strand,JT,j9,JP,Jk,qw,
  ⟨pg_LimbTally,hd_LimbTally,po_LimbTally,sa_LimbTally⟩,⟨mk_LimbTally,a24,i24,kc_LimbTally⟩,W.mg_of X G aC_LimbTally,jD,Ja,Jg,j7,
  ⟨pg_Stage,hd_Stage,po_Stage,sa_Stage⟩,⟨mk_Stage,a32,i32,kc_Stage⟩,W.mg_of X G aC_Stage,qO,qM,qN,Jn,Qe,qv,
  W.mg_none_of X G z0,
  W.mg_none_of X G z1,
  W.mg_none_of X G z2,
  W.mg_none_of X G z3,
  W.mg_none_of X G z4,
  W.mg_none_of X G z5,
  W.mg_none_of X G z6,
  W.mg_none_of X G z7,
  W.mg_none_of X G z8,
  W.mg_none_of X G z9,
  W.mg_none_of X G z10,
  W.mg_none_of X G z11,
  W.mg_none_of X G z12,
  W.mg_none_of X G z13,
  W.mg_none_of X G z14,
  W.mg_none_of X G z15,
  W.mg_of X G g_MOST_NAMES,kk_MOST_NAMES⟩⟩
end K27
open PySem PySem.W PyProof.Rows
set_option maxRecDepth 100000 in
set_option maxHeartbeats 0 in
theorem PySem.Challenge.cw_camplay_k27_whole_first_stands_holds : PySem.Challenge.rw_camplay_k27_whole_first_stands.Holds := by
 w_on;o_law;k_head;(case hw=>w_witness2)
 k_fill
 refine L2.j5b (l:=PySem.Challenge.rw_camplay_k27_whole_first_stands) (n:=63) (k:=12) (x:="_law_script") (CX:=L2.CX0) (sp:=Pr.sp_law) rfl (by decide) rfl ⟨rfl,by decide,by decide⟩ (fun w h Y=>PySem.W.kIn_of Y) ?F (fun K H a ns hl hb hO hS=>⟨a,ns,rfl,hS,hl,hb,fun _=>rfl⟩) (fun _ _ _ _ z=>z)
 case F=>
  intro w mg fa h KX G hmg;have TT:∃t:K27.Ad,K27.Txt (L2.KOf KX) mg t:=by
   dsimp only[L2.KOf];refine' K27.j6K KX G ?aC_Stage ?pg_Stage ?hd_Stage ?po_Stage ?sa_Stage ?mk_Stage ?kc_Stage ?qO ?qM ?qN ?Jn ?Qe ?qv ?aC_LimbTally ?pg_LimbTally ?hd_LimbTally ?po_LimbTally ?sa_LimbTally ?mk_LimbTally ?kc_LimbTally ?jD ?Ja ?Jg ?j7 ?aC_Strand ?pg_Strand ?hd_Strand ?po_Strand ?sa_Strand ?mk_Strand ?kc_Strand ?JT ?j9 ?JP ?Jk ?qw ?a1 (L2.jK ?l1 ?c1 ?k1) ?a2 (L2.jK ?l2 ?c2 ?k2) ?a3 (L2.jK ?l3 ?c3 ?k3) ?a4 (L2.jK ?l4 ?c4 ?k4) ?a5 (L2.jK ?l5 ?c5 ?k5) ?a6 (L2.jK ?l6 ?c6 ?k6) ?a7 (L2.jK ?l7 ?c7 ?k7) ?a8 (L2.jK ?l8 ?c8 ?k8) ?a9 (L2.jK ?l9 ?c9 ?k9) ?a10 (L2.jK ?l10 ?c10 ?k10) ?a11 (L2.jK ?l11 ?c11 ?k11) ?a12 (L2.jK ?l12 ?c12 ?k12) ?a13 (L2.jK ?l13 ?c13 ?k13) ?a14 (L2.jK ?l14 ?c14 ?k14) ?a15 (L2.jK ?l15 ?c15 ?k15) ?a16 (L2.jK ?l16 ?c16 ?k16) ?a17 (L2.jK ?l17 ?c17 ?k17) ?a18 (L2.jK ?l18 ?c18 ?k18) ?a19 (L2.jK ?l19 ?c19 ?k19) ?a20 ?i20 (L2.jK ?l20 ?c20 ?k20) ?a21 ?i21 (L2.jK ?l21 ?c21 ?k21) ?a22 (L2.jK ?l22 ?c22 ?k22) ?a23 (L2.jK ?l23 ?c23 ?k23) ?a24 ?i24 (L2.jK ?l24 ?c24 ?k24) ?a25 ?i25 (L2.jK ?l25 ?c25 ?k25) ?a26 ?i26 (L2.jK ?l26 ?c26 ?k26) ?a27 (L2.jK ?l27 ?c27 ?k27) ?a28 (L2.jK ?l28 ?c28 ?k28) ?a29 (L2.jK ?l29 ?c29 ?k29) ?a30 ?l30 ?c30 ?k30 ?t30 ?a31 (L2.jK ?l31 ?c31 ?k31) ?a32 ?i32 (L2.jK ?l32 ?c32 ?k32) ?a33 ?i33 (L2.jK ?l33 ?c33 ?k33) ?a34 ?i34 (L2.jK ?l34 ?c34 ?k34) ?a35 ?i35 (L2.jK ?l35 ?c35 ?k35) ?a36 (L2.jK ?l36 ?c36 ?k36) ?a37 (L2.jK ?l37 ?c37 ?k37) ?a38 (L2.jK ?l38 ?c38 ?k38) ?a39 (L2.jK ?l39 ?c39 ?k39) ?a40 (L2.jK ?l40 ?c40 ?k40) ?a41 (L2.jK ?l41 ?c41 ?k41) ?a42 (L2.jK ?l42 ?c42 ?k42) ?a43 (L2.jK ?l43 ?c43 ?k43) ?a44 (L2.jK ?l44 ?c44 ?k44) ?a45 (L2.jK ?l45 ?c45 ?k45) ?a46 (L2.jK ?l46 ?c46 ?k46) ?a47 (L2.jK ?l47 ?c47 ?k47) ?a48 (L2.jK ?l48 ?c48 ?k48) ?a49 (L2.jK ?l49 ?c49 ?k49) ?a50 (L2.jK ?l50 ?c50 ?k50) ?a51 (L2.jK ?l51 ?c51 ?k51) ?a52 (L2.jK ?l52 ?c52 ?k52) ?a53 (L2.jK ?l53 ?c53 ?k53) ?g_MOST_NAMES ?kk_MOST_NAMES ?z0 ?z1 ?z2 ?z3 ?z4 ?z5 ?z6 ?z7 ?z8 ?z9 ?z10 ?z11 ?z12 ?z13 ?z14 ?z15
   (case aC_Strand=>k_is);(case pg_Strand=>k_is);(case hd_Strand=>k_is);(case po_Strand=>k_is);(case sa_Strand=>k_is);(case mk_Strand=>k_is);(case kc_Strand=>k_is);(case JT=>k_is);(case j9=>k_is);(case JP=>k_is);(case Jk=>k_is);(case qw=>k_is)
   (case aC_LimbTally=>k_is);(case pg_LimbTally=>k_is);(case hd_LimbTally=>k_is);(case po_LimbTally=>k_is);(case sa_LimbTally=>k_is);(case mk_LimbTally=>k_is);(case kc_LimbTally=>k_is);(case jD=>k_is);(case Ja=>k_is);(case Jg=>k_is);(case j7=>k_is)
   (case aC_Stage=>k_is);(case pg_Stage=>k_is);(case hd_Stage=>k_is);(case po_Stage=>k_is);(case sa_Stage=>k_is);(case mk_Stage=>k_is);(case kc_Stage=>k_is);(case qO=>k_is);(case qM=>k_is);(case qN=>k_is);(case Jn=>k_is);(case Qe=>k_is);(case qv=>k_is)
   (case a1=>k_is);(case l1=>k_is);(case c1=>k_is);(case k1=>k_is)
   (case a2=>k_is);(case l2=>k_is);(case c2=>k_is);(case k2=>k_is)
   (case a3=>k_is);(case l3=>k_is);(case c3=>k_is);(case k3=>k_is)
   (case a4=>k_is);(case l4=>k_is);(case c4=>k_is);(case k4=>k_is)
   (case a5=>k_is);(case l5=>k_is);(case c5=>k_is);(case k5=>k_is)
   (case a6=>k_is);(case l6=>k_is);(case c6=>k_is);(case k6=>k_is)
   (case a7=>k_is);(case l7=>k_is);(case c7=>k_is);(case k7=>k_is)
   (case a8=>k_is);(case l8=>k_is);(case c8=>k_is);(case k8=>k_is)
   (case a9=>k_is);(case l9=>k_is);(case c9=>k_is);(case k9=>k_is)
   (case a10=>k_is);(case l10=>k_is);(case c10=>k_is);(case k10=>k_is)
   (case a11=>k_is);(case l11=>k_is);(case c11=>k_is);(case k11=>k_is)
   (case a12=>k_is);(case l12=>k_is);(case c12=>k_is);(case k12=>k_is)
   (case a13=>k_is);(case l13=>k_is);(case c13=>k_is);(case k13=>k_is)
   (case a14=>k_is);(case l14=>k_is);(case c14=>k_is);(case k14=>k_is)
   (case a15=>k_is);(case l15=>k_is);(case c15=>k_is);(case k15=>k_is)
   (case a16=>k_is);(case l16=>k_is);(case c16=>k_is);(case k16=>k_is)
   (case a17=>k_is);(case l17=>k_is);(case c17=>k_is);(case k17=>k_is)
   (case a18=>k_is);(case l18=>k_is);(case c18=>k_is);(case k18=>k_is)
   (case a19=>k_is);(case l19=>k_is);(case c19=>k_is);(case k19=>k_is)
   (case a20=>k_is);(case i20=>k_is)
   (case l20=>k_is);(case c20=>k_is);(case k20=>k_is)
   (case a21=>k_is);(case i21=>k_is)
   (case l21=>k_is);(case c21=>k_is);(case k21=>k_is)
   (case a22=>k_is);(case l22=>k_is);(case c22=>k_is);(case k22=>k_is)
   (case a23=>k_is);(case l23=>k_is);(case c23=>k_is);(case k23=>k_is)
   (case a24=>k_is);(case i24=>k_is)
   (case l24=>k_is);(case c24=>k_is);(case k24=>k_is)
   (case a25=>k_is);(case i25=>k_is)
   (case l25=>k_is);(case c25=>k_is);(case k25=>k_is)
   (case a26=>k_is);(case i26=>k_is)
   (case l26=>k_is);(case c26=>k_is);(case k26=>k_is)
   (case a27=>k_is);(case l27=>k_is);(case c27=>k_is);(case k27=>k_is)
   (case a28=>k_is);(case l28=>k_is);(case c28=>k_is);(case k28=>k_is)
   (case a29=>k_is);(case l29=>k_is);(case c29=>k_is);(case k29=>k_is)
   (case a30=>k_is);(case l30=>k_is);(case c30=>k_is);(case k30=>k_is);(case t30=>k_is)
   (case a31=>k_is);(case l31=>k_is);(case c31=>k_is);(case k31=>k_is)
   (case a32=>k_is);(case i32=>k_is)
   (case l32=>k_is);(case c32=>k_is);(case k32=>k_is)
   (case a33=>k_is);(case i33=>k_is)
   (case l33=>k_is);(case c33=>k_is);(case k33=>k_is)
   (case a34=>k_is);(case i34=>k_is)
   (case l34=>k_is);(case c34=>k_is);(case k34=>k_is)
   (case a35=>k_is);(case i35=>k_is)
   (case l35=>k_is);(case c35=>k_is);(case k35=>k_is)
   (case a36=>k_is);(case l36=>k_is);(case c36=>k_is);(case k36=>k_is)
   (case a37=>k_is);(case l37=>k_is);(case c37=>k_is);(case k37=>k_is)
   (case a38=>k_is);(case l38=>k_is);(case c38=>k_is);(case k38=>k_is)
   (case a39=>k_is);(case l39=>k_is);(case c39=>k_is);(case k39=>k_is)
   (case a40=>k_is);(case l40=>k_is);(case c40=>k_is);(case k40=>k_is)
   (case a41=>k_is);(case l41=>k_is);(case c41=>k_is);(case k41=>k_is)
   (case a42=>k_is);(case l42=>k_is);(case c42=>k_is);(case k42=>k_is)
   (case a43=>k_is);(case l43=>k_is);(case c43=>k_is);(case k43=>k_is)
   (case a44=>k_is);(case l44=>k_is);(case c44=>k_is);(case k44=>k_is)
   (case a45=>k_is);(case l45=>k_is);(case c45=>k_is);(case k45=>k_is)
   (case a46=>k_is);(case l46=>k_is);(case c46=>k_is);(case k46=>k_is)
   (case a47=>k_is);(case l47=>k_is);(case c47=>k_is);(case k47=>k_is)
   (case a48=>k_is);(case l48=>k_is);(case c48=>k_is);(case k48=>k_is)
   (case a49=>k_is);(case l49=>k_is);(case c49=>k_is);(case k49=>k_is)
   (case a50=>k_is);(case l50=>k_is);(case c50=>k_is);(case k50=>k_is)
   (case a51=>k_is);(case l51=>k_is);(case c51=>k_is);(case k51=>k_is)
   (case a52=>k_is);(case l52=>k_is);(case c52=>k_is);(case k52=>k_is)
   (case a53=>k_is);(case l53=>k_is);(case c53=>k_is);(case k53=>k_is)
   (case g_MOST_NAMES=>k_is);(case kk_MOST_NAMES=>(show PyProof.Rows.KTD.tabLook _ _ _ _=true);kernel_rfl)
   (case z0=>k_is)
   (case z1=>k_is)
   (case z2=>k_is)
   (case z3=>k_is)
   (case z4=>k_is)
   (case z5=>k_is)
   (case z6=>k_is)
   (case z7=>k_is)
   (case z8=>k_is)
   (case z9=>k_is)
   (case z10=>k_is)
   (case z11=>k_is)
   (case z12=>k_is)
   (case z13=>k_is)
   (case z14=>k_is)
   (case z15=>k_is)
  obtain⟨t,T⟩:=TT;obtain⟨_,_,kV,dc,pm,an,cd,ct,_,e,_⟩:=T.j5X.ex;have e0:=hmg.symm.trans T.j6T;cases e0;refine⟨t.j0e,fun s v=>?_,fun base _ _=>K27.j5f T⟩;rw[e];exact .of_eq rfl
#print axioms PySem.Challenge.cw_camplay_k27_whole_first_stands_holds
