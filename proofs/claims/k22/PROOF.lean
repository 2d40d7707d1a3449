import PyProof.Rows.All
import Wide.All
import OpenK.AllK
import Wide.FinOn
import Lean
import PyProof.EqAt
import PyProof.EqKinds
import PyProof.TupleCall
import PySem.Challenge.RW_camplay_k22_heights_summed
set_option Elab.async false
set_option linter.all false
set_option maxRecDepth 100000
set_option maxHeartbeats 4000000
open List (all_cons all_eq_true any_cons any_eq_true append_nil cons_append cons_ne_nil ext_getElem ext_getElem? filterMap_cons filter_append filter_cons filter_nil flatMap_cons flatten_cons foldl_append foldl_cons getD_eq_getElem?_getD getElem_map getElem_mem getElem_range getElem_take length_cons length_filter_le length_map length_nil length_pos_iff length_pos_of_mem length_range length_replicate length_set length_singleton length_take length_zip lookup_cons map_append map_congr_left map_cons map_id map_map map_nil map_take mem_append mem_append_left mem_append_right mem_cons mem_cons_of_mem mem_cons_self mem_filter mem_filterMap mem_flatMap mem_iff_getElem mem_map mem_of_mem_take mem_range mem_singleton nil_append nodup_append nodup_cons nodup_nil not_mem_nil of_mem_zip pairwise_cons pairwise_iff_getElem pairwise_map pairwise_singleton range_succ replicate_succ size_toArray sum_cons take_length take_sublist)
abbrev vz:=@List.getElem?_eq_getElem
abbrev vy:=@List.getD_eq_getElem?_getD
abbrev vx:=@List.getElem?_eq_some_iff
abbrev vv:=@List.getElem?_map
abbrev vt:=@List.length_map
abbrev vq:=@List.mem_cons_self
abbrev vp:=@List.mem_cons_of_mem
abbrev vo:=@List.mem_singleton
abbrev vn:=@List.length_append
abbrev vm:=@List.mem_of_getElem?
abbrev vj:=@List.map_append
abbrev vi:=@List.length_take
abbrev vh:=@List.mem_append
abbrev vg:=@Option.map_eq_some_iff
abbrev vf:=@Int.emod_lt_of_pos
abbrev ve:=@Int.emod_nonneg
abbrev vd:=@if_pos
abbrev vc:=@if_neg
abbrev vb:=@Nat.le_refl
abbrev va:=@Nat.zero_le
abbrev vA:=@Int.le_refl
abbrev vB:=@List.getElem?_append_left
abbrev vC:=@List.getElem?_append_right
abbrev vD:=@Nat.lt_of_le_of_lt
abbrev vE:=@Nat.ne_of_lt
abbrev vF:=@Bool.false_ne_true
abbrev vG:=@decide_eq_true
abbrev vH:=@decide_eq_false
abbrev vI:=@PySem.Heap.lt_size
abbrev vJ:=@PySem.Heap.get?_push_of_some
abbrev vK:=@List.mem_map
abbrev vL:=@Option.some.inj
abbrev vM:=@Int.mul_nonneg
abbrev vN:=@Nat.ne_of_gt
abbrev vO:=@List.mem_filter
abbrev vP:=@List.length_cons
abbrev vS:=@List.getElem?_eq_none
abbrev vT:=@Int.mul_le_mul_of_nonneg_right
abbrev vU:=@List.pairwise_cons
abbrev vV:=@Nat.le_trans
abbrev vX:=@Nat.le_of_lt
abbrev vY:=@Nat.lt_trans
abbrev vZ:=@Int.emod_eq_of_lt
abbrev v2:=@List.mem_range
abbrev v3:=@List.take_length
abbrev v4:=@List.map_map
abbrev v5:=@List.foldl_cons
abbrev v6:=@List.filter_cons
abbrev v7:=@List.map_cons
abbrev v8:=@List.sum_cons
abbrev uz:=@Int.zero_add
abbrev uw:=@Int.one_mul
abbrev uu:=@Nat.sub_self
abbrev ut:=@List.getElem?_take_of_lt
abbrev ur:=@List.nodup_cons
abbrev um:=@PySem.wpAny_bind
abbrev uk:=@PySem.wpAny_pure
abbrev uh:=@absurd
theorem ug:1<=PySem.sizeLine:=by decide
theorem uf:2<=PySem.sizeLine:=by decide
theorem ue:3<=PySem.sizeLine:=by decide
theorem ud:4<=PySem.sizeLine:=by decide
abbrev Frg := PySem.W.Frag
namespace L2
open PySem PySem.Spec PyProof.Rows
noncomputable abbrev Key:=Sum Int Str
noncomputable def keyIs:Key->Value->Bool
 | .inl k,v=>Value.isInt k v
 | .inr x,v=>Value.isStrOf x v
noncomputable def keyH(w:World):Key->Int
 | .inl k=>hashInt k
 | .inr x=>hashStr w x
theorem Jx:∀{k:Key} {v:Value},keyIs k v=true->(∃i t,k=Sum.inl i/\v=Value.int i t)\/(∃x t,k=Sum.inr x/\v=Value.str x t)
 | .inl i,v,h=>by
  obtain⟨t,e⟩:=Value.isInt_shape (k:=i) (v:=v) h;exact .inl ⟨i,t,rfl,e⟩
 | .inr x,v,h=>by
  obtain⟨t,e⟩:=Value.isStrOf_shape (x:=x) (v:=v) h;exact .inr ⟨x,t,rfl,e⟩
theorem kr(i:Int)(t:Tok):keyIs (.inl i) (.int i t)=true:=by simp[keyIs,Value.isInt]
theorem Wl(x:Str)(t:Tok):keyIs (.inr x) (.str x t)=true:=by simp[keyIs,Value.isStrOf]
theorem j4O(a b:Int):decide ((Sum.inl a:Key)=Sum.inl b)=(a==b):=by
 by_cases e:a=b
 ·subst e;simp
 ·have h:¬(Sum.inl a:Key)=Sum.inl b:=fun q=>e (Sum.inl.inj q)
  rw[vH h];exact(beq_eq_false_iff_ne.mpr e).symm
theorem j4R(a b:Str):decide ((Sum.inr a:Key)=Sum.inr b)=decide (a=b):=by
 by_cases e:a=b
 ·subst e;simp
 ·have h:¬(Sum.inr a:Key)=Sum.inr b:=fun q=>e (Sum.inr.inj q)
  rw[vH h,vH e]
theorem j4P(a:Int)(b:Str):decide ((Sum.inl a:Key)=Sum.inr b)=false:=vH (fun q=>nomatch q)
theorem j4Q(a:Str)(b:Int):decide ((Sum.inr a:Key)=Sum.inl b)=false:=vH (fun q=>nomatch q)
noncomputable def mixKind(prog:Program)(w:World):PySem.KeyKind prog w Key where
 is:=keyIs
 hash:=keyH w
 inj:=fun v a b ha hb=>by
  rcases Jx ha with⟨i,t,rfl,rfl⟩ | ⟨x,t,rfl,rfl⟩
  ·rcases Jx hb with⟨j,u,rfl,e⟩ | ⟨y,u,rfl,e⟩
   ·injection e with e1 _;rw[e1]
   ·exact nomatch e
  ·rcases Jx hb with⟨j,u,rfl,e⟩ | ⟨y,u,rfl,e⟩
   ·exact nomatch e
   ·injection e with e1 _;rw[e1]
 byValue:=fun k v h=>by
  rcases Jx h with⟨i,t,rfl,rfl⟩ | ⟨x,t,rfl,rfl⟩<;>rfl
 pyHash:=fun hv h=>by
  rcases Jx hv with⟨i,t,rfl,rfl⟩ | ⟨x,t,rfl,rfl⟩
  ·exact wpAny_pyHash_int h
  ·exact wpAny_pyHash_str h
 eqBool:=fun hu hv h=>by
  rcases Jx hu with⟨i,t,rfl,rfl⟩ | ⟨x,t,rfl,rfl⟩
  ·rcases Jx hv with⟨j,u,rfl,rfl⟩ | ⟨y,u,rfl,rfl⟩
   ·rw[j4O]at h;exact wpAny_eqBool_int h
   ·rw[j4P]at h;exact SeqAt.EqAt.int_str i t y u _ _ _ _ h
  ·rcases Jx hv with⟨j,u,rfl,rfl⟩ | ⟨y,u,rfl,rfl⟩
   ·rw[j4Q]at h;exact SeqAt.EqAt.str_int x t j u _ _ _ _ h
   ·rw[j4R]at h;exact wpAny_eqBool_str h
 «strs»:=fun k x t v h=>by
  rcases Jx h with⟨i,u,rfl,e⟩ | ⟨y,u,rfl,e⟩
  ·exact nomatch e
  ·injection e with e1 _;subst e1;cases v<;>rfl
theorem Xr(prog:Program)(w:World)(i:Int)(t:Tok):(mixKind prog w).is (.inl i) (.int i t)=true:=kr i t
theorem Xs(prog:Program)(w:World)(x:Str)(t:Tok):(mixKind prog w).is (.inr x) (.str x t)=true:=Wl x t
inductive V where
 | non | bl (b:Bool) | int (i:Int) | str (x:Str) | byt (b:Array UInt8) | flt (b:UInt64) | ref (a:Addr) | ty (n:String)
 deriving DecidableEq
noncomputable def RelV:V->Value->Prop
 | .non,u=>u=Value.none
 | .bl b,u=>u=Value.bool b
 | .int i,u=>∃t,u=Value.int i t
 | .str x,u=>∃t,u=Value.str x t
 | .byt b,u=>∃t,u=Value.bytes b t
 | .flt b,u=>∃t,u=Value.float b t
 | .ref a,u=>u=Value.ref a
 | .ty n,u=>u=Value.type n
noncomputable abbrev Vals:List V->List Value->Prop:=Paired RelV
theorem Vals.length(r:Vals xs us):xs.length=us.length:=Paired.length r
theorem Vals.get:∀{xs:List V} {us:List Value} {i:Nat} {x:V},Vals xs us->xs[i]?=some x->∃u,us[i]?=some u/\RelV x u
 | _,_,_,_,.nil,e=>by simp at e
 | _,_,0,_,.cons r _,e=>by simp at e;subst e;exact⟨_,rfl,r⟩
 | _,_,i+1,x,.cons _ t,e=>by
  obtain⟨u,a,b⟩:=Vals.get (i:=i) (x:=x) t (by simpa using e);exact⟨u,by simpa using a,b⟩
theorem Vals.set(r:RelV x u):∀{xs:List V} {us:List Value} (i:Nat),Vals xs us->Vals (xs.set i x) (us.set i u)
 | _,_,_,.nil=>.nil
 | _,_,0,.cons _ t=>.cons r t
 | _,_,i+1,.cons q t=>.cons q (Vals.set r i t)
theorem Vals.append:∀{xs ys:List V} {us a:List Value},Vals xs us->Vals ys a->Vals (xs++ys) (us++a)
 | _,_,_,_,.nil,s=>s
 | _,_,_,_,.cons r t,s=>.cons r (Vals.append t s)
theorem Vals.take:∀{xs:List V} {us:List Value} (n:Nat),Vals xs us->Vals (xs.take n) (us.take n)
 | _,_,0,_=>.nil
 | _,_,_+1,.nil=>.nil
 | _,_,n+1,.cons r t=>.cons r (Vals.take n t)
theorem Vals.drop:∀{xs:List V} {us:List Value} (n:Nat),Vals xs us->Vals (xs.drop n) (us.drop n)
 | _,_,0,r=>r
 | _,_,_+1,.nil=>.nil
 | _,_,n+1,.cons _ t=>Vals.drop n t
noncomputable def RelO:Option V->Option Value->Prop
 | some v,some u=>RelV v u
 | none,none=>True
 | _,_=>False
noncomputable def KV{κ:Type}:List (κ×V)->List (κ×Value)->Prop:=Paired fun(p:κ×V) (q:κ×Value)=>p.1=q.1/\RelV p.2 q.2
noncomputable def kV:Key->V
 | .inl i=>.int i
 | .inr x=>.str x
inductive HO where
 | lst (xs:List V)
 | tup (xs:List V)
 | dK (kvs:List (Key×V)) | dT (kvs:List (List Key×V))
 | set (S:Int->Bool) (n:Nat)
 | ins (C dx:Addr) (fs:List (Str×V))
 | own (x:Addr)
 | xd (fs:List (Str×V))
 | met (f x:Addr)
 | rng (lo hi:Int)
 | frz (o:Obj) (u:HO)
 | tbl (ps:Array Value)
 | ext (φ:Heap->Prop)
noncomputable abbrev Hp:=Addr->Option HO
noncomputable def upd(H:Hp)(a:Addr)(o:HO):Hp:=fun b=>if b=a then some o else H b
theorem jG{H:Hp}:upd H a o a=some o:=by unfold upd;rw[vd rfl]
theorem jh{H:Hp}(h:b≠a):upd H a o b=H b:=by unfold upd;rw[vc h]
theorem Jq{H:Hp}(h:H a=some o)(h':H b=some u)(d:o≠u):a≠b:=by
 intro e;subst e;rw[h]at h';exact d (vL h')
theorem je{H:Hp}(h:H a=some o)(h':H b=none):a≠b:=by
 intro e;subst e;rw[h]at h';cases h'
section
variable(P:Program)(w:World)
noncomputable def ObjOk(H:Hp)(h:Heap)(a:Addr):HO->Prop
 | .lst xs=>xs.length<=sizeLine/\∃(its:List Value) (n:Nat),Vals xs its/\h.get? a=some {cls:=.type "list",data:=.seq its.toArray n}
 | .tup xs=>xs.length<=sizeLine/\∃its:List Value,Vals xs its/\IsTup h a its.toArray
 | .dK kvs=>kvs.length<=sizeLine/\(a==sysModules)=false/\∃vs,KV kvs vs/\h.DictOf (mixKind P w) a vs
 | .dT kvs=>kvs.length<=sizeLine/\(a==sysModules)=false/\∃xs:List (List Key×Addr×Value),
   Paired (fun(p:List Key×V) (q:List Key×Addr×Value)=>p.1=q.1/\H q.2.1=some (.tup (p.1.map kV))/\RelV p.2 q.2.2) kvs xs/\
   ∃o es ep,h.get? a=some o/\o.ExactDict/\o.data = .dict es ep/\es.toList=xs.map (entryOfKey (tupleKind (mixKind P w)))/\(xs.map (·.1)).Nodup
 | .set S n=>h.SetOf (intKind P w) a S n
 | .ins C dx fs=>H dx=some (.own a)/\fs.length<=1000/\dx≠a/\h.get? a=some (PySem.W.instObj C dx)/\
   ∃mA,h.Ns1 dx mA/\(∀f,RelO (fs.lookup f) (mA f))/\PySem.Within mA (fs.map (·.1))
 | .own _=>∃o,h.get? a=some o
 | .xd fs=>∃mA,h.Ns1 a mA/\∀f,RelO (fs.lookup f) (mA f)
 | .rng lo hi=>∃t u v,h.get? a=some {cls:=.type "range",data:=.fields #[.int lo t,.int hi u,.int 1 v]}
 | .frz o u=>h.get? a=some o/\ObjOk H h a u
 | .tbl ps=>h.get? a=some {cls:=.none,data:=.fields ps}
 | .met f x=>h.get? a=some (PySem.W.methodObj (.ref f) (.ref x))
 | .ext φ=>φ h/\(∃o,h.get? a=some o)/\∀h1 h2:Heap,φ h1->(∀o,h1.get? a=some o->h2.get? a=some o)->φ h2
def HOk(H:Hp)(h:Heap):Prop:=∀a o,H a=some o->ObjOk P w H h a o
end
section
variable{P:Program}{w:World}{H H':Hp}{h h':Heap}{a:Addr}{o:HO}
theorem ObjOk.lt(x:ObjOk P w H h a o):a<h.objs.size:=by
 cases o with
 | lst xs=>obtain⟨_,_,_,_,e⟩:=x;exact vI e
 | tup xs=>obtain⟨_,_,_,p⟩:=x;exact p.lt
 | dK kvs=>obtain⟨_,_,_,_,o,_,_,e,_⟩:=x;exact vI e
 | dT kvs=>obtain⟨_,_,_,_,o,_,_,e,_⟩:=x;exact vI e
 | set S n=>obtain⟨o,_,_,_,e,_⟩:=x;exact vI e
 | ins C dx fs=>obtain⟨_,_,_,e,_⟩:=x;exact vI e
 | own y=>obtain⟨_,e⟩:=x;exact vI e
 | xd fs=>obtain⟨_,⟨_,_,_,e,_⟩,_⟩:=x;exact vI e
 | rng lo hi=>obtain⟨_,_,_,e⟩:=x;exact vI e
 | frz ob u=>obtain⟨e,_⟩:=x;exact vI e
 | tbl ps=>exact vI (show h.get? a=some _ from x)
 | met f y=>exact vI (show h.get? a=some _ from x)
 | ext φ=>obtain⟨_,⟨_,e⟩,_⟩:=x;exact vI e
theorem Paired.mapP{e g:Type}{F G:e->g->Prop}:∀{c:List e} {d:List g},Paired F c d->(∀a b,F a b->G a b)->Paired G c d
 | _,_,.nil,_=>.nil
 | _,_,.cons r t,f=>.cons (f _ _ r) (Paired.mapP t f)
theorem ObjOk.stay(x:ObjOk P w H h a o)(k:∀b u,(b=a\/H b=some (.own a))->h.get? b=some u->h'.get? b=some u)
  (D:∀b,H b=some (.own a)->H' b=some (.own a)) (E:∀b xs,H b=some (.tup xs)->H' b=some (.tup xs)):ObjOk P w H' h' a o:=by
 induction o with
 | lst xs=>obtain⟨z,l,n,r,e⟩:=x;exact⟨z,l,n,r,k _ _ (.inl rfl) e⟩
 | tup xs=>obtain⟨z,l,r,g,e,c⟩:=x;exact⟨z,l,r,g,k _ _ (.inl rfl) e,c⟩
 | dK kvs=>obtain⟨z,y,J,r,g,j,i,e,c⟩:=x;exact⟨z,y,J,r,g,j,i,k _ _ (.inl rfl) e,c⟩
 | dT kvs=>
  obtain⟨z,y,xs,r,g,j,i,e,c⟩:=x;exact⟨z,y,xs,Paired.mapP r fun p q z=>⟨z.1,E _ _ z.2.1,z.2.2⟩,g,j,i,k _ _ (.inl rfl) e,c⟩
 | set S n=>obtain⟨g,j,i,t,e,c⟩:=x;exact⟨g,j,i,t,k _ _ (.inl rfl) e,c⟩
 | ins C dx fs=>
  obtain⟨d,z,I,e,m,⟨s,j,i,B,c⟩,r⟩:=x;exact⟨D _ d,z,I,k _ _ (.inl rfl) e,m,⟨s,j,i,k _ _ (.inr d) B,c⟩,r⟩
 | own y=>obtain⟨g,e⟩:=x;exact⟨g,k _ _ (.inl rfl) e⟩
 | xd fs=>obtain⟨m,⟨s,j,i,e,c⟩,r⟩:=x;exact⟨m,⟨s,j,i,k _ _ (.inl rfl) e,c⟩,r⟩
 | rng lo hi=>obtain⟨t,u,v,e⟩:=x;exact⟨t,u,v,k _ _ (.inl rfl) e⟩
 | frz g u ih=>obtain⟨e,q⟩:=x;exact⟨k _ _ (.inl rfl) e,ih q⟩
 | tbl ps=>
  have e:h.get? a=some {cls:=.none,data:=.fields ps}:=x;show h'.get? a=some {cls:=.none,data:=.fields ps};exact k a _ (.inl rfl) e
 | met f y=>
  have e:h.get? a=some (PySem.W.methodObj (.ref f) (.ref y)):=x;show h'.get? a=some (PySem.W.methodObj (.ref f) (.ref y));exact k a _ (.inl rfl) e
 | ext φ=>obtain⟨p,⟨o,e⟩,A⟩:=x;exact⟨A _ _ p fun o q=>k _ _ (.inl rfl) q,⟨o,k _ _ (.inl rfl) e⟩,A⟩
theorem HOk.lt(x:HOk P w H h)(e:H a=some o):a<h.objs.size:=(x a o e).lt
theorem HOk.fresh(x:HOk P w H h)(e:h.objs.size<=a):H a=none:=by
 cases q:H a with
 | none=>rfl
 | some u=>exact uh (Nat.lt_of_lt_of_le (x.lt q) e) (Nat.lt_irrefl _)
theorem HOk.kept(x:HOk P w H h)(k:∀b u,h.get? b=some u->h'.get? b=some u):HOk P w H h':=fun a o e=>
 (x a o e).stay (fun b u _ q=>k b u q) (fun _ q=>q) fun _ _ q=>q
theorem HOk.laid(x:HOk P w H h)(k:∀b u,h.get? b=some u->h'.get? b=some u)(i:h.objs.size<=a)(d:ObjOk P w (upd H a o) h' a o):HOk P w (upd H a o) h':=fun b u e=>by
 have g:=x.fresh i;by_cases f:b=a
 ·subst f;rw[jG]at e;cases e;exact d
 ·rw[jh f]at e;exact(x b u e).stay (fun c v _ q=>k c v q) (fun c q=>by rw[jh (je q g)];exact q) fun c j q=>by rw[jh (je q g)];exact q
end
def Rd(H:Hp)(a:Addr)(u:HO):Prop:=H a=some u\/∃o,H a=some (.frz o u)
theorem Rd.ok{H:Hp}(r:Rd H a u)(x:HOk P w H h):ObjOk P w H h a u:=by
 rcases r with r | ⟨o,r⟩
 ·exact x a u r
 ·obtain⟨_,q⟩:=x a _ r;exact q
noncomputable def Mut:Option HO->Prop
 | some (.lst _)=>True
 | some (.dK _)=>True
 | some (.dT _)=>True
 | some (.set _ _)=>True
 | some (.ins _ _ _)=>True
 | some (.ext _)=>True
 | _=>False
section
variable{P:Program}{w:World}{H:Hp}{h h':Heap}{x e:Addr}{o':HO}
theorem HOk.write(t:HOk P w H h)(j:Mut (H x))(o:e=x\/H e=some (.own x))(k:∀b u,b≠e->h.get? b=some u->h'.get? b=some u)(m:∃u,h'.get? e=some u)
  (n:ObjOk P w (upd H x o') h' x o'):HOk P w (upd H x o') h':=fun b u q=>by
 have d:∀c y,H c=some (.own y)->c≠x:=fun c y r z=>by subst z;rw[r]at j;exact j
 have f:∀c l,H c=some (.tup l)->c≠x:=fun c l r z=>by subst z;rw[r]at j;exact j
 by_cases g:b=x
 ·subst g;rw[jG]at q;cases q;exact n
 ·rw[jh g]at q;by_cases a:b=e
  ·have p:H b=some (.own x):=by
    rcases o with z | z
    ·exact uh (a.trans z) g
    ·rw[a];exact z
   rw[q]at p;cases p;obtain⟨v,s⟩:=m;exact⟨v,by rw[a];exact s⟩
  ·refine(t b u q).stay (fun c v i r=>k c v ?_ r) (fun c r=>by rw[jh (d c b r)];exact r) fun c l r=>by rw[jh (f c l r)];exact r
   rcases i with rfl | i
   ·exact a
   ·rintro rfl;rcases o with z | z
    ·exact d c b i z
    ·rw[i]at z;cases z;exact g rfl
end
structure Un(fs ex:List Addr)(H H':Hp)(h h':Heap):Prop where
 keep:∀b o,h.get? b=some o->H b=none->b∉fs->b∉ex->h'.get? b=some o
 slot:∀b o,h.get? b=some o->H b=none->b∈fs->b∉ex->∃sl,h'.get? b=some {o with slots:=sl}
 free:∀b o,h.get? b=some o->H b=none->b∉ex->H' b=none
 there:∀b o,h.get? b=some o->b∉ex->∃o',h'.get? b=some o'
 tups:∀b xs,H b=some (.tup xs)->H' b=some (.tup xs)
 frzs:∀b o u,H b=some (.frz o u)->H' b=some (.frz o u)
 tbls:∀b ps,H b=some (.tbl ps)->∃more,H' b=some (.tbl (ps++more))
section
variable{fs fs' ex ex':List Addr}{H H1 H2:Hp}{h h1 h2 h':Heap}{a x e:Addr}{o:HO}
theorem Un.any(u:Un fs ex H H1 h h1)(q:h.get? b=some ob)(n:H b=none)(c:b∉ex):∃d,h1.get? b=some {ob with slots:=d}:=by
 by_cases a:b∈fs
 ·exact u.slot b ob q n a c
 ·exact⟨ob.slots,u.keep b ob q n a c⟩
theorem Un.kept(k:∀b u,h.get? b=some u->h'.get? b=some u):Un fs ex H H h h':=
 ⟨fun b a q _ _ _=>k b a q,fun b a q _ _ _=>⟨a.slots,k b a q⟩,fun _ _ _ n _=>n,fun b a q _=>⟨a,k b a q⟩,fun _ _ q=>q,fun _ _ _ q=>q,fun _ c q=>⟨#[],by rw[q];simp⟩⟩
theorem Un.refl:Un fs ex H H h h:=Un.kept fun _ _ q=>q
theorem Un.laid(k:∀b u,h.get? b=some u->h'.get? b=some u)(d:h.objs.size<=a)(c:H a=none):Un fs ex H (upd H a o) h h' where
 keep:=fun b u q _ _ _=>k b u q
 slot:=fun b u q _ _ _=>⟨u.slots,k b u q⟩
 free:=fun b u q n _=>by rw[jh (vE (Nat.lt_of_lt_of_le (vI q) d))];exact n
 there:=fun b u q _=>⟨u,k b u q⟩
 tups:=fun b e q=>by rw[jh (je q c)];exact q
 frzs:=fun b u e q=>by rw[jh (je q c)];exact q
 tbls:=fun b f q=>⟨#[],by rw[jh (je q c),q];simp⟩
theorem Un.write(c:Mut (H x))(j:e=x\/H e=some (.own x))(k:∀b u,b≠e->h.get? b=some u->h'.get? b=some u)(d:∃u,h'.get? e=some u):Un fs ex H (upd H x o) h h':=by
 have i:∀b,H b=none->b≠x:=fun b n z=>by subst z;rw[n]at c;exact c
 have g:∀b,H b=none->b≠e:=fun b n z=>by
  subst z;rcases j with r | r
  ·exact i b n r
  ·rw[n]at r;cases r
 have f:∀b u,H b=some u->¬Mut (some u)->b≠x:=fun b u q l z=>by subst z;rw[q]at c;exact l c
 refine⟨fun b u q n _ _=>k b u (g b n) q,fun b u q n _ _=>⟨u.slots,k b u (g b n) q⟩,fun b u q n _=>by rw[jh (i b n)];exact n,fun b u q _=>?_,
  fun b m q=>by rw[jh (f b _ q fun z=>z)];exact q,fun b u m q=>by rw[jh (f b _ q fun z=>z)];exact q,fun b p q=>⟨#[],by rw[jh (f b _ q fun z=>z),q];simp⟩⟩
 by_cases a:b=e
 ·subst a;exact d
 ·exact⟨u,k b u a q⟩
end
noncomputable def trk(h:Heap)(H:Hp):List Addr:=(List.range h.objs.size).filter fun a=>(H a).isSome
noncomputable def hidT(h:Heap)(H:Hp):Heap:=PySem.W.hideAll h (trk h H)
theorem j1t(h:Heap)(H:Hp):(hidT h H).objs.size=h.objs.size:=PySem.W.hideAll_size _ _
theorem j2z{H:Hp}(e:h.get? b=some o)(n:H b=none):(hidT h H).get? b=some o:=
 PySem.W.hideAll_get _ e fun a=>by
  have q:(H b).isSome=true:=(vO.mp a).2;rw[n]at q;simp at q
theorem j4d{H:Hp}(e:(hidT h H).get? b=some o):h.get? b=some o/\H b=none:=by
 have a:h.get? b=some o:=PySem.W.of_hideAll (trk h H) e;refine⟨a,?_⟩;cases q:H b with
 | none=>rfl
 | some x=>
  have c:b∈trk h H:=vO.mpr ⟨v2.mpr (vI a),by simp[q]⟩;have z:(hidT h H).get? b=none:=PySem.W.hideAll_none (trk h H) c;rw[z]at e;cases e
structure Mod(K:Frg)(mg:Str->Option Value)(base:Heap):Prop where
 kin:K.In base
 glob:base.Ns mainGlobals mg
 blt:∃mb,base.Ns builtinsNs mb/\∀x:Str,x≠"__name__"->mb x=bootBuiltins x
 nolimit:base.NoLimit
structure Cx where
 prog:Program
 w:World
 K:Frg
 mg:Str->Option Value
 base:Heap
 A:Around
 N:List Str
 s₀:Shared
 H₀:Hp
 env:Env
 outer:List Env
 stack:List Env
 ex:List Addr
 fn:Str->Bool
 calm:Bool
 pn:List (Addr×Obj)
 xe:Value->Shared->Prop
noncomputable def frs(l:List Env):List Addr:=l.filterMap (·.frame)
noncomputable abbrev Cx.fs(X:Cx):List Addr:=frs X.outer
def Vis(sc:Scope)(x:Str):Prop:=sc.names.lookup x=some .local\/sc.names.lookup x=some .cell\/sc.names.lookup x=some .free
def Loc(sc:Scope)(x:Str):Prop:=sc.names.lookup x=some .local\/sc.names.lookup x=some .cell
def Look(env:Env)(h:Heap)(m:Str->Option Value)(x:Str)(u:Value):Prop:=
 (env.kindOf x=some .local/\m x=some u)\/((env.kindOf x=some .cell\/env.kindOf x=some .free)/\∃c,env.cells.lookup x=some c/\h.IsCell c (some u))
structure Cx.Ok(X:Cx):Prop where
 mod:Mod X.K X.mg X.base
 kind:X.env.scope.kind = .function
 glob:X.env.globals=mainGlobals
 blt:X.env.builtins=builtinsNs
 above:X.s₀.heap.objs.size<=X.env.locals
 inj:∀x y c,X.env.cells.lookup x=some c->X.env.cells.lookup y=some c->x=y
 has:∀x,(X.env.kindOf x=some .cell\/X.env.kindOf x=some .free)->∃c,X.env.cells.lookup x=some c
 cab:∀x c,X.fn x=true->X.env.cells.lookup x=some c->X.s₀.heap.objs.size<=c
 hd:X.calm=true->X.A.handled=none
 frames:X.A.frames=some X.stack
 stk:X.stack=X.outer\/(X.stack=X.env::X.outer/\X.env.frame=some X.env.locals)
 exf:∀b∈X.ex,b≠X.env.locals/\∀x c,X.env.cells.lookup x=some c->c≠b
 bs:∀b o,X.base.get? b=some o->X.s₀.heap.get? b=some o/\X.H₀ b=none
 bsz:X.base.objs.size<=X.s₀.heap.objs.size
 noex:∀b o,X.base.get? b=some o->b∉X.ex
 exfs:∀b∈X.ex,b∉X.fs
 funs:X.s₀.heap.FunFrames X.base X.outer
 frf:∀b∈X.fs,X.H₀ b=none
structure Inv(X:Cx)(pins:List (Addr×Obj))(σ:List (Option V))(H:Hp)(s:Shared):Prop where
 ok:X.Ok
 os:s.os=X.s₀.os
 bare:AllBare s.gens
 base:Un X.fs X.ex X.H₀ H X.s₀.heap s.heap
 loc:∃m,s.heap.Ns X.env.locals m/\∀(i:Nat) (x:Str) (v:V),X.N[i]?=some x->σ[i]?=some (some v)->Vis X.env.scope x->∃u,RelV v u/\Look X.env s.heap m x u
 cell:∀x c,X.env.cells.lookup x=some c->∃v,s.heap.IsCell c v
 free:H X.env.locals=none
 freeC:∀x c,X.env.cells.lookup x=some c->H c=none
 pin:∀p∈X.pn++pins,s.heap.get? p.1=some p.2/\H p.1=none/\p.1≠X.env.locals/\p.1∉X.fs/\∀v,p.2.data≠.cell v
 hok:HOk X.prog X.w H s.heap
 len:σ.length=X.N.length
section
variable{X:Cx}{pins:List (Addr×Obj)}{σ:List (Option V)}{H H':Hp}{s:Shared}{h':Heap}
theorem Cx.Ok.nofr(c:X.Ok)(e:X.base.get? b=some o):b∉X.fs:=fun a=>by
 have:=(c.funs.mem a).1;rw[e]at this;cases this
theorem Inv.bs(I:Inv X pins σ H s):∀b o,X.base.get? b=some o->s.heap.get? b=some o/\H b=none:=fun b o e=>
 ⟨I.base.keep b o (I.ok.bs b o e).1 (I.ok.bs b o e).2 (I.ok.nofr e) (I.ok.noex b o e),I.base.free b o (I.ok.bs b o e).1 (I.ok.bs b o e).2 (I.ok.noex b o e)⟩
theorem Inv.bk(I:Inv X pins σ H s):∀b o,X.base.get? b=some o->s.heap.get? b=some o:=fun b o e=>(I.bs b o e).1
theorem Inv.mod(I:Inv X pins σ H s):Mod X.K X.mg X.base:=I.ok.mod
theorem Inv.kIn(I:Inv X pins σ H s):X.K.In s.heap:=I.ok.mod.kin.keeps I.bk
theorem Inv.lt(I:Inv X pins σ H s):X.env.locals<s.heap.objs.size:=let ⟨_,hn,_⟩:=I.loc;hn.lt
theorem Inv.sz(I:Inv X pins σ H s):X.s₀.heap.objs.size<=s.heap.objs.size:=vV I.ok.above (vX I.lt)
theorem Inv.nofs(I:Inv X pins σ H s)(h:s.heap.objs.size<=a):a∉X.fs:=fun b=>by
 obtain⟨_,o,c,_⟩:=I.ok.funs.mem b;exact uh (Nat.lt_of_lt_of_le (vI c) (vV I.sz h)) (Nat.lt_irrefl _)
theorem Inv.cne(I:Inv X pins σ H s):∀x c,X.env.cells.lookup x=some c->c≠X.env.locals:=fun x c e z=>by
 obtain⟨v,o,f,d⟩:=I.cell x c e;obtain⟨m,⟨i,h,g,b,a,_⟩,_⟩:=I.loc;rw[z,b]at f;cases f;rw[a]at d;cases d
theorem Inv.funs(I:Inv X pins σ H s):s.heap.FunFrames X.base X.outer:=by
 have a:∀(l:List Env),(∀b∈frs l,b∈X.fs)->X.s₀.heap.FunFrames X.base l->s.heap.FunFrames X.base l:=by
  intro l
  induction l with
  | nil=>intro _ _;trivial
  | cons env r ih=>
   intro g j;obtain⟨i,⟨L,o,f,k,m,h⟩,n⟩:=j;have c:L∈X.fs:=g L (by unfold frs;rw[filterMap_cons,f];exact vq);obtain⟨p,e⟩:=I.base.slot L o m (I.ok.frf L c) c fun z=>I.ok.exfs L z c
   exact⟨i,⟨L,_,f,k,e,h⟩,ih (fun b d=>g b (by unfold frs;rw[filterMap_cons,f];exact vp _ d)) n⟩
 exact a X.outer (fun _ d=>d) I.ok.funs
theorem Inv.stack(I:Inv X pins σ H s):s.heap.FunFrames X.base X.stack:=by
 rcases I.ok.stk with e | ⟨e,a⟩
 ·rw[e];exact I.funs
 ·rw[e];obtain⟨m,b,_⟩:=I.loc;refine .cons (by rw[I.ok.kind];decide) a b ?_ I.funs;exact Heap.get?_none_of_le (vV I.ok.bsz I.ok.above)
theorem Inv.stkSub(I:Inv X pins σ H s):∀b∈frs X.stack,b∈X.env.locals::X.fs:=fun b a=>by
 rcases I.ok.stk with e | ⟨e,c⟩
 ·rw[e]at a;exact vp _ a
 ·rw[e]at a;unfold frs at a;rw[filterMap_cons,c]at a;exact a
theorem Inv.stkFree(I:Inv X pins σ H s):∀b∈frs X.stack,H b=none:=fun b a=>by
 rcases mem_cons.mp (I.stkSub b a)with e | a
 ·rw[e];exact I.free
 ·obtain⟨_,o,c,_⟩:=I.ok.funs.mem a;exact I.base.free b o c (I.ok.frf b a) fun z=>I.ok.exfs b z a
theorem Inv.step{g':Array GenState}{t':Nat}{d':Drawn}{ch:List Addr}(I:Inv X pins σ H s)
  (h:∀b∈ch,(b∈X.ex\/X.s₀.heap.objs.size<=b)/\b≠X.env.locals/\(∀x c,X.env.cells.lookup x=some c->c≠b)/\∀p∈X.pn++pins,p.1≠b)
  (j:∀b o,b≠X.env.locals->b∉X.fs->b∉ch->s.heap.get? b=some o->H b=none->h'.get? b=some o)
  (A:∀b o,b≠X.env.locals->b∈X.fs->b∉ch->s.heap.get? b=some o->H b=none->∃P,h'.get? b=some {o with slots:=P}) (f:∀b o,b∉ch->s.heap.get? b=some o->H b=none->H' b=none)
  (C:∀b o,b∉ch->s.heap.get? b=some o->∃o',h'.get? b=some o')
  (M:∀b xs,H b=some (.tup xs)->H' b=some (.tup xs)) (J:∀b o u,H b=some (.frz o u)->H' b=some (.frz o u)) (L:∀b ps,H b=some (.tbl ps)->∃more,H' b=some (.tbl (ps++more)))
  (ns:∀m,s.heap.Ns X.env.locals m->h'.Ns X.env.locals m) (O:HOk X.prog X.w H' h') (Y:AllBare g') :
  Inv X pins σ H' {s with heap:=h',gens:=g',drawn:=d',toks:=t'}:=by
 have K:∀b o,X.s₀.heap.get? b=some o->b≠X.env.locals:=fun b o e=>vE (Nat.lt_of_lt_of_le (vI e) I.ok.above)
 have y:∀b o,X.s₀.heap.get? b=some o->b∉X.ex->b∉ch:=fun b o e a B=>by
  rcases(h b B).1 with z | z
  ·exact a z
  ·exact uh (Nat.lt_of_lt_of_le (vI e) z) (Nat.lt_irrefl _)
 have g:∀x c,X.env.cells.lookup x=some c->∀v,s.heap.IsCell c v->h'.IsCell c v:=fun x c e v ⟨o,D,N⟩=>by
  have t:c∉ch:=fun z=>(h c z).2.2.1 x c e rfl
  by_cases R:c∈X.fs
  ·obtain⟨P,q⟩:=A c o (I.cne x c e) R t D (I.freeC x c e);exact⟨_,q,N⟩
  ·exact⟨o,j c o (I.cne x c e) R t D (I.freeC x c e),N⟩
 refine⟨I.ok,I.os,Y,⟨fun b o e n B a=>?_,fun b o e n B a=>?_,fun b o e n a=>?_,fun b o e a=>?_,fun b xs e=>M b xs (I.base.tups b xs e),fun b o xs e=>J b o xs (I.base.frzs b o xs e),fun b ps e=>?_⟩,?_,fun x c e=>?_,?_,fun x c e=>?_,fun p S=>?_,O,I.len⟩
 ·exact j b o (K b o e) B (y b o e a) (I.base.keep b o e n B a) (I.base.free b o e n a)
 ·obtain⟨P,w⟩:=I.base.slot b o e n B a;obtain⟨Q,E⟩:=A b _ (K b o e) B (y b o e a) w (I.base.free b o e n a);exact⟨Q,E⟩
 ·obtain⟨o',w⟩:=I.base.there b o e a;exact f b o' (y b o e a) w (I.base.free b o e n a)
 ·obtain⟨o',w⟩:=I.base.there b o e a;exact C b o' (y b o e a) w
 ·obtain⟨m1,w⟩:=I.base.tbls b ps e;obtain⟨m2,E⟩:=L b _ w;exact⟨m1++m2,by rw[E,Array.append_assoc]⟩
 ·obtain⟨m,hn,Z⟩:=I.loc;refine⟨m,ns m hn,fun i x v w E W=>?_⟩;obtain⟨u,r,l⟩:=Z i x v w E W;refine⟨u,r,?_⟩;rcases l with l | ⟨k,c,e,z⟩
  ·exact .inl l
  ·exact .inr ⟨k,c,e,g x c e _ z⟩
 ·obtain⟨v,z⟩:=I.cell x c e;exact⟨v,g x c e v z⟩
 ·obtain⟨m,⟨o,_,_,D,_⟩,_⟩:=I.loc;exact f _ o (fun z=>(h _ z).2.1 rfl) D I.free
 ·obtain⟨v,o,D,N⟩:=I.cell x c e;exact f c o (fun z=>(h c z).2.2.1 x c e rfl) D (I.freeC x c e)
 ·obtain⟨e,n,T,U,d⟩:=I.pin p S;have t:p.1∉ch:=fun z=>(h p.1 z).2.2.2 p S rfl
  exact⟨j p.1 p.2 T U t e n,f p.1 p.2 t e n,T,U,d⟩
theorem Inv.un{t':Nat}(I:Inv X pins σ H s)(u:Un X.fs [] H H' s.heap h')(g:HOk X.prog X.w H' h'):Inv X pins σ H' {s with heap:=h',toks:=t'}:=by
 obtain⟨m,⟨o,p,l,h,r⟩,_⟩:=id I.loc;obtain⟨v,i⟩:=u.any h I.free (by simp);exact I.step (g':=s.gens) (d':=s.drawn) (ch:=[]) (fun _ z=>nomatch z) (fun b o _ f _ e n=>u.keep b o e n f (by simp)) (fun b o _ f _ e n=>u.slot b o e n f (by simp)) (fun b o _ e n=>u.free b o e n (by simp)) (fun b o _ e=>u.there b o e (by simp)) u.tups u.frzs u.tbls (fun q j=>by
  obtain⟨t,d,c,a,k⟩:=j;rw[h]at a;cases a;exact⟨_,d,c,i,k⟩) g I.bare
theorem Inv.call{g':Array GenState}{t':Nat}{d':Drawn}{ch:List Addr}(I:Inv X pins σ H s)(u:Un (frs X.stack) ch H H' s.heap h')(j:HOk X.prog X.w H' h')(q:AllBare g')
  (d:∀b∈ch,(b∈X.ex\/X.s₀.heap.objs.size<=b)/\b≠X.env.locals/\(∀x c,X.env.cells.lookup x=some c->c≠b)/\∀p∈X.pn++pins,p.1≠b) :
  Inv X pins σ H' {s with heap:=h',gens:=g',drawn:=d',toks:=t'}:=by
 obtain⟨m,⟨o,y,w,k,r⟩,_⟩:=id I.loc;obtain⟨C,i⟩:=u.any k I.free fun z=>(d _ z).2.1 rfl
 exact I.step (ch:=ch) d (fun b o i l a e n=>u.keep b o e n (fun z=>(mem_cons.mp (I.stkSub b z)).elim i l) a) (fun b o _ _ a e n=>u.any e n a) (fun b o a e n=>u.free b o e n a) (fun b o a e=>u.there b o e a) u.tups u.frzs u.tbls (fun A t=>by
  obtain⟨B,h,g,f,v⟩:=t;rw[k]at f;cases f;exact⟨_,h,g,i,v⟩) j q
theorem Inv.turned{t':Nat}{it:Addr}(I:Inv X pins σ H s)(k:∀b o,b≠it->s.heap.get? b=some o->h'.get? b=some o)(y:H it=none)(f:it≠X.env.locals)
  (i:it∈X.ex\/X.s₀.heap.objs.size<=it) (j:∀x c,X.env.cells.lookup x=some c->c≠it) (l:∀p∈X.pn++pins,p.1≠it):Inv X pins σ H {s with heap:=h',toks:=t'}:=by
 have d:∀b u,H b=some u->b≠it:=fun b u e z=>by rw[z,y]at e;cases e
 refine I.step (g':=s.gens) (d':=s.drawn) (ch:=[it]) (fun b t=>?_) (fun b o _ _ a e _=>k b o (fun z=>a (by simp[z])) e) (fun b o _ _ a e _=>⟨o.slots,k b o (fun z=>a (by simp[z])) e⟩) (fun _ _ _ _ n=>n)
  (fun b o a e=>⟨o,k b o (fun z=>a (by simp[z])) e⟩) (fun _ _ e=>e) (fun _ _ _ e=>e) (fun b B e=>⟨#[],by rw[e];simp⟩) (fun m w=>?_) (fun b u e=>?_) I.bare
 ·have e:b=it:=by simpa using t
  subst e;exact⟨i,f,j,l⟩
 ·obtain⟨o,h,g,A,r⟩:=w;exact⟨o,h,g,k _ o (Ne.symm f) A,r⟩
 ·refine(I.hok b u e).stay (fun c v a q=>k c v ?_ q) (fun _ q=>q) fun _ _ q=>q
  rcases a with z | z
  ·rw[z];exact d b u e
  ·exact d c _ z
theorem Inv.tok(I:Inv X pins σ H s)(t:Nat):Inv X pins σ H {s with toks:=t}:=I.un (h':=s.heap) (t':=t) Un.refl I.hok
theorem Inv.kept(I:Inv X pins σ H s)(k:∀b u,s.heap.get? b=some u->h'.get? b=some u):Inv X pins σ H {s with heap:=h',toks:=t'}:=I.un (Un.kept k) (I.hok.kept k)
theorem Inv.laid(I:Inv X pins σ H s)(k:∀b u,s.heap.get? b=some u->h'.get? b=some u)(c:s.heap.objs.size<=a)(d:ObjOk X.prog X.w (upd H a o) h' a o) :
  Inv X pins σ (upd H a o) {s with heap:=h',toks:=t'}:=I.un (Un.laid k c (I.hok.fresh c)) (I.hok.laid k c d)
theorem Inv.write(I:Inv X pins σ H s)(f:Mut (H x))(d:e=x\/H e=some (.own x))(k:∀b u,b≠e->s.heap.get? b=some u->h'.get? b=some u)(a:∃u,h'.get? e=some u)
  (c:ObjOk X.prog X.w (upd H x o) h' x o):Inv X pins σ (upd H x o) {s with heap:=h',toks:=t'}:=I.un (Un.write f d k a) (I.hok.write f d k a c)
theorem Inv.weak(I:Inv X pins σ H s)(d:σ'.length=σ.length)(w:∀(i:Nat) v,σ'[i]?=some (some v)->σ[i]?=some (some v)):Inv X pins σ' H s:=
 ⟨I.ok,I.os,I.bare,I.base,let ⟨m,hn,hl'⟩:=I.loc;⟨m,hn,fun i x v a b c=>hl' i x v a (w i v b) c⟩,I.cell,I.free,I.freeC,I.pin,I.hok,d.trans I.len⟩
theorem Inv.pins_of(I:Inv X pins σ H s)(h:∀p∈pins',s.heap.get? p.1=some p.2/\H p.1=none/\p.1≠X.env.locals/\p.1∉X.fs/\∀v,p.2.data≠.cell v):Inv X pins' σ H s:=
 ⟨I.ok,I.os,I.bare,I.base,I.loc,I.cell,I.free,I.freeC,fun p a=>(vh.mp a).elim (fun z=>I.pin p (mem_append_left _ z)) (h p),I.hok,I.len⟩
theorem Xt{N:List Str}(e:N.Nodup){i j:Nat}{x:Str}(a:N[i]?=some x)(b:N[j]?=some x):i=j:=by
 obtain⟨f,c⟩:=vx.mp a;obtain⟨g,d⟩:=vx.mp b;exact(List.getElem_inj e).mp (c.trans d.symm)
theorem Wx{M:Model}{A:Around}{E:Value->Shared->Prop}{i:Nat}{x:Str}{v:V}{u:Value}{Q:Unit->Shared->Prop}(I:Inv X pins σ H s)(hN:X.N.Nodup)(hi:X.N[i]?=some x)(w:Loc X.env.scope x)(r:RelV v u)
  (h:∀s',Inv X pins (σ.set i (some v)) H s'->(∃a,Heap.SameBut a s.heap s'.heap/\(a=X.env.locals\/X.env.cells.lookup x=some a))->Q () s') (hf:X.fn x=true\/X.env.scope.names.lookup x=some .local:=by first | exact .inl rfl | exact .inr rfl | assumption):wpAny M A (storeName X.env x u) Q E s:=by
 obtain⟨m,hn,hl⟩:=id I.loc;have T:(X.env.scope.kind == .class||(X.env.scope.kind == .module&&X.env.locals != X.env.globals))=false:=by rw[I.ok.kind];rfl
 have D:i<σ.length:=by rw[I.len];exact(vx.mp hi).1
 have K:=I.cne;have l:∀{a:Addr} {P:Heap},(∃o,s.heap.get? a=some o/\H a=none)->Heap.SameBut a s.heap P->HOk X.prog X.w H P:=fun {a P} ha f b ob e=>by
  obtain⟨_,_,B⟩:=ha;refine(I.hok b ob e).stay (fun c w' t q=>(f.2 c ?_).trans q) (fun _ q=>q) fun _ _ q=>q
  rintro rfl;rcases t with rfl | t
  ·rw[B]at e;cases e
  ·rw[B]at t;cases t
 rcases w with J | J
 ·refine wpAny_storeName_local J hn (fun P a0 f=>?_) T;obtain⟨oL,_,_,a1,_⟩:=id hn;refine h _ ⟨I.ok,I.os,I.bare,⟨fun b o e n L w=>?_,fun b o e n L w=>?_,I.base.free,fun b o e w=>?_,I.base.tups,I.base.frzs,I.base.tbls⟩,⟨_,a0,fun j y v' g C e3=>?_⟩,fun y c e=>?_,I.free,I.freeC,fun p hp=>?_,l ⟨oL,a1,I.free⟩ f,by simpa using I.len⟩ ⟨_,f,.inl rfl⟩
  ·exact(f.2 b (vE (Nat.lt_of_lt_of_le (vI e) I.ok.above))).trans (I.base.keep b o e n L w)
  ·obtain⟨sl,g⟩:=I.base.slot b o e n L w;exact⟨sl,(f.2 b (vE (Nat.lt_of_lt_of_le (vI e) I.ok.above))).trans g⟩
  ·obtain⟨o',g⟩:=I.base.there b o e w;exact⟨o',(f.2 b (vE (Nat.lt_of_lt_of_le (vI e) I.ok.above))).trans g⟩
  ·by_cases O:j=i
   ·subst O;rw[hi]at g;cases g;rw[List.getElem?_set_self D]at C;cases C;exact⟨u,r,.inl ⟨J,by simp⟩⟩
   ·rw[List.getElem?_set_ne (Ne.symm O)]at C;obtain⟨u',r',q⟩:=hl j y v' g C e3;refine⟨u',r',?_⟩;rcases q with⟨k,e⟩ | ⟨k,c,e,z⟩
    ·refine .inl ⟨k,?_⟩;have:y≠x:=fun e=>O (Xt hN g (e▸hi))
     simp[this,e]
    ·exact .inr ⟨k,c,e,z.sameBut f (K y c e)⟩
  ·obtain⟨w',z⟩:=I.cell y c e;exact⟨w',z.sameBut f (K y c e)⟩
  ·obtain⟨e,n,Z,nf,d⟩:=I.pin p hp;exact⟨(f.2 p.1 Z).trans e,n,Z,nf,d⟩
 ·have N:X.fn x=true:=by
   rcases hf with z | z
   ·exact z
   ·rw[z]at J;cases J
  obtain⟨c,t⟩:=I.ok.has x (.inl J);obtain⟨w',z⟩:=I.cell x c t;refine wpAny_storeName_cell I.ok.kind J t z (fun P R f=>?_);obtain⟨oc,U,W⟩:=id z;refine h {s with heap:=P} ⟨I.ok,I.os,I.bare,⟨fun b o e n L w=>?_,fun b o e n L w=>?_,I.base.free,fun b o e w=>?_,I.base.tups,I.base.frzs,I.base.tbls⟩,⟨m,hn.sameBut f (Ne.symm (K x c t)),fun j y v' g C e3=>?_⟩,fun y Y e=>?_,I.free,I.freeC,fun p hp=>?_,l ⟨oc,U,I.freeC x c t⟩ f,by simpa using I.len⟩ ⟨c,f,.inr t⟩
  ·exact(f.2 b (vE (Nat.lt_of_lt_of_le (vI e) (I.ok.cab x c N t)))).trans (I.base.keep b o e n L w)
  ·obtain⟨sl,g⟩:=I.base.slot b o e n L w;exact⟨sl,(f.2 b (vE (Nat.lt_of_lt_of_le (vI e) (I.ok.cab x c N t)))).trans g⟩
  ·obtain⟨o',g⟩:=I.base.there b o e w;exact⟨o',(f.2 b (vE (Nat.lt_of_lt_of_le (vI e) (I.ok.cab x c N t)))).trans g⟩
  ·by_cases O:j=i
   ·subst O;rw[hi]at g;cases g;rw[List.getElem?_set_self D]at C;cases C;exact⟨u,r,.inr ⟨.inl J,c,t,R⟩⟩
   ·rw[List.getElem?_set_ne (Ne.symm O)]at C;obtain⟨u',r',q⟩:=hl j y v' g C e3;refine⟨u',r',?_⟩;rcases q with q | ⟨k,Y,e,z'⟩
    ·exact .inl q
    ·refine .inr ⟨k,Y,e,z'.sameBut f ?_⟩;rintro rfl;exact O (Xt hN g (I.ok.inj _ _ _ e t▸hi))
  ·by_cases S:Y=c
   ·subst S;exact⟨_,R⟩
   ·obtain⟨w2,z2⟩:=I.cell y Y e;exact⟨w2,z2.sameBut f S⟩
  ·obtain⟨e,n,Z,nf,d⟩:=I.pin p hp;refine⟨(f.2 p.1 ?_).trans e,n,Z,nf,d⟩;intro q;rw[q,U]at e;have q':oc=p.2:=vL e;exact d w' (by rw[<-q'];exact W)
theorem wu{E:Value->Shared->Prop}{Q:Unit->Shared->Prop}(I:Inv X pins σ H s)(b:X.N.Nodup)(hi:X.N[i]?=some x)(d:Loc X.env.scope x)(r:RelV v u)
  (h:∀s',Inv X pins (σ.set i (some v)) H s'->Q () s') (c:X.fn x=true\/X.env.scope.names.lookup x=some .local:=by first | exact .inl rfl | exact .inr rfl | assumption):wpAny M A (storeName X.env x u) Q E s:=
 Wx I b hi d r (fun s' a _=>h s' a) c
theorem Inv.call'(I:Inv X pins σ H s)(g:s'.os=s.os)(u:Un (frs X.stack) ch H H' s.heap s'.heap)(d:HOk X.prog X.w H' s'.heap)(f:AllBare s'.gens)
  (a:∀b∈ch,(b∈X.ex\/X.s₀.heap.objs.size<=b)/\b≠X.env.locals/\(∀x c,X.env.cells.lookup x=some c->c≠b)/\∀p∈X.pn++pins,p.1≠b):Inv X pins σ H' s':=by
 obtain⟨i,g',d',t',h⟩:=s';have e:h=s.os:=g;subst e;exact I.call (g':=g') (t':=t') (d':=d') u d f a
end
noncomputable abbrev XK:=Value->Option Addr->Hp->Prop
noncomputable abbrev St:=List (Option V)
noncomputable abbrev VK:=V->Hp->Prop
noncomputable abbrev TE:=St->Hp->VK->Prop
noncomputable abbrev TT:=St->Hp->(Bool->Hp->Prop)->Prop
noncomputable abbrev TA:=St->Hp->(List V->Hp->Prop)->Prop
structure Ends where
 nx:St->Hp->Prop
 rt:VK
 bk:St->Hp->Prop:=fun _ _=>False
 ct:St->Hp->Prop:=fun _ _=>False
noncomputable abbrev TS:=Ends->St->Hp->Prop
def EP(X:Cx)(pins:List (Addr×Obj))(σ:St)(Q:VK)(u:Value)(s':Shared):Prop:=∃v H',Inv X pins σ H' s'/\RelV v u/\Q v H'
def TP(X:Cx)(pins:List (Addr×Obj))(σ:St)(Q:Bool->Hp->Prop)(b:Bool)(s':Shared):Prop:=∃H',Inv X pins σ H' s'/\Q b H'
def AP(X:Cx)(pins:List (Addr×Obj))(σ:St)(Q:List V->Hp->Prop)(us:List Value)(s':Shared):Prop:=∃vs H',Inv X pins σ H' s'/\Vals vs us/\Q vs H'
def SP(X:Cx)(pins:List (Addr×Obj))(D:Ends)(f:Flow)(s':Shared):Prop:=
 match f with
 | .next=>∃σ' H',Inv X pins σ' H' s'/\D.nx σ' H'
 | .brk=>∃σ' H',Inv X pins σ' H' s'/\D.bk σ' H'
 | .cont=>∃σ' H',Inv X pins σ' H' s'/\D.ct σ' H'
 | .ret u=>∃v σ' H',Inv X pins σ' H' s'/\RelV v u/\D.rt v H'
def PE(X:Cx)(e:Expr)(t:TE):Prop:=
 ∀(pins:List (Addr×Obj)) (s:Shared) (σ:St) (H:Hp) (Q:VK),Inv X pins σ H s->t σ H Q->wpAny (model X.prog X.w) X.A (eval e X.env) (EP X pins σ Q) X.xe s
def PT(X:Cx)(e:Expr)(t:TT):Prop:=
 ∀(pins:List (Addr×Obj)) (s:Shared) (σ:St) (H:Hp) (Q:Bool->Hp->Prop),Inv X pins σ H s->t σ H Q->wpAny (model X.prog X.w) X.A (isTrue e X.env (eval e X.env)) (TP X pins σ Q) X.xe s
def PW(X:Cx)(e:Expr)(t:TT):Prop:=
 ∀(whole:Sem Value) (pins:List (Addr×Obj)) (s:Shared) (σ:St) (H:Hp) (Q:Bool->Hp->Prop),Inv X pins σ H s->t σ H Q->wpAny (model X.prog X.w) X.A (isTrue e X.env whole) (TP X pins σ Q) X.xe s
theorem PW.pt(h:PW X e t):PT X e t:=h _
def PA(X:Cx)(es:List Expr)(t:TA):Prop:=
 ∀(pos:Pos) (pins:List (Addr×Obj)) (s:Shared) (σ:St) (H:Hp) (Q:List V->Hp->Prop),Inv X pins σ H s->t σ H Q->wpAny (model X.prog X.w) X.A (spliced (backTo pos (starEach es X.env))) (AP X pins σ Q) X.xe s
def PS(X:Cx)(st:Stmt)(t:TS):Prop:=
 ∀(pins:List (Addr×Obj)) (s:Shared) (σ:St) (H:Hp) (D:Ends),Inv X pins σ H s->t D σ H->wpAny (model X.prog X.w) X.A (exec st X.env) (SP X pins D) X.xe s
def PSs(X:Cx)(st:List Stmt)(t:TS):Prop:=
 ∀(pins:List (Addr×Obj)) (s:Shared) (σ:St) (H:Hp) (D:Ends),Inv X pins σ H s->t D σ H->wpAny (model X.prog X.w) X.A (execs st X.env) (SP X pins D) X.xe s
theorem thn{c:Type}{t:Sem c}{Q b:c->Shared->Prop}{M:Model}{A:Around}{E:Value->Shared->Prop}{s:Shared}(h:wpAny M A t Q E s)(d:∀a s,Q a s->b a s):wpAny M A t b E s:=wpAny_mono h d fun _ _ x=>x
section
variable{X:Cx}
def tVar(i:Nat):TE:=fun σ H Q=>∃v,σ[i]?=some (some v)/\Q v H
def tC(v:V):TE:=fun _ H Q=>Q v H
theorem j55(k:X.N[i]?=some x)(q:Vis X.env.scope x)(hd:(x==("__debug__" : Str))=false:=by decide)(g:(x==("__classdict__" : Str))=false:=by decide):PE X (.Name x pos) (tVar i):=by
 intro f s t H Q I h;obtain⟨v,e,h⟩:=h;obtain⟨m,p,n⟩:=I.loc;obtain⟨u,r,l⟩:=n i x v k e q;have b:EP X f t Q u s:=⟨v,H,I,r,h⟩
 rcases l with⟨d,o⟩ | ⟨d,c,j,a⟩
 ·exact wpAny_Name (wpAny_loadName_local I.ok.kind d p o b) hd
 ·rcases d with d | d
  ·exact wpAny_Name (wpAny_loadName_cell I.ok.kind d j a b) hd
  ·exact wpAny_Name (wpAny_loadName_free I.ok.kind d j a b g) hd
theorem jd{i j pos}:PE X (.Constant (.int i) j pos) (tC (.int i)):=fun _ _ _ H _ I h=>wpAny_Constant_int ⟨.int i,H,I.tok _,⟨_,rfl⟩,h⟩
theorem j0Y{b j pos}:PE X (.Constant (.bool b) j pos) (tC (.bl b)):=fun _ _ _ H _ I h=>Constant_bool ⟨.bl b,H,I,rfl,h⟩
theorem zP{j pos}:PE X (.Constant .none j pos) (tC .non):=fun _ _ _ H _ I h=>Constant_none ⟨.non,H,I,rfl,h⟩
theorem jJ{x j pos}:PE X (.Constant (.str x) j pos) (tC (.str x)):=fun _ _ _ H _ I h=>Calls.Constant_str ⟨.str x,H,I.tok _,⟨_,rfl⟩,h⟩
def Gl(X:Cx)(x:Str):Prop:=X.env.kindOf x=some .globalImplicit
theorem W0{E:Value->Shared->Prop}{c:St}{H:Hp}{Q:Value->Shared->Prop}(I:Inv X pins c H s)(a:Gl X x)(b:X.mg x=some u)(h:Q u s)
  (hd:(x==("__debug__" : Str))=false:=by decide):wpAny (model X.prog X.w) X.A (eval (.Name x pos) X.env) Q E s:=
 Calls.Name_function_global I.ok.kind a (Calls.loadGlobal_global (by rw[I.ok.glob];exact I.mod.glob.keeps I.bk) b h) hd
theorem Z3{E:Value->Shared->Prop}{g:St}{H:Hp}{Q:Value->Shared->Prop}(I:Inv X pins g H s)(c:Gl X x)(d:X.mg x=none)(f:bootBuiltins x=some u)(h:Q u s)
  (e:x≠"__name__":=by decide) (hd:(x==("__debug__" : Str))=false:=by decide):wpAny (model X.prog X.w) X.A (eval (.Name x pos) X.env) Q E s:=by
 obtain⟨i,a,b⟩:=I.mod.blt;exact Calls.Name_function_global I.ok.kind c (Calls.loadGlobal_builtin (by rw[I.ok.glob];exact I.mod.glob.keeps I.bk) d (by rw[I.ok.blt];exact a.keeps I.bk) ((b x e).trans f) h) hd
theorem j4g(a:Gl X x)(b:X.mg x=some u)(r:RelV v u)(hd:(x==("__debug__" : Str))=false:=by decide):PE X (.Name x pos) (tC v):=
 fun _ _ _ H _ I h=>W0 I a b ⟨v,H,I,r,h⟩ hd
theorem j0Z(a:Gl X x)(b:X.mg x=none)(d:bootBuiltins x=some u)(r:RelV v u)(c:x≠"__name__":=by decide)(hd:(x==("__debug__" : Str))=false:=by decide):PE X (.Name x pos) (tC v):=
 fun _ _ _ H _ I h=>Z3 I a b d ⟨v,H,I,r,h⟩ c hd
variable{a b:Expr}{ta tb:TE}{pos:Pos}
def tB(t:TE):TT:=fun σ H Q=>t σ H fun x H1=>∃c,x = .bl c/\Q c H1
theorem j38{e:Expr}{t:TE}(h:PE X e t)(g:∀a,isTrue e X.env a=(do let v <-a;standAt e.pos;holding [v] (truthy v)):=by intro _;rfl):PT X e (tB t):=by
 intro b s l H Q I i;refine isTrue_plain (thn (h b s l H _ I i) fun v m ⟨x,c,f,k,j⟩=>?_) (g _);obtain⟨d,rfl,q⟩:=j;cases k;exact wpAny_truthy_bool ⟨c,f,q⟩
variable{tA tB':TT}{rest:List Expr}
def tAnd(t u:TT):TT:=fun σ H Q=>t σ H fun c H1=>if c=true then u σ H1 Q else Q false H1
def tOr(t u:TT):TT:=fun σ H Q=>t σ H fun c H1=>if c=true then Q true H1 else u σ H1 Q
def tNot(t:TT):TT:=fun σ H Q=>t σ H fun c H1=>Q (!c) H1
theorem QI(d:PT X a tA):PW X (.BoolOp .And [a] pos) tA:=by
 intro i b s f H Q I h;refine isTrue_and (thn (d b s f H Q I h) fun c g e=>?_);cases c with
 | true=>exact isTrue_and_nil e
 | false=>exact e
theorem xy(d:PT X a tA):PW X (.BoolOp .Or [a] pos) tA:=by
 intro i b s f H Q I h;refine isTrue_or (thn (d b s f H Q I h) fun c g e=>?_);cases c with
 | false=>exact isTrue_or_nil e
 | true=>exact e
theorem QX(j:PT X a tA)(k:PW X (.BoolOp .And (b::rest) pos) tB'):PW X (.BoolOp .And (a::b::rest) pos) (tAnd tA tB'):=by
 intro m d s i H Q I h;refine isTrue_and (thn (j d s i H _ I h) fun c l ⟨e,f,g⟩=>?_);cases c with
 | true=>exact k m d l i e Q f g
 | false=>exact⟨e,f,g⟩
theorem XD(j:PT X a tA)(k:PW X (.BoolOp .Or (b::rest) pos) tB'):PW X (.BoolOp .Or (a::b::rest) pos) (tOr tA tB'):=by
 intro m d s i H Q I h;refine isTrue_or (thn (j d s i H _ I h) fun c l ⟨e,f,g⟩=>?_);cases c with
 | true=>exact⟨e,f,g⟩
 | false=>exact k m d l i e Q f g
theorem j37(e:PT X a tA):PT X (.UnaryOp .Not a pos) (tNot tA):=by
 intro b s f H Q I h;exact isTrue_not (e b s f H (fun c d=>Q (!c) d) I h)
def tAndV(ta tb:TE):TE:=fun σ H Q=>ta σ H fun x H1=>∃c,x = .bl c/\if c=true then tb σ H1 Q else Q (.bl false) H1
def tNotV(ta:TE):TE:=fun σ H Q=>ta σ H fun x H1=>∃c,x = .bl c/\Q (.bl (!c)) H1
theorem j32{op}(h:PE X a t):PE X (.BoolOp op [a] pos) t:=fun b s d H Q I c=>BoolOp_one (h b s d H Q I c)
theorem j30(j:PE X a ta)(k:PE X (.BoolOp .And (b::rest) pos) tb):PE X (.BoolOp .And (a::b::rest) pos) (tAndV ta tb):=by
 intro d s i H Q I h;refine BoolOp_and (thn (j d s i H _ I h) fun v m ⟨x,f,g,l,e⟩=>?_);obtain⟨c,rfl,e⟩:=e;cases l;refine wpAny_truthy_bool ?_;cases c with
 | true=>exact k d m i f Q g e
 | false=>exact⟨.bl false,f,g,rfl,e⟩
theorem j54(g:PE X a ta):PE X (.UnaryOp .Not a pos) (tNotV ta):=by
 intro b s j H Q I h;refine UnaryOp_ (thn (g b s j H _ I h) fun v k ⟨x,e,f,i,d⟩=>?_);obtain⟨c,rfl,d⟩:=d;cases i;exact not_of (wpAny_truthy_bool ⟨.bl (!c),e,f,rfl,d⟩)
def tIf(t:TT)(ta tb:TE):TE:=fun σ H Q=>t σ H fun c H1=>if c=true then ta σ H1 Q else tb σ H1 Q
theorem zW{c:Expr}(n:PT X c tA)(l:PE X a ta)(m:PE X b tb):PE X (.IfExp c a b pos) (tIf tA ta tb):=by
 intro e s f H Q I h;refine wpAny_IfExp (thn (n e s f H _ I h) fun d k ⟨g,i,j⟩=>?_);cases d with
 | true=>exact l e k f g Q i j
 | false=>exact m e k f g Q i j
end
def SqL(K:Frg)(H:Hp)(a:Addr)(xs:List V):Prop:=
 Rd H a (.lst xs)\/
  ∃(o:Obj) (its:Array Value) (n:Nat),K.lookup a=some o/\o.cls = .type "list"/\o.dict=none/\o.data = .seq its n/\its.size<=sizeLine/\Vals xs its.toList
def SqT(K:Frg)(H:Hp)(a:Addr)(xs:List V):Prop:=
 Rd H a (.tup xs)\/
  ∃(o:Obj) (its:Array Value) (n:Nat),K.lookup a=some o/\o.cls = .type "tuple"/\o.data = .seq its n/\its.size<=sizeLine/\Vals xs its.toList
noncomputable def absV:Value->Option V
 | .none=>some .non
 | .bool b=>some (.bl b)
 | .int i _=>some (.int i)
 | .str x _=>some (.str x)
 | .bytes b _=>some (.byt b)
 | .float b _=>some (.flt b)
 | .ref a=>some (.ref a)
 | .type n=>some (.ty n)
 | _=>none
theorem RelV.abs(r:RelV x u):absV u=some x:=by
 cases x with
 | non=>cases r;rfl
 | bl _=>cases r;rfl
 | int _=>obtain⟨t,rfl⟩:=r;rfl
 | str _=>obtain⟨t,rfl⟩:=r;rfl
 | byt _=>obtain⟨t,rfl⟩:=r;rfl
 | flt _=>obtain⟨t,rfl⟩:=r;rfl
 | ref _=>cases r;rfl
 | ty _=>cases r;rfl
theorem RelV.inj(r:RelV x u)(q:RelV y u):x=y:=vL (r.abs.symm.trans q.abs)
theorem Vals.inj:∀{xs ys:List V} {us:List Value},Vals xs us->Vals ys us->xs=ys
 | _,_,_,.nil,.nil=>rfl
 | _,_,_,.cons r t,.cons r' t'=>by rw[r.inj r',Vals.inj t t']
section
variable{X:Cx}{pins:List (Addr×Obj)}{σ:St}{H:Hp}{s:Shared}{a:Addr}{xs ys:List V}
theorem SqL.of{K:Frg}(h:H a=some (.lst xs)):SqL K H a xs:=.inl (.inl h)
theorem SqT.of{K:Frg}(h:H a=some (.tup xs)):SqT K H a xs:=.inl (.inl h)
theorem Inv.list(I:Inv X pins σ H s)(h:SqL X.K H a xs):∃b:List Value,Vals xs b/\PlainL s.heap a b.toArray/\xs.length<=sizeLine:=by
 rcases h with h | ⟨o,b,n,f,c,d,g,i,r⟩
 ·obtain⟨z,b,n,r,e⟩:=h.ok I.hok;exact⟨b,r,⟨_,n,e,rfl,rfl,rfl⟩,z⟩
 ·refine⟨b.toList,r,⟨o,n,I.kIn a o f,c,d,by simpa using g⟩,?_⟩;have e:=r.length;simp only[Array.length_toList]at e;lia
theorem Inv.tuple(I:Inv X pins σ H s)(h:SqT X.K H a xs):∃b:List Value,Vals xs b/\IsTup s.heap a b.toArray/\xs.length<=sizeLine:=by
 rcases h with h | ⟨o,b,n,d,c,f,g,r⟩
 ·obtain⟨z,b,r,p⟩:=h.ok I.hok;exact⟨b,r,p,z⟩
 ·refine⟨b.toList,r,⟨o,I.kIn a o d,c,n,by simpa using f⟩,?_⟩;have e:=r.length;simp only[Array.length_toList]at e;lia
theorem Inv.list_inj(I:Inv X pins σ H s)(h:SqL X.K H a xs)(h':SqL X.K H a ys):xs=ys:=by
 obtain⟨c,r,⟨o,n,e,_,_,d⟩,_⟩:=I.list h;obtain⟨b,i,⟨k,j,g,_,_,f⟩,_⟩:=I.list h';rw[e]at g;cases g;rw[d]at f;injection f with d1 _;have:c=b:=by simpa using congrArg Array.toList d1
 subst this;exact r.inj i
theorem Inv.tuple_inj(I:Inv X pins σ H s)(h:SqT X.K H a xs)(h':SqT X.K H a ys):xs=ys:=by
 obtain⟨c,r,⟨o,e,_,n,d⟩,_⟩:=I.tuple h;obtain⟨b,i,⟨k,g,_,j,f⟩,_⟩:=I.tuple h';rw[e]at g;cases g;rw[d]at f;injection f with d1 _;have:c=b:=by simpa using congrArg Array.toList d1
 subst this;exact r.inj i
end
noncomputable abbrev Cx.wish(X:Cx)(E:Value->Shared->Prop):Cx:={X with xe:=E}
noncomputable abbrev Cx.nox(X:Cx):Cx:=X.wish fun _ _=>False
theorem Cx.Ok.wish{X:Cx}(a:X.Ok)(E:Value->Shared->Prop):(X.wish E).Ok:=
 ⟨a.mod,a.kind,a.glob,a.blt,a.above,a.inj,a.has,a.cab,a.hd,a.frames,a.stk,a.exf,a.bs,a.bsz,a.noex,a.exfs,a.funs,a.frf⟩
theorem Cx.Ok.unwish{X:Cx}{E:Value->Shared->Prop}(a:(X.wish E).Ok):X.Ok:=
 ⟨a.mod,a.kind,a.glob,a.blt,a.above,a.inj,a.has,a.cab,a.hd,a.frames,a.stk,a.exf,a.bs,a.bsz,a.noex,a.exfs,a.funs,a.frf⟩
section
variable{X:Cx}{pins:List (Addr×Obj)}{σ:St}{H:Hp}{s:Shared}{E:Value->Shared->Prop}
theorem Inv.wish(I:Inv X pins σ H s)(E:Value->Shared->Prop):Inv (X.wish E) pins σ H s:=⟨I.ok.wish E,I.os,I.bare,I.base,I.loc,I.cell,I.free,I.freeC,I.pin,I.hok,I.len⟩
theorem Inv.unwish(I:Inv (X.wish E) pins σ H s):Inv X pins σ H s:=⟨I.ok.unwish,I.os,I.bare,I.base,I.loc,I.cell,I.free,I.freeC,I.pin,I.hok,I.len⟩
theorem SP.unwish(h:SP (X.wish E) pins D f s'):SP X pins D f s':=by
 cases f with
 | next=>obtain⟨a,b,I,q⟩:=h;exact⟨a,b,I.unwish,q⟩
 | brk=>obtain⟨a,b,I,q⟩:=h;exact⟨a,b,I.unwish,q⟩
 | cont=>obtain⟨a,b,I,q⟩:=h;exact⟨a,b,I.unwish,q⟩
 | ret u=>obtain⟨v,a,b,I,r,q⟩:=h;exact⟨v,a,b,I.unwish,r,q⟩
theorem PSs.nox{st:List Stmt}{t:TS}(h:PSs X.nox st t):PSs X st t:=fun a s c H D I b=>
 wpAny_mono (h a s c H D (I.wish _) b) (fun _ _ q=>q.unwish) fun _ _ z=>False.elim z
end
section
variable{X:Cx}{st:Stmt}{rest:List Stmt}{t u:TS}{e:Expr}{te:TE}{pos:Pos}
def tNext:TS:=fun D σ H=>D.nx σ H
def tSeq(t u:TS):TS:=fun D σ H=>t {D with nx:=u D} σ H
theorem jA:PSs X [] tNext:=fun _ _ a H _ I h=>wpAny_execs_nil ⟨a,H,I,h⟩
theorem jb(e:PS X st t)(g:PSs X rest u):PSs X (st::rest) (tSeq t u):=by
 intro a s j H D I h;refine wpAny_execs_cons (thn (e a s j H {D with nx:=u D} I h) fun f i q=>?_);cases f with
 | next=>
  obtain⟨b,c,d,q⟩:=q;exact g a i b c D d q
 | ret v=>exact q
 | brk=>exact q
 | cont=>exact q
theorem jg(b:PS X st t):PSs X [st] t:=by
 intro a s c H D I h;refine wpAny_execs_cons (thn (b a s c H D I h) fun f d q=>?_);cases f with
 | next=>exact wpAny_execs_nil q
 | ret v=>exact q
 | brk=>exact q
 | cont=>exact q
theorem Inv.quiet{a:St}{H:Hp}(I:Inv X pins a H s):interactive X.env=false:=by simp[interactive,I.ok.kind]
def tDrop(te:TE):TS:=fun D σ H=>te σ H fun _ H1=>D.nx σ H1
theorem Jb(f:PE X e te)(g:swapsWith e none pos.line X.env=pure false:=by rfl):PS X (.Expr e pos) (tDrop te):=by
 intro a s b H D I h;exact wpAny_Expr_any (thn (f a s b H _ I h) fun v k ⟨x,c,d,j,i⟩=>⟨b,c,d,i⟩) I.quiet g
def tRet(te:TE):TS:=fun D σ H=>te σ H D.rt
theorem jB(f:PE X e te):PS X (.Return (some e) pos) (tRet te):=by
 intro a s b H D I h;exact wpAny_Return_some (thn (f a s b H _ I h) fun v j ⟨x,c,d,i,g⟩=>⟨x,b,c,d,i,g⟩)
def tIfS(c:TT)(t u:TS):TS:=fun D σ H=>c σ H fun b H1=>if b=true then t D σ H1 else u D σ H1
theorem j3{c:Expr}{a b:List Stmt}{l:TT}(o:PT X c l)(m:PSs X a t)(n:PSs X b u):PS X (.If c a b pos) (tIfS l t u):=by
 intro e s f H D I h;refine wpAny_If (thn (o e s f H _ I h) fun d k ⟨g,i,j⟩=>?_);cases d with
 | true=>exact m e k f g D i j
 | false=>exact n e k f g D i j
def tNever:TS:=fun _ _ _=>False
theorem YJ:PS X st tNever:=fun _ _ _ _ _ _ h=>h.elim
end
noncomputable abbrev TG:=V->St->Hp->(St->Hp->Prop)->Prop
noncomputable abbrev TGs:=List V->St->Hp->(St->Hp->Prop)->Prop
def PG(X:Cx)(target:Expr)(t:TG):Prop:=
 ∀(pins:List (Addr×Obj)) (s:Shared) (σ:St) (H:Hp) (v:V) (u:Value) (Q:St->Hp->Prop),Inv X pins σ H s->RelV v u->t v σ H Q->
  wpAny (model X.prog X.w) X.A (assign target X.env u) (fun _ s'=>∃σ' H',Inv X pins σ' H' s'/\Q σ' H') X.xe s
def PGs(X:Cx)(ts:List Expr)(t:TGs):Prop:=
 ∀(pins:List (Addr×Obj)) (s:Shared) (σ:St) (H:Hp) (vs:List V) (us:List Value) (Q:St->Hp->Prop),Inv X pins σ H s->Vals vs us->t vs σ H Q->
  wpAny (model X.prog X.w) X.A (assignInOrder ((assignEach ts X.env).map (·.2)) us) (fun _ s'=>∃σ' H',Inv X pins σ' H' s'/\Q σ' H') X.xe s
noncomputable abbrev TSet:=V->V->V->Hp->(Hp->Prop)->Prop
def PSet(X:Cx)(t:TSet):Prop:=
 ∀(pins:List (Addr×Obj)) (s:Shared) (σ:St) (H:Hp) (o i v:V) (ov iv u:Value) (Q:Hp->Prop),Inv X pins σ H s->RelV o ov->RelV i iv->RelV v u->t o i v H Q->
  wpAny (model X.prog X.w) X.A (setItem ov iv u) (fun _ s'=>∃H',Inv X pins σ H' s'/\Q H') X.xe s
noncomputable abbrev TIp:=V->V->Hp->VK->Prop
def PIp(X:Cx)(op:Operator)(t:TIp):Prop:=
 ∀(pins:List (Addr×Obj)) (s:Shared) (σ:St) (H:Hp) (x y:V) (v u:Value) (Q:VK),Inv X pins σ H s->RelV x v->RelV y u->t x y H Q->
  wpAny (model X.prog X.w) X.A (inplaceOp op v u) (EP X pins σ Q) X.xe s
section
variable{X:Cx}{pos:Pos}
def gName(i:Nat):TG:=fun v σ H Q=>Q (σ.set i (some v)) H
theorem jw(c:X.N.Nodup)(hi:X.N[i]?=some x)(e:Loc X.env.scope x)(d:X.fn x=true\/X.env.scope.names.lookup x=some .local:=by first | exact .inl rfl | exact .inr rfl | assumption):PG X (.Name x pos) (gName i):=by
 intro a s g H v u Q I r h;exact wpAny_assign_Name (wu I c hi e r (fun f b=>⟨_,H,b,h⟩) d)
def gNil:TGs:=fun vs σ H Q=>vs=[]/\Q σ H
def gCons(t:TG)(u:TGs):TGs:=fun vs σ H Q=>∃v r,vs=v::r/\t v σ H fun σ' H'=>u r σ' H' Q
theorem J3:PGs X [] gNil:=by
 intro a s b H d c Q I r h;obtain⟨e,h⟩:=h;subst e;cases r;exact assignInOrder_nil ⟨b,H,I,h⟩
theorem jL{e:Expr}{b:List Expr}{t:TG}{u:TGs}(i:PG X e t)(j:PGs X b u)
  (k:(assignEach (e::b) X.env).map (·.2)=assign e X.env::(assignEach b X.env).map (·.2):=by rfl):PGs X (e::b) (gCons t u):=by
 intro a s n H q o Q I r h;obtain⟨v,p,g,h⟩:=h;subst g;cases r with
 | cons r rr=>
  rw[k];refine assignInOrder_cons (thn (i a s n H _ _ _ I r h) fun _ m ⟨c,d,f,l⟩=>?_);exact j a m c d _ _ Q f rr l
def gTup(K:Frg)(n:Nat)(t:TGs):TG:=fun v σ H Q=>∃a xs,v = .ref a/\SqT K H a xs/\xs.length=n/\t xs σ H Q
theorem Qc(p:X.calm=true)(h:PGs X es t)
  (w:(assignEach es X.env).length=n:=by rfl) (d:(assignEach es X.env).findIdx? (·.1)=none:=by rfl):PG X (.Tuple es k pos) (gTup X.K n t):=by
 intro c s i H v u Q I r f;obtain⟨a,B,l,x,q,f⟩:=f;subst l;cases r;obtain⟨A,g,y,C⟩:=I.tuple x;refine assign_Tuple_tuple (I.ok.hd p) y (by simp[w,<-q,g.length]) d fun m z=>?_
 have j:Inv X c i H {s with heap:=m}:=I.kept (t':=s.toks) fun b o e=>z b o (vE (vI e)) e
 exact h c _ i H B _ Q j (by simpa using g) f
def gSub(to ti:TE)(t:TSet):TG:=fun v σ H Q=>to σ H fun o H1=>ti σ H1 fun i H2=>t o i v H2 fun H3=>Q σ H3
theorem K1{o i:Expr}{e d:TE}{t:TSet}(p:PE X o e)(hi:PE X i d)(q:PSet X t)
  (n:∀v,assign (.Subscript o i pos) X.env v=(do
   let ov <-holding [v] (eval o X.env)
   let b <-holding [v,ov] (eval i X.env)
   standAt pos
   holding [v,ov,b] (setItem ov b v)
   release [v,ov,b] []):=by intro _;rfl):PG X (.Subscript o i pos) (gSub e d t):=by
 intro a s c H v u Q I r h;rw[n];refine um (wpAny_holding (thn (p a s c H _ I h) fun ov D ⟨x,f,k,B,w⟩=>?_));refine um (wpAny_holding (thn (hi a D c f _ k w) fun b E ⟨y,g,l,C,z⟩=>?_));refine um (wpAny_standAt (um (wpAny_holding (thn (q a E c g x y v ov b u _ l B C r z) fun _ J ⟨j,m,A⟩=>?_))));exact wpAny_release ⟨c,j,m,A⟩
def tAsg(te:TE)(g:TG):TS:=fun D σ H=>te σ H fun x H1=>g x σ H1 D.nx
theorem Z9{b e:Expr}{c:TE}{g:TG}(k:PE X e c)(l:PG X b g)(m:swapsWithSole [b] e pos.line X.env=pure false:=by rfl)(hw:swappedStores [b] e X.env=pure none:=by rfl)
  (j:(assignEach [b] X.env).map (·.2)=[assign b X.env]:=by rfl):PS X (.Assign [b] e pos) (tAsg c g):=by
 intro a s d H D I h;refine wpAny_Assign_stores (thn (k a s d H _ I h) fun v p ⟨x,f,i,o,n⟩=>?_) m hw;rw[j];exact thn (l a p d f x v _ i o n) fun _ r q=>q
theorem jr{i:Nat}{x:Str}{e:Expr}{c:TE}{a:Pos}(j:X.N.Nodup)(hi:X.N[i]?=some x)(n:Loc X.env.scope x)(k:PE X e c)(m:swapsWith e (some (.Name x a)) pos.line X.env=pure false:=by rfl)(l:X.fn x=true\/X.env.scope.names.lookup x=some .local:=by first | exact .inl rfl | exact .inr rfl | assumption) :
  PS X (.Assign [.Name x a] e pos) (tAsg c (gName i)):=by
 intro b s q H D I h;refine wpAny_Assign_Name (thn (k b s q H _ I h) fun v r ⟨y,d,f,p,o⟩=>?_) m;exact wu f j hi n p (fun t g=>⟨_,d,g,o⟩) l
def tAug(i:Nat)(te:TE)(ti:TIp):TS:=fun D σ H=>∃x,σ[i]?=some (some x)/\te σ H fun y H1=>ti x y H1 fun z H2=>D.nx (σ.set i (some z)) H2
theorem xw{i:Nat}{x:Str}{e:Expr}{t:TE}{o:Operator}{A:TIp}{f:Pos}(N:X.N.Nodup)(hi:X.N[i]?=some x)(n:Loc X.env.scope x)(P:PE X e t)(U:PIp X o A)(Q:X.fn x=true\/X.env.scope.names.lookup x=some .local:=by first | exact .inl rfl | exact .inr rfl | assumption) :
  PS X (.AugAssign (.Name x f) o e pos) (tAug i t A):=by
 intro a s B H D I h;obtain⟨v,M,h⟩:=h;obtain⟨m,T,R⟩:=I.loc;have p:Vis X.env.scope x:=by rcases n with k | k;exact .inl k;exact .inr (.inl k)
 obtain⟨u,r,l⟩:=R i x v hi M p;refine wpAny_AugAssign_Name ?_;have q:wpAny (model X.prog X.w) X.A (eval e X.env) (fun w g=>wpAny (model X.prog X.w) X.A (inplaceOp o u w) (fun r j=>wpAny (model X.prog X.w) X.A (storeName X.env x r) (fun _=>SP X a D .next) X.xe j) X.xe g) X.xe s:=by
  refine thn (P a s B H _ I h) fun w s1 ⟨y,C,J,Z,W⟩=>?_
  refine thn (U a s1 B C v y u w _ J r Z W) fun z s2 ⟨zv,E,K,r2,Y⟩=>?_
  exact wu K N hi n r2 (fun s3 L=>⟨_,E,L,Y⟩) Q
 rcases l with⟨b,S⟩ | ⟨b,c,O,d⟩
 ·exact wpAny_loadName_local I.ok.kind b T S q
 ·rcases b with b | b
  ·exact wpAny_loadName_cell I.ok.kind b O d q
  ·rcases n with k | k
   ·have:X.env.scope.names.lookup x=some .free:=b;rw[k]at this;cases this
   ·have:X.env.scope.names.lookup x=some .free:=b;rw[k]at this;cases this
noncomputable def ipI(f:Int->Int->Int):TIp:=fun x y H Q=>∃i j,x = .int i/\y = .int j/\Q (.int (f i j)) H
theorem WY:PIp X .Add (ipI fun i j=>i+j):=by
 intro a s g H x y v u Q I d e h;obtain⟨i,j,b,c,q⟩:=h;subst b;subst c;obtain⟨t,rfl⟩:=d;obtain⟨f,rfl⟩:=e;exact iadd_int ⟨.int _,H,I.tok _,⟨_,rfl⟩,q⟩
end
section
variable{X:Cx}{pos:Pos}
def tWhile(c:TT)(tb:TS):TS:=fun D σ H=>∃W:Nat->St->Hp->Prop,(∃m,W m σ H)/\∀m σ H,W m σ H->
 c σ H fun b H1=>if b=true then∃N:St->Hp->Prop,(∀σ' H',N σ' H'->∃m',m'<m/\W m' σ' H')/\tb {D with nx:=N,ct:=N,bk:=D.nx} σ H1 else D.nx σ H1
theorem XB{c:Expr}{g:List Stmt}{C:TT}{B:TS}(A:PassesOwn (model X.prog X.w) X.A X.env X.xe)(K:PT X c C)(J:PSs X g B):PS X (.While c g [] pos) (tWhile C B):=by
 intro a s S H D I h;obtain⟨W,⟨L,Q⟩,j⟩:=h;refine wpAny_While (codeAny_whileLoop (fun n M=>∃k u,Inv X a k u M/\W n k u) ?_ L ⟨S,H,I,Q⟩);rintro n O ⟨e,w,E,R⟩;refine wpAny_passesOwn A (thn (K a O e w _ E (j n e w R)) fun b P ⟨x,y,l⟩=>?_);cases b with
 | true=>
  obtain⟨N,z,l⟩:=l;rw[vd rfl];refine wpAny_passesOwn A (thn (J a P e x _ y l) fun f T m=>?_);cases f with
  | next=>
   obtain⟨d,i,o,r⟩:=m;obtain⟨q,p,t⟩:=z d i r;exact⟨q,p,d,i,o,t⟩
  | cont=>
   obtain⟨d,i,o,r⟩:=m;obtain⟨q,p,t⟩:=z d i r;exact⟨q,p,d,i,o,t⟩
  | brk=>exact m
  | ret v=>exact m
 | false=>
  rw[vc vF];exact wpAny_execs_nil ⟨e,x,y,l⟩
end
structure It where
 go:Nat->Hp->Prop
 yld:Nat->Hp->V->Hp->Prop
 stop:Nat->Hp->Prop
def FpOk(X:Cx)(pins:List (Addr×Obj))(H:Hp)(b:Addr):Prop:=
 H b=none/\b≠X.env.locals/\b∉X.fs/\(b∈X.ex\/X.s₀.heap.objs.size<=b)/\(∀x c,X.env.cells.lookup x=some c->c≠b)/\∀p∈X.pn++pins,p.1≠b
theorem Inv.fpOk{g:St}{H H':Hp}(I:Inv X pins g H s)(a:s.heap.objs.size<=b)(d:H' b=none):FpOk X pins H' b:=by
 refine⟨d,vN (Nat.lt_of_lt_of_le I.lt a),I.nofs a,.inr (vV I.sz a),fun x c e z=>?_,fun p f z=>?_⟩
 ·obtain⟨v,q⟩:=I.cell x c e;exact uh (Nat.lt_of_lt_of_le q.lt (by rw[z];exact a)) (Nat.lt_irrefl _)
 ·exact uh (Nat.lt_of_lt_of_le (vI (I.pin p f).1) (by rw[z];exact a)) (Nat.lt_irrefl _)
structure Turn(P:Program)(w:World)(K:Frg)(tg:Expr)(J:It)(fp:List Addr)(it:Addr)(tn:Nat->Heap->Prop):Prop where
 mem:it∈fp
 obj:∀i h,tn i h->∀b∈fp,∃o,h.get? b=some o/\∀v,o.data≠.cell v
 keep:∀i h h',tn i h->(∀b∈fp,∀o,h.get? b=some o->h'.get? b=some o)->tn i h'
 item:∀(X:Cx),X.prog=P->X.w=w->X.K=K->X.calm=true->∀(i:Nat) (pins:List (Addr×Obj)) (s:Shared) (σ:St) (H:Hp) (E:Value->Shared->Prop),Inv X pins σ H s->(∀b∈fp,FpOk X pins H b)->tn i s.heap->J.go i H->
  wpAny (model P w) X.A (pyNext (.ref it)) (fun r s1=>∃u,r=some u/\
   wpAny (model P w) X.A (letOwnedTupleGo tg (.ref it) u) (fun _ s2=>∃x H',Inv X pins σ H' s2/\RelV x u/\J.yld i H x H'/\tn (i+1) s2.heap/\∀b∈fp,H' b=none) E s1) E s
 done:∀(X:Cx),X.prog=P->X.w=w->X.K=K->X.calm=true->∀(i:Nat) (pins:List (Addr×Obj)) (s:Shared) (σ:St) (H:Hp) (E:Value->Shared->Prop),Inv X pins σ H s->(∀b∈fp,FpOk X pins H b)->tn i s.heap->J.stop i H->
  wpAny (model P w) X.A (pyNext (.ref it)) (fun r s1=>r=none/\Inv X pins σ H s1) E s
 self:∀(A:Around) (i:Nat) (s:Shared) (Q:Value->Shared->Prop) (E:Value->Shared->Prop),tn i s.heap->Q (.ref it) s->wpAny (model P w) A (pyIter (.ref it)) Q E s
noncomputable abbrev TI:=St->Hp->(It->Hp->Prop)->Prop
def PIE(X:Cx)(pins:List (Addr×Obj))(σ:St)(tg:Expr)(R:It->Hp->Prop)(itv:Value)(s2:Shared):Prop:=
 ∃(it:Addr) (fp:List Addr) (tn:Nat->Heap->Prop) (J:It) (H':Hp),itv = .ref it/\Inv X pins σ H' s2/\Turn X.prog X.w X.K tg J fp it tn/\tn 0 s2.heap/\(∀b∈fp,FpOk X pins H' b)/\R J H'
def PI(X:Cx)(tg iter:Expr)(wi:TI):Prop:=
 ∀(pins:List (Addr×Obj)) (s:Shared) (σ:St) (H:Hp) (R:It->Hp->Prop),Inv X pins σ H s->wi σ H R->
  wpAny (model X.prog X.w) X.A (eval iter X.env) (fun v s1=>wpAny (model X.prog X.w) X.A (pyIter v) (PIE X pins σ tg R) X.xe s1) X.xe s
theorem Xi{E:Value->Shared->Prop}{Q:Unit->Shared->Prop}(d:s.heap.get? it=some o)(b:o.cls = .type n)(hd:o.data = .fields vs)
    (c:["enumerate","zip","dict_itemiterator","dict_reverseitemiterator","odict_iterator","itertools.zip_longest","itertools.pairwise"].contains n=false) (a:Q () s):wpAny M A (letOwnedTupleGo tg (.ref it) u) Q E s:=by
  unfold letOwnedTupleGo;cases tg<;>first
    | exact uk a
    | (cases u<;>first
        | exact uk a
        | (refine um (wpAny_load d ?_)
           rw[b,hd];show wpAny M A (if(["enumerate","zip","dict_itemiterator","dict_reverseitemiterator","odict_iterator","itertools.zip_longest","itertools.pairwise"].contains n&&vs[0]?==some (rawInt _))=true then _ else _) Q E s;rw[vc (by intro h;rw[c,Bool.false_and]at h;cases h)];exact uk a))
def Itl(K:Frg)(a:Addr):It:=
 ⟨fun i H=>∃xs x,SqL K H a xs/\xs[i]?=some x,fun i H x H'=>H'=H/\∀xs,SqL K H a xs->xs[i]?=some x,fun i H=>∃xs,SqL K H a xs/\xs.length<=i⟩
def Itt(K:Frg)(a:Addr):It:=
 ⟨fun i H=>∃xs x,SqT K H a xs/\xs[i]?=some x,fun i H x H'=>H'=H/\∀xs,SqT K H a xs->xs[i]?=some x,fun i H=>∃xs,SqT K H a xs/\xs.length<=i⟩
def Itr(lo:Int)(n:Nat):It:=⟨fun i _=>i<n,fun i H x H'=>H'=H/\x = .int (lo+i),fun i _=>n<=i⟩
theorem Wy{P:Program}{w:World}{K:Frg}{tg:Expr}(a it:Addr):Turn P w K tg (Itl K a) [it] it (fun i h=>h.IsListIter it a i) where
 mem:=by simp
 obj:=fun i h f b j=>by
  have e:b=it:=by simpa using j
  subst e;obtain⟨o,e,c,d⟩:=f;exact⟨o,e,fun v z=>by rw[d]at z;cases z⟩
 keep:=fun i h m f k=>f.at fun o e=>k it (by simp) o e
 item:=by
  intro X D L C Q i g s R H E I n f J;subst D L C;obtain⟨xs,x,q,M⟩:=J;obtain⟨N,O,p,Z⟩:=I.list q;obtain⟨u,W,ru⟩:=O.get M;obtain⟨r,t,U,y,A,B⟩:=n it (by simp);refine wpAny_pyNext_list_item f p.isList (x:=u) (by simpa using W) fun m l sb=>?_
  have S:Inv X g R H {s with heap:=m}:=I.turned (t':=s.toks) (fun b o j e=>(sb.2 b j).trans e) r t y A B;obtain⟨o,e,c,d⟩:=id l;exact⟨u,rfl,Xi (s:={s with heap:=m}) e c d (by decide) ⟨x,H,S,ru,⟨rfl,fun ys Y=>by rw[I.list_inj Y q];exact M⟩,l,fun b j=>(n b j).1⟩⟩
 done:=by
  intro X D L C Q i g s R H E I n f J;subst D L C;obtain⟨xs,q,M⟩:=J;obtain⟨N,O,p,Z⟩:=I.list q;obtain⟨r,t,U,y,A,B⟩:=n it (by simp);have hl:=O.length;exact wpAny_pyNext_list_end (I.ok.hd Q) f p.isList (by simp;lia) fun m T=>⟨rfl,I.turned (t':=s.toks) (fun b o j e=>T b o j e) r t y A B⟩
 self:=fun _ _ _ _ _ f h=>wpAny_pyIter_listiter f h
theorem wx{P:Program}{w:World}{K:Frg}{tg:Expr}(a it:Addr):Turn P w K tg (Itt K a) [it] it (fun i h=>h.IsTupleIter it a i) where
 mem:=by simp
 obj:=fun i h f b j=>by
  have e:b=it:=by simpa using j
  subst e;obtain⟨o,e,c,d⟩:=f;exact⟨o,e,fun v z=>by rw[d]at z;cases z⟩
 keep:=fun i h n f k=>f.at fun o e=>k it (by simp) o e
 item:=by
  intro X J M D Q i g s R H E I q f L;subst J M D;obtain⟨xs,x,r,N⟩:=L;obtain⟨l,O,p,Z⟩:=I.tuple r;obtain⟨u,W,ru⟩:=O.get N;obtain⟨t,y,U,A,B,C⟩:=q it (by simp);refine wpAny_pyNext_tuple_item f (show s.heap.IsTuple a l.toArray from p) (x:=u) (by simpa using W) fun n m sb=>?_
  have S:Inv X g R H {s with heap:=n}:=I.turned (t':=s.toks) (fun b o j e=>(sb.2 b j).trans e) t y A B C;obtain⟨o,e,c,d⟩:=id m;exact⟨u,rfl,Xi (s:={s with heap:=n}) e c d (by decide) ⟨x,H,S,ru,⟨rfl,fun ys Y=>by rw[I.tuple_inj Y r];exact N⟩,m,fun b j=>(q b j).1⟩⟩
 done:=by
  intro X J M D Q i g s R H E I q f L;subst J M D;obtain⟨xs,r,N⟩:=L;obtain⟨l,O,p,Z⟩:=I.tuple r;obtain⟨t,y,U,A,B,C⟩:=q it (by simp);have hl:=O.length;exact wpAny_pyNext_tuple_end (I.ok.hd Q) f (show s.heap.IsTuple a l.toArray from p) (by simp;lia) fun n T=>⟨rfl,I.turned (t':=s.toks) (fun b o j e=>T b o j e) t y A B C⟩
 self:=fun _ _ _ _ _ f h=>wpAny_pyIter_tupleiter f h
theorem j0r{P:Program}{w:World}{K:Frg}{Q:Expr}(it:Addr)(lo:Int)(n:Nat):Turn P w K Q (Itr lo n) [it] it (fun i h=>IsRangeIter h it (lo+(i:Nat)*1) ((n:Int)-(i:Nat)) 1) where
 mem:=by simp
 obj:=fun i h a b d=>by
  have e:b=it:=by simpa using d
  subst e;exact⟨_,a,fun v z=>by
   have R:Data.fields _=Data.cell v:=z;cases R⟩
 keep:=fun i h g a k=>k it (by simp) _ a
 item:=by
  intro X x B u y i c s D H E I j a A;subst x B u;obtain⟨l,m,M,p,q,r⟩:=j it (by simp);have W:=Walks.range (prog:=X.prog) (w:=X.w) (I.ok.hd y) it lo 1 n;refine W.item i s _ _ A a fun v g C N f O=>?_
  obtain⟨t,rfl⟩:=N;have J:Inv X c D H {s with heap:=g,toks:=C}:=I.turned (fun b o d e=>O b o (by simpa using d) e) l m p q r;refine⟨_,rfl,Xi (s:={s with heap:=g,toks:=C}) (n:="range_iterator") f rfl rfl (by decide) ⟨.int (lo+i),H,J,⟨t,?_⟩,⟨rfl,rfl⟩,f,fun b d=>(j b d).1⟩⟩;rw[Int.mul_one]
 done:=by
  intro X x B u y i c s D H E I j a A;subst x B u;obtain⟨l,m,M,p,q,r⟩:=j it (by simp);exact wpAny_pyNext_range_end (I.ok.hd y) a (by have:n<=i:=A;lia) fun g L=>⟨rfl,I.turned (t':=s.toks) (fun b o d e=>L b o d e) l m p q r⟩
 self:=fun _ _ _ _ _ a h=>wpAny_pyIter_rangeiter a h
section
variable{X:Cx}{tg:Expr}
def iList(K:Frg)(tl:TE):TI:=fun σ H R=>tl σ H fun x H1=>∃a,x = .ref a/\(∃xs,SqL K H1 a xs)/\R (Itl K a) H1
def iTup(K:Frg)(tl:TE):TI:=fun σ H R=>tl σ H fun x H1=>∃a,x = .ref a/\(∃xs,SqT K H1 a xs)/\R (Itt K a) H1
theorem Jh{l:Expr}{g:TE}(k:PE X l g):PI X tg l (iList X.K g):=by
 intro c s u H R I h;refine thn (k c s u H _ I h) fun v f ⟨x,i,d,t,r⟩=>?_
 obtain⟨a,e,⟨z,m⟩,q⟩:=r;subst e;cases t;obtain⟨n,y,p,w⟩:=d.list m;refine wpAny_pyIter_list p.isList ?_;refine⟨f.heap.objs.size,[f.heap.objs.size],_,_,i,rfl,d.kept (t':=f.toks) fun b o e=>vJ _ e,Wy a _,⟨_,Heap.get?_push_size _ rfl,rfl,rfl⟩,fun b j=>?_,q⟩;have e:b=f.heap.objs.size:=by simpa using j
 subst e;exact d.fpOk (vb _) (d.hok.fresh (vb _))
theorem xv{l:Expr}{i:TE}(m:PE X l i):PI X tg l (iTup X.K i):=by
 intro c s u H R I h;refine thn (m c s u H _ I h) fun v d ⟨x,j,f,t,r⟩=>?_
 obtain⟨a,e,⟨z,n⟩,q⟩:=r;subst e;cases t;obtain⟨g,y,p,w⟩:=f.tuple n;refine wpAny_pyIter_tuple (show d.heap.IsTuple a g.toArray from p) ?_;refine⟨d.heap.objs.size,[d.heap.objs.size],_,_,j,rfl,f.kept (t':=d.toks) fun b o e=>vJ _ e,wx a _,⟨_,Heap.get?_push_size _ rfl,rfl,rfl⟩,fun b k=>?_,q⟩;have e:b=d.heap.objs.size:=by simpa using k
 subst e;exact f.fpOk (vb _) (f.hok.fresh (vb _))
theorem j3b{a:List (Addr×Obj)}{f:St}{H:Hp}{s:Shared}{R:It->Hp->Prop}{E:Value->Shared->Prop}{lo hi:Int}{t u v:Tok}{d:Nat}(I:Inv X a f H s)(i : -(2^62)<=lo)(j:lo<2^62)(k : -(2^62)<=hi)(l:hi<2^62)
  (q:R (Itr lo (hi-lo).toNat) H):wpAny (model X.prog X.w) X.A (pyIter (.ref s.heap.objs.size)) (PIE X a f tg R) E {s with heap:=s.heap.push {cls:=.type "range",data:=.fields #[.int lo t,.int hi u,.int 1 v]},toks:=d}:=by
 refine wpAny_pyIter_range (IsRange.new ..) (small_one i j k l) ?_;have c:Inv X a f H {s with heap:=s.heap.push {cls:=.type "range",data:=.fields #[.int lo t,.int hi u,.int 1 v]},toks:=d}:=I.kept fun b o e=>vJ _ e
 refine⟨(s.heap.push {cls:=.type "range",data:=.fields #[.int lo t,.int hi u,.int 1 v]}).objs.size,[(s.heap.push {cls:=.type "range",data:=.fields #[.int lo t,.int hi u,.int 1 v]}).objs.size],_,_,H,rfl,
  c.kept (t':=d) fun b o e=>vJ _ e,j0r _ lo (hi-lo).toNat,?_,fun b m=>?_,q⟩
 ·have g:lo+((0:Nat):Int)*1=lo:=by simp
  have h:(((hi-lo).toNat:Nat):Int)-((0:Nat):Int)=Builtin.Range.rangeSize lo hi 1:=by rw[rangeSize_one];split<;>lia
  show IsRangeIter _ _ (lo+((0:Nat):Int)*1) ((((hi-lo).toNat:Nat):Int)-((0:Nat):Int)) 1;rw[g,h];exact Heap.get?_push_size _ rfl
 ·have e:b=(s.heap.push {cls:=.type "range",data:=.fields #[.int lo t,.int hi u,.int 1 v]}).objs.size:=by simpa using m
  subst e;exact c.fpOk (vb _) (c.hok.fresh (vb _))
def iRng1(ta:TA):TI:=fun σ H R=>ta σ H fun vs H1=>∃j:Int,vs=[.int j]/\-(2^62)<=j/\j<2^62/\R (Itr 0 j.toNat) H1
theorem JY{a:Expr}{f:TA}{p c:Pos}(k:Gl X "range")(l:X.mg "range"= none)(i:PA X [a] f)(m:starEach [a] X.env=[(false,eval a X.env)]:=by rfl):PI X tg (.Call (.Name "range" p) [a] [] c) (iRng1 f):=by
 intro b s u H R I h;refine Call_ (Z3 I k l boot_range (PyProof.Rows.callWith_type1 (thn (i c b s u H _ I h) fun x w ⟨y,v,g,o,d⟩=>?_) m rfl));obtain⟨j,e,d,n,q⟩:=d;subst e;cases o with
 | cons r rr=>
  cases rr;obtain⟨t,rfl⟩:=r;exact call_range_1 (j3b g (by lia) (by lia) d n (by simpa using q))
def tFor(wi:TI)(g:TG)(tb:TS):TS:=fun D σ H=>wi σ H fun J H1=>∃W:Nat->Nat->St->Hp->Prop,(∃m,W 0 m σ H1)/\∀i m σ H,W i m σ H->
 (J.stop i H/\D.nx σ H)\/(J.go i H/\∃N:St->Hp->Prop,(∀σ' H',N σ' H'->∃m',m'<m/\W (i+1) m' σ' H')/\∀x H',J.yld i H x H'->g x σ H' fun σ2 H2=>tb {D with nx:=N,ct:=N,bk:=D.nx} σ2 H2)
noncomputable def pinsAt(fp:List Addr)(h:Heap):List (Addr×Obj):=fp.filterMap fun b=>(h.get? b).map fun o=>(b,o)
theorem Zp(a:b∈fp)(e:h.get? b=some o):(b,o)∈pinsAt fp h:=mem_filterMap.mpr ⟨b,a,by rw[e];rfl⟩
theorem j1I(d:p∈pinsAt fp h):p.1∈fp/\h.get? p.1=some p.2:=by
 obtain⟨b,c,e⟩:=mem_filterMap.mp d;cases q:h.get? b with
 | none=>rw[q]at e;cases e
 | some o=>
  rw[q]at e;have a:(b,o)=p:=vL e;subst a;exact⟨c,q⟩
theorem Inv.pinned{f:St}{H:Hp}(I:Inv X pins f H s)(j:∀b∈fp,FpOk X pins H b)(k:∀b∈fp,∃o,s.heap.get? b=some o/\∀v,o.data≠.cell v):Inv X (pins++pinsAt fp s.heap) f H s:=
 I.pins_of fun p l=>(vh.mp l).elim (fun z=>I.pin p (mem_append_right _ z)) fun z=>by
  obtain⟨c,e⟩:=j1I z;obtain⟨g,h,i,_⟩:=j p.1 c;obtain⟨o,a,d⟩:=k p.1 c;rw[e]at a;cases a;exact⟨e,g,h,i,d⟩
theorem Inv.unpinned{a:St}{H:Hp}(I:Inv X (pins++pl) a H s):Inv X pins a H s:=I.pins_of fun p b=>I.pin p (mem_append_right _ (mem_append_left _ b))
theorem Jd{q:Expr}{A:List Stmt}{wi:TI}{g:TG}{tb:TS}{a0:Pos}(L:PassesOwn (model X.prog X.w) X.A X.env X.xe)(hc:X.calm=true)(hi:PI X tg q wi)(hg:PG X tg g)(p:PSs X A tb)
  (hs:∀x,foldedSetIterable q X.env x=pure x:=by intro _;rfl):PS X (.For tg q A [] a0) (tFor wi g tb):=by
 intro a s σ H D I h;refine wpAny_For (thn (hi a s σ H _ I h) fun v s1 h1=>thn h1 fun a3 s2 h2=>?_) hs;obtain⟨it,E,tn,J,H2,e,I2,T,a1,f2,W,⟨m0,w0⟩,R⟩:=h2;subst e;have t:∀{z:Hp},(∀b∈E,z b=none)->∀b∈E,FpOk X a z b:=fun hn b p=>⟨hn b p,(f2 b p).2⟩
 refine codeAny_forLoop_any (fun n s'=>∃i w z,Inv X a w z s'/\tn i s'.heap/\(∀b∈E,z b=none)/\W i n w z) ?_ m0 ⟨0,σ,H2,I2,a1,fun b p=>(f2 b p).1,w0⟩;rintro n s3 ⟨i,y,S,I3,O,K,w3⟩;rcases R i n y S w3 with⟨Q,qn⟩ | ⟨go,N,hN,P⟩
 ·refine wpAny_passesOwn L (thn (T.done X rfl rfl rfl hc i a s3 y S X.xe I3 (t K) O Q) fun r s4 ⟨Z,I4⟩=>?_);subst Z;exact wpAny_execs_nil ⟨y,S,I4,qn⟩
 ·refine wpAny_passesOwn L (thn (T.item X rfl rfl rfl hc i a s3 y S X.xe I3 (t K) O go) fun r s4 ⟨u,Z,h4⟩=>?_);subst Z;refine wpAny_passesOwn L (thn h4 fun _ s5 ⟨x,H5,I5,r5,y5,C,Y⟩=>?_);have U:=I5.pinned (t Y) (T.obj _ _ C);refine wpAny_passesOwn L (thn (hg _ s5 y H5 x u _ U r5 (P x H5 y5)) fun _ s6 ⟨a2,H6,I6,q6⟩=>?_);refine wpAny_passesOwn L (thn (p _ s6 a2 H6 _ I6 q6) fun f s7 B=>?_);have l:∀{c:St} {j:Hp},Inv X (a++pinsAt E s5.heap) c j s7->N c j->∃m,m<n/\∃i w z,Inv X a w z s7/\tn i s7.heap/\(∀b∈E,z b=none)/\W i m w z:=fun {c j} k M=>by
   obtain⟨m',hm,w7⟩:=hN c j M;refine⟨m',hm,i+1,c,j,k.unpinned,T.keep _ _ _ C fun b p o e=>(k.pin (b,o) (mem_append_right _ (mem_append_right _ (Zp p e)))).1,fun b p=>?_,w7⟩;obtain⟨o,e,d⟩:=T.obj _ _ C b p;exact(k.pin (b,o) (mem_append_right _ (mem_append_right _ (Zp p e)))).2.1
  cases f with
  | next=>obtain⟨c,j,k,M⟩:=B;exact l k M
  | cont=>obtain⟨c,j,k,M⟩:=B;exact l k M
  | brk=>obtain⟨c,j,k,B⟩:=B;exact⟨c,j,k.unpinned,B⟩
  | ret v=>obtain⟨x7,c,j,k,r7,B⟩:=B;exact⟨x7,c,j,k.unpinned,r7,B⟩
end
theorem JW{K:Frg}{a:Addr}{xs:List V}{g:TG}{j:TS}{D:Ends}{b:St}{H:Hp}(c:Nat->St->Hp->Prop)(k:c 0 b H)(n:∀i b H,i<=xs.length->c i b H->SqL K H a xs)
  (o:∀i x b H,xs[i]?=some x->c i b H->g x b H fun d H2=>j {D with nx:=c (i+1),ct:=c (i+1),bk:=D.nx} d H2) (hd:∀b H,c xs.length b H->D.nx b H) :
  ∃W:Nat->Nat->St->Hp->Prop,(∃m,W 0 m b H)/\∀i m b H,W i m b H->
   ((Itl K a).stop i H/\D.nx b H)\/((Itl K a).go i H/\∃N:St->Hp->Prop,(∀σ' H',N σ' H'->∃h,h<m/\W (i+1) h σ' H')/\∀x H',(Itl K a).yld i H x H'->g x b H' fun d H2=>j {D with nx:=N,ct:=N,bk:=D.nx} d H2):=by
 refine⟨fun i m b H=>m=xs.length-i/\i<=xs.length/\c i b H,⟨xs.length,by simp,va _,k⟩,?_⟩;rintro i m b H ⟨rfl,l,p⟩;have q:=n i b H l p;by_cases f:i<xs.length
 ·refine .inr ⟨⟨xs,xs[i],q,by simp[f]⟩,c (i+1),fun σ' H' r=>⟨xs.length-(i+1),by lia,rfl,f,r⟩,fun x H' y=>?_⟩;obtain⟨e,y⟩:=y;subst e;exact o i x b _ (y xs q) p
 ·have e:i=xs.length:=by lia
  subst e;exact .inl ⟨⟨xs,q,vb _⟩,hd b H p⟩
theorem j3Z{K:Frg}{a:Addr}{xs:List V}{g:TG}{j:TS}{D:Ends}{b:St}{H:Hp}(c:Nat->St->Hp->Prop)(k:c 0 b H)(n:∀i b H,i<=xs.length->c i b H->SqT K H a xs)
  (o:∀i x b H,xs[i]?=some x->c i b H->g x b H fun d H2=>j {D with nx:=c (i+1),ct:=c (i+1),bk:=D.nx} d H2) (hd:∀b H,c xs.length b H->D.nx b H) :
  ∃W:Nat->Nat->St->Hp->Prop,(∃m,W 0 m b H)/\∀i m b H,W i m b H->
   ((Itt K a).stop i H/\D.nx b H)\/((Itt K a).go i H/\∃N:St->Hp->Prop,(∀σ' H',N σ' H'->∃h,h<m/\W (i+1) h σ' H')/\∀x H',(Itt K a).yld i H x H'->g x b H' fun d H2=>j {D with nx:=N,ct:=N,bk:=D.nx} d H2):=by
 refine⟨fun i m b H=>m=xs.length-i/\i<=xs.length/\c i b H,⟨xs.length,by simp,va _,k⟩,?_⟩;rintro i m b H ⟨rfl,l,p⟩;have q:=n i b H l p;by_cases f:i<xs.length
 ·refine .inr ⟨⟨xs,xs[i],q,by simp[f]⟩,c (i+1),fun σ' H' r=>⟨xs.length-(i+1),by lia,rfl,f,r⟩,fun x H' y=>?_⟩;obtain⟨e,y⟩:=y;subst e;exact o i x b _ (y xs q) p
 ·have e:i=xs.length:=by lia
  subst e;exact .inl ⟨⟨xs,q,vb _⟩,hd b H p⟩
theorem qK{lo:Int}{n:Nat}{g:TG}{h:TS}{D:Ends}{a:St}{H:Hp}(b:Nat->St->Hp->Prop)(j:b 0 a H)
  (k:∀i a H,i<n->b i a H->g (.int (lo+i)) a H fun d H2=>h {D with nx:=b (i+1),ct:=b (i+1),bk:=D.nx} d H2) (hd:∀a H,b n a H->D.nx a H) :
  ∃W:Nat->Nat->St->Hp->Prop,(∃m,W 0 m a H)/\∀i m a H,W i m a H->
   ((Itr lo n).stop i H/\D.nx a H)\/((Itr lo n).go i H/\∃N:St->Hp->Prop,(∀σ' H',N σ' H'->∃f,f<m/\W (i+1) f σ' H')/\∀x H',(Itr lo n).yld i H x H'->g x a H' fun d H2=>h {D with nx:=N,ct:=N,bk:=D.nx} d H2):=by
 refine⟨fun i m a H=>m=n-i/\i<=n/\b i a H,⟨n,by simp,va _,j⟩,?_⟩;rintro i m a H ⟨rfl,o,p⟩;by_cases c:i<n
 ·refine .inr ⟨c,b (i+1),fun σ' H' l=>⟨n-(i+1),by lia,rfl,c,l⟩,fun x H' y=>?_⟩;obtain⟨e,y⟩:=y;subst e y;exact k i a _ c p
 ·have e:i=n:=by lia
  subst e;exact .inl ⟨vb _,hd a H p⟩
noncomputable abbrev R2:=V->V->Hp->VK->Prop
def OpR(X:Cx)(f:Value->Value->Sem Value)(r:R2):Prop:=
 ∀(pins:List (Addr×Obj)) (s:Shared) (σ:St) (H:Hp) (x y:V) (v u:Value) (Q:VK),Inv X pins σ H s->RelV x v->RelV y u->r x y H Q->
  wpAny (model X.prog X.w) X.A (f v u) (EP X pins σ Q) X.xe s
def UnR(X:Cx)(f:Value->Sem Value)(r:V->Hp->VK->Prop):Prop:=
 ∀(pins:List (Addr×Obj)) (s:Shared) (σ:St) (H:Hp) (x:V) (v:Value) (Q:VK),Inv X pins σ H s->RelV x v->r x H Q->
  wpAny (model X.prog X.w) X.A (f v) (EP X pins σ Q) X.xe s
def CallR(X:Cx)(f:Value)(r:List V->Hp->VK->Prop):Prop:=
 ∀(pins:List (Addr×Obj)) (s:Shared) (σ:St) (H:Hp) (xs:List V) (us:List Value) (Q:VK),Inv X pins σ H s->Vals xs us->r xs H Q->
  wpAny (model X.prog X.w) X.A (call f us) (EP X pins σ Q) X.xe s
def TruR(X:Cx)(r:V->Hp->(Bool->Hp->Prop)->Prop):Prop:=
 ∀(pins:List (Addr×Obj)) (s:Shared) (σ:St) (H:Hp) (x:V) (v:Value) (Q:Bool->Hp->Prop),Inv X pins σ H s->RelV x v->r x H Q->
  wpAny (model X.prog X.w) X.A (truthy v) (TP X pins σ Q) X.xe s
def tOp(r:R2)(ta tb:TE):TE:=fun σ H Q=>ta σ H fun x H1=>tb σ H1 fun y H2=>r x y H2 Q
def tUn(r:V->Hp->VK->Prop)(ta:TE):TE:=fun σ H Q=>ta σ H fun x H1=>r x H1 Q
def rI(C:Int->Int->Prop)(g:Int->Int->V):R2:=fun x y H Q=>∃i j,x = .int i/\y = .int j/\C i j/\Q (g i j) H
def rI0(g:Int->Int->V):R2:=fun x y H Q=>∃i j,x = .int i/\y = .int j/\Q (g i j) H
noncomputable def rU(g:Int->V):V->Hp->VK->Prop:=fun x H Q=>∃i,x = .int i/\Q (g i) H
section
variable{X:Cx}{a b c:Expr}{ta tb tc:TE}{pos:Pos}
theorem binT(k:PE X a ta)(l:PE X b tb){c:St}{H:Hp}{R:V->V->Hp->Prop}(I:Inv X pins c H s)
  (h:ta c H fun x H1=>tb c H1 fun y H2=>R x y H2) {Q:Value->Shared->Prop} {f:Value->Value->Sem Value}
  (m:∀v u g x y H2,Inv X pins c H2 g->RelV x v->RelV y u->R x y H2->wpAny (model X.prog X.w) X.A (f v u) Q X.xe g) :
  wpAny (model X.prog X.w) X.A (eval a X.env) (fun v d=>wpAny (model X.prog X.w) X.A (eval b X.env) (fun u e=>wpAny (model X.prog X.w) X.A (f v u) Q X.xe e) X.xe d) X.xe s:=by
 refine thn (k pins s c H _ I h) fun v r ⟨x,H1,i,p,n⟩=>?_
 refine thn (l pins r c H1 _ i n) fun u g ⟨y,H2,j,q,o⟩=>?_
 exact m v u g x y H2 j p q o
theorem jq(i:OpR X (binaryOp op) r)(f:PE X a ta)(g:PE X b tb):PE X (.BinOp a op b pos) (tOp r ta tb):=by
 intro c s m H Q I h;exact wpAny_BinOp (binT f g I h fun v u l x y d e j k q=>i c l m d x y v u Q e j k q)
theorem Z8{r:V->Hp->VK->Prop}(g:UnR X (unaryOp op) r)(f:PE X a ta):PE X (.UnaryOp op a pos) (tUn r ta):=by
 intro b s c H Q I h;exact UnaryOp_ (thn (f b s c H _ I h) fun v k ⟨x,d,e,j,i⟩=>g b k c d x v Q e j i)
theorem opI{f:Value->Value->Sem Value}{C:Int->Int->Prop}{g:Int->Int->Int}
  (a:∀(i j:Int) (t u:Tok) (s:Shared) (Q:Value->Shared->Prop) (E:Value->Shared->Prop),C i j->Q (.int (g i j) s.toks) {s with toks:=s.toks+1}->wpAny (model X.prog X.w) X.A (f (.int i t) (.int j u)) Q E s) :
  OpR X f (rI C fun i j=>.int (g i j)):=by
 intro b s l H x y v u Q I d e h;obtain⟨i,j,rfl,rfl,c,q⟩:=h;obtain⟨t,rfl⟩:=d;obtain⟨k,rfl⟩:=e;exact a i j t k s _ _ c ⟨.int (g i j),H,I.tok _,⟨_,rfl⟩,q⟩
theorem opI0{f:Value->Value->Sem Value}{g:Int->Int->Int}
  (a:∀(i j:Int) (t u:Tok) (s:Shared) (Q:Value->Shared->Prop) (E:Value->Shared->Prop),Q (.int (g i j) s.toks) {s with toks:=s.toks+1}->wpAny (model X.prog X.w) X.A (f (.int i t) (.int j u)) Q E s) :
  OpR X f (rI0 fun i j=>.int (g i j)):=by
 intro b s k H x y v u Q I c d h;obtain⟨i,j,rfl,rfl,q⟩:=h;obtain⟨t,rfl⟩:=c;obtain⟨e,rfl⟩:=d;exact a i j t e s _ _ ⟨.int (g i j),H,I.tok _,⟨_,rfl⟩,q⟩
theorem opB0{f:Value->Value->Sem Value}{g:Int->Int->Bool}
  (a:∀(i j:Int) (t u:Tok) (s:Shared) (Q:Value->Shared->Prop) (E:Value->Shared->Prop),Q (.bool (g i j)) s->wpAny (model X.prog X.w) X.A (f (.int i t) (.int j u)) Q E s) :
  OpR X f (rI0 fun i j=>.bl (g i j)):=by
 intro b s k H x y v u Q I c d h;obtain⟨i,j,rfl,rfl,q⟩:=h;obtain⟨t,rfl⟩:=c;obtain⟨e,rfl⟩:=d;exact a i j t e s _ _ ⟨.bl (g i j),H,I,rfl,q⟩
def CPow(i j:Int):Prop:=0<=j/\j<=1000000/\i.natAbs<2^64
theorem jS:OpR X (binaryOp .Add) (rI0 fun i j=>.int (i+j)):=opI0 fun _ _ _ _ _ _ _ q=>add_int q
theorem Jt:OpR X (binaryOp .Sub) (rI0 fun i j=>.int (i-j)):=opI0 fun _ _ _ _ _ _ _ q=>sub_int q
theorem Ja:OpR X (binaryOp .Mod) (rI (fun _ j=>0<j) fun i j=>.int (i%j)):=opI fun i j _ _ _ _ _ a q=>by
 have b:(0:Int)<j:=a;exact mod_int' (by lia) (by rw[Int.fmod_eq_emod_of_nonneg i (by lia)];exact q)
theorem Z6:OpR X (binaryOp .Pow) (rI CPow fun i j=>.int (i^j.toNat)):=opI fun _ _ _ _ _ _ _ a q=>pow_int_small a.1 a.2.1 a.2.2 q
theorem unI{f:Value->Sem Value}{g:Int->Int}
  (a:∀(i:Int) (t:Tok) (s:Shared) (Q:Value->Shared->Prop) (E:Value->Shared->Prop),Q (.int (g i) s.toks) {s with toks:=s.toks+1}->wpAny (model X.prog X.w) X.A (f (.int i t)) Q E s) :
  UnR X f (rU fun i=>.int (g i)):=by
 intro b s d H x v Q I c h;obtain⟨i,rfl,q⟩:=h;obtain⟨t,rfl⟩:=c;exact a i t s _ _ ⟨.int (g i),H,I.tok _,⟨_,rfl⟩,q⟩
theorem zq:UnR X (unaryOp .USub) (rU fun i=>.int (-i)):=unI fun _ _ _ _ _ q=>neg_int q
end
noncomputable def scal:V->V->Bool
 | .non,.non=>true | .non,.int _=>true | .int _,.non=>true | .non,.bl _=>true | .bl _,.non=>true | .non,.str _=>true | .str _,.non=>true
 | .int _,.int _=>true | .bl _,.bl _=>true | .str _,.str _=>true | .byt _,.byt _=>true
 | .int _,.str _=>true | .str _,.int _=>true | .bl _,.str _=>true | .str _,.bl _=>true
 | _,_=>false
def rEq:R2:=fun x y H Q=>scal x y=true/\Q (.bl (decide (x=y))) H
def rNe:R2:=fun x y H Q=>scal x y=true/\Q (.bl (!decide (x=y))) H
theorem j0D:decide (V.int i=V.int j)=(i==j):=by
 rw[Bool.eq_iff_iff];simp
theorem j2l:decide (V.bl i=V.bl j)=(i==j):=by
 rw[Bool.eq_iff_iff];simp
theorem j0E:decide (V.str i=V.str j)=(i==j):=by
 rw[Bool.eq_iff_iff];simp
theorem j0C:decide (V.byt i=V.byt j)=(i.toList==j.toList):=by
 rw[Bool.eq_iff_iff];cases i;cases j;simp
section
variable{X:Cx}{a b c:Expr}{ta tb tc:TE}{pos:Pos}
theorem j9{a:St}{H:Hp}(I:Inv X pins a H s)(q:Q (.bl k) H)(e:k=k'):EP X pins a Q (.bool k') s:=by
 subst e;exact⟨.bl k,H,I,rfl,q⟩
theorem Jc:OpR X (compareOp .Eq) rEq:=by
 intro e s f H x y v u Q I d a h;obtain⟨c,q⟩:=h;cases x with
 | non=>
  cases d;cases y with
  | non=>cases a;exact PySem.EqNone.eq_none_none (j9 I q (by simp))
  | bl j=>cases a;exact PySem.EqNone.eq_none_bool (j9 I q (by simp))
  | int j=>obtain⟨b,rfl⟩:=a;exact PySem.EqNone.eq_none_int (j9 I q (by simp))
  | str j=>obtain⟨b,rfl⟩:=a;exact PySem.EqNone.eq_none_str (j9 I q (by simp))
  | _=>exact uh (show false=true from c) vF
 | bl i=>
  cases d;cases y with
  | non=>cases a;exact PySem.EqNone.eq_bool_none (j9 I q (by simp))
  | bl j=>cases a;exact eq_bool (j9 I q j2l)
  | str j=>obtain⟨b,rfl⟩:=a;exact PySem.EqMixed.eq_bool_str (j9 I q (by simp))
  | _=>exact uh (show false=true from c) vF
 | int i=>
  obtain⟨t,rfl⟩:=d;cases y with
  | non=>cases a;exact PySem.EqNone.eq_int_none (j9 I q (by simp))
  | int j=>obtain⟨b,rfl⟩:=a;exact eq_int (j9 I q j0D)
  | str j=>obtain⟨b,rfl⟩:=a;exact PySem.EqMixed.eq_int_str (j9 I q (by simp))
  | _=>exact uh (show false=true from c) vF
 | str i=>
  obtain⟨t,rfl⟩:=d;cases y with
  | non=>cases a;exact PySem.EqNone.eq_str_none (j9 I q (by simp))
  | bl j=>cases a;exact PySem.EqMixed.eq_str_bool (j9 I q (by simp))
  | int j=>obtain⟨b,rfl⟩:=a;exact PySem.EqMixed.eq_str_int (j9 I q (by simp))
  | str j=>obtain⟨b,rfl⟩:=a;exact eq_str (j9 I q j0E)
  | _=>exact uh (show false=true from c) vF
 | byt i=>
  obtain⟨t,rfl⟩:=d;cases y with
  | byt j=>obtain⟨b,rfl⟩:=a;exact PySem.W.eq_bytes (j9 I q j0C)
  | _=>exact uh (show false=true from c) vF
 | _=>cases y<;>exact uh (show false=true from c) vF
theorem j4x:OpR X (compareOp .NotEq) rNe:=by
 intro e s f H x y v u Q I d a h;obtain⟨c,q⟩:=h;cases x with
 | non=>
  cases d;cases y with
  | non=>cases a;exact PySem.EqNone.ne_none_none (j9 I q (by simp))
  | bl j=>cases a;exact PySem.EqNone.ne_none_bool (j9 I q (by simp))
  | int j=>obtain⟨b,rfl⟩:=a;exact PySem.EqNone.ne_none_int (j9 I q (by simp))
  | str j=>obtain⟨b,rfl⟩:=a;exact PySem.EqNone.ne_none_str (j9 I q (by simp))
  | _=>exact uh (show false=true from c) vF
 | bl i=>
  cases d;cases y with
  | non=>cases a;exact PySem.EqNone.ne_bool_none (j9 I q (by simp))
  | bl j=>cases a;exact ne_bool (j9 I q (congrArg not j2l))
  | str j=>obtain⟨b,rfl⟩:=a;exact PySem.EqMixed.ne_bool_str (j9 I q (by simp))
  | _=>exact uh (show false=true from c) vF
 | int i=>
  obtain⟨t,rfl⟩:=d;cases y with
  | non=>cases a;exact PySem.EqNone.ne_int_none (j9 I q (by simp))
  | int j=>obtain⟨b,rfl⟩:=a;exact ne_int (j9 I q (congrArg not j0D))
  | str j=>obtain⟨b,rfl⟩:=a;exact PySem.EqMixed.ne_int_str (j9 I q (by simp))
  | _=>exact uh (show false=true from c) vF
 | str i=>
  obtain⟨t,rfl⟩:=d;cases y with
  | non=>cases a;exact PySem.EqNone.ne_str_none (j9 I q (by simp))
  | bl j=>cases a;exact PySem.EqMixed.ne_str_bool (j9 I q (by simp))
  | int j=>obtain⟨b,rfl⟩:=a;exact PySem.EqMixed.ne_str_int (j9 I q (by simp))
  | str j=>obtain⟨b,rfl⟩:=a;exact ne_str (j9 I q (congrArg not j0E))
  | _=>exact uh (show false=true from c) vF
 | byt i=>
  obtain⟨t,rfl⟩:=d;cases y with
  | byt j=>obtain⟨b,rfl⟩:=a;exact PySem.W.ne_bytes (j9 I q (congrArg not j0C))
  | _=>exact uh (show false=true from c) vF
 | _=>cases y<;>exact uh (show false=true from c) vF
theorem Z5:OpR X (compareOp .Lt) (rI0 fun i j=>.bl (decide (i<j))):=opB0 fun _ _ _ _ _ _ _ q=>lt_int q
theorem Xz:OpR X (compareOp .LtE) (rI0 fun i j=>.bl (decide (i<=j))):=opB0 fun _ _ _ _ _ _ _ q=>le_int q
theorem ZI:OpR X (compareOp .Gt) (rI0 fun i j=>.bl (decide (j<i))):=opB0 fun _ _ _ _ _ _ _ q=>gt_int q
theorem j4w:OpR X (compareOp .GtE) (rI0 fun i j=>.bl (decide (j<=i))):=opB0 fun _ _ _ _ _ _ _ q=>ge_int q
theorem j2Y:OpR X (compareOp .Is) (fun x y H Q=>y = .non/\Q (.bl (decide (x = .non))) H):=by
 intro a s d H x y v u Q I b c h;obtain⟨rfl,q⟩:=h;cases c;refine is_none_gen (j9 I q ?_);cases x<;>first
  | (cases b;rfl)
  | (obtain⟨t,rfl⟩:=b;rfl)
theorem Kn:OpR X (compareOp .IsNot) (fun x y H Q=>y = .non/\Q (.bl (!decide (x = .non))) H):=by
 intro a s d H x y v u Q I b c h;obtain⟨rfl,q⟩:=h;cases c;refine isnot_none_gen (j9 I q ?_);cases x<;>first
  | (cases b;rfl)
  | (obtain⟨t,rfl⟩:=b;rfl)
theorem nomark(b:Expr)(h:op≠.In:=by decide)(d:op≠.NotIn:=by decide):behindInMarks op b=false:=by
 have a:(op==CmpOp.In)=false:=by cases op<;>first | rfl | exact uh rfl h
 have c:(op==CmpOp.NotIn)=false:=by cases op<;>first | rfl | exact uh rfl d
 cases b<;>simp[behindInMarks,a,c]
theorem j10(j:OpR X (compareOp op) r)(f:PE X a ta)(g:PE X b tb)(i:behindInMarks op b=false):PE X (.Compare a [op] [b] pos) (tOp r ta tb):=by
 intro c s n H Q I h;exact wpAny_Compare1 (binT f g I h fun v u m x y d e k l q=>j c m n d x y v u Q e k l q) i
def tTest(t:TE):TT:=fun σ H Q=>t σ H fun x H'=>∃k,x = .bl k/\Q k H'
theorem jt(t:OpR X (compareOp op) r)(o:PE X a ta)(p:PE X b tb)(q:behindInMarks op b=false):PT X (.Compare a [op] [b] pos) (tTest (tOp r ta tb)):=by
 intro d s f H Q I h;refine wpAny_isTrue_Compare1 (thn (o d s f H _ I h) fun v J ⟨x,g,l,C,w⟩=>thn (p d J f g _ l w) fun u K ⟨y,i,m,D,A⟩=>
  thn (t d K f i x y v u _ m C D A) fun c L ⟨z,j,n,E,k,e,B⟩=>?_) q
 subst e;cases E;exact wpAny_truthy_bool ⟨j,n,B⟩
def tChain(r r':R2)(ta tb tc:TE):TE:=fun σ H Q=>ta σ H fun x H1=>tb σ H1 fun y H2=>r x y H2 fun z H3=>∃k,z = .bl k/\
 (if k=true then tc σ H3 fun w' H4=>r' y w' H4 Q else Q (.bl false) H3)
theorem j36(N:OpR X (compareOp op) r)(i:OpR X (compareOp op') r')(J:PE X a ta)(K:PE X b tb)(L:PE X c tc)
  (M:lastMarks [op,op'] [b,c]=false:=by with_unfolding_all rfl):PT X (.Compare a [op,op'] [b,c] pos) (tTest (tChain r r' ta tb tc)):=by
 intro f s g H Q I h;refine isTrue_chain (thn (J f s g H _ I h) fun v s1 ⟨x,o,w,U,P⟩=>test_link (thn (K f s1 g o _ w P) fun u s2 ⟨y,p,A,n,R⟩=>
  thn (N f s2 g p x y v u _ A U n R) fun d s3 ⟨z,j,l,W,k,e,m⟩=>?_)) M
 subst e;cases W;refine wpAny_truthy_bool ?_;cases k with
 | false=>
  obtain⟨k',D,O⟩:=m;cases D;exact ite_ff ⟨j,l,O⟩
 | true=>
  refine ite_tt (test_last (thn (L f s3 g j _ l m) fun w' s4 ⟨z',q,B,Y,S⟩=>thn (i f s4 g q y z' u w' _ B n Y S) fun d' s5 ⟨z2,t,C,Z,k2,E,T⟩=>?_));subst E;cases Z;exact wpAny_truthy_bool ⟨t,C,T⟩
def TruV(K:Frg)(x:V)(H:Hp)(k:Bool):Prop:=
 match x with
 | .non=>k=false
 | .bl b=>k=b
 | .int i=>k=(i != 0)
 | .str y=>y.length<=sizeLine/\k=((y.length:Int) != 0)
 | .byt y=>y.size<=sizeLine/\k=((y.size:Int) != 0)
 | .ref p=>(∃xs,SqL K H p xs/\k = !xs.isEmpty)\/(∃xs,SqT K H p xs/\k = !xs.isEmpty)\/∃kvs,H p=some (.dK kvs)/\k = !kvs.isEmpty
 | _=>False
theorem j00{κ:Type}{kvs:List (κ×V)}{vs:List (κ×Value)}(r:KV kvs vs):(!vs.isEmpty) = !kvs.isEmpty:=by
 cases r<;>rfl
theorem KP{xs:List V}{a:List Value}(r:Vals xs a):(!a.toArray.isEmpty) = !xs.isEmpty:=by
 cases r<;>simp
theorem line63:(sizeLine:Nat)<2^63:=by rw[sizeLine_eq];decide
theorem j5g:TruR X (fun x H Q=>∃k,TruV X.K x H k/\Q k H):=by
 intro w s D H x v Q I g h;obtain⟨k,e,q⟩:=h;have B:=line63;have C:sizeLine=16777216:=sizeLine_eq;cases x with
 | non=>
  cases g;have a:k=false:=e;subst a;exact truthy_none ⟨H,I,q⟩
 | bl b=>
  cases g;have a:k=b:=e;subst a;exact wpAny_truthy_bool ⟨H,I,q⟩
 | int i=>
  obtain⟨t,rfl⟩:=g;have a:k=(i != 0):=e;subst a;exact PySem.P.truthy_int ⟨H,I,q⟩
 | str y=>
  obtain⟨t,rfl⟩:=g;obtain⟨A,a⟩:y.length<=sizeLine/\k=((y.length:Int) != 0):=e;subst a;exact PySem.P.truthy_str (by lia) ⟨H,I.tok _,q⟩
 | byt y=>
  obtain⟨t,rfl⟩:=g;obtain⟨A,a⟩:y.size<=sizeLine/\k=((y.size:Int) != 0):=e;subst a;exact PySem.W.truthy_bytes (by lia) ⟨H,I.tok _,q⟩
 | ref p=>
  cases g;have a:(∃f,SqL X.K H p f/\k = !f.isEmpty)\/(∃f,SqT X.K H p f/\k = !f.isEmpty)\/∃c,H p=some (.dK c)/\k = !c.isEmpty:=e;rcases a with⟨f,j,a⟩ | ⟨f,j,a⟩ | ⟨c,j,a⟩
  ·subst a;obtain⟨n,r,o,u⟩:=I.list j;have d:=r.length;exact wpAny_truthy_list o.isList (by simp only[size_toArray];lia) ⟨H,I.tok _,by rw[KP r];exact q⟩
  ·subst a;obtain⟨n,r,o,u⟩:=I.tuple j;have d:=r.length;exact truthy_tuple o (by simp only[size_toArray];lia) ⟨H,I.tok _,by rw[KP r];exact q⟩
  ·subst a;obtain⟨u,z,l,r,m⟩:c.length<=sizeLine/\(p==sysModules)=false/\∃l,KV c l/\s.heap.DictOf (mixKind X.prog X.w) p l:=I.hok p _ j;have d:c.length=l.length:=Paired.length r;exact wpAny_truthy_dict z m (by lia) ⟨H,I.tok _,by rw[j00 r];exact q⟩
 | _=>exact(show False from e).elim
theorem yX:OpR X (binaryOp .Add) (fun x y H Q=>∃i j,x = .str i/\y = .str j/\i.length+j.length<=sizeLine/\Q (.str (i++j)) H):=by
 intro a s g H x y v u Q I c d h;obtain⟨i,j,rfl,rfl,b,q⟩:=h;obtain⟨t,rfl⟩:=c;obtain⟨e,rfl⟩:=d;exact add_str (fun e f=>⟨.str (i++j),H,I.tok _,⟨_,rfl⟩,q⟩) b
theorem vals1(r:Vals [x] us):∃u,us=[u]/\RelV x u:=by
 cases r with
 | cons r1 r2=>cases r2;exact⟨_,rfl,r1⟩
theorem vals2(r:Vals [x,y] us):∃u a,us=[u,a]/\RelV x u/\RelV y a:=by
 cases r with
 | cons r1 r2=>
  cases r2 with
  | cons r3 r4=>cases r4;exact⟨_,_,rfl,r1,r3⟩
theorem KD:CallR X (.builtin "abs") (fun xs H Q=>∃i,xs=[.int i]/\Q (.int (if i<0 then -i else i)) H):=by
 intro a s d H xs c Q I r h;obtain⟨i,rfl,q⟩:=h;obtain⟨u,rfl,t,rfl⟩:=vals1 r;exact call_abs_int fun u b=>⟨.int (if i<0 then -i else i),H,I.tok _,⟨_,rfl⟩,q⟩
theorem Y5(c:X.calm=true):CallR X (.builtin "max") (fun xs H Q=>∃i j,xs=[.int i,.int j]/\Q (.int (if j>i then j else i)) H):=by
 intro b s m H xs g Q I r h;obtain⟨i,j,rfl,q⟩:=h;obtain⟨u,l,rfl,⟨t,rfl⟩,⟨e,rfl⟩⟩:=vals2 r;refine max_two_ints (I.ok.hd c) fun d f k=>⟨_,H,I.kept k,?_,q⟩
 by_cases a:j>i
 ·rw[vd a,vd a];exact⟨_,rfl⟩
 ·rw[vc a,vc a];exact⟨_,rfl⟩
theorem yv(c:X.calm=true):CallR X (.builtin "min") (fun xs H Q=>∃i j,xs=[.int i,.int j]/\Q (.int (if j<i then j else i)) H):=by
 intro b s m H xs g Q I r h;obtain⟨i,j,rfl,q⟩:=h;obtain⟨u,l,rfl,⟨t,rfl⟩,⟨e,rfl⟩⟩:=vals2 r;refine min_two_ints (I.ok.hd c) fun d f k=>⟨_,H,I.kept k,?_,q⟩
 by_cases a:j<i
 ·rw[vd a,vd a];exact⟨_,rfl⟩
 ·rw[vc a,vc a];exact⟨_,rfl⟩
def LenV(K:Frg)(x:V)(H:Hp)(n:Nat):Prop:=
 match x with
 | .str y=>y.length<=sizeLine/\n=y.length
 | .byt y=>y.size<=sizeLine/\n=y.size
 | .ref p=>(∃xs,SqL K H p xs/\n=xs.length)\/∃xs,SqT K H p xs/\n=xs.length
 | _=>False
theorem jW:CallR X (.builtin "len") (fun xs H Q=>∃x n,xs=[x]/\LenV X.K x H n/\Q (.int n) H):=by
 intro j s w H xs v Q I r h;obtain⟨x,n,rfl,e,q⟩:=h;obtain⟨u,rfl,i⟩:=vals1 r;have m:=line63;have o:sizeLine=16777216:=sizeLine_eq;cases x with
 | str y=>
  obtain⟨t,rfl⟩:=i;obtain⟨k,b⟩:y.length<=sizeLine/\n=y.length:=e;subst b;exact len_str (by lia) ⟨.int _,H,I.tok _,⟨_,rfl⟩,q⟩
 | byt y=>
  obtain⟨t,rfl⟩:=i;obtain⟨k,b⟩:y.size<=sizeLine/\n=y.size:=e;subst b;exact PySem.W.len_bytes (by lia) ⟨.int _,H,I.tok _,⟨_,rfl⟩,q⟩
 | ref p=>
  cases i;have b:(∃xs,SqL X.K H p xs/\n=xs.length)\/∃xs,SqT X.K H p xs/\n=xs.length:=e;rcases b with⟨xs,c,b⟩ | ⟨xs,c,b⟩
  ·subst b;obtain⟨d,g,f,l⟩:=I.list c;have a:=g.length;exact Calls.call_len_list f.isList (by simp only[size_toArray];lia) ⟨.int xs.length,H,I.tok _,⟨_,by simp only[size_toArray];rw[a]⟩,q⟩
  ·subst b;obtain⟨d,g,f,l⟩:=I.tuple c;have a:=g.length;exact len_tuple f (by simp only[size_toArray];lia) ⟨.int xs.length,H,I.tok _,⟨_,by simp only[size_toArray];rw[a]⟩,q⟩
 | _=>exact(show False from e).elim
end
structure ObjM(h:Heap)(x dx C:Addr)(mA:Str->Option Value):Prop where
 obj:h.get? x=some (PySem.W.instObj C dx)
 ns:h.Ns1 dx mA
 ne:dx≠x
theorem j1B{h:Heap}{c:Addr}{f:Str->Option Value}(n:h.Ns1 c f):∃g,h.get? c=some g/\∀name,PySem.W.lookIn name g=some (f name):=by
 obtain⟨o,d,r,m,j,k,_,l⟩:=n;refine⟨o,m,fun name=>?_⟩;have e:=l name;unfold nsFind findBy at e;rw[<-Array.find?_toList]at e;unfold PySem.W.lookIn;rw[j];dsimp only;split
 ·rename_i y q;rw[q]at e;exact congrArg some e
 ·rename_i q;rw[q]at e;have a:d.toList.any (·.refKey)=false:=by
   rw[List.any_eq_false];intro y p;obtain⟨z,t,b⟩:=k y (Array.mem_toList_iff.mp p);simp[DictEntry.refKey,b]
  have i:¬d.toList.any (·.refKey)=true:=by rw[a];exact vF
  rw[vc i];exact congrArg some e
theorem ObjM.look{b:Str->Option Value}(I:ObjM h x dx C b):∃a,PySem.W.InstAt h x (PySem.W.instObj C dx) C (some a)/\∀name,PySem.W.lookIn name a=some (b name):=
 let ⟨a,ho,hl⟩:=j1B I.ns
 ⟨a,⟨I.obj,rfl,rfl,ho⟩,hl⟩
section
variable{prog:Program}{w:World}{A:Around}{E:Value->Shared->Prop}{s:Shared}{K:Frg}{x dx C f:Addr}{mA:Str->Option Value}{name:Str}{v:Value}
theorem j42{Q:Value->Shared->Prop}(X:K.In s.heap)(I:ObjM s.heap x dx C mA)(c:PySem.W.plainGet K C name=true)(d:PySem.W.hasDictIn K C=true)
  (b:PySem.W.findIn K (.ref C) name=some none) (f:mA name=some v) (a:PySem.W.handedIn v=true) (h:Q v {s with toks:=s.toks+1}) :
  wpAny (model prog w) A (getAttr (.ref x) name expr) Q E s:=by
 obtain⟨g,J,e⟩:=I.look;exact PySem.W.get_value X J (PySem.W.plainGet_of c).1 (PySem.W.findObj_own d b rfl (by rw[e,f])) a h
theorem j2x{Q:Value×List Value->Shared->Prop}(X:K.In s.heap)(I:ObjM s.heap x dx C mA)(a:PySem.W.plainGet K C name=true)
  (b:PySem.W.findIn K (.ref C) name=some (some (.ref f))) (d:PySem.W.isFn K (.ref f)=true) (e:mA name=none) (h:Q (.ref f,[.ref x]) s) :
  wpAny (model prog w) A (getMethod (.ref x) name pl) Q E s:=by
 obtain⟨g,J,c⟩:=I.look;exact PySem.W.method_fn X J (PySem.W.plainGet_of a).1 (PySem.W.plainGet_of a).2 b (beq_iff_eq.mp d) (by show(PySem.W.lookIn name g).map (·.isSome)=some false;rw[c,e];rfl) h
theorem j4n{Q:Unit->Shared->Prop}(X:K.In s.heap)(I:ObjM s.heap x dx C mA)
  (o:PySem.W.findIn K (.ref C) "__setattr__"= some (some (.builtin "object.__setattr__"))) (n:PySem.W.plainOver K C=true) (p:PySem.W.takerIn K C name=some none) (m:PySem.W.hasDictIn K C=true)
  (hw:PySem.Within mA ns) (hsz:ns.length<=sizeLine)
  (h:∀h',ObjM h' x dx C (fun y=>if y=name then some v else mA y)->Heap.SameBut dx s.heap h'->Q () {s with heap:=h',toks:=s.toks+2}) :
  wpAny (model prog w) A (setAttr (.ref x) name v) Q E s:=by
 obtain⟨B,J,u⟩:=I.look;refine PySem.W.set_plain X J o (PySem.W.osa_open (s:={s with toks:=s.toks+1}) (r:=none) X J n p fun b=>?_);obtain⟨t,l,f⟩:=PySem.W.any_some m;have q:s.heap.get? x=some ⟨.ref C,some dx,.plain,#[]⟩:=I.obj;refine um (uk (um (um (wpAny_loadPart q (um (PySem.W.Looks.here (s:={s with toks:=s.toks+1}) (PySem.W.looks_clsIn X l) ?_))))));rw[f];refine uk (a:=some dx) (um (uk (um ?_)));refine wpAny_nsSet1 (s:={s with toks:=s.toks+1}) I.ns fun h' c d=>?_
 obtain⟨z,k,j,i,g,e⟩:=c.count (PySem.Within.cons name v hw);refine um (wpAny_lookBehind i (by rw[g];exact pastItsLine_dict (vV e (by rw[vP];lia))) ?_);exact uk (h _ ⟨(d.2 _ (Ne.symm I.ne)).trans I.obj,c,I.ne⟩ d)
theorem j2J{R:Result->Shared->Prop}(X:K.In s.heap)(c:PySem.W.makesIn K C=true)
  (hi:PySem.W.findIn K (.ref C) "__init__"= some (some (.ref f))) (b:PySem.W.typeIn K (.ref f)=some (.type "function"))
  (h:codeAny (model prog w) (A.under (.builtin "type.__call__" ⟨.ref C::vs,kw⟩)) (.call (.ref f) ⟨.ref (s.heap.objs.size+1)::vs,kw⟩) (PySem.W.InitBack (s.heap.objs.size+1) R)
   {s with heap:=(s.heap.push PySem.W.emptyDict).push (PySem.W.instObj C s.heap.objs.size)}) :
  codeAny (model prog w) A (.call (.ref C) ⟨vs,kw⟩) R s:=by
 obtain⟨e,g,d,t,i⟩:=s;exact PySem.W.make_core (PySem.W.makes_of X c) (PySem.W.looks_findIn X hi) (fun a=>PySem.W.bind_fn X a b) (.inl rfl) h
end
noncomputable def putF(f:Str)(v:V):List (Str×V)->List (Str×V)
 | []=>[(f,v)]
 | (g,x)::r=>if g=f then(g,v)::r else(g,x)::putF f v r
theorem zD(f g:Str)(v:V):∀fs:List (Str×V),(putF f v fs).lookup g=if g=f then some v else fs.lookup g
 | []=>by
  show List.lookup g [(f,v)]=_;by_cases h:g=f
  ·have a:(g==f)=true:=beq_iff_eq.mpr h;simp only[List.lookup,a,if_pos h]
  ·have a:(g==f)=false:=beq_eq_false_iff_ne.mpr h;simp only[List.lookup,a,if_neg h]
 | (k,x)::r=>by
  have c:=zD f g v r;rw[show putF f v ((k,x)::r)=(if k=f then(k,v)::r else(k,x)::putF f v r)from rfl];by_cases b:k=f
  ·rw[vd b];by_cases h:g=k
   ·have a:(g==k)=true:=beq_iff_eq.mpr h;simp only[List.lookup,a,if_pos (h.trans b)]
   ·have a:(g==k)=false:=beq_eq_false_iff_ne.mpr h;simp only[List.lookup,a,if_neg (fun e:g=f=>h (e.trans b.symm))]
  ·rw[vc b];by_cases h:g=k
   ·have a:(g==k)=true:=beq_iff_eq.mpr h;simp only[List.lookup,a,if_neg (fun e:g=f=>b (h.symm.trans e))]
   ·have a:(g==k)=false:=beq_eq_false_iff_ne.mpr h;simp only[List.lookup,a];exact c
theorem ku(f:Str)(v:V):∀fs:List (Str×V),f∈(putF f v fs).map (·.1)/\∀g,g∈fs.map (·.1)->g∈(putF f v fs).map (·.1)
 | []=>⟨by simp[putF],fun g h=>by simp at h⟩
 | (k,x)::r=>by
  obtain⟨b,c⟩:=ku f v r;rw[show putF f v ((k,x)::r)=(if k=f then(k,v)::r else(k,x)::putF f v r)from rfl];by_cases a:k=f
  ·rw[vd a];subst a;exact⟨by simp,fun g h=>by simpa using h⟩
  ·rw[vc a];refine⟨?_,fun g h=>?_⟩
   ·rw[v7];exact vp _ b
   ·rw[v7]at h|-;rcases mem_cons.mp h with e | e
    ·exact mem_cons.mpr (.inl e)
    ·exact vp _ (c g e)
theorem kS(f:Str)(v:V):∀fs:List (Str×V),(putF f v fs).length<=fs.length+1
 | []=>by simp[putF]
 | (k,x)::r=>by
  have b:=kS f v r;rw[show putF f v ((k,x)::r)=(if k=f then(k,v)::r else(k,x)::putF f v r)from rfl];by_cases a:k=f
  ·rw[vd a,vP,vP];lia
  ·rw[vc a,vP,vP];lia
theorem RelO.some_of(r:RelO (some v) o):∃u,o=some u/\RelV v u:=by
 cases o with
 | none=>exact(show False from r).elim
 | some u=>exact⟨u,rfl,r⟩
theorem RelO.none_of(r:RelO none o):o=none:=by
 cases o with
 | none=>rfl
 | some u=>exact(show False from r).elim
theorem j1s(r:RelV v u):PySem.W.handedIn u=true:=by
 cases v with
 | non=>cases(show u=Value.none from r);rfl
 | bl b=>cases(show u=Value.bool b from r);rfl
 | int i=>obtain⟨t,e⟩:=(show∃t,u=Value.int i t from r);cases e;rfl
 | str x=>obtain⟨t,e⟩:=(show∃t,u=Value.str x t from r);cases e;rfl
 | byt b=>obtain⟨t,e⟩:=(show∃t,u=Value.bytes b t from r);cases e;rfl
 | flt b=>obtain⟨t,e⟩:=(show∃t,u=Value.float b t from r);cases e;rfl
 | ref a=>cases(show u=Value.ref a from r);rfl
 | ty n=>cases(show u=Value.type n from r);rfl
section
variable{P:Program}{w:World}{H H':Hp}{h h':Heap}{a C dx:Addr}{fs fs':List (Str×V)}
theorem Kj(b:HOk P w H h)(e:H a=some (.ins C dx fs)):∃mA,ObjM h a dx C mA/\(∀f,RelO (fs.lookup f) (mA f))/\PySem.Within mA (fs.map (·.1))/\fs.length<=1000/\H dx=some (.own a):=by
 obtain⟨d,z,c,g,mA,n,r,q⟩:=(show ObjOk P w H h a (.ins C dx fs)from b a _ e)
 exact⟨mA,⟨g,n,c⟩,r,q,z,d⟩
end
structure Cls(K:Frg)(C:Addr):Prop where
 pg:PySem.W.plainGet K C Str.empty=true
 hd:PySem.W.hasDictIn K C=true
 po:PySem.W.plainOver K C=true
 sa:PySem.W.findIn K (.ref C) "__setattr__"= some (some (.builtin "object.__setattr__"))
theorem Cls.get{K:Frg}{C:Addr}(c:Cls K C)(f:Str):PySem.W.plainGet K C f=true:=c.pg
def NoAttr(K:Frg)(C:Addr)(f:Str):Prop:=PySem.W.findIn K (.ref C) f=some none
theorem NoAttr.taker{K:Frg}{C:Addr}{f:Str}(n:NoAttr K C f):PySem.W.takerIn K C f=some none:=by
 unfold PySem.W.takerIn;rw[show PySem.W.findIn K (.ref C) f=some none from n];rfl
structure Meth(K:Frg)(C:Addr)(m:Str)(f:Addr):Prop where
 at_:PySem.W.findIn K (.ref C) m=some (some (.ref f))
 fn:PySem.W.isFn K (.ref f)=true
 kp:PySem.W.keepIn K (.ref f)=true
section
variable{X:Cx}{pins:List (Addr×Obj)}{σ:St}{H:Hp}{s:Shared}{a C dx:Addr}{fs:List (Str×V)}{f:Str}{v:V}{A:Around}{E:Value->Shared->Prop}
theorem X6{Q:Value->Shared->Prop}(I:Inv X pins σ H s)(e:H a=some (.ins C dx fs))(c:Cls X.K C)(n:NoAttr X.K C f)(l:fs.lookup f=some v)
  (h:∀u s',Inv X pins σ H s'->RelV v u->Q u s'):wpAny (model X.prog X.w) A (getAttr (.ref a) f b) Q E s:=by
 obtain⟨i,O,r,_,_,_⟩:=Kj I.hok e;obtain⟨u,g,d⟩:=RelO.some_of (v:=v) (o:=i f) (by rw[<-l];exact r f);exact j42 I.kIn O (c.get f) c.hd n g (j1s d) (h u _ (I.tok _) d)
theorem X7{Q:Value×List Value->Shared->Prop}(I:Inv X pins σ H s)(e:H a=some (.ins C dx fs))(c:Cls X.K C)(k:Meth X.K C m g)(l:fs.lookup m=none)
  (h:Q (.ref g,[.ref a]) s):wpAny (model X.prog X.w) A (getMethod (.ref a) m pl) Q E s:=by
 obtain⟨d,O,r,_,_,_⟩:=Kj I.hok e;have b:d m=none:=RelO.none_of (by rw[<-l];exact r m);exact j2x I.kIn O (c.get m) k.at_ k.fn b h
theorem j0o{Q:Unit->Shared->Prop}(I:Inv X pins σ H s)(e:H a=some (.ins C dx fs))(c:Cls X.K C)(n:NoAttr X.K C f)(D:fs.length<1000)(w:RelV y u)
  (h:∀s',Inv X pins σ (upd H a (.ins C dx (putF f y fs))) s'->Q () s'):wpAny (model X.prog X.w) A (setAttr (.ref a) f u) Q E s:=by
 obtain⟨j,O,r,k,_,i⟩:=Kj I.hok e;have v:(fs.map (·.1)).length<=sizeLine:=by rw[vt,sizeLine_eq];lia
 refine j4n I.kIn O c.sa c.po n.taker c.hd k v fun l d B=>h _ ?_
 have p:∃o,l.get? dx=some o:=let ⟨o,_,_,e',_⟩:=d.ns;⟨o,e'⟩;refine I.write (x:=a) (e:=dx) (by rw[e];exact True.intro) (.inr i) (fun b q m z=>(B.2 b m).trans z) p ?_;refine⟨by rw[jh O.ne];exact i,?_,O.ne,d.obj,_,d.ns,fun g=>?_,fun g t=>?_⟩
 ·have:=kS f y fs;lia
 ·show RelO ((putF f y fs).lookup g) (if g=f then some u else j g);rw[zD];by_cases q:g=f
  ·rw[vd q,vd q];exact w
  ·rw[vc q,vc q];exact r g
 ·by_cases q:g=f
  ·rw[q];exact(ku f y fs).1
  ·refine(ku f y fs).2 g (k g fun z=>t ?_);show(if g=f then some u else j g)=none;rw[vc q];exact z
theorem Inv.made(I:Inv X pins σ H s):Inv X pins σ (upd (upd H s.heap.objs.size (.own (s.heap.objs.size+1))) (s.heap.objs.size+1) (.ins C s.heap.objs.size []))
  {s with heap:=(s.heap.push PySem.W.emptyDict).push (PySem.W.instObj C s.heap.objs.size)}:=by
 have c:(s.heap.push PySem.W.emptyDict).get? s.heap.objs.size=some PySem.W.emptyDict:=Heap.get?_push_size s.heap rfl;have g:((s.heap.push PySem.W.emptyDict).push (PySem.W.instObj C s.heap.objs.size)).get? (s.heap.objs.size+1)=some (PySem.W.instObj C s.heap.objs.size):=by
  have:=Heap.get?_push_size (s.heap.push PySem.W.emptyDict) (o:=PySem.W.instObj C s.heap.objs.size) rfl
  rwa [Heap.size_push]at this
 have h:(s.heap.push PySem.W.emptyDict).Ns s.heap.objs.size (fun _=>none):=⟨PySem.W.emptyDict,#[],_,c,rfl,(fun e i=>uh i (by simp)),fun _=>rfl⟩
 have f:=I.laid (a:=s.heap.objs.size) (o:=.own (s.heap.objs.size+1)) (h':=s.heap.push PySem.W.emptyDict) (t':=s.toks) (fun b u q=>vJ _ q) (vb _) ⟨_,c⟩;refine f.laid (a:=s.heap.objs.size+1) (o:=.ins C s.heap.objs.size []) (t':=s.toks) (fun b u q=>vJ _ q) (Nat.le_of_eq (Heap.size_push _ _)) ?_;have d:s.heap.objs.size≠s.heap.objs.size+1:=vE (Nat.lt_succ_self _);refine⟨by rw[jh d,jG],va _,d,g,fun _=>none,(Heap.Ns1.of_empty h).at fun o q=>vJ _ q,fun _=>True.intro,fun y j=>uh rfl j⟩
theorem j3J{f:Str}{s:Shared}{Q:Value->Shared->Prop}(b:attributeBase e f env (eval e env)=eval e env)
  (h:wpAny (model prog w) A (eval e env) (fun o a=>wpAny (model prog w) A (getAttr o f true) Q E a) E s):wpAny (model prog w) A (eval (.Attribute e f pos) env) Q E s:=
 Attribute_any_ h (by rw[arm_eval_Attribute,b])
end
def tFld(K:Frg)(ta:TE)(f:Str):TE:=fun σ H Q=>ta σ H fun x H1=>∃a C dx fs v,x = .ref a/\H1 a=some (.ins C dx fs)/\Cls K C/\NoAttr K C f/\fs.lookup f=some v/\Q v H1
def sFld(K:Frg)(ta tv:TE)(f:Str):TS:=fun D σ H=>tv σ H fun y H1=>ta σ H1 fun x H2=>∃a C dx fs,x = .ref a/\H2 a=some (.ins C dx fs)/\Cls K C/\NoAttr K C f/\fs.length<1000/\
 D.nx σ (upd H2 a (.ins C dx (putF f y fs)))
section
variable{X:Cx}{o e value:Expr}{f:Str}{pos pos' tpos:Pos}{ta tv:TE}
theorem j6(o:PE X e ta)(m:attributeBase e f X.env (eval e X.env)=eval e X.env):PE X (.Attribute e f pos) (tFld X.K ta f):=by
 intro b s t H Q I h;refine j3J m (thn (o b s t H _ I h) fun u y ⟨x,d,g,r,a,C,w,fs,v,k,j,c,n,l,q⟩=>?_);subst k;obtain rfl:u=Value.ref a:=r;exact X6 g j c n l fun A z i p=>⟨v,d,i,p,q⟩
theorem Zv(p:PE X o ta)(t:PE X value tv)(r:swapsWith value (some (.Attribute o f pos')) pos.line X.env=pure false):PS X (.Assign [.Attribute o f pos'] value pos) (sFld X.K ta tv f):=by
 intro b s d H D I h;refine plainObj_wpAny_Assign_Attribute (thn (t b s d H _ I h) fun u A ⟨y,e,g,z,q⟩=>thn (p b A d e _ g q) fun ov J ⟨x,B,i,w,a,C,E,fs,m,k,c,n,l,v⟩=>?_) r;subst m;obtain rfl:ov=Value.ref a:=w;exact j0o i k c n l z fun K j=>⟨d,_,j,v⟩
end
section
variable{X:Cx}{pins:List (Addr×Obj)}{σ:St}{H:Hp}{s:Shared}{A:Around}{E:Value->Shared->Prop}{Q:Value->Shared->Prop}{c:Value}{b:Bool}
inductive TyOf(K:Frg)(H:Hp):V->Value->Prop where
 | non:TyOf K H .non (.type "NoneType")
 | bl (x:Bool):TyOf K H (.bl x) (.type "bool")
 | int (i:Int):TyOf K H (.int i) (.type "int")
 | str (x:Str):TyOf K H (.str x) (.type "str")
 | flt (x:UInt64):TyOf K H (.flt x) (.type "float")
 | lst {a:Addr} {xs:List V} (e:H a=some (.lst xs)):TyOf K H (.ref a) (.type "list")
 | frz {a:Addr} {o:Obj} {xs:List V} (e:H a=some (.frz o (.lst xs))):TyOf K H (.ref a) (.type "list")
 | tup {a:Addr} {xs:List V} (e:H a=some (.tup xs)):TyOf K H (.ref a) (.type "tuple")
 | dK {a:Addr} {kvs:List (Key×V)} (e:H a=some (.dK kvs)):TyOf K H (.ref a) (.type "dict")
 | dT {a:Addr} {kvs:List (List Key×V)} (e:H a=some (.dT kvs)):TyOf K H (.ref a) (.type "dict")
 | ins {a C dx:Addr} {fs:List (Str×V)} (e:H a=some (.ins C dx fs)) (cl:Cls K C) (ha:PySem.W.findIn K (.ref C) "__class__"= some (some (.builtin "object.__class__")))
   (hn:PySem.W.specialIn K (.builtin "object.__class__") "__get__"= some (some (.builtin "getset_descriptor.__get__"))) (htk:PySem.W.takesIn K (.builtin "object.__class__")=some true)
   (hm:PySem.W.mroIn K C (.type "object")=some true):TyOf K H (.ref a) (.ref C)
theorem j1w(I:Inv X pins σ H s)(d:RelV x u)(m:TyOf X.K H x t)(e:PySem.W.kitOne X.K t c=some b)(h:∀tk,Q (.bool b) {s with toks:=tk}) :
  wpAny (model X.prog X.w) A (call (.builtin "isinstance") [u,c]) Q E s:=by
 cases m with
 | non=>cases(show u=Value.none from d);exact PySem.W.kia_one PySem.W.kitx_none I.kIn True.intro e (fun z=>nomatch z) h
 | bl y=>cases(show u=Value.bool y from d);exact PySem.W.kia_one PySem.W.kitx_bool I.kIn True.intro e (fun z=>nomatch z) h
 | int i=>obtain⟨t,q⟩:=(show∃t,u=Value.int i t from d);cases q;exact PySem.W.kia_one PySem.W.kitx_int I.kIn True.intro e (fun z=>nomatch z) h
 | str y=>obtain⟨t,q⟩:=(show∃t,u=Value.str y t from d);cases q;exact PySem.W.kia_one PySem.W.kitx_str I.kIn True.intro e (fun z=>nomatch z) h
 | flt y=>obtain⟨t,q⟩:=(show∃t,u=Value.float y t from d);cases q;exact PySem.W.kia_one PySem.W.kitx_float I.kIn True.intro e (fun z=>nomatch z) h
 | @lst a g ea=>
  cases(show u=Value.ref a from d);obtain⟨_,_,n,_,f⟩:=(show ObjOk X.prog X.w H s.heap a (.lst g)from I.hok a _ ea)
  exact PySem.W.kia_one PySem.W.kitx_list I.kIn ⟨_,f,rfl⟩ e (fun z=>nomatch z) h
 | @frz a ob g ea=>
  cases(show u=Value.ref a from d);obtain⟨_,_,_,n,_,f⟩:=(show ObjOk X.prog X.w H s.heap a (.frz ob (.lst g))from I.hok a _ ea)
  exact PySem.W.kia_one PySem.W.kitx_list I.kIn ⟨_,f,rfl⟩ e (fun z=>nomatch z) h
 | @tup a g ea=>
  cases(show u=Value.ref a from d);obtain⟨_,_,_,p⟩:=(show ObjOk X.prog X.w H s.heap a (.tup g)from I.hok a _ ea)
  obtain⟨o,f,j,_⟩:=p;exact PySem.W.kia_one PySem.W.kitx_tuple I.kIn ⟨o,f,j⟩ e (fun z=>nomatch z) h
 | @dK a kvs ea=>
  cases(show u=Value.ref a from d);obtain⟨_,_,w,_,p⟩:=(show ObjOk X.prog X.w H s.heap a (.dK kvs)from I.hok a _ ea)
  obtain⟨o,l,k,f,j,_⟩:=p;exact PySem.W.kia_one PySem.W.kitx_dict I.kIn ⟨o,f,j.1⟩ e (fun z=>nomatch z) h
 | @dT a kvs ea=>
  cases(show u=Value.ref a from d);obtain⟨_,_,g,_,o,l,k,f,j,_⟩:=(show ObjOk X.prog X.w H s.heap a (.dT kvs)from I.hok a _ ea)
  exact PySem.W.kia_one PySem.W.kitx_dict I.kIn ⟨o,f,j.1⟩ e (fun z=>nomatch z) h
 | @ins a C dx fs ea cl ha hn htk hm=>
  cases(show u=Value.ref a from d);obtain⟨r,O,_⟩:=Kj I.hok ea;obtain⟨v,J,_⟩:=O.look;exact PySem.W.kia_one (PySem.W.kitx_own (cl.get _) cl.hd ha hn htk hm) I.kIn J e (fun z=>nomatch z) h
end
structure Room(k:Nat)(A:Around):Prop where
 hd:A.handled=none
 dp:A.depth+3*k+5<recursionLimit
 un:A.units+16*k+200<cLine
theorem Room.mono(r:Room k A)(h:j<=k):Room j A:=⟨r.hd,by have:=r.dp;lia,by have:=r.un;lia⟩
theorem Room.deeper(r:Room (k+1) A)(env:Env):Room k (A.deeper env):=
 ⟨r.hd,by have:=r.dp;show A.depth+1+3*k+5<_;lia,by have:=r.un;show A.units+3+16*k+200<_;lia⟩
theorem j03{A:Around}{C:Addr}{us:List Value}{a:List (Str×Value)}:(A.under (.builtin "type.__call__" ⟨.ref C::us,a⟩)).depth=A.depth+1:=by
 first | rfl | simp[Around.under,Code.weight,Code.isCreation,Code.isGuard,Code.isCaller,Code.frames,Code.isFrame,guardIds]
theorem j04{A:Around}{C:Addr}{us:List Value}{a:List (Str×Value)}:(A.under (.builtin "type.__call__" ⟨.ref C::us,a⟩)).units=A.units+1:=by
 first | rfl | simp[Around.under,Code.cUnits,Code.frames,Code.isFrame]
theorem Room.make(r:Room (k+1) A)(C:Addr)(us:List Value)(a:List (Str×Value)):Room k (A.under (.builtin "type.__call__" ⟨.ref C::us,a⟩)):=
 ⟨r.hd,by have:=r.dp;rw[j03];lia,by have:=r.un;rw[j04];lia⟩
theorem Room.depth(r:Room k A):A.depth<recursionLimit:=by have:=r.dp;lia
theorem Room.units(r:Room k A):A.units+64<cLine:=by have:=r.un;lia
def tNil:TA:=fun _ H Q=>Q [] H
def tCons(ta:TE)(tr:TA):TA:=fun σ H Q=>ta σ H fun x H1=>tr σ H1 fun xs H2=>Q (x::xs) H2
section
variable{X:Cx}{e:Expr}{es:List Expr}{te:TE}{t:TA}{pos:Pos}
theorem jc:PA X [] tNil:=fun _ _ _ _ H Q I h=>Calls.spliced_nil ⟨[],H,I,.nil,h⟩
theorem ja(j:PE X e te)(k:PA X es t)(l:starEach (e::es) X.env=(false,eval e X.env)::starEach es X.env:=by rfl):PA X (e::es) (tCons te t):=by
 intro b a s c H Q I h;rw[l];show wpAny _ _ (spliced ((false,eval e X.env)::backTo b (starEach es X.env))) _ _ s;refine Calls.spliced_cons (thn (j a s c H _ I h) fun u q ⟨x,d,g,o,m⟩=>?_);exact thn (k b a q c d _ g m) fun w v ⟨r,f,i,p,n⟩=>⟨x::r,f,i,.cons o p,n⟩
def tTup(t:TA):TE:=fun σ H Q=>t σ H fun xs H1=>xs.length<=sizeLine/\∀p,H1 p=none->Q (.ref p) (upd H1 p (.tup xs))
def tLst(t:TA):TE:=fun σ H Q=>t σ H fun xs H1=>xs.length<=sizeLine/\∀p,H1 p=none->Q (.ref p) (upd H1 p (.lst xs))
theorem jN{x1}(h:PA X es t):PE X (.Tuple es x1 pos) (tTup t):=by
 intro a s l H Q I i;refine wpAny_Tuple_spliced (thn (h pos a s l H _ I i) fun j c ⟨k,d,f,r,z,q⟩=>⟨by rw[<-r.length];exact z,?_⟩);have g:d c.heap.objs.size=none:=f.hok.fresh (vb _);refine⟨.ref c.heap.objs.size,upd d c.heap.objs.size (.tup k),f.laid (t':=c.toks) (fun b u e=>vJ _ e) (vb _) ?_,rfl,q _ g⟩;exact⟨z,j,r,⟨_,Heap.get?_push_size _ rfl,rfl,_,rfl⟩⟩
theorem jK(h:PA X es t):PE X (.List es pos) (tLst t):=by
 intro a s l H Q I i;refine wpAny_List_spliced (thn (h pos a s l H _ I i) fun j c ⟨k,d,f,r,z,q⟩=>⟨by rw[<-r.length];exact z,?_⟩);have g:d c.heap.objs.size=none:=f.hok.fresh (vb _);refine⟨.ref c.heap.objs.size,upd d c.heap.objs.size (.lst k),f.laid (t':=c.toks) (fun b u e=>vJ _ e) (vb _) ?_,rfl,q _ g⟩;exact⟨z,j,0,r,Heap.get?_push_size _ rfl⟩
end
noncomputable abbrev Sp:=List V->Hp->VK->XK->Prop
noncomputable abbrev CXT:=List Env->Hp->Shared->XK->Value->Shared->Prop
structure Env0(P:Program)(w:World)(K:Frg)(mg:Str->Option Value)(base:Heap)(A:Around)(outer:List Env)(s:Shared)(H:Hp):Prop where
 frames:A.frames=some outer
 mod:Mod K mg base
 bs:∀b o,base.get? b=some o->s.heap.get? b=some o/\H b=none
 bsz:base.objs.size<=s.heap.objs.size
 funs:s.heap.FunFrames base outer
 frf:∀b∈frs outer,H b=none
 hok:HOk P w H s.heap
 bare:AllBare s.gens
def CE(outer:List Env)(P:Program)(w:World)(H:Hp)(s:Shared)(Q:VK)(u:Value)(s':Shared):Prop:=
 ∃v H',s'.os=s.os/\AllBare s'.gens/\Un (frs outer) [] H H' s.heap s'.heap/\HOk P w H' s'.heap/\RelV v u/\Q v H'
def CR(CX:CXT)(outer:List Env)(P:Program)(w:World)(H:Hp)(s:Shared)(Q:VK)(E:XK)(r:Result)(s':Shared):Prop:=
 match r with
 | .ok (.ret u)=>CE outer P w H s Q u s'
 | .ok _=>False
 | .error e=>CX outer H s E e s'
structure FnOk(P:Program)(w:World)(K:Frg)(mg:Str->Option Value)(base:Heap)(CX:CXT)(k:Nat)(f:Addr)(fd:FuncData)(ps:List Str)(sp:Sp):Prop where
 len:∀vs H Q E,sp vs H Q E->vs.length=ps.length
 run:∀(A:Around) (outer:List Env) (s:Shared) (H:Hp) (args:Args) (us:List Value) (vs:List V) (Q:VK) (E:XK),Room k A->Env0 P w K mg base A outer s H->BindsTo s fd args (ps.zip us)->Vals vs us->sp vs H Q E->
  codeAny (model P w) A (.call (.ref f) args) (CR CX outer P w H s Q E) s
theorem FnOk.mono{P:Program}{w:World}{K:Frg}{e:Str->Option Value}{a:Heap}{CX:CXT}{j k:Nat}{f:Addr}{d:FuncData}{ps:List Str}{sp:Sp}(F:FnOk P w K e a CX j f d ps sp)(h:j<=k) :
  FnOk P w K e a CX k f d ps sp:=⟨F.len,fun A b s H c i l Q E g=>F.run A b s H c i l Q E (g.mono h)⟩
theorem Env0.make{P:Program}{w:World}{K:Frg}{c:Str->Option Value}{b:Heap}{A:Around}{a:List Env}{s:Shared}{H:Hp}(e:Env0 P w K c b A a s H)(C:Addr)(us:List Value)(d:List (Str×Value)) :
  Env0 P w K c b (A.under (.builtin "type.__call__" ⟨.ref C::us,d⟩)) a s H:=⟨by first | exact e.frames | (simpa [Around.under,Code.envs,Code.isFrame,pushEnvs]using e.frames),e.mod,e.bs,e.bsz,e.funs,e.frf,e.hok,e.bare⟩
section
variable{X:Cx}{pins:List (Addr×Obj)}{σ:St}{H:Hp}{s s':Shared}
theorem Inv.env0(I:Inv X pins σ H s):Env0 X.prog X.w X.K X.mg X.base X.A X.stack s H:=
 ⟨I.ok.frames,I.ok.mod,I.bs,vV I.ok.bsz I.sz,I.stack,I.stkFree,I.hok,I.bare⟩
theorem Inv.after(I:Inv X pins σ H s)(h:CE X.stack X.prog X.w H s Q u s'):EP X pins σ Q u s':=by
 obtain⟨v,f,j,a,k,c,r,q⟩:=h;obtain⟨i,g,d,t,e⟩:=s';obtain rfl:e=s.os:=j;exact⟨v,f,I.call (h':=i) (g':=g) (d':=d) (t':=t) (ch:=[]) k c a (fun b z=>uh z (by simp)),r,q⟩
end
def tCall(sp:Sp)(dvs:List V)(E:XK)(t:TA):TE:=fun σ H Q=>t σ H fun vs H1=>sp (vs++dvs) H1 Q E
def tMeth(C:Addr)(m:Str)(sp:Sp)(dvs:List V)(E:XK)(ta:TE)(t:TA):TE:=fun σ H Q=>ta σ H fun x H1=>∃a dx fs,x = .ref a/\H1 a=some (.ins C dx fs)/\fs.lookup m=none/\
 t σ H1 fun vs H2=>sp (x::(vs++dvs)) H2 Q E
def tMake(C:Addr)(sp:Sp)(dvs:List V)(E:XK)(t:TA):TE:=fun σ H Q=>t σ H fun vs H1=>∀x dx,H1 x=none->H1 dx=none->dx≠x->
 sp (.ref x::(vs++dvs)) (upd (upd H1 dx (.own x)) x (.ins C dx [])) (fun v H2=>v = .non/\Q (.ref x) H2) E
def Binds(K:Frg)(fd:FuncData)(ps:List Str)(ds:List Value):Prop:=
 ∀(s:Shared) (us:List Value),K.In s.heap->(us++ds).length=ps.length->BindsTo s fd ⟨us,[]⟩ (ps.zip (us++ds))
theorem Binds.all{K:Frg}{a:FuncData}{ps:List Str}(h:∀us:List Value,us.length=ps.length->bindArgs a ⟨us,[]⟩=pure (ps.zip us)):Binds K a ps []:=fun s us _ b=>by
 rw[append_nil]at b|-;exact .of_eq (h us b)
def Passes(CX:CXT)(X:Cx)(E:XK):Prop:=∀(pins:List (Addr×Obj)) (σ:St) (H:Hp) (s:Shared) (e:Value) (s':Shared),Inv X pins σ H s->CX X.stack H s E e s'->X.xe e s'
section
variable{X:Cx}{CX:CXT}{k:Nat}{f C:Addr}{fd:FuncData}{ps:List Str}{sp:Sp}{dvs:List V}{ds:List Value}{E:XK}{x m:Str}{p pos apos:Pos}{e o:Expr}{es:List Expr}{ta:TE}{t:TA}
theorem j3g{b:St}{H:Hp}(F:FnOk X.prog X.w X.K X.mg X.base CX k f fd ps sp)(i:Room k X.A)(d:Binds X.K fd ps ds)(hd:Vals dvs ds)(j:Passes CX X E)
  (I:Inv X pins b H s) (r:Vals vs us) (h:sp (vs++dvs) H Q E):wpAny (model X.prog X.w) X.A (call (.ref f) us) (EP X pins b Q) X.xe s:=by
 have c:Vals (vs++dvs) (us++ds):=r.append hd;have g:(us++ds).length=ps.length:=by rw[<-c.length];exact F.len _ _ _ _ h
 refine wpAny_call (codeAny_mono (F.run X.A X.stack s H ⟨us,[]⟩ (us++ds) (vs++dvs) Q E i I.env0 (d s us I.kIn g) c h) fun r l a=>?_);cases r with
 | error e=>exact j pins b H s e l I a
 | ok fl=>
  cases fl with
  | ret u=>exact I.after a
  | next=>exact False.elim a
  | brk=>exact False.elim a
  | cont=>exact False.elim a
theorem YG(F:FnOk X.prog X.w X.K X.mg X.base CX k f fd ps sp)(o:Room k X.A)(l:Gl X x)(n:X.mg x=some (.ref f))(m:PySem.W.keepIn X.K (.ref f)=true)(i:Binds X.K fd ps ds)(hd:Vals dvs ds)(u:Passes CX X E)
  (g:PA X (e::es) t) (b:(x==("__debug__" : Str))=false:=by decide) (j:starEach (e::es) X.env=(false,eval e X.env)::starEach es X.env:=by rfl) (c:(backTo pos (starEach es X.env)).any (·.1)=false:=by rfl) :
  PE X (.Call (.Name x p) (e::es) [] pos) (tCall sp dvs E t):=by
 intro a s v H Q I h;refine wpAny_Call_Name_kw (W0 I l n ?_ b);refine PySem.W.callWith_K (h₀:=X.base) I.ok.mod.kin m (thn (g pos a s v H _ I h) fun z y ⟨A,w,d,r,q⟩=>⟨d.kIn,?_⟩) j c;exact j3g F o i hd u d r q
theorem Ko(B:PE X o ta)(c:Cls X.K C)(n:Meth X.K C m f)(F:FnOk X.prog X.w X.K X.mg X.base CX k f fd ps sp)(D:Room k X.A)(A:Binds X.K fd ps ds)(hd:Vals dvs ds)(K:Passes CX X E)(z:PA X (e::es) t)
  (g:starEach (e::es) X.env=(false,eval e X.env)::starEach es X.env:=by rfl) (d:(backTo pos (starEach es X.env)).any (·.1)=false:=by rfl)
  (J:eval (.Call (.Attribute o m apos) (e::es) [] pos) X.env=(do
   let ov <-eval o X.env
   standAt apos.atName
   let (f,first) <-holding [ov] (getMethod ov m pl)
   callWith pos f first (backTo pos (starEach (e::es) X.env)) (backToKw pos (keywordEach [] X.env))):=by rfl) :
  PE X (.Call (.Attribute o m apos) (e::es) [] pos) (tMeth C m sp dvs E ta t):=by
 intro b s p H Q I h;refine PySem.W.methodCall_KW (pl:=pl) (thn (B b s p H _ I h) fun u N ⟨x,v,i,M,a,P,fs,y,w,l,q⟩=>?_) J;subst y;obtain rfl:u=Value.ref a:=M;refine X7 i w c n l ?_;refine PySem.W.callWith_K (first:=[.ref a]) (h₀:=X.base) I.ok.mod.kin n.kp (thn (z pos b N p v _ i q) fun us R ⟨vs,O,j,r,L⟩=>⟨j.kIn,?_⟩) g d;exact j3g (us:=.ref a::us) (vs:=.ref a::vs) F D A hd K j (.cons rfl r) L
structure Mk(K:Frg)(C f:Addr):Prop where
 makes:PySem.W.makesIn K C=true
 init:PySem.W.findIn K (.ref C) "__init__"= some (some (.ref f))
 fn:PySem.W.isFn K (.ref f)=true
 kp:PySem.W.keepIn K (.ref C)=true
theorem j3h{c:St}{H:Hp}(M:Mk X.K C f)(F:FnOk X.prog X.w X.K X.mg X.base CX k f fd ps sp)(o:Room (k+1) X.A)(m:Binds X.K fd ps ds)(hd:Vals dvs ds)
  (p:Passes CX X E) (I:Inv X pins c H s) (r:Vals vs us)
  (h:∀x dx,H x=none->H dx=none->dx≠x->sp (.ref x::(vs++dvs)) (upd (upd H dx (.own x)) x (.ins C dx [])) (fun v H2=>v = .non/\Q (.ref x) H2) E) :
  wpAny (model X.prog X.w) X.A (call (.ref C) us) (EP X pins c Q) X.xe s:=by
 have d:=h (s.heap.objs.size+1) s.heap.objs.size (I.hok.fresh (Nat.le_succ _)) (I.hok.fresh (vb _)) (vE (Nat.lt_succ_self _));have b:=Inv.made (C:=C) I;have g:Vals (V.ref (s.heap.objs.size+1)::(vs++dvs)) (Value.ref (s.heap.objs.size+1)::(us++ds)):=.cons rfl (r.append hd);have n:(Value.ref (s.heap.objs.size+1)::us++ds).length=ps.length:=by
  have e:=g.length;rw[F.len _ _ _ _ d]at e;exact e.symm
 refine wpAny_call (j2J (f:=f) I.kIn M.makes M.init (beq_iff_eq.mp M.fn) (codeAny_mono (F.run _ X.stack _ _ ⟨Value.ref (s.heap.objs.size+1)::us,[]⟩ (Value.ref (s.heap.objs.size+1)::(us++ds)) _ _ E (o.make C us [])
  (b.env0.make C us []) (m _ (Value.ref (s.heap.objs.size+1)::us) b.kIn n) g d) fun r w a=>?_))
 cases r with
 | error e=>exact p pins c _ _ e w b a
 | ok fl=>
  cases fl with
  | ret u=>
   obtain⟨v,i,j,t,l,q⟩:=b.after a;subst l;exact⟨t,⟨V.ref (s.heap.objs.size+1),i,j,rfl,q⟩⟩
  | next=>exact False.elim a
  | brk=>exact False.elim a
  | cont=>exact False.elim a
theorem j11(M:Mk X.K C f)(F:FnOk X.prog X.w X.K X.mg X.base CX k f fd ps sp)(n:Room (k+1) X.A)(l:Gl X x)(m:X.mg x=some (.ref C))(i:Binds X.K fd ps ds)(hd:Vals dvs ds)(o:Passes CX X E)
  (g:PA X (e::es) t) (b:(x==("__debug__" : Str))=false:=by decide) (j:starEach (e::es) X.env=(false,eval e X.env)::starEach es X.env:=by rfl) (c:(backTo pos (starEach es X.env)).any (·.1)=false:=by rfl) :
  PE X (.Call (.Name x p) (e::es) [] pos) (tMake C sp dvs E t):=by
 intro a s u H Q I h;refine wpAny_Call_Name_kw (W0 I l m ?_ b);refine PySem.W.callWith_K (h₀:=X.base) I.ok.mod.kin M.kp (thn (g pos a s u H _ I h) fun y w ⟨z,v,d,r,q⟩=>⟨d.kIn,?_⟩) j c;exact j3h M F n i hd o d r q
end
section
variable{X:Cx}{CX:CXT}{k:Nat}{f C:Addr}{fd:FuncData}{ps ks:List Str}{sp:Sp}{E:XK}{x m:Str}{p pos apos kpos:Pos}{e o:Expr}{es:List Expr}{kws:List Keyword}{te ta:TE}{t tk:TA}{nm:Option Str}
variable{g:List Value->List Value->List Value}{gV:List V->List V->List V}
end
structure FnScope(N P:List Str)(sc:Scope):Prop where
 kind:sc.kind = .function
 co:sc.isCoroutine=false
 gen:sc.isGenerator=false
 nd:N.Nodup
 pre:N.take P.length=P
 par:∀x∈P,sc.names.lookup x=some .local\/sc.names.lookup x=some .cell
 nofree:∀y∈sc.names,y.2≠.free
theorem wV{b:Str->Option NameKind}:∀{a:List (Str×Value)} {m:Str->Option Value},(∀v,(x,v)∉a)->bindL b a m x=m x
 | [],_,_=>rfl
 | (n,v)::r,m,h=>by
  unfold bindL;rw[wV fun w c=>h w (vp _ c)];split
  ·have:x≠n:=by rintro rfl;exact h v vq
   simp[this]
  ·rfl
theorem wT{b:Str->Option NameKind}:∀{a:List (Str×Value)} {m:Str->Option Value},(∀v,(x,v)∉a)->bindC b a m x=m x
 | [],_,_=>rfl
 | (n,v)::r,m,h=>by
  unfold bindC;rw[wT fun w c=>h w (vp _ c)];split
  ·rfl
  ·have:x≠n:=by rintro rfl;exact h v vq
   simp[this]
theorem wU{a:Str->Option NameKind}:∀{P:List Str} {vs:List Value} {i:Nat} {m:Str->Option Value},P.Nodup->P[i]?=some x->vs[i]?=some v->a x=some .local->
  bindL a (P.zip vs) m x=some v
 | [],_,_,_,_,h,_,_=>by simp at h
 | _::_,[],_,_,_,_,h,_=>by simp at h
 | p::P,w::vs,0,m,nd,h1,h2,hk=>by
  simp at h1 h2;subst h1;subst h2;show bindL a ((p,w)::P.zip vs) m p=_;unfold bindL;rw[wV fun v b=>(ur.mp nd).1 (of_mem_zip b).1,vd hk];simp
 | p::P,w::vs,i+1,m,nd,h1,h2,hk=>by
  show bindL a ((p,w)::P.zip vs) m x=_;unfold bindL;exact wU (i:=i) (ur.mp nd).2 (by simpa using h1) (by simpa using h2) hk
theorem wS{a:Str->Option NameKind}:∀{P:List Str} {vs:List Value} {i:Nat} {m:Str->Option Value},P.Nodup->P[i]?=some x->vs[i]?=some v->a x≠some .local->
  bindC a (P.zip vs) m x=some v
 | [],_,_,_,_,h,_,_=>by simp at h
 | _::_,[],_,_,_,_,h,_=>by simp at h
 | p::P,w::vs,0,m,nd,h1,h2,hk=>by
  simp at h1 h2;subst h1;subst h2;show bindC a ((p,w)::P.zip vs) m p=_;unfold bindC;rw[wT fun v b=>(ur.mp nd).1 (of_mem_zip b).1,vc hk];simp
 | p::P,w::vs,i+1,m,nd,h1,h2,hk=>by
  show bindC a ((p,w)::P.zip vs) m x=_;unfold bindC;exact wS (i:=i) (ur.mp nd).2 (by simpa using h1) (by simpa using h2) hk
noncomputable def start(N:List Str)(vs:List V):St:=vs.map some++List.replicate (N.length-vs.length) none
noncomputable def cxOf(CX:CXT)(P:Program)(w:World)(K:Frg)(mg:Str->Option Value)(base:Heap)(N:List Str)(qual:Str)(scope:Scope)(f:Addr)(cd:Value)(A:Around)(outer:List Env)(s:Shared)(H:Hp)(E:XK):Cx where
 prog:=P
 w:=w
 K:=K
 mg:=mg
 base:=base
 A:=A.deeper (envOfC qual scope s.heap.objs.size f cd)
 N:=N
 s₀:=s
 H₀:=H
 env:=envOfC qual scope s.heap.objs.size f cd
 outer:=outer
 stack:=envOfC qual scope s.heap.objs.size f cd::outer
 ex:=[]
 calm:=true
 fn:=fun _=>true
 pn:=[]
 xe:=fun e s'=>wpAny (model P w) (A.deeper (envOfC qual scope s.heap.objs.size f cd)) (leaving (envOfC qual scope s.heap.objs.size f cd) e) (fun _ s''=>CX outer H s E e s'') (fun e' s''=>CX outer H s E e' s'') s'
theorem xS{a:Scope}{n:Nat}{x:Str}(h:a.names.lookup x=some .cell):∃c,(cellsFrom n a.names []).lookup x=some c:=by
 have q:=PySem.W.cellsFrom_some a.names n [] (.inl h);exact Option.isSome_iff_exists.mp q
theorem j1v{CX:CXT}{P:Program}{w:World}{K:Frg}{M:Str->Option Value}{m:Heap}{N ps:List Str}{j:Str}{d:Scope}{f:Addr}{I:Value}{A:Around}{g:List Env}{s R:Shared}{H:Hp}{E:XK}{us:List Value}{vs:List V}
  (S:FnScope N ps d) (hd:A.handled=none) (o:Env0 P w K M m A g s H) (Y:vs.length=ps.length) (r:Vals vs us)
  (x:InCallC s s.heap.objs.size (bindL (envOfC j d s.heap.objs.size f I).kindOf (ps.zip us) fun _=>none) (cellsFrom (s.heap.objs.size+1) d.names []) (bindC (envOfC j d s.heap.objs.size f I).kindOf (ps.zip us) fun _=>none) R) :
  Inv (cxOf CX P w K M m N j d f I A g s H E) [] (start N vs) H R:=by
 have U:ps.length<=N.length:=by have:=congrArg List.length S.pre;rw[vi]at this;lia
 obtain⟨J,Z,rfl,O⟩:=x.done;have B:∀b:Addr,b∉(cxOf CX P w K M m N j d f I A g s H E).ex:=fun b z=>uh (show b∈([]:List Addr)from z) (by simp)
 refine⟨⟨o.mod,S.kind,rfl,rfl,vb _,fun y z c J l=>?_,fun y t=>?_,fun y c _ h=>?_,fun _=>hd,Around.frames_deeper o.frames,.inr ⟨rfl,rfl⟩,fun b z=>uh z (B b),o.bs,o.bsz,fun b _ _=>B b,fun b z=>uh z (B b),o.funs,o.frf⟩,
  rfl,o.bare,Un.kept O,⟨_,x.toInCall.ns,fun i y v J l X=>?_⟩,fun y c h=>⟨_,x.cell y c h⟩,o.hok.fresh (vb _),fun y c h=>?_,fun p C=>uh (show p∈([]:List (Addr×Obj))from C) (by simp),o.hok.kept O,?_⟩
 ·exact name_of_addr x.apart (PySem.mem_of_lookup J) (PySem.mem_of_lookup l)
 ·have t:d.names.lookup y=some .cell\/d.names.lookup y=some .free:=t;rcases t with t | t
  ·exact xS t
  ·exact uh rfl (S.nofree _ (PySem.mem_of_lookup t))
 ·exact vX (x.above y c (PySem.mem_of_lookup h))
 ·have L:i<vs.length:=by
   unfold start at l;by_cases L:i<vs.length
   ·exact L
   ·rw[vC (by simpa using L)]at l;rw[List.getElem?_replicate]at l;split at l<;>cases l
  have T:vs[i]?=some v:=by
   unfold start at l;rw[vB (by simpa using L),vv]at l;cases e:vs[i]? with
   | none=>rw[e]at l;cases l
   | some a=>rw[e]at l;cases l;rfl
  obtain⟨u,Q,W⟩:=r.get T;have C:ps[i]?=some y:=by
   rw[<-S.pre,ut (by lia)];exact J
  have D:ps.Nodup:=by rw[<-S.pre];exact S.nd.sublist (take_sublist _ _)
  refine⟨u,W,?_⟩;rcases S.par y (vm C)with k | k
  ·exact .inl ⟨k,wU D C Q k⟩
  ·obtain⟨c,e⟩:=xS (n:=s.heap.objs.size+1) k;refine .inr ⟨.inl k,c,e,?_⟩;have q:=x.cell y c e;rw[wS D C Q (by show d.names.lookup y≠_;rw[k];decide)]at q;exact q
 ·exact o.hok.fresh (vX (x.above y c (PySem.mem_of_lookup h)))
 ·unfold start;show _=N.length;rw[vn,vt,length_replicate];lia
theorem j5l{CX:CXT}{P:Program}{w:World}{K:Frg}{M:Str->Option Value}{h:Heap}{k:Nat}{f:Addr}{name d:Str}{i:Arguments}{j:List Stmt}{a:Scope}{dV kV B pm g ct oc:Value}{Z od:Option Addr}
  {U:Array (Option Value)} {N ps:List Str} {sp:Sp} (lk:K.lookup f=some ⟨oc,od,.func (PySem.W.fnOf name d i j a dV kV B pm Z g ct),U⟩) (O:PySem.W.codeIn K g d=true) (S:FnScope N ps a)
  (len:∀vs H Q E,sp vs H Q E->vs.length=ps.length)
  (m:∀(A:Around) (c:List Env) (s:Shared) (H:Hp) (vs:List V) (Q:VK) (E:XK),Room k (A.deeper (envOfC d a s.heap.objs.size f g))->sp vs H Q E->
   ∃t,PSs (cxOf CX P w K M h N d a f g A c s H E) j t/\t {nx:=fun _ H'=>Q .non H',rt:=Q} (start N vs) H) :
  FnOk P w K M h CX (k+1) f (PySem.W.fnOf name d i j a dV kV B pm Z g ct) ps sp:=by
 refine⟨len,fun A c s H a0 us vs Q E R C hb r L=>?_⟩;have hl:=len _ _ _ _ L;have Y:K.In s.heap:=C.mod.kin.keeps fun b o e=>(C.bs b o e).1
 have T:s.heap.NoLimit:=C.mod.nolimit.keeps fun b o e=>(C.bs b o e).1
 have p:∀y∈ps.zip us,a.names.lookup y.1=some .local\/(a.names.lookup y.1=some .cell/\((cellsFrom (s.heap.objs.size+1) a.names []).lookup y.1).isSome=true):=fun⟨n,v⟩ hy=>by
  rcases S.par n (of_mem_zip hy).1 with q | q
  ·exact .inl q
  ·exact .inr ⟨q,PySem.W.cellsFrom_some _ _ _ (.inl q)⟩
 refine codeAny_call_function R.depth (Y _ _ lk) rfl S.co S.gen rfl (PySem.W.codeRec_of Y O) (hb _ _ _ _ ?_);refine wpAny_newFunctionEnv_cells S.kind p fun a1 he s1 x=>?_
 subst he;refine⟨T.keeps x.toInCall.keep,codeAny_func ?_⟩;obtain⟨t,ht,hq⟩:=m A c s H vs Q E (R.deeper _) L;have I:Inv (cxOf CX P w K M h N d a f g A c s H E) [] (start N vs) H s1:=j1v S R.hd C hl r x;refine wpAny_mono (ht [] s1 (start N vs) H _ I hq) (fun fl X z=>?_) fun e X z=>z
 have D:∀{l:St} {H':Hp} {v:V} {u:Value},Inv (cxOf CX P w K M h N d a f g A c s H E) [] l H' X->RelV v u->Q v H'->CE c P w H s Q u X:=
  fun {l H' v u} J W q=>⟨v,H',J.os,J.bare,J.base,J.hok,W,q⟩
 cases fl with
 | ret u=>
  obtain⟨v,l,H',J,W,q⟩:=z;exact D J W q
 | next=>
  obtain⟨l,H',J,q⟩:=z;exact D (v:=V.non) (u:=Value.none) J rfl q
 | brk=>
  obtain⟨_,_,_,q⟩:=z;exact False.elim q
 | cont=>
  obtain⟨_,_,_,q⟩:=z;exact False.elim q
section
variable{X:Cx}{x:Str}{p pos:Pos}{e:Expr}{es:List Expr}{t:TA}{id T:String}{r:List V->Hp->VK->Prop}
def tCB(r:List V->Hp->VK->Prop)(t:TA):TE:=fun σ H Q=>t σ H fun vs H1=>r vs H1 Q
theorem jD(j:CallR X (.builtin id) r)(l:Gl X x)(m:X.mg x=none)(o:bootBuiltins x=some (.builtin id))(i:PA X (e::es) t)(n:x≠"__name__":=by decide)(b:(x==("__debug__" : Str))=false:=by decide)
  (k:starEach (e::es) X.env=(false,eval e X.env)::starEach es X.env:=by rfl) (c:(backTo pos (starEach es X.env)).any (·.1)=false:=by rfl):PE X (.Call (.Name x p) (e::es) [] pos) (tCB r t):=by
 intro a s d H Q I h;refine wpAny_Call_Name_kw (Z3 I l m o ?_ n b);exact PyProof.Rows.callWith_builtin1 (thn (i pos a s d H _ I h) fun w v ⟨y,f,g,u,q⟩=>j a v d f y w Q g u q) k c
theorem Jy(j:CallR X (.type T) r)(l:Gl X x)(m:X.mg x=none)(o:bootBuiltins x=some (.type T))(i:PA X (e::es) t)(n:x≠"__name__":=by decide)(b:(x==("__debug__" : Str))=false:=by decide)
  (k:starEach (e::es) X.env=(false,eval e X.env)::starEach es X.env:=by rfl) (c:(backTo pos (starEach es X.env)).any (·.1)=false:=by rfl):PE X (.Call (.Name x p) (e::es) [] pos) (tCB r t):=by
 intro a s d H Q I h;refine wpAny_Call_Name_kw (Z3 I l m o ?_ n b);exact PyProof.Rows.callWith_type1 (thn (i pos a s d H _ I h) fun w v ⟨y,f,g,u,q⟩=>j a v d f y w Q g u q) k c
end
end L2
namespace HT
open PySem PyProof.Rows
section
open PySem.SeqAt
open PySem.AutoSeq1 (wpAny_loadPart')
open PySem.MeetsSeq PySem.MeetsSeq2 PySem.MeetsSeq3
end
section
variable{prog:Program}{w:World}{A:Around}{E:Value->Shared->Prop}{s:Shared}
noncomputable def sIx(n d:Nat):Option Int->Nat
 | none=>d
 | some v=>if v<0 then(v+(n:Int)).toNat else min v.toNat n
theorem j4l(n d k:Nat):sIx n d (some (k:Int))=min k n:=by
 show(if(k:Int)<0 then((k:Int)+(n:Int)).toNat else min (k:Int).toNat n)=min k n;rw[vc (by lia),Int.toNat_natCast]
theorem j5d(n d:Nat)(hd:d<=n)(o:Option Int):sIx n d o<=n:=by
 cases o with
 | none=>exact hd
 | some v=>
  show(if v<0 then(v+(n:Int)).toNat else min v.toNat n)<=n;by_cases a:v<0
  ·rw[vd a];lia
  ·rw[vc a];exact Nat.min_le_right _ _
theorem j0A(v:Int)(n d:Nat):(if v<0 then max (v+(n:Int)) 0 else min v (n:Int))=((sIx n d (some v):Nat):Int):=by
 show(if v<0 then max (v+(n:Int)) 0 else min v (n:Int))=(((if v<0 then(v+(n:Int)).toNat else min v.toNat n):Nat):Int)
 by_cases a:v<0
 ·simp only[if_pos a];lia
 ·simp only[if_neg a];lia
theorem XT(lo hi:Option Int)(n:Nat):Builtin.Slice.sliceAdjust lo hi 1 (n:Int)=(((sIx n 0 lo:Nat):Int),((sIx n n hi:Nat):Int)):=by
 have a:¬((1:Int)<0):=by lia
 unfold Builtin.Slice.sliceAdjust;simp only[a,if_false];refine Prod.ext ?_ ?_
 ·cases lo with
  | none=>rfl
  | some v=>exact j0A v n 0
 ·cases hi with
  | none=>rfl
  | some v=>exact j0A v n n
theorem j0g(i j:Nat):Builtin.Slice.slicePlaces (i:Int) (j:Int) 1=j-i:=by
 unfold Builtin.Slice.slicePlaces;have a:(1:Int)>0:=by lia
 simp only[a,if_true,Int.ediv_one];split<;>lia
theorem slicePart_{Q:Option Int->Shared->Prop}(p:IsPart v o)(h:Q o s):wpAny (model prog w) A (Builtin.Slice.slicePartIndex v) Q E s:=by
 cases p with
 | none=>exact slicePart_none h
 | int i t=>exact slicePart_int h
theorem kK{e:Addr}{c d:Value}{lo hi:Option Int}{n:Nat}{Q:Int×Int×Nat->Shared->Prop}(g:s.heap.IsSliceOf e c d .none)(pl:IsPart c lo)(i:IsPart d hi)
  (h:Q (((sIx n 0 lo:Nat):Int),1,sIx n n hi-sIx n 0 lo) s):wpAny (model prog w) A (Builtin.Slice.sliceApplied (.ref e) (pure (n:Int))) Q E s:=by
 obtain⟨j,b,f,a⟩:=id g;unfold Builtin.Slice.sliceApplied Builtin.Slice.sliceFields;refine um (um (wpAny_field b a (x:=c) rfl (um (wpAny_field b a (x:=d) rfl (um (wpAny_field b a (x:=.none) rfl (uk ?_)))))));refine um (slicePart_none ?_);show wpAny _ _ (if((1:Int)==0)=true then _ else _) _ _ s;rw[vc (by decide)];refine um (slicePart_ pl (um (slicePart_ i (um (uk ?_)))));show wpAny _ _ (match Builtin.Slice.sliceAdjust lo hi 1 (n:Int)with | (lo,hi)=>pure (lo,(1:Int),Builtin.Slice.slicePlaces lo hi 1)) _ _ s;rw[XT lo hi n];show wpAny _ _ (pure (((sIx n 0 lo:Nat):Int),(1:Int),Builtin.Slice.slicePlaces ((sIx n 0 lo:Nat):Int) ((sIx n n hi:Nat):Int) 1)) _ _ s;rw[j0g];exact uk h
theorem j34(xs:Array Value)(i k:Nat):((List.range k).filterMap fun(m:Nat)=>xs[((i:Int)+(m:Int)*1).toNat]?).toArray=((xs.toList.drop i).take k).toArray:=by
 have e:(fun(m:Nat)=>xs[((i:Int)+(m:Int)*1).toNat]?)=fun m=>xs[i+m]?:=by
  funext m;have:((i:Int)+(m:Int)*1).toNat=i+m:=by lia
  rw[this]
 rw[e];have:=pick_run xs i k;rw[List.filterMap_map]at this;have a:((fun x=>xs[x]?)∘fun x=>i+x)=fun m=>xs[i+m]?:=rfl
 rw[a]at this;rw[this]
theorem Yx{t g:Addr}{items:Array Value}{j k:Value}{lo hi:Option Int}{Q:Value->Shared->Prop}(b:IsTup s.heap t items)(i:s.heap.IsSliceOf g j k .none)(pl:IsPart j lo)(o:IsPart k hi)
  (hw:¬(sIx items.size 0 lo=0/\sIx items.size items.size hi=items.size))
  (h:Q (.ref s.heap.objs.size) {s with heap:=s.heap.push {cls:=.type "tuple",data:=.seq ((items.toList.drop (sIx items.size 0 lo)).take (sIx items.size items.size hi-sIx items.size 0 lo)).toArray}})
  (hsz:items.size<=sizeLine):wpAny (model prog w) A (getItem (.ref t) (.ref g)) Q E s:=by
 have a:sizeOk (.seq ((items.toList.drop (sIx items.size 0 lo)).take (sIx items.size items.size hi-sIx items.size 0 lo)).toArray):=by
  show((items.toList.drop (sIx items.size 0 lo)).take (sIx items.size items.size hi-sIx items.size 0 lo)).toArray.size<=sizeLine;rw[size_toArray,vi,List.length_drop,Array.length_toList];lia
 have p:sIx items.size items.size hi<=items.size:=j5d _ _ (vb _) hi;obtain⟨n,f,d,l⟩:=id i;have c:s.TypeIs (.ref g) "slice":=⟨n,f,d⟩
 unfold getItem
 try with_reducible refine wpAny_holding ?_
 first | refine um (uk ?_) | skip
 refine um (wpAny_sequenceKey b.typeIs (by decide) ?_);refine um (wpAny_callSpecial?_slot (name:=Str.ofString "__getitem__") b.typeIs PyProof.Rows.slot_tuple_getitem
  (wpAny_call_entry PyProof.Rows.slot_tuple_getitem b.typeIs entry_tuple_getitem ?_ (args_tuple_getitem _ _)))
 show wpAny _ _ (Builtin.Tuple.tupleItemsOf (.ref t) >>= _) _ _ s;refine um (tupleItemsOf_ b ?_);refine um (wpAny_typeOf c ?_);rw[vd (by decide)];refine um (kK i pl o ?_);have e:¬((((sIx items.size 0 lo:Nat):Int)==0&&(1:Int)==1&&(sIx items.size items.size hi-sIx items.size 0 lo)==items.size)=true):=by
  intro q;rw[Bool.and_eq_true,Bool.and_eq_true]at q;have r:((sIx items.size 0 lo:Nat):Int)=0:=eq_of_beq q.1.1;have u:sIx items.size items.size hi-sIx items.size 0 lo=items.size:=eq_of_beq q.2;exact hw ⟨by lia,by lia⟩
 show wpAny _ _ (if(((sIx items.size 0 lo:Nat):Int)==0&&(1:Int)==1&&(sIx items.size items.size hi-sIx items.size 0 lo)==items.size)=true then _ else _) _ _ s;rw[vc e,j34]
 first
  | exact um (m:=Builtin.Tuple.tupleExact _) (wpAny_newObj_type (uk ⟨_,rfl,uk h⟩) a)
  | exact um (m:=Builtin.Tuple.tupleExact _) (wpAny_newObj_type (um (uk (uk ⟨_,rfl,uk h⟩))) a)
  | exact um (um (m:=Builtin.Tuple.tupleExact _) (wpAny_newObj_type (uk (uk ⟨_,rfl,uk h⟩)) a))
  | exact um (um (m:=Builtin.Tuple.tupleExact _) (wpAny_newObj_type (uk ⟨_,rfl,uk h⟩) a))
end
end HT
namespace L2
open PySem PySem.Spec PyProof.Rows
noncomputable abbrev TO:=St->Hp->(Option Int->Hp->Prop)->Prop
def PO(X:Cx)(e:Option Expr)(t:TO):Prop:=
 ∀(pins:List (Addr×Obj)) (s:Shared) (σ:St) (H:Hp) (Q:Option Int->Hp->Prop),Inv X pins σ H s->t σ H Q->
  wpAny (model X.prog X.w) X.A (evalPart e X.env) (fun u s'=>∃o H',Inv X pins σ H' s'/\IsPart u o/\Q o H') X.xe s
def tNoPart:TO:=fun _ H Q=>Q none H
def tPart(t:TE):TO:=fun σ H Q=>t σ H fun x H1=>∃i,x = .int i/\Q (some i) H1
theorem intsAre_of:∀{us:List Value},Vals (ns.map V.int) us->IntsAre us ns:=by
 induction ns with
 | nil=>intro us r;rw[map_nil]at r;cases r;exact .nil
 | cons n ns ih=>
  intro us r;rw[v7]at r;cases r with
  | cons r1 r2=>
   obtain⟨t,e⟩:=r1;subst e;exact .cons n t (ih r2)
section
variable{X:Cx}{e:Expr}{te:TE}{lo hi:Option Expr}{tl th:TO}{pos p2:Pos}
theorem Zt:PO X none tNoPart:=by
 intro a s b H Q I h;rw[evalPart_none];exact uk ⟨none,H,I,.none,h⟩
theorem Zu(h:PE X e te):PO X (some e) (tPart te):=by
 intro a s j H Q I d;rw[evalPart_some];refine thn (h a s j H _ I d) fun u k ⟨x,b,c,g,f⟩=>?_
 obtain⟨i,rfl,q⟩:=f;obtain⟨t,rfl⟩:=g;exact⟨some i,b,c,.int i t,q⟩
def SlR(X:Cx)(r:V->Option Int->Option Int->Hp->VK->Prop):Prop:=
 ∀(pins:List (Addr×Obj)) (s:Shared) (σ:St) (H:Hp) (x:V) (v vl vu:Value) (lo hi:Option Int) (sl:Addr) (Q:VK),Inv X pins σ H s->RelV x v->s.heap.IsSliceOf sl vl vu .none->IsPart vl lo->IsPart vu hi->r x lo hi H Q->
  ∃T id,typeLookup (.type T) "__getitem__"= pure (some (.builtin id))/\s.TypeIs v T/\wpAny (model X.prog X.w) X.A (getItem v (.ref sl)) (EP X pins σ Q) X.xe s
def tSl(r:V->Option Int->Option Int->Hp->VK->Prop)(te:TE)(tl th:TO):TE:=fun σ H Q=>te σ H fun x H1=>tl σ H1 fun l H2=>th σ H2 fun u H3=>r x l u H3 Q
theorem zn{r:V->Option Int->Option Int->Hp->VK->Prop}(z:SlR X r)(t:PE X e te)(y:PO X lo tl)(B:PO X hi th):PE X (.Subscript e (.Slice lo hi none p2) pos) (tSl r te tl th):=by
 intro a s d H Q I h;refine Subscript_ (thn (t a s d H _ I h) fun v M ⟨x,j,m,L,E⟩=>?_);refine wpAny_Slice (thn (y a M d j _ m E) fun f N ⟨l,k,n,C,J⟩=>thn (B a N d k _ n J) fun g c ⟨u,i,o,D,K⟩=>?_);rw[evalPart_none];refine uk ?_;have p:Inv X a d i {c with heap:=c.heap.push {cls:=.type "slice",data:=.fields #[f,g,.none]}}:=o.kept (t':=c.toks) fun b P q=>vJ _ q
 obtain⟨T,O,hT,A,w⟩:=z a {c with heap:=c.heap.push {cls:=.type "slice",data:=.fields #[f,g,.none]}} d i x v f g l u c.heap.objs.size Q p L (Heap.IsSliceOf.new ..) C D K;show wpAny (model X.prog X.w) X.A (subscriptTail e (.Slice lo hi none p2) v (.ref c.heap.objs.size)) (EP X a d Q) X.xe {c with heap:=c.heap.push {cls:=.type "slice",data:=.fields #[f,g,.none]}};exact tail_any (ops:=[.ref c.heap.objs.size,v]) A hT w (by with_unfolding_all rfl)
noncomputable def cutV(xs:List V)(lo hi:Option Int):List V:=(xs.drop (HT.sIx xs.length 0 lo)).take (HT.sIx xs.length xs.length hi-HT.sIx xs.length 0 lo)
theorem zz(xs:List V)(lo hi:Option Int):(cutV xs lo hi).length<=xs.length:=by
 unfold cutV;rw[vi,List.length_drop];lia
noncomputable def rSlT(K:Frg):V->Option Int->Option Int->Hp->VK->Prop:=fun x lo hi H Q=>∃a xs,x = .ref a/\SqT K H a xs/\
 ¬(HT.sIx xs.length 0 lo=0/\HT.sIx xs.length xs.length hi=xs.length)/\∀p,H p=none->Q (.ref p) (upd H p (.tup (cutV xs lo hi)))
theorem j5e:SlR X (rSlT X.K):=by
 intro k s B H x v z A e f y Q I u l p t h;obtain⟨a,d,rfl,n,m,q⟩:=h;cases u;obtain⟨g,r,i,j⟩:=I.tuple n;have c:g.toArray.size=d.length:=by rw[size_toArray];exact r.length.symm
 refine⟨"tuple",_,PyProof.Rows.slot_tuple_getitem.lookup,i.typeIs,?_⟩;refine HT.Yx i l p t (by rw[c];exact m) ?_ (by rw[c];exact j);rw[c];refine⟨.ref s.heap.objs.size,_,I.laid (t':=s.toks) (o:=.tup (cutV d e f)) (fun b w q=>vJ _ q) (vb _) ?_,rfl,q _ (I.hok.fresh (vb _))⟩;exact⟨vV (zz d e f) j,_,(r.drop (HT.sIx d.length 0 e)).take (HT.sIx d.length d.length f-HT.sIx d.length 0 e),IsTup.new _ _⟩
end
noncomputable def ixN(n:Nat)(i:Int):Option Nat:=if 0<=i then(if i<n then some i.toNat else none)else if -(n:Int)<=i then some (i+n).toNat else none
noncomputable def atI{α:Type}(xs:List α)(i:Int):Option α:=(ixN xs.length i).bind fun j=>xs[j]?
theorem j0L(h:ixN n i=some j):seqIndex? i n=some j/\j<n/\-(n:Int)<=i/\i<n:=by
 unfold ixN at h;by_cases b:0<=i
 ·rw[vd b]at h;by_cases a:i<n
  ·rw[vd a]at h;have e:i.toNat=j:=vL h;exact⟨by rw[seqIndex_of b a,e],by lia,by lia,a⟩
  ·rw[vc a]at h;cases h
 ·rw[vc b]at h;by_cases a : -(n:Int)<=i
  ·rw[vd a]at h;have e:(i+n).toNat=j:=vL h;exact⟨by rw[seqIndex_neg (by lia) a,e],by lia,a,by lia⟩
  ·rw[vc a]at h;cases h
theorem WH{a:Type}{xs:List a}{i:Int}{v:a}(h:atI xs i=some v):∃j,seqIndex? i xs.length=some j/\xs[j]?=some v/\j<xs.length/\-(xs.length:Int)<=i/\i<xs.length:=by
 unfold atI at h;cases e:ixN xs.length i with
 | none=>rw[e]at h;cases h
 | some j=>
  rw[e]at h;obtain⟨b,c,d,f⟩:=j0L e;exact⟨j,b,h,c,d,f⟩
theorem jO{a:Type}{xs:List a}{j:Nat}{v:a}(h:xs[j]?=some v):atI xs (j:Int)=some v:=by
 have b:j<xs.length:=(vx.mp h).1;have e:ixN xs.length (j:Int)=some j:=by
  unfold ixN;rw[vd (by lia),vd (by lia)];simp
 unfold atI;rw[e];exact h
theorem xM{a:Type}(xs:List a)(v:a):atI (xs++[v]) (-1)=some v:=by
 have b:(xs++[v]).length=xs.length+1:=by simp
 have e:ixN (xs++[v]).length (-1)=some xs.length:=by
  unfold ixN;rw[b,vc (by decide),vd (by lia)];congr 1;lia
 unfold atI;rw[e];show(xs++[v])[xs.length]?=some v;simp
def PlainIx(b:Expr):Prop:=∀o i,subscripted b false o i=operate [o,i] (getItem o i)
def IxR(X:Cx)(r:R2):Prop:=
 ∀(value slice:Expr) (pins:List (Addr×Obj)) (s:Shared) (σ:St) (H:Hp) (x y:V) (v u:Value) (Q:VK),Inv X pins σ H s->RelV x v->RelV y u->r x y H Q->
  subscripted slice false v u=operate [v,u] (getItem v u)->wpAny (model X.prog X.w) X.A (subscriptTail value slice v u) (EP X pins σ Q) X.xe s
def MtR(X:Cx)(id:String)(r:V->List V->Hp->VK->Prop):Prop:=
 ∀(pins:List (Addr×Obj)) (s:Shared) (σ:St) (H:Hp) (x:V) (xs:List V) (v:Value) (us:List Value) (Q:VK),Inv X pins σ H s->RelV x v->Vals xs us->r x xs H Q->
  wpAny (model X.prog X.w) X.A (call (.builtin id) (v::us)) (EP X pins σ Q) X.xe s
section
variable{X:Cx}{a b:Expr}{ta tb:TE}{pos:Pos}
theorem jo(i:IxR X r)(f:PE X a ta)(g:PE X b tb)(j:PlainIx b:=by exact fun _ _=>rfl):PE X (.Subscript a b pos) (tOp r ta tb):=by
 intro c s n H Q I h;exact Subscript_ (binT f g I h fun v u m x y d e k l q=>i a b c m n d x y v u Q e k l q (j _ _))
def rIxL(K:Frg):R2:=fun x y H Q=>∃p xs i v,x = .ref p/\y = .int i/\SqL K H p xs/\atI xs i=some v/\Q v H
def rIxT(K:Frg):R2:=fun x y H Q=>∃p xs i v,x = .ref p/\y = .int i/\SqT K H p xs/\atI xs i=some v/\Q v H
def rIxS:R2:=fun x y H Q=>∃z i c,x = .str z/\y = .int i/\z.length<=sizeLine/\atI z.cps.toList i=some c/\Q (.str ⟨#[c]⟩) H
theorem jv:IxR X (rIxL X.K):=by
 intro l k a s A H x y v u Q I L M h o;obtain⟨p,S,i,z,rfl,rfl,K,E,q⟩:=h;cases L;obtain⟨t,rfl⟩:=M;obtain⟨e,r,f,R⟩:=I.list K;obtain⟨j,c,B,O,C,D⟩:=WH E;obtain⟨w,m,g⟩:=r.get B;have J:=r.length;have P:=line63;have b:EP X a A Q w s:=⟨z,H,I,g,q⟩
 by_cases n:0<=i
 ·have d:i.toNat=j:=by
   rw[seqIndex_of n D]at c;exact vL c
  exact item_listR f.isList n (by lia) (by rw[d];simpa using m) b o
 ·have d:(i+(e.toArray.size:Int)).toNat=j:=by
   rw[seqIndex_neg (by lia) C]at c;rw[size_toArray,<-J];exact vL c
  exact subscriptTail_builtinR (x:=w) f.isList.typeIs slot_list_getitem.lookup
   (wpAny_getItem_list_neg (Q:=fun r N=>r=w/\EP X a A Q r N) f.isList (by lia) (by rw[size_toArray]<;>lia) (by lia) (by rw[d];simpa using m) ⟨rfl,b⟩) o
theorem jz:IxR X (rIxT X.K):=by
 intro e d a s g H x y v u Q I D E h B;obtain⟨p,P,i,z,rfl,rfl,A,n,q⟩:=h;cases D;obtain⟨t,rfl⟩:=E;obtain⟨C,r,f,O⟩:=I.tuple A;obtain⟨j,l,m,K,L,M⟩:=WH n;obtain⟨w,k,c⟩:=r.get m;have o:=r.length;have N:=line63;have b:EP X a g Q w s:=⟨z,H,I,c,q⟩
 exact subscriptTail_builtinR (x:=w) f.typeIs slot_tuple_getitem.lookup
  (getItem_tuple (j:=j) (Q:=fun r J=>r=w/\EP X a g Q r J) f (by lia) (by lia) (by rw[size_toArray,<-o];exact l) (by simpa using k) ⟨rfl,b⟩) B
theorem j2A:IxR X rIxS:=by
 intro b a e s E H x y v u Q I r w h p;obtain⟨z,i,c,rfl,rfl,C,n,q⟩:=h;obtain⟨t,rfl⟩:=r;obtain⟨D,rfl⟩:=w;obtain⟨j,d,k,A,l,m⟩:=WH n;have o:z.cps.toList.length=z.length:=by simp[Str.length]
 rw[o]at d l m;have B:=line63;exact tail_any (typeIs_str s z t) slot_str_getitem.lookup (getItem_str (c:=c) (by
  have f:decide (i < -(2^63:Int))=false:=vH (by lia);have g:decide (i>=2^63)=false:=vH (by lia);rw[f,g,Bool.or_false]) (by rw[d];simpa using k) ⟨.str ⟨#[c]⟩,H,I.tok _,⟨_,rfl⟩,q⟩) p
theorem j05(a:List Value)(n j:Nat)(u:Value):Obj.mapSeq (·.setIfInBounds j u) {cls:=.type "list",data:=.seq a.toArray n}={cls:=.type "list",data:=.seq (a.set j u).toArray n}:=by
 simp[Obj.mapSeq]
theorem Inv.lst{b:St}{H:Hp}(I:Inv X pins b H s)(h:H p=some (.lst xs)) :
  ∃(a:List Value) (n:Nat),Vals xs a/\s.heap.get? p=some {cls:=.type "list",data:=.seq a.toArray n}/\xs.length<=sizeLine:=by
 obtain⟨z,a,n,r,e⟩:=I.hok p _ h;exact⟨a,n,r,e,z⟩
theorem Inv.lstUpd{a:List (Addr×Obj)}{i:St}{H:Hp}{s:Shared}{p:Addr}{xs ys:List V}{c its':List Value}{n d:Nat}{f:Obj->Obj}(I:Inv X a i H s)(h:H p=some (.lst xs))
  (k:s.heap.get? p=some {cls:=.type "list",data:=.seq c.toArray n}) (g:f {cls:=.type "list",data:=.seq c.toArray n}={cls:=.type "list",data:=.seq its'.toArray d}) (r:Vals ys its') (l:ys.length<=sizeLine) (t:Nat) :
  Inv X a i (upd H p (.lst ys)) {s with heap:=s.heap.update p f,toks:=t}:=by
 have e:(s.heap.update p f).get? p=some {cls:=.type "list",data:=.seq its'.toArray d}:=by
  rw[Heap.get?_update_self f k (by rw[g]<;>rfl),g]
 refine I.write (x:=p) (e:=p) (by rw[h];trivial) (.inl rfl) (fun b u j q=>(Heap.get?_update_other _ _ (Ne.symm j)).trans q) ⟨_,e⟩ ?_;exact⟨l,its',d,r,e⟩
noncomputable def rSetL:V->V->V->Hp->(Hp->Prop)->Prop:=fun o i v H Q=>∃p xs k j,o = .ref p/\i = .int k/\H p=some (.lst xs)/\ixN xs.length k=some j/\Q (upd H p (.lst (xs.set j v)))
theorem set_list:PSet X rSetL:=by
 intro b s E H o i v ov L u Q I B A C h;obtain⟨p,D,k,j,rfl,rfl,x,y,q⟩:=h;cases B;obtain⟨t,rfl⟩:=A;obtain⟨a,n,r,f,z⟩:=I.lst x;obtain⟨c,J,m,w⟩:=j0L y;have e:=r.length;have K:=line63;have g:Inv X b E (upd H p (.lst (D.set j v))) {s with heap:=s.heap.update p (Obj.mapSeq (·.setIfInBounds j u))}:=
  I.lstUpd x f (j05 a n j u) (r.set C j) (by rw[length_set];exact z) s.toks
 by_cases l:0<=k
 ·have d:k.toNat=j:=by
   rw[seqIndex_of l w]at c;exact vL c
  exact PySem.W.ki_setAt f l (by lia) (by rw[size_toArray,<-e];exact w) (by rw[d];exact⟨_,g,q⟩)
 ·have d:(k+(a.toArray.size:Int)).toNat=j:=by
   rw[seqIndex_neg (by lia) m]at c;rw[size_toArray,<-e];exact vL c
  exact PySem.W.ki_setBack f (by lia) (by rw[size_toArray,<-e];exact m) (by lia) (by rw[d];exact⟨_,g,q⟩)
theorem xG(lo hi:Option Int)(n:Nat):(sliceBounds lo hi none n).1=((HT.sIx n 0 lo:Nat):Int)/\(sliceBounds lo hi none n).2.1=((HT.sIx n n hi:Nat):Int)/\(sliceBounds lo hi none n).2.2=1:=by
 refine⟨?_,?_,rfl⟩
 ·cases lo with
  | none=>simp[sliceBounds,HT.sIx]
  | some i=>
   simp only[sliceBounds,HT.sIx,Option.getD_none,show(1:Int)>0 by decide,if_true];by_cases h:i<0
   ·simp only[h,if_true]<;>lia
   ·simp only[h,if_false]<;>lia
 ·cases hi with
  | none=>simp[sliceBounds,HT.sIx]
  | some i=>
   simp only[sliceBounds,HT.sIx,Option.getD_none,show(1:Int)>0 by decide,if_true];by_cases h:i<0
   ·simp only[h,if_true]<;>lia
   ·simp only[h,if_false]<;>lia
theorem wN(a:List Value)(lo hi:Option Int):slicePick a.toArray lo hi none=((a.drop (HT.sIx a.length 0 lo)).take (HT.sIx a.length a.length hi-HT.sIx a.length 0 lo)).toArray:=by
 obtain⟨b,c,d⟩:=xG lo hi a.toArray.size;unfold slicePick;rw[b,c,d];simp only[sliceRange_one,pick_run,size_toArray]<;>rfl
noncomputable def rSlL(K:Frg):V->Option Int->Option Int->Hp->VK->Prop:=fun x lo hi H Q=>∃a xs,x = .ref a/\SqL K H a xs/\∀p,H p=none->Q (.ref p) (upd H p (.lst (cutV xs lo hi)))
theorem Kt:SlR X (rSlL X.K):=by
 intro i s A H x v y z e f w Q I t j n p h;obtain⟨a,c,rfl,k,q⟩:=h;cases t;obtain⟨m,r,g,l⟩:=I.list k;have d:=r.length;refine⟨"list",_,slot_list_getitem.lookup,g.isList.typeIs,?_⟩;refine wpAny_getItem_list_slice g.isList j n p .none (by simp) ?_ (by rw[size_toArray]<;>lia);rw[wN,<-d];refine⟨.ref s.heap.objs.size,_,I.laid (t':=s.toks) (o:=.lst (cutV c e f)) (fun b u q=>vJ _ q) (vb _) ?_,rfl,q _ (I.hok.fresh (vb _))⟩;exact⟨vV (zz c e f) l,_,0,(r.drop (HT.sIx c.length 0 e)).take (HT.sIx c.length c.length f-HT.sIx c.length 0 e),Heap.get?_push_size _ rfl⟩
noncomputable def flatV:V->Bool
 | .non=>true
 | .bl _=>true
 | .int _=>true
 | .str _=>true
 | _=>false
noncomputable def eqV:V->V->Bool
 | .non,.non=>true
 | .bl a,.bl b=>a==b
 | .bl a,.int b=>(if a then 1 else 0)==b
 | .int a,.bl b=>a==(if b then 1 else 0)
 | .int a,.int b=>a==b
 | .str a,.str b=>a==b
 | _,_=>false
theorem j4M(f:RelV y u)(c:RelV x v)(g:flatV y=true)(e:flatV x=true):SeqAt.EqAt A s u v (eqV y x):=by
 cases y with
 | non=>
  cases f;cases x with
  | non=>cases c;exact SeqAt.EqAt.same _
  | bl b=>cases c;exact SeqAt.EqAt.none_bool b
  | int b=>obtain⟨t,rfl⟩:=c;exact SeqAt.EqAt.none_int b t
  | str b=>obtain⟨t,rfl⟩:=c;exact SeqAt.EqAt.none_str b t
  | _=>exact uh (show false=true from e) vF
 | bl a=>
  cases f;cases x with
  | non=>cases c;exact SeqAt.EqAt.bool_none a
  | bl b=>cases c;exact SeqAt.EqAt.bool_bool a b
  | int b=>obtain⟨t,rfl⟩:=c;exact SeqAt.EqAt.bool_int a b t
  | str b=>obtain⟨t,rfl⟩:=c;exact SeqAt.EqAt.bool_str a b t
  | _=>exact uh (show false=true from e) vF
 | int a=>
  obtain⟨d,rfl⟩:=f;cases x with
  | non=>cases c;exact SeqAt.EqAt.int_none a d
  | bl b=>cases c;exact SeqAt.EqAt.int_bool a d b
  | int b=>obtain⟨t,rfl⟩:=c;exact SeqAt.EqAt.int_int a d b t
  | str b=>obtain⟨t,rfl⟩:=c;exact SeqAt.EqAt.int_str a d b t
  | _=>exact uh (show false=true from e) vF
 | str a=>
  obtain⟨d,rfl⟩:=f;cases x with
  | non=>cases c;exact SeqAt.EqAt.str_none a d
  | bl b=>cases c;exact SeqAt.EqAt.str_bool a d b
  | int b=>obtain⟨t,rfl⟩:=c;exact SeqAt.EqAt.str_int a d b t
  | str b=>obtain⟨t,rfl⟩:=c;exact SeqAt.EqAt.str_str a d b t
  | _=>exact uh (show false=true from e) vF
 | _=>exact uh (show false=true from g) vF
noncomputable def eqU(x:V)(u:Value):Bool:=match u with
 | .none=>eqV .non x
 | .bool b=>eqV (.bl b) x
 | .int i _=>eqV (.int i) x
 | .str z _=>eqV (.str z) x
 | _=>false
theorem WV(r:RelV y u)(f:flatV y=true):eqU x u=eqV y x:=by
 cases y with
 | non=>cases r;rfl
 | bl b=>cases r;rfl
 | int i=>obtain⟨t,rfl⟩:=r;rfl
 | str z=>obtain⟨t,rfl⟩:=r;rfl
 | _=>exact uh (show false=true from f) vF
theorem Yn:∀{xs:List V} {us:List Value},Vals xs us->xs.all flatV=true->us.any (eqU x)=xs.any fun y=>eqV y x
 | _,_,.nil,_=>rfl
 | y::xs,u::us,.cons r t,f=>by
  rw[all_cons,Bool.and_eq_true]at f;rw[any_cons,any_cons,WV r f.1,Yn t f.2]
theorem zV(c:RelV x v)(b:flatV x=true):∀{xs:List V} {us:List Value},Vals xs us->xs.all flatV=true->∀u∈us,SeqAt.EqAt A s u v (eqU x u)
 | _,_,.nil,_=>fun u a=>by cases a
 | y::xs,u::us,.cons r t,f=>fun d a=>by
  rw[all_cons,Bool.and_eq_true]at f;rcases mem_cons.mp a with rfl | a
  ·rw[WV r f.1];exact j4M r c f.1 b
  ·exact zV c b t f.2 d a
noncomputable def inV(x:V)(xs:List V):Bool:=xs.any fun y=>eqV y x
def rIn(K:Frg)(neg:Bool):R2:=fun x y H Q=>∃p xs,y = .ref p/\(SqL K H p xs\/SqT K H p xs)/\flatV x=true/\xs.all flatV=true/\Q (.bl (if neg then !inV x xs else inV x xs)) H
theorem j1K:OpR X (compareOp .In) (rIn X.K false):=by
 intro f s l H x y v u Q I g j h;obtain⟨p,k,rfl,b,e,fs,q⟩:=h;cases j;rcases b with b | b
 ·obtain⟨a,r,d,i⟩:=I.list b;refine SeqAt.in_listAt (eqU x) d.isList (fun w c=>zV g e r fs w (by simpa using c)) ⟨.bl _,H,I,rfl,?_⟩;rw[show a.toArray.any (eqU x)=a.any (eqU x) by simp,Yn r fs];exact q
 ·obtain⟨a,r,d,i⟩:=I.tuple b;refine SeqAt.in_tupleAt (eqU x) d (fun w c=>zV g e r fs w (by simpa using c)) ⟨.bl _,H,I,rfl,?_⟩;rw[show a.toArray.any (eqU x)=a.any (eqU x) by simp,Yn r fs];exact q
theorem xr:OpR X (compareOp .NotIn) (rIn X.K true):=by
 intro f s l H x y v u Q I g j h;obtain⟨p,k,rfl,b,e,fs,q⟩:=h;cases j;rcases b with b | b
 ·obtain⟨a,r,d,i⟩:=I.list b;refine SeqAt.notIn_listAt (eqU x) d.isList (fun w c=>zV g e r fs w (by simpa using c)) ⟨.bl _,H,I,rfl,?_⟩;rw[show a.toArray.any (eqU x)=a.any (eqU x) by simp,Yn r fs];exact q
 ·obtain⟨a,r,d,i⟩:=I.tuple b;refine SeqAt.notIn_tupleAt (eqU x) d (fun w c=>zV g e r fs w (by simpa using c)) ⟨.bl _,H,I,rfl,?_⟩;rw[show a.toArray.any (eqU x)=a.any (eqU x) by simp,Yn r fs];exact q
theorem WO:CallR X (.type "list") (fun xs H Q=>∃p ys,xs=[.ref p]/\(SqL X.K H p ys\/SqT X.K H p ys)/\∀l,H l=none->Q (.ref l) (upd H l (.lst ys))):=by
 intro t s B H xs C Q I r h;obtain⟨p,ys,rfl,j,q⟩:=h;obtain⟨u,rfl,A⟩:=vals1 r;cases A;have g:∀(a:List Value),Vals ys a->ys.length<=sizeLine->∀(c:Heap) (d:Nat),(∀b z,s.heap.get? b=some z->c.get? b=some z)->
   c.get? s.heap.objs.size=some {cls:=.type "list",dict:=none,data:=.seq a.toArray d,slots:=#[]}->EP X t B Q (.ref s.heap.objs.size) {s with heap:=c}:=fun a f k c d m e=>
  ⟨.ref s.heap.objs.size,_,I.laid (t':=s.toks) m (vb _) (show ObjOk X.prog X.w _ c _ (.lst ys)from⟨k,a,d,f,e⟩),rfl,q _ (I.hok.fresh (vb _))⟩
 rcases j with j | j
 ·obtain⟨a,f,y,k⟩:=I.list j;have i:=f.length;obtain⟨o,x,v,n,w⟩:=y.isList;exact call_list_seq p (.inl rfl) x v w (fun c d m e=>g a f k c d m e) (by simp only[size_toArray]<;>lia)
 ·obtain⟨a,f,y,k⟩:=I.tuple j;have i:=f.length;obtain⟨o,x,v,n,w⟩:=y;exact call_list_seq p (.inr rfl) x v w (fun c d m e=>g a f k c d m e) (by simp only[size_toArray]<;>lia)
theorem QG:CallR X (.type "tuple") (fun xs H Q=>∃p ys,xs=[.ref p]/\((SqL X.K H p ys/\∀l,H l=none->Q (.ref l) (upd H l (.tup ys)))\/(SqT X.K H p ys/\Q (.ref p) H))):=by
 intro a s n H xs x Q I r h;obtain⟨p,ys,rfl,h⟩:=h;obtain⟨u,rfl,w⟩:=vals1 r;cases w;rcases h with⟨f,q⟩ | ⟨f,q⟩
 ·obtain⟨c,i,g,m⟩:=I.list f;have k:=i.length;refine call_tuple_list g.isList (fun d v=>?_) (by simp only[size_toArray]<;>lia);have j:Inv X a n H {s with heap:=d}:=I.kept (t':=s.toks) v;have t:Inv X a n (upd H d.objs.size (.tup ys)) {s with heap:=d.push {cls:=.type "tuple",data:=.seq c.toArray}}:=
   j.laid (t':=s.toks) (fun b o e=>vJ _ e) (vb _) (show ObjOk X.prog X.w _ _ _ (.tup ys)from⟨m,c,i,IsTup.new _ _⟩)
  exact⟨.ref d.objs.size,_,t,rfl,q _ (j.hok.fresh (vb _))⟩
 ·obtain⟨c,i,g,m⟩:=I.tuple f;exact call_tuple_same g ⟨.ref p,H,I,rfl,q⟩
def tyV(K:Frg)(T:String)(x:V)(H:Hp):Prop:=match x with
 | .str _=>T = "str"
 | .int _=>T = "int"
 | .ref p=>(T = "list"/\∃xs,SqL K H p xs)\/(T = "tuple"/\∃o,K.lookup p=some o/\o.cls = .type "tuple"/\o.dict=none)\/
   (T = "dict"/\((∃kvs,H p=some (.dK kvs))\/∃kvs,H p=some (.dT kvs)))\/(T = "set"/\∃S n,H p=some (.set S n))
 | _=>False
theorem j3B{w:St}{H:Hp}(I:Inv X pins w H s)(r:RelV x v)(f:tyV X.K T x H) :
  s.TypeIs v T/\∀a,v = .ref a->∃k,s.heap.get? a=some k/\k.dict=none:=by
 cases x with
 | str z=>
  obtain⟨t,rfl⟩:=r;cases(show T = "str" from f);exact⟨typeIs_str s z t,fun _ e=>nomatch e⟩
 | int i=>
  obtain⟨t,rfl⟩:=r;cases(show T = "int" from f);exact⟨typeIs_int s i t,fun _ e=>nomatch e⟩
 | ref p=>
  cases r;rcases f with⟨rfl,y,q⟩ | ⟨rfl,o,b,m,h⟩ | ⟨rfl,b⟩ | ⟨rfl,S,n,b⟩
  ·obtain⟨u,_,l,_⟩:=I.list q;refine⟨l.isList.typeIs,fun a e=>?_⟩;cases e;obtain⟨o,n,e,c,h,_⟩:=l;exact⟨o,e,h⟩
  ·refine⟨⟨o,I.kIn p o b,m⟩,fun a e=>?_⟩;cases e;exact⟨o,I.kIn _ o b,h⟩
  ·have z:∃o,s.heap.get? p=some o/\o.ExactDict:=by
    rcases b with⟨j,b⟩ | ⟨j,b⟩
    ·obtain⟨_,_,_,_,o,_,_,e,d,_⟩:=I.hok p _ b;exact⟨o,e,d⟩
    ·obtain⟨_,_,_,_,o,_,_,e,d,_⟩:=I.hok p _ b;exact⟨o,e,d⟩
   obtain⟨o,e,d⟩:=z;refine⟨⟨o,e,d.1⟩,fun a g=>?_⟩;cases g;exact⟨o,e,d.2.1⟩
  ·obtain⟨o,_,_,_,e,d,_⟩:=I.hok p _ b;refine⟨⟨o,e,d.1⟩,fun a g=>?_⟩;cases g;exact⟨o,e,d.2.1⟩
 | _=>exact False.elim f
def tBM0(K:Frg)(T:String)(r:V->List V->Hp->VK->Prop)(to:TE):TE:=fun σ H Q=>to σ H fun x H1=>tyV K T x H1/\r x [] H1 Q
def tBM(K:Frg)(T:String)(r:V->List V->Hp->VK->Prop)(to:TE)(t:TA):TE:=fun σ H Q=>to σ H fun x H1=>tyV K T x H1/\t σ H1 fun xs H2=>r x xs H2 Q
variable{o e:Expr}{es:List Expr}{to:TE}{t:TA}{name:Str}{apos cpos:Pos}{T id:String}{r:V->List V->Hp->VK->Prop}
theorem j53(p:PlainAttrs T)(d:Slot T name id)(e:typeOf (.builtin id)=pure (.type "method_descriptor"))(m:MtR X id r)(n:PE X o to)
  (b:attributeBase o name X.env (eval o X.env)=eval o X.env:=by rfl) (c:(apos.endLine==cpos.line)=true:=by rfl):PE X (.Call (.Attribute o name apos) [] [] cpos) (tBM0 X.K T r to):=by
 intro a s i H Q I h;refine wpAny_Call_method0_late b c (thn (n a s i H _ I h) fun v t ⟨x,j,f,g,u,q⟩=>?_);obtain⟨k,l⟩:=j3B f g u;exact⟨T,id,p,d,e,k,l,Calls.callWith_builtin rfl (PySem.evalArgs_none (m a t i j x [] v [] Q f g .nil q))⟩
theorem qh(C:PlainAttrs T)(g:Slot T name id)(i:typeOf (.builtin id)=pure (.type "method_descriptor"))(z:MtR X id r)(A:PE X o to)(y:PA X (e::es) t)
  (c:attributeBase o name X.env (eval o X.env)=eval o X.env:=by rfl)
  (f:((backTo cpos (starEach (e::es) X.env)).all (fun x=>!x.1)&&(backToKw cpos (keywordEach [] X.env)).all (fun x=>x.1.isSome)
   && decide ((e::es).length+([]:List Keyword).length+(if([]:List Keyword).isEmpty then 0 else 1)<30))=true:=by rfl)
  (d:(apos.endLine==cpos.line)=true:=by rfl) (B:starEach (e::es) X.env=(false,eval e X.env)::starEach es X.env:=by rfl) (b:(backTo cpos (starEach es X.env)).any (·.1)=false:=by rfl) :
  PE X (.Call (.Attribute o name apos) (e::es) [] cpos) (tBM X.K T r to t):=by
 intro a s j H Q I h;refine wpAny_Call_method_late c f d rfl (thn (A a s j H _ I h) fun v K ⟨x,n,k,m,M,D⟩=>?_);obtain⟨u,w⟩:=j3B k m M;refine⟨T,id,C,g,i,u,w,?_⟩;have l:=y cpos a K j n _ k D;rw[B]at l|-;refine Calls.callWith_builtin (by show(false||(backTo cpos (starEach es X.env)).any (·.1))=false;rw[b]<;>rfl) (Calls.evalArgs_plain ?_);exact thn l fun N L ⟨O,p,q,J,E⟩=>z a L j p x O v N Q q m J E
end
def MtM(X:Cx)(id:String)(r:V->List V->Hp->VK->Prop):Prop:=
 ∀(pins:List (Addr×Obj)) (s:Shared) (σ:St) (H:Hp) (x:V) (xs:List V) (v:Value) (us:List Value) (Q:VK),Inv X pins σ H s->RelV x v->Vals xs us->r x xs H Q->
  wpAny (model X.prog X.w) X.A (call (.builtin id) (v::us)) (EP X pins σ Q) X.xe s
theorem Vals.one:∀{x:V} {us:List Value},Vals [x] us->∃u,us=[u]/\RelV x u
 | _,_,.cons r .nil=>⟨_,rfl,r⟩
theorem Vals.zero:∀{us:List Value},Vals [] us->us=[]
 | _,.nil=>rfl
theorem Vals.rep(h:Vals xs us):∀k:Nat,Vals (List.replicate k xs).flatten (List.replicate k us).flatten
 | 0=>.nil
 | k+1=>by
  rw[replicate_succ,replicate_succ,flatten_cons,flatten_cons];exact Vals.append h (Vals.rep h k)
theorem Wh(a:List Value):∀(k:Nat) (acc:List Value),
  List.foldl (fun c d=>c++d) acc.toArray (List.replicate k a.toArray)=(acc++(List.replicate k a).flatten).toArray
 | 0,acc=>by simp
 | k+1,acc=>by
  have e:acc.toArray++a.toArray=(acc++a).toArray:=by simp
  have b:(acc++a)++(List.replicate k a).flatten=acc++(List.replicate (k+1) a).flatten:=by
   rw[replicate_succ,flatten_cons,List.append_assoc]
  rw[<-b,<-Wh a k (acc++a),<-e,replicate_succ,v5]
section
variable{X:Cx}{pins:List (Addr×Obj)}{σ:St}{H:Hp}{s:Shared}{l b:Addr}{xs ys zs:List V}
theorem Inv.lset{a its':List Value}{n:Nat}{f:Array Value->Array Value}{t':Nat}(I:Inv X pins σ H s)(b:H l=some (.lst xs))
  (e:s.heap.get? l=some {cls:=.type "list",data:=.seq a.toArray n}) (d:f a.toArray=its'.toArray) (h:Vals ys its') (i:ys.length<=sizeLine) :
  Inv X pins σ (upd H l (.lst ys)) {s with heap:=s.heap.update l (Obj.mapSeq f),toks:=t'}:=by
 have q:=PySem.IsL.update e f;rw[d]at q;refine I.write (x:=l) (e:=l) (by rw[b];exact trivial) (.inl rfl) (fun j u c g=>(Heap.get?_update_other s.heap (Obj.mapSeq f) (Ne.symm c)).trans g) ⟨_,q⟩ ?_;exact⟨i,its',_,h,q⟩
theorem Inv.lnew(I:Inv X pins σ H s)(a:Vals ys its)(b:ys.length<=sizeLine) :
  Inv X pins σ (upd H s.heap.objs.size (.lst ys)) {s with heap:=s.heap.push {cls:=.type "list",data:=.seq its.toArray},toks:=t'}:=
 I.laid (fun _ _ q=>vJ _ q) (vb _) ⟨b,its,0,a,Heap.get?_push_size _ rfl⟩
theorem Inv.fresh(I:Inv X pins σ H s):H s.heap.objs.size=none:=I.hok.fresh (vb _)
theorem Inv.lstM(I:Inv X pins σ H s)(b:H l=some (.lst xs)):xs.length<=sizeLine/\∃(a:List Value) (n:Nat),Vals xs a/\xs.length=a.length/\s.heap.get? l=some {cls:=.type "list",data:=.seq a.toArray n}:=by
 obtain⟨z,a,n,r,e⟩:=I.hok l _ b;exact⟨z,a,n,r,r.length,e⟩
theorem notLongL(h:n<=sizeLine):Builtin.List.listTooLong n=false:=by
 unfold Builtin.List.listTooLong;exact vH (by lia)
end
section
variable{X:Cx}
noncomputable def rAppend:V->List V->Hp->VK->Prop:=fun x vs H Q=>∃l xs y,x = .ref l/\vs=[y]/\H l=some (.lst xs)/\xs.length<sizeLine/\Q .non (upd H l (.lst (xs++[y])))
theorem jV:MtM X "list.append" rAppend:=by
 intro c s p H x m v k Q I g f h;obtain⟨l,o,y,rfl,rfl,b,j,q⟩:=h;cases g;obtain⟨u,rfl,d⟩:=f.one;obtain⟨z,a,n,r,i,e⟩:=I.lstM b;refine call_meets F.slot_list_append ⟨_,e,rfl⟩ F.entry_list_append (F.args_list_append_2 _ _) (PySem.list_append l a.toArray n u (by rw[size_toArray];lia)) ⟨e,?_⟩;refine⟨.non,_,I.lset (its':=a++[u]) b e (by simp) (r.append (.cons d .nil)) ?_,rfl,q⟩;rw[vn,length_singleton];lia
def rCat:R2:=fun x y H Q=>∃l b xs zs,x = .ref l/\y = .ref b/\H l=some (.lst xs)/\H b=some (.lst zs)/\xs.length+zs.length<=sizeLine/\∀p,H p=none->Q (.ref p) (upd H p (.lst (xs++zs)))
theorem Zr:OpR X (binaryOp .Add) rCat:=by
 intro d s D H x y v u Q I m o h;obtain⟨l,b,A,C,rfl,rfl,i,hB,t,q⟩:=h;cases m;cases o;obtain⟨z,c,n,r,p,e⟩:=I.lstM i;obtain⟨B,a,w,k,j,f⟩:=I.lstM hB;refine PySem.P.add_list e f ?_ (by rw[size_toArray,size_toArray];lia);have g:c.toArray++a.toArray=(c++a).toArray:=by simp
 rw[g];exact⟨.ref _,_,I.lnew (t':=s.toks) (r.append k) (by rw[vn];lia),rfl,q _ I.fresh⟩
def rRep:R2:=fun x y H Q=>∃l k xs,x = .ref l/\y = .int k/\H l=some (.lst xs)/\-(2^63)<=k/\k<2^63/\xs.length*k.toNat<=sizeLine/\
 ∀p,H p=none->Q (.ref p) (upd H p (.lst (List.replicate k.toNat xs).flatten))
theorem j46{a:Type}(xs:List a)(k:Nat):(List.replicate k xs).flatten.length=k*xs.length:=by
 induction k with
 | zero=>simp
 | succ k ih=>rw[replicate_succ,flatten_cons,vn,ih,Nat.succ_mul,Nat.add_comm]
theorem j52:OpR X (binaryOp .Mult) rRep:=by
 intro w s N H x y v u Q I J K h;obtain⟨l,k,M,rfl,rfl,D,B,C,p,q⟩:=h;cases J;obtain⟨t,rfl⟩:=K;obtain⟨z,b,n,r,E,e⟩:=I.lstM D;have g:b.toArray.size*k.toNat<=sizeLine:=by rw[size_toArray,<-E];exact p
 have d:¬b.toArray.size*k.toNat>(2^63-1)/8:=by
  have:(sizeLine:Nat)<=(2^63-1)/8:=by decide
  lia
 have f:¬(!Builtin.List.listFitsIndex k)=true:=by
  rw[fitsIndex_both B C];exact vF
 have c:¬Builtin.List.listTooLong (b.toArray.size*k.toNat)=true:=by
  rw[notLongL g];exact vF
 have i:List.foldl (fun j o=>j++o) #[] (List.replicate (if b.toArray.isEmpty=true then 0 else k.toNat) b.toArray)=(List.replicate k.toNat b).flatten.toArray:=by
  have A:∀m:Nat,List.foldl (fun j o=>j++o) #[] (List.replicate m b.toArray)=(List.replicate m b).flatten.toArray:=fun m=>by
   have:=Wh b m [];rw[nil_append]at this;exact this
  rw[A];cases b with
  | nil=>simp
  | cons a r'=>rw[vc (by simp)]
 refine wpAny_binaryOp_repeat_ref (T:="list") (U:="int") (by decide) ⟨_,e,rfl⟩ (fun L=>typeIs_int L k t) noFill_list_mul F.fills_int_mul F.slot_int_rmul repeat_list F.slot_int_index.lookup
  (call_meets F.slot_int_rmul (typeIs_int s k t) F.entry_int_rmul (F.args_int_rmul_2 _ _) (int___rmul___int_list k t l b.toArray n)
   ⟨e,rfl,⟨_,e,rfl⟩,call_meets F.slot_list_mul ⟨_,e,rfl⟩ F.entry_list_mul (F.args_list_mul_2 _ _) (AutoListH.list___mul___list_int_3 l b.toArray n k t f d c) ⟨e,?_⟩⟩)
 rw[i];exact⟨.ref _,_,I.lnew (t':=s.toks) (r.rep k.toNat) (by rw[j46,Nat.mul_comm];exact p),rfl,q _ I.fresh⟩
end
section
variable{prog:Program}{w:World}{A:Around}{E:Value->Shared->Prop}{s:Shared}
end
section
variable{X:Cx}
end
end L2
namespace Att
open PySem PySem.W PySem.Calls PyProof.Rows
theorem Kb:∀(ns:List Int) (vs:List Value),WellAll P h vs (ns.map WData.int)->IntsAre vs ns:=by
 intro ns
 induction ns with
 | nil=>
  intro vs w;rw[map_nil]at w;cases w;exact .nil
 | cons n ns ih=>
  intro vs w;rw[v7]at w;cases w with
  | cons a b=>
   cases a;exact .cons _ _ (ih _ b)
theorem j1Y{l:OpenLaw}{n:Nat}(s:l.most=some n){P:Params}{h:Heap}{args:List WData}{c:List Value}
  (b:l.row.toRowW.claim.pre args=true) (j:WellAll P h c args) :
  ∃a vs ns,c=[Value.ref a]/\args=[WData.list (ns.map WData.int)]/\h.get? a=some {cls:=.type "list",data:=.seq vs.toArray}/\IntsAre vs ns/\ns.length<=n:=by
 have i:WShape.hasAll [] args [.list .int]=true:=(pre_splitW b).1;have k:l.pre.holds [] {args:=args}=true:=(pre_splitW b).2;obtain⟨d,r,rfl,m,o⟩:=hasAllW_cons i;obtain rfl:=hasAllW_nil o;obtain⟨u,rfl,p⟩:=hasW_list m;obtain⟨ns,rfl⟩:=items_int p;have e:ns.length<=n:=by
  unfold OpenLaw.pre at k;have f:(WTm.not (.lt (.lit (.int (n:Int))) (.len (.arg 0)))).holds [] {args:=[.list (ns.map .int)]}=true:=by
   have f:=(holds_andW k).1;rw[s]at f;exact f
  have g:=condW_of f (w_not (w_lt w_lit (w_len_list (w_arg rfl))));rw[vt]at g;refine Nat.le_of_not_lt fun q=>?_
  have t:(n:Int)<((ns.length:Nat):Int):=by lia
  first
   | (rw[vG t]at g;exact uh g (by decide))
   | (simp at g;lia)
 cases j with
 | cons w1 w2=>
  cases w2;cases w1 with
  | list ho hall=>exact⟨_,_,ns,rfl,rfl,ho,Kb ns _ hall,e⟩
theorem j1M(l:OpenLaw)(args:List WData):l.row.toRowW.claim.post args (.bool true) args=true:=
 postW_of (r:=l.row.toRowW) (X:=(true==true))
  (show WShape.has [] (.bool true) .bool=true by first | rfl | decide | simp[WShape.has,WShape.arms,WShape.armsAll])
  (show(WTm.eq .res (.lit (.bool true))).value [] {args:=args,res:=some (.bool true),after:=args}=some (.bool (true==true))from w_eq_bool (w_res rfl) w_lit) rfl
section
variable{prog:Program}{w:World}{A:Around}{E:Value->Shared->Prop}{s:Shared}{K:Frag}
end
end Att
namespace L2
open PySem PySem.Spec PyProof.Rows
theorem WB:∀{vs:List Value} {ns:List Int},IntsAre vs ns->Vals (ns.map V.int) vs
 | _,_,.nil=>.nil
 | _,_,.cons n t h=>.cons ⟨t,rfl⟩ (WB h)
def Only(H:Hp):Prop:=∀b,H b=none\/∃o xs,H b=some (.frz o (.lst xs))
theorem j2E{P:Program}{w:World}{K:Frg}{J S:Str->Option Value}{CX:CXT}{k:Nat}{fa a:Addr}{X:FuncData}{x:Str}{sp:Sp}{c:Shared}{vs:List Value}{ns:List Int}
  (U:K.In c.heap) (C:c.heap.Ns mainGlobals J) (g:c.heap.Ns builtinsNs S) (Q:∀x:Str,x≠"__name__"->S x=bootBuiltins x) (B:c.heap.NoLimit) (hg:c.gens = #[])
  (M:c.heap.get? a=some {cls:=.type "list",data:=.seq vs.toArray}) (hi:IntsAre vs ns) (hl:ns.length<=sizeLine) (hr:Room k callerA)
  (F:∀base:Heap,K.In base->base.Ns mainGlobals J->FnOk P w K J base CX k fa X [x] sp) (l:∀(s:Shared) (u:Value),BindsTo s X ⟨[u],[]⟩ [(x,u)])
  (R:∀H:Hp,Only H->SqL K H a (ns.map V.int)->sp [.ref a] H (fun v _=>v = .bl true) fun _ _ _=>False)
  (O:∀H e s',CX [] H c (fun _ _ _=>False) e s'->False) :
  codeAny (model P w) callerA (.call (.ref fa) ⟨[.ref a],[]⟩) (fun r s'=>r = .ok (.ret (.bool true))/\OldK c.heap s'.heap/\s'.os=c.os/\AllBare s'.gens) c:=by
 have rv:=WB hi;have I:=hi.length;have j:∀H:Hp,Only H->SqL K H a (ns.map V.int)->HOk P w H c.heap->(∀b,H b≠none->b=a)->(H a≠none->K.lookup a=none)->
   codeAny (model P w) callerA (.call (.ref fa) ⟨[.ref a],[]⟩) (fun r s'=>r = .ok (.ret (.bool true))/\OldK c.heap s'.heap/\s'.os=c.os/\AllBare s'.gens) c:=by
  intro H Z hS D Y hK;have f:∀{b:Addr} {o:Obj},c.heap.get? b=some o->H b=none->(hidT c.heap H).get? b=some o:=fun e n=>j2z e n
  have T:∀{b:Addr} {o:Obj} {y:Array DictEntry} {t:Nat},c.heap.get? b=some o->o.data = .dict y t->H b=none:=fun {b o y t} e d=>by
   cases q:H b with
   | none=>rfl
   | some u=>
    have N:b=a:=Y b (by rw[q];simp);subst N;rw[M]at e;cases e;have d':Data.seq vs.toArray _=Data.dict y t:=d;cases d'
  have i:∀{b:Addr} {m:Str->Option Value},c.heap.Ns b m->(hidT c.heap H).Ns b m:=fun {b m} ⟨o,y,t,e,d,r⟩=>⟨o,y,t,f e (T e d),d,r⟩
  have A:K.In (hidT c.heap H):=fun b o e=>f (U b o e) (by
   cases q:H b with
   | none=>rfl
   | some u=>
    have N:b=a:=Y b (by rw[q];simp);subst N;rw[hK (by rw[q];simp)]at e;cases e)
  have hM:Mod K J (hidT c.heap H):=⟨A,i C,⟨S,i g,Q⟩,let ⟨mc,h1,h2⟩:=B;⟨mc,i h1,h2⟩⟩
  have e0:Env0 P w K J (hidT c.heap H) callerA [] c H:=⟨rfl,hM,fun b o e=>j4d e,Nat.le_of_eq (j1t _ _),trivial,fun b g=>uh (show b∈([]:List Addr)from g) (by simp),D,.of_eq hg⟩
  refine codeAny_mono ((F _ A (i C)).run callerA [] c H ⟨[.ref a],[]⟩ [.ref a] [.ref a] _ _ hr e0 (l c (.ref a)) (.cons rfl .nil) (R H Z hS)) fun r s' h=>?_
  cases r with
  | error e=>exact(O H e s' h).elim
  | ok fl=>
   cases fl with
   | next=>exact False.elim h
   | brk=>exact False.elim h
   | cont=>exact False.elim h
   | ret u=>
    obtain⟨v,H',os,p,un,E,r',q⟩:=h;have q':v = .bl true:=q;subst q';obtain rfl:u=Value.bool true:=r';refine⟨rfl,OldK.of_keep fun b o e=>?_,os,p⟩;cases q:H b with
    | none=>exact un.keep b o e q (by intro z;exact uh (show b∈([]:List Addr)from z) (by simp)) (by simp)
    | some u=>
     rcases Z b with z | ⟨ob,xs,z⟩
     ·rw[q]at z;cases z
     ·have z2:=un.frzs b ob _ z;obtain⟨W,_⟩:=D b _ z;obtain⟨e2,_⟩:=E b _ z2;rw[e]at W;cases W;exact e2
 cases hk:K.lookup a with
 | some o=>
  have e:=U a o hk;rw[M]at e;cases e;refine j (fun _=>none) (fun _=>.inl rfl) (.inr ⟨_,vs.toArray,_,hk,rfl,rfl,rfl,by rw[size_toArray,I];exact hl,by simpa using rv⟩) (fun b u z=>by have L:(none:Option HO)=some u:=z;cases L) (fun b z=>uh rfl z) fun z=>uh rfl z
 | none=>
  refine j (fun b=>if b=a then some (.frz {cls:=.type "list",data:=.seq vs.toArray} (.lst (ns.map V.int)))else none) (fun b=>?_) (.inl (.inr ⟨{cls:=.type "list",data:=.seq vs.toArray},vd rfl⟩)) (fun b u z=>?_) (fun b z=>?_) fun _=>hk
  ·by_cases g:b=a
   ·exact .inr ⟨_,_,vd g⟩
   ·exact .inl (vc g)
  ·by_cases g:b=a
   ·have L:=(vd g).symm.trans z;cases L;subst g;exact⟨M,by rw[vt];exact hl,vs,_,rv,M⟩
   ·have L:=(vc g).symm.trans z;cases L
  ·by_cases g:b=a
   ·exact g
   ·exact uh (vc g) z
noncomputable abbrev KOf{K:Frg}{h:Heap}(_:K.In h):Frg:=K
noncomputable def inClass(s:Stmt)(j:Nat):Stmt:=match s with
 | .ClassDef _ _ _ body _ _ _ _ _ _ _=>body.getD j (.Pass ⟨0,0,0,0⟩)
 | _=>.Pass ⟨0,0,0,0⟩
noncomputable def defArgs(s:Stmt):Arguments:=match s with
 | .FunctionDef _ a _ _ _ _ _ _ _ _=>a
 | _=>{posonlyargs:=[],args:=[],vararg:=none,kwonlyargs:=[],kw_defaults:=[],kwarg:=none,defaults:=[]}
noncomputable def defBody(s:Stmt):List Stmt:=match s with
 | .FunctionDef _ _ b _ _ _ _ _ _ _=>b
 | _=>[]
noncomputable def defScope(s:Stmt):Scope:=match s with
 | .FunctionDef _ _ _ _ _ _ sc _ _ _=>sc
 | _=>{kind:=.function,names:=[],isGenerator:=false,isCoroutine:=false}
noncomputable abbrev CX0:CXT:=fun _ _ _ _ _ _=>False
noncomputable abbrev E0:XK:=fun _ _ _=>False
theorem pass0:Passes CX0 X E0:=fun _ _ _ _ _ _ _ h=>h.elim
structure Fun(K:Frg)(x qual:Str)(st:Stmt)(f:Addr)(fd:FuncData):Prop where
 ex:∃(oc:Value) (od:Option Addr) (kV doc pm:Value) (an:Option Addr) (cdv ct:Value) (osl:Array (Option Value)),
  fd=PySem.W.fnOf x qual (defArgs st) (defBody st) (defScope st) .none kV doc pm an cdv ct/\K.lookup f=some ⟨oc,od,.func fd,osl⟩/\PySem.W.codeIn K cdv qual=true
 kp:PySem.W.keepIn K (.ref f)=true
section
variable{P:Program}{w:World}{K:Frg}{mg:Str->Option Value}{base:Heap}
theorem Fun.ok{x b:Str}{st:Stmt}{f:Addr}{i:FuncData}{N ps:List Str}{k:Nat}{sp:Sp}(F:Fun K x b st f i)(S:FnScope N ps (defScope st))(len:∀vs H Q E,sp vs H Q E->vs.length=ps.length)
  (d:∀(c:Value) (A:Around) (a:List Env) (s:Shared) (H:Hp) (vs:List V) (Q:VK) (E:XK),Room k (A.deeper (envOfC b (defScope st) s.heap.objs.size f c))->sp vs H Q E->
   ∃t,PSs (cxOf CX0 P w K mg base N b (defScope st) f c A a s H E).nox (defBody st) t/\t {nx:=fun _ H'=>Q .non H',rt:=Q} (start N vs) H):FnOk P w K mg base CX0 (k+1) f i ps sp:=by
 obtain⟨r,u,kV,j,v,o,c,p,n,rfl,m,e⟩:=F.ex;refine j5l m e S len fun A a s H vs Q E l g=>?_
 obtain⟨t,h,q⟩:=d c A a s H vs Q E l g;exact⟨t,h.nox,q⟩
theorem Fun.binds{x a:Str}{st:Stmt}{f:Addr}{i:FuncData}{ps:List Str}(F:Fun K x a st f i)
  (h:∀(kV c g:Value) (d:Option Addr) (b e:Value) (us:List Value),us.length=ps.length->bindArgs (PySem.W.fnOf x a (defArgs st) (defBody st) (defScope st) .none kV c g d b e) ⟨us,[]⟩=pure (ps.zip us)):Binds K i ps []:=by
 obtain⟨m,n,kV,c,g,d,b,e,k,rfl,l,j⟩:=F.ex;exact .all (h kV c g d b e)
theorem jQ{x a:Str}{st:Stmt}{f:Addr}{j:Value}{m g:Option Addr}{e:Array (Option Value)}{kV d i b h:Value}(l:K.lookup f=some ⟨j,m,.func (PySem.W.fnOf x a (defArgs st) (defBody st) (defScope st) .none kV d i g b h),e⟩)
  (c:PySem.W.codeIn K b a=true) (k:PySem.W.keepIn K (.ref f)=true):Fun K x a st f (PySem.W.fnOf x a (defArgs st) (defBody st) (defScope st) .none kV d i g b h):=⟨⟨j,m,kV,d,i,g,b,h,e,rfl,l,c⟩,k⟩
end
theorem J1(a:Room k A):A.units+1<cLine:=vD (Nat.add_le_add_left (by decide:1<=64) _) a.units
section
variable{X:Cx}
theorem pv(i:Nat)(b:X.N[i]?=some x:=by rfl)(c:Vis X.env.scope x:=by first | exact Or.inl rfl | exact Or.inr (Or.inl rfl) | exact Or.inr (Or.inr rfl))(hd:(x==("__debug__" : Str))=false:=by decide)
  (a:(x==("__classdict__" : Str))=false:=by decide):PE X (.Name x pos) (tVar i):=j55 b c hd a
end
theorem iteF{A B:Prop}(h:B):if false=true then A else B:=by
 rw[vc vF];exact h
theorem iteT{A B:Prop}(h:A):if true=true then A else B:=by
 rw[vd rfl];exact h
def Same(H H':Hp):Prop:=∀b o,H b=some o->H' b=some o
theorem Same.refl(H:Hp):Same H H:=fun _ _ h=>h
theorem Same.trans{H d e:Hp}(a:Same H d)(b:Same d e):Same H e:=fun c o h=>b c o (a c o h)
theorem Same.seq{K:Frg}{H H':Hp}{a:Addr}{xs:List V}(e:Same H H')(h:SqL K H a xs):SqL K H' a xs:=by
 rcases h with(h | ⟨o,h⟩) | h
 ·exact .inl (.inl (e _ _ h))
 ·exact .inl (.inr ⟨o,e _ _ h⟩)
 ·exact .inr h
section
variable{κ:Type}[DecidableEq κ]
noncomputable def valV(kvs:List (κ×V))(k:κ):Option V:=(kvs.find? fun kv=>decide (kv.1=k)).map (·.2)
noncomputable def putK(kvs:List (κ×V))(k:κ)(v:V):List (κ×V):=
 if(kvs.any fun kv=>decide (kv.1=k))=true then kvs.map (fun kv=>if kv.1=k then(kv.1,v)else kv)else kvs++[(k,v)]
theorem ql{p:κ×V}{r:List (κ×V)}{k:κ}(e:p.1=k):valV (p::r) k=some p.2:=by simp[valV,List.find?_cons,e]
theorem qk{p:κ×V}{r:List (κ×V)}{k:κ}(e:¬p.1=k):valV (p::r) k=valV r k:=by simp[valV,List.find?_cons,e]
theorem Qv(k:κ):∀kvs:List (κ×V),(kvs.any fun kv=>decide (kv.1=k))=(valV kvs k).isSome
 | []=>rfl
 | p::r=>by
  rw[any_cons];by_cases e:p.1=k
  ·simp only[ql e,decide_eq_true e,Bool.true_or,Option.isSome_some]
  ·rw[qk e,vH e,Bool.false_or];exact Qv k r
theorem XQ(k j:κ)(y:V):∀kvs:List (κ×V),valV (kvs.map fun kv=>if kv.1=k then(kv.1,y)else kv) j=(valV kvs j).map fun x=>if j=k then y else x
 | []=>rfl
 | p::r=>by
  have a:=XQ k j y r;rw[v7];by_cases h:p.1=k
  ·rw[vd h];by_cases e:p.1=j
   ·rw[ql (p:=(p.1,y)) e,ql e,Option.map_some,vd (e.symm.trans h)]
   ·rw[qk (p:=(p.1,y)) e,qk e,a]
  ·rw[vc h];by_cases e:p.1=j
   ·rw[ql (p:=p) e,ql e,Option.map_some,vc (fun z=>h (e.trans z))]
   ·rw[qk (p:=p) e,qk e,a]
theorem Wz(k j:κ)(y:V):∀kvs:List (κ×V),valV kvs k=none->valV (kvs++[(k,y)]) j=if j=k then some y else valV kvs j
 | [],_=>by
  by_cases e:k=j
  ·rw[vd e.symm];exact ql (p:=(k,y)) e
  ·rw[vc (fun z=>e z.symm)];exact qk (p:=(k,y)) e
 | p::r,hn=>by
  rw[cons_append];have a:¬p.1=k:=fun z=>by rw[ql z]at hn;cases hn
  rw[qk a]at hn;have b:=Wz k j y r hn;by_cases e:p.1=j
  ·rw[ql e,ql e,vc (fun z=>a (e.trans z))]
  ·rw[qk e,qk e,b]
theorem yn(kvs:List (κ×V))(k j:κ)(y:V):valV (putK kvs k y) j=if j=k then some y else valV kvs j:=by
 unfold putK;by_cases a:(kvs.any fun kv=>decide (kv.1=k))=true
 ·rw[vd a,XQ];rw[Qv]at a;by_cases e:j=k
  ·obtain⟨x,b⟩:=Option.isSome_iff_exists.mp a;rw[vd e,e,b,Option.map_some,vd rfl]
  ·rw[vc e];cases valV kvs j with
   | none=>rfl
   | some x=>rw[Option.map_some,vc e]
 ·rw[vc a];refine Wz k j y kvs ?_;rw[Qv]at a;cases q:valV kvs k with
  | none=>rfl
  | some x=>rw[q]at a;exact(a rfl).elim
theorem Z4(kvs:List (κ×V))(k:κ)(v:V):(putK kvs k v).length<=kvs.length+1:=by
 unfold putK;split
 ·rw[vt];lia
 ·rw[vn,vP,length_nil];lia
theorem ya{kvs:List (κ×V)}{k:κ}(v:V)(h:valV kvs k=none):putK kvs k v=kvs++[(k,v)]:=by
 unfold putK;rw[Qv,h];exact vc (by decide)
theorem RelO.isSome_eq(r:RelO o u):o.isSome=u.isSome:=by
 cases o with
 | none=>cases u with
  | none=>rfl
  | some _=>exact(show False from r).elim
 | some _=>cases u with
  | none=>exact(show False from r).elim
  | some _=>rfl
theorem RelO.getD(r:RelO o u)(a:RelV d d'):RelV (o.getD d) (u.getD d'):=by
 cases o with
 | none=>cases u with
  | none=>exact a
  | some _=>exact(show False from r).elim
 | some _=>cases u with
  | none=>exact(show False from r).elim
  | some _=>exact r
theorem KV.val{kvs:List (κ×V)}{vs:List (κ×Value)}(r:KV kvs vs)(k:κ):RelO (valV kvs k) (valueAt vs k):=by
 unfold KV at r
 induction r with
 | nil=>exact True.intro
 | @cons p q ps qs h t ih=>
  obtain⟨c,d⟩:=h;by_cases e:p.1=k
  ·have a:q.1=k:=c.symm.trans e;have b:valueAt (q::qs) k=some q.2:=by simp[valueAt,List.find?_cons,a]
   rw[ql e,b];exact d
  ·have a:¬q.1=k:=fun z=>e (c.trans z)
   have b:valueAt (q::qs) k=valueAt qs k:=by simp[valueAt,List.find?_cons,a]
   rw[qk e,b];exact ih
theorem KV.any(r:KV kvs vs)(k:κ):(kvs.any fun kv=>decide (kv.1=k))=vs.any fun kv=>decide (kv.1=k):=by
 unfold KV at r
 induction r with
 | nil=>rfl
 | cons h t ih=>rw[any_cons,any_cons,ih,h.1]
theorem KV.repl(r:KV kvs vs)(k:κ)(c:RelV y u) :
  KV (kvs.map fun kv=>if kv.1=k then(kv.1,y)else kv) (vs.map fun kv=>if kv.1=k then(kv.1,u)else kv):=by
 unfold KV at r|-
 induction r with
 | nil=>exact .nil
 | @cons p q ps qs h t ih=>
  rw[v7,v7];refine .cons ?_ ih;obtain⟨a,b⟩:=h;by_cases e:p.1=k
  ·rw[vd e,vd (a.symm.trans e)];exact⟨a,c⟩
  ·rw[vc e,vc (fun z=>e (a.trans z))];exact⟨a,b⟩
theorem KV.put(r:KV kvs vs)(k:κ)(a:RelV y u):KV (putK kvs k y) (stored vs k u):=by
 unfold putK stored;rw[r.any k];by_cases e:(vs.any fun kv=>decide (kv.1=k))=true
 ·rw[vd e,vd e];exact r.repl k a
 ·rw[vc e,vc e];exact Paired.snoc r ⟨rfl,a⟩
theorem KV.keys{kvs:List (κ×V)}{vs:List (κ×Value)}(r:KV kvs vs):kvs.map (·.1)=vs.map (·.1):=by
 unfold KV at r
 induction r with
 | nil=>rfl
 | cons h t ih=>rw[v7,v7,ih,h.1]
theorem KV.length(r:KV kvs vs):kvs.length=vs.length:=Paired.length r
end
theorem j0N(r:RelV (kV k) u):(mixKind P w).is k u=true:=by
 cases k with
 | inl i=>obtain⟨t,e⟩:=(show∃t,u=Value.int i t from r);subst e;exact Xr P w i t
 | inr x=>obtain⟨t,e⟩:=(show∃t,u=Value.str x t from r);subst e;exact Xs P w x t
theorem Wk:∀{ks:List Key} {us:List Value},Vals (ks.map kV) us->ItemsAre (mixKind P w) ks us
 | [],_,r=>by rw[map_nil]at r;cases r;exact .nil
 | k::ks,_,r=>by
  rw[v7]at r;cases r with
  | cons h t=>exact .cons (j0N h) (Wk t)
noncomputable abbrev KT(H:Hp):List (List Key×V)->List (List Key×Addr×Value)->Prop:=Paired fun p q=>p.1=q.1/\H q.2.1=some (.tup (p.1.map kV))/\RelV p.2 q.2.2
theorem KT.val{H:Hp}{kvs:List (List Key×V)}{xs:List (List Key×Addr×Value)}(r:KT H kvs xs)(k:List Key):RelO (valV kvs k) ((atKey xs k).map (·.2)):=by
 induction r with
 | nil=>exact True.intro
 | @cons p q ps qs h t ih=>
  obtain⟨c,_,d⟩:=h;by_cases e:p.1=k
  ·have a:q.1=k:=c.symm.trans e;have b:atKey (q::qs) k=some q.2:=by simp[atKey,List.find?_cons,a]
   rw[ql e,b];exact d
  ·have a:¬q.1=k:=fun z=>e (c.trans z)
   have b:atKey (q::qs) k=atKey qs k:=by simp[atKey,List.find?_cons,a]
   rw[qk e,b];exact ih
theorem KT.repl{H:Hp}(r:KT H kvs xs)(k:List Key)(d:RelV y u) :
  KT H (kvs.map fun kv=>if kv.1=k then(kv.1,y)else kv) (xs.map (putAt k u)):=by
 induction r with
 | nil=>exact .nil
 | @cons p q ps qs h t ih=>
  rw[v7,v7];refine .cons ?_ ih;obtain⟨a,b,c⟩:=h;unfold putAt;by_cases e:p.1=k
  ·rw[vd e,vd (a.symm.trans e)];exact⟨a,b,d⟩
  ·rw[vc e,vc (fun z=>e (a.trans z))];exact⟨a,b,c⟩
theorem KT.put{H:Hp}(r:KT H kvs xs)(k:List Key)(c:H b=some (.tup (k.map kV)))(a:RelV y u) :
  KT H (putK kvs k y) (storedH xs k b u):=by
 have e:(kvs.any fun kv=>decide (kv.1=k))=(atKey xs k).isSome:=by
  rw[Qv,(r.val k).isSome_eq,Option.isSome_map]
 unfold putK storedH;rw[e];by_cases q:(atKey xs k).isSome=true
 ·rw[vd q,vd q];exact r.repl k a
 ·rw[vc q,vc q];exact Paired.snoc r ⟨rfl,c,a⟩
theorem KT.keeps{H H':Hp}(r:KT H kvs xs)(a:∀b ys,H b=some (.tup ys)->H' b=some (.tup ys)):KT H' kvs xs:=
 Paired.mapP r fun _ _ z=>⟨z.1,a _ _ z.2.1,z.2.2⟩
section
variable{P:Program}{w:World}{H:Hp}{h:Heap}{a:Addr}
theorem j4y(b:HOk P w H h)(e:Rd H a u):ObjOk P w H h a u:=e.ok b
theorem Wa(b:HOk P w H h)(e:Rd H a (.dK kvs)):kvs.length<=sizeLine/\(a==sysModules)=false/\∃vs,KV kvs vs/\h.DictOf (mixKind P w) a vs:=
 show ObjOk P w H h a (.dK kvs)from j4y b e
theorem w6(b:HOk P w H h)(e:H a=some (.dK kvs)):kvs.length<=sizeLine/\(a==sysModules)=false/\∃vs,KV kvs vs/\h.DictOf (mixKind P w) a vs:=Wa b (.inl e)
theorem WZ(g:HOk P w H h)(e:H a=some (.tup (ks.map kV))):(tupleKind (mixKind P w)).is h ks a:=by
 obtain⟨_,b,r,o,c,d,n,f⟩:=(show ObjOk P w H h a (.tup (ks.map kV))from g a _ e)
 exact⟨o,b.toArray,n,c,d,f,by simpa using Wk r⟩
theorem Xa(d:HOk P w H h)(e:Rd H a (.dT kvs)):kvs.length<=sizeLine/\(a==sysModules)=false/\
  ∃xs,KT H kvs xs/\h.DictOfH (tupleKind (mixKind P w)) a xs:=by
 obtain⟨z,y,xs,r,o,g,f,i,j,k,n,s⟩:=(show ObjOk P w H h a (.dT kvs)from j4y d e)
 refine⟨z,y,xs,r,o,g,f,i,j,k,n,fun x b=>?_,s⟩;have c:∀{l:List (List Key×V)} {m:List (List Key×Addr×Value)},KT H l m->∀x∈m,(tupleKind (mixKind P w)).is h x.1 x.2.1:=by
  intro l m q
  induction q with
  | nil=>intro x b;exact nomatch b
  | @cons p q ps qs hq t ih=>
   intro x b;rcases mem_cons.mp b with e | b
   ·subst e;exact WZ d (by rw[<-hq.1];exact hq.2.1)
   ·exact ih x b
 exact c r x b
theorem j5k(b:HOk P w H h)(e:H a=some (.dT kvs)):kvs.length<=sizeLine/\(a==sysModules)=false/\
  ∃xs,KT H kvs xs/\h.DictOfH (tupleKind (mixKind P w)) a xs:=Xa b (.inl e)
end
def DGet(H:Hp)(a:Addr)(y:V)(r:Option V):Prop:=
 (∃kvs k,Rd H a (.dK kvs)/\y=kV k/\r=valV kvs k)\/∃kvs k b,Rd H a (.dT kvs)/\y = .ref b/\H b=some (.tup (k.map kV))/\r=valV kvs k
def DPut(H:Hp)(a:Addr)(y v:V)(H':Hp):Prop:=
 (∃kvs k,H a=some (.dK kvs)/\y=kV k/\kvs.length<sizeLine/\H'=upd H a (.dK (putK kvs k v)))\/
 ∃kvs k b,H a=some (.dT kvs)/\y = .ref b/\H b=some (.tup (k.map kV))/\kvs.length<sizeLine/\H'=upd H a (.dT (putK kvs k v))
theorem DGet.k{H:Hp}{a:Addr}{kvs:List (Key×V)}{k:Key}(e:H a=some (.dK kvs)):DGet H a (kV k) (valV kvs k):=.inl ⟨kvs,k,.inl e,rfl,rfl⟩
theorem DPut.k{H:Hp}{a:Addr}{kvs:List (Key×V)}{k:Key}{v:V}(e:H a=some (.dK kvs))(b:kvs.length<sizeLine):DPut H a (kV k) v (upd H a (.dK (putK kvs k v))):=.inl ⟨kvs,k,e,rfl,b,rfl⟩
section
variable{X:Cx}{pins:List (Addr×Obj)}{σ:St}{H:Hp}{s:Shared}{a:Addr}{y v:V}{u r:Value}{o:Option V}{A:Around}{E:Value->Shared->Prop}
theorem Inv.big(I:Inv X pins σ H s):sysModules<s.heap.objs.size:=by
 have h:mainGlobals<s.heap.objs.size:=(I.mod.glob.keeps I.bk).lt;exact vY (by decide) h
theorem j1m{Q:Value->Shared->Prop}(B:A.units+1<cLine)(I:Inv X pins σ H s)(g:DGet H a y (some v))(r:RelV y u)(h:∀f s',Inv X pins σ H s'->RelV v f->Q f s') :
  wpAny (model X.prog X.w) A (getItem (.ref a) u) Q E s:=by
 rcases g with⟨q,k,e,j,l⟩ | ⟨q,k,b,e,j,t,l⟩
 ·subst j;obtain⟨z,w,C,c,i⟩:=Wa I.hok e;obtain⟨f,n,d⟩:=RelO.some_of (v:=v) (o:=valueAt C k) (by rw[l];exact c.val k);exact wpAny_getItem_of (j0N r) i.mapOf n (h f _ (I.tok _) d)
 ·subst j;cases(show u=Value.ref b from r);obtain⟨z,w,D,c,i⟩:=Xa I.hok e;obtain⟨f,n,d⟩:=RelO.some_of (v:=v) (o:=(atKey D k).map (·.2)) (by rw[l];exact c.val k);obtain⟨p,x,m⟩:=vg.mp n;refine wpAny_getItem_heap (tupleKind_room_in1 B) (WZ I.hok t) i x ?_;rw[m];exact h f _ (I.tok _) d
theorem WU(I:Inv X pins σ H s)(h:Mut (H a))(g:Heap.SameBut a s.heap h')(f:∃q,h'.get? a=some q)(c:ObjOk X.prog X.w (upd H a ob) h' a ob) :
  Inv X pins σ (upd H a ob) {s with heap:=h',toks:=t'}:=
 I.write (x:=a) (e:=a) h (.inl rfl) (fun b q d z=>(g.2 b d).trans z) f c
theorem ke{H':Hp}(z:kvs.length<=sizeLine)(hd:(a==sysModules)=false)(b:KV kvs vs)(c:h'.DictOf (mixKind P w) a vs) :
  ObjOk P w H' h' a (.dK kvs):=⟨z,hd,vs,b,c⟩
theorem j1n{H':Hp}{Q:Unit->Shared->Prop}(T:A.units+1<cLine)(I:Inv X pins σ H s)(g:DPut H a y v H')(K:RelV y u)(J:RelV v r)(h:∀s',Inv X pins σ H' s'->Q () s') :
  wpAny (model X.prog X.w) A (setItem (.ref a) u r) Q E s:=by
 rcases g with⟨d,k,e,o,l,n⟩ | ⟨d,k,b,e,o,B,l,n⟩
 ·subst o n;obtain⟨z,p,U,f,m⟩:=w6 I.hok e;have x:U.length<=sizeLine:=by rw[<-f.length];exact z
  have t:(putK d k v).length<=sizeLine:=by have:=Z4 d k v;lia
  refine wpAny_setItem_pairs (hsz:=x) (j0N K) m fun D i w=>h _ ?_
  have S:∃q,D.get? a=some q:=let ⟨q,_,_,j,_⟩:=i;⟨q,j⟩;exact WU I (by rw[e];exact True.intro) w S (ke t p (f.put k J) i)
 ·subst o n;cases(show u=Value.ref b from K);obtain⟨z,p,W,f,m⟩:=j5k I.hok e;have x:W.length<=sizeLine:=by rw[<-Paired.length f];exact z
  have t:(putK d k v).length<=sizeLine:=by have:=Z4 d k v;lia
  refine wpAny_setItem_heap (hsz:=x) (tupleKind_room_in1 T) (WZ I.hok B) m fun D i w=>h _ ?_
  obtain⟨q,M,L,j,N,O,P,_,R⟩:=i;refine WU I (by rw[e];exact True.intro) w ⟨q,j⟩ ⟨t,p,_,(f.put k B J).keeps fun c Y C=>?_,q,M,L,j,N,O,P,R⟩;rw[jh (Jq C e (fun z=>nomatch z))];exact C
end
section
variable{X:Cx}{pins:List (Addr×Obj)}{σ:St}{H:Hp}{s:Shared}{a:Addr}{kvs:List (Key×V)}{k:Key}{u:Value}{A:Around}{E:Value->Shared->Prop}
end
def NoSl(i:Expr):Prop:=∀ov iv,subscripted i false ov iv=operate [ov,iv] (getItem ov iv)
theorem j4o{prog:Program}{w:World}{A:Around}{E:Value->Shared->Prop}{s:Shared}{env:Env}{b a:Expr}{l:Pos}{T p:String}{Q:Value->Shared->Prop}
  (m:typeLookup (.type T) "__getitem__"= pure (some (.builtin p))) (n:NoSl a)
  (h:wpAny (model prog w) A (eval b env) (fun o e=>wpAny (model prog w) A (eval a env) (fun i c=>c.TypeIs o T/\wpAny (model prog w) A (getItem o i) Q E c) E e) E s) :
  wpAny (model prog w) A (eval (.Subscript b a l) env) Q E s:=by
 refine Subscript_ (wpAny_mono h (fun o e j=>wpAny_mono j (fun i c d=>?_) fun _ _ x=>x) fun _ _ x=>x);obtain⟨hT,d⟩:=d;unfold subscriptTail;refine um ?_;rw[getitemInPython_of_ne hT.not_modules];refine um (wpAny_specialOf hT m ?_);have g:wpAny (model prog w) A (subscripted a false o i) (fun r f=>wpAny (model prog w) A (letTemporaryGo b o r >>= fun _=>pure r) Q E f) E c:=by
  rw[n o i];exact wpAny_operating (wpAny_mono d (fun r f k=>um (wpAny_letTemporaryGo (uk k))) fun _ _ x=>x)
 first
  | exact uk (um g)
  | exact um (uk (um g))
  | exact um g
theorem xW{f:St}{H:Hp}(I:Inv X pins f H s)(g:DGet H a y o):s.TypeIs (.ref a) "dict":=by
 rcases g with⟨d,k,e,_,_⟩ | ⟨d,k,b,e,_,_,_⟩
 ·obtain⟨_,_,h,_,c⟩:=Wa I.hok e;exact c.typeIs
 ·obtain⟨_,_,i,_,c⟩:=Xa I.hok e;exact c.typeIs
def tDGet(td ty:TE):TE:=fun σ H Q=>td σ H fun x H1=>ty σ H1 fun y H2=>∃a v,x = .ref a/\DGet H2 a y (some v)/\Q v H2
def sDPut(td ty tv:TE):TS:=fun D σ H=>tv σ H fun v H1=>td σ H1 fun x H2=>ty σ H2 fun y H3=>∃a H4,x = .ref a/\DPut H3 a y v H4/\D.nx σ H4
section
variable{X:Cx}{o i e value:Expr}{pos pos' tpos:Pos}{td ty tv:TE}
theorem JK(q:X.A.units+1<cLine)(n:PE X o td)(hi:PE X i ty)(p:NoSl i:=by exact fun _ _=>rfl):PE X (.Subscript o i pos) (tDGet td ty):=by
 intro b s e H Q I h;refine j4o PySem.F.slot_dict_getitem.lookup p (thn (n b s e H _ I h) fun u A ⟨x,f,k,w,r⟩=>thn (hi b A e f _ k r) fun B C ⟨y,j,d,z,a,v,m,g,t⟩=>?_);subst m;obtain rfl:u=Value.ref a:=w;exact⟨xW d g,j1m q d g z fun E D l c=>⟨v,j,l,c,t⟩⟩
theorem zE(t:X.A.units+1<cLine)(p:PE X o td)(hi:PE X i ty)(w:PE X value tv)(q:swapsWith value (some (.Subscript o i pos')) pos.line X.env=pure false) :
  PS X (.Assign [.Subscript o i pos'] value pos) (sDPut td ty tv):=by
 intro b s c H D I h;refine wpAny_Assign_Subscript (thn (w b s c H _ I h) fun r K ⟨v,d,j,C,z⟩=>thn (p b K c d _ j z) fun u L ⟨x,e,k,E,A⟩=>thn (hi b L c e _ k A) fun N O ⟨y,M,l,J,a,f,n,g,B⟩=>?_) q;subst n;obtain rfl:u=Value.ref a:=E;exact j1n t l g J C fun P m=>⟨c,f,m,B⟩
end
theorem j2n{H:Hp}(h:Heap)(a:sysModules<h.objs.size):ObjOk P w H (h.push {cls:=.type "dict",data:=.dict #[]}) h.objs.size (.dK []):=
 ⟨va _,beq_eq_false_iff_ne.mpr (Ne.symm (vE a)),[],.nil,Heap.DictOf.new h⟩
def tDNewK:TE:=fun _ H Q=>∀p,H p=none->Q (.ref p) (upd H p (.dK []))
section
variable{X:Cx}{pos:Pos}
theorem Z7:PE X (.Dict [] [] pos) tDNewK:=fun b s c H Q I h=>
 wpAny_Dict_empty ⟨.ref s.heap.objs.size,_,I.laid (a:=s.heap.objs.size) (o:=.dK []) (t':=s.toks) (fun _ _ q=>vJ _ q) (vb _) (j2n s.heap I.big),rfl,h _ (I.hok.fresh (vb _))⟩
end
noncomputable def mergeK(kvs more:List (Key×V)):List (Key×V):=more.foldl (fun acc kv=>putK acc kv.1 kv.2) kvs
theorem KV.merge:∀{more:List (Key×V)} {a:List (Key×Value)} {kvs:List (Key×V)} {vs:List (Key×Value)},KV more a->KV kvs vs->KV (mergeK kvs more) (merged vs a):=by
 intro more a kvs vs r;unfold KV at r
 induction r generalizing kvs vs with
 | nil=>intro q;exact q
 | @cons p q ps qs h t ih=>
  intro b;have e:KV (putK kvs p.1 p.2) (stored vs q.1 q.2):=by
   have:=b.put p.1 h.2;rw[<-h.1];exact this
  exact ih e
theorem qS:∀(more kvs:List (Key×V)),(mergeK kvs more).length<=kvs.length+more.length
 | [],kvs=>by show kvs.length<=kvs.length+0;lia
 | p::r,kvs=>by
  have a:=qS r (putK kvs p.1 p.2);have b:=Z4 kvs p.1 p.2;show(mergeK (putK kvs p.1 p.2) r).length<=_;rw[vP];lia
structure M1(X:Cx)(o:Expr)(m:Str)(apos:Pos)(e:Expr)(cpos:Pos):Prop where
 base:attributeBase o m X.env (eval o X.env)=eval o X.env
 few:((backTo cpos (starEach [e] X.env)).all (fun x=>!x.1)&&(backToKw cpos (keywordEach [] X.env)).all (fun x=>x.1.isSome)
  && decide (([e]:List Expr).length+([]:List Keyword).length+(if([]:List Keyword).isEmpty then 0 else 1)<30))=true
 line:(apos.endLine==cpos.line)=true
 trees:backTo cpos (starEach [e] X.env)=[(false,eval e X.env)]
def IsD(H:Hp)(a:Addr):Prop:=(∃kvs,Rd H a (.dK kvs))\/∃kvs,Rd H a (.dT kvs)
theorem j4N{k:St}{H:Hp}(I:Inv X pins k H s)(d:IsD H a) :
  s.TypeIs (.ref a) "dict"/\(∀b,Value.ref a = .ref b->∃c,s.heap.get? b=some c/\c.dict=none)/\(a==sysModules)=false:=by
 rcases d with⟨j,e⟩ | ⟨j,e⟩
 ·obtain⟨_,i,l,_,f⟩:=Wa I.hok e;refine⟨f.typeIs,fun b q=>?_,i⟩;cases q;obtain⟨c,_,_,g,h,_⟩:=f;exact⟨c,g,h.2.1⟩
 ·obtain⟨_,i,m,_,f⟩:=Xa I.hok e;refine⟨f.typeIs,fun b q=>?_,i⟩;cases q;obtain⟨c,_,_,g,h,_⟩:=f;exact⟨c,g,h.2.1⟩
section
variable{X:Cx}{pins:List (Addr×Obj)}{σ:St}{H:Hp}{s:Shared}{a:Addr}{y d:V}{u r:Value}{o:Option V}{A:Around}{E:Value->Shared->Prop}
theorem j4L{Q:Value->Shared->Prop}(q:A.units+1<cLine)(I:Inv X pins σ H s)(g:DGet H a y o)(m:RelV y u)(h:∀n s',Inv X pins σ H s'->RelV (o.getD .non) n->Q n s') :
  wpAny (model X.prog X.w) A (call (.builtin "dict.get") [.ref a,u]) Q E s:=by
 rcases g with⟨j,k,e,f,l⟩ | ⟨j,k,b,e,f,p,l⟩
 ·subst f;obtain⟨z,i,t,c,d⟩:=Wa I.hok e;refine call_meetsIn PySem.F.slot_dict_get d.typeIs PySem.F.entry_dict_get (PySem.F.args_dict_get_2 _ _) (meets_dict_get (mixKind X.prog X.w) a (j0N m) i) ⟨_,d.mapOf,h _ _ (I.tok _) ?_⟩;rw[l];exact(c.val k).getD rfl
 ·subst f;cases(show u=Value.ref b from m);obtain⟨z,i,r,c,d⟩:=Xa I.hok e;refine call_meetsIn PySem.F.slot_dict_get d.typeIs PySem.F.entry_dict_get (PySem.F.args_dict_get_2 _ _) (meetsH_dict_get (tupleKind (mixKind X.prog X.w)) a b i) ⟨tupleKind_room_in1 q,k,r,WZ I.hok p,d,h _ _ (I.tok _) ?_⟩;rw[l];exact(c.val k).getD rfl
end
def tDGet1(td ty:TE):TE:=fun σ H Q=>td σ H fun x H1=>∃a,x = .ref a/\IsD H1 a/\ty σ H1 fun y H2=>∃o,DGet H2 a y o/\Q (o.getD .non) H2
section
variable{X:Cx}{o e f:Expr}{apos cpos:Pos}{td ty tx:TE}
theorem j31(t:X.A.units+1<cLine)(r:PE X o td)(q:PE X e ty)(m:M1 X o "get" apos e cpos):PE X (.Call (.Attribute o "get" apos) [e] [] cpos) (tDGet1 td ty):=by
 intro b s i H Q I h;refine wpAny_Call_method m.base m.few m.line PySem.F.plainAttrs_dict PySem.F.slot_dict_get PySem.F.type_dict_get (thn (r b s i H _ I h) fun u B ⟨x,j,f,z,a,p,d,v⟩=>?_);subst p;obtain rfl:u=Value.ref a:=z;obtain⟨C,D,_⟩:=j4N f d;refine⟨C,D,?_⟩;rw[m.trees];refine Calls.callWith_builtin rfl (Calls.evalArgs_plain (Calls.spliced_cons (thn (q b B i j _ f v) fun E J ⟨y,k,l,A,ov,g,w⟩=>Calls.spliced_nil ?_)));exact j4L t l g A fun L K n c=>⟨_,k,n,c,w⟩
end
section
variable{X:Cx}{pins:List (Addr×Obj)}{σ:St}{H:Hp}{s:Shared}{a:Addr}{kvs:List (Key×V)}{A:Around}{E:Value->Shared->Prop}
end
section
variable{X:Cx}{pins:List (Addr×Obj)}{σ:St}{H:Hp}{s:Shared}{a:Addr}{y:V}{u:Value}{A:Around}{E:Value->Shared->Prop}
end
section
variable{X:Cx}
end
section
variable{κ:Type}[DecidableEq κ]
theorem XR{kvs:List (κ×V)}{k:κ}(h:valV kvs k=none):¬k∈kvs.map (·.1):=by
 intro m;obtain⟨p,a,e⟩:=vK.mp m;have q:(kvs.any fun kv=>decide (kv.1=k))=true:=any_eq_true.mpr ⟨p,a,vG e⟩;rw[Qv,h]at q;exact uh q (by simp)
theorem j1b{kvs:List (κ×V)}{k:κ}{v:V}(h:valV kvs k=some v):k∈kvs.map (·.1):=by
 have q:(kvs.any fun kv=>decide (kv.1=k))=true:=by
  rw[Qv,h]
  all_goals rfl
 obtain⟨p,a,e⟩:=any_eq_true.mp q;exact vK.mpr ⟨p,a,of_decide_eq_true e⟩
theorem j0U:∀{l:List κ} {k:κ},l.Nodup->¬k∈l->(l++[k]).Nodup
 | [],k,_,_=>by simp
 | a::r,k,h,hk=>by
  obtain⟨b,c⟩:=ur.mp h;show(a::(r++[k])).Nodup;refine ur.mpr ⟨fun m=>?_,j0U c fun m=>hk (mem_cons.mpr (Or.inr m))⟩;rcases vh.mp m with q | q
  ·exact b q
  ·exact hk (mem_cons.mpr (Or.inl (vo.mp q).symm))
theorem j4b{kvs:List (κ×V)}{k:κ}(v:V)(a:(kvs.map (·.1)).Nodup)(h:valV kvs k=none):((putK kvs k v).map (·.1)).Nodup:=by
 rw[ya v h,vj];exact j0U a (XR h)
end
theorem compLoopT{R:Result->Shared->Prop}(I:Nat->Shared->Prop)
  (u:∀n s,I n s->wpAny (model prog w) A (pyNext it) (fun r b=>match r with
   | none=>R (.ok .next) b
   | some v=>wpAny (model prog w) A (letOwnedTupleGo target it v) (fun _ g=>wpAny (model prog w) A (assign target env v) (fun _ i=>
     wpAny (model prog w) A (forIn ifs true fun c r=>if r=true then do let t <-isTrue c env (eval c env);pure (ForInStep.yield t)else pure (ForInStep.yield r)) (fun t d=>
      if t=true then wpAny (model prog w) A (eval elt env) (fun x j=>
       wpAny (model prog w) A (call (.builtin "list.append") [acc,x]) (fun _ k=>∃m,m<n/\I m k) (fun _ _=>False) j) (fun _ _=>False) d
      else∃m,m<n/\I m d) (fun _ _=>False) i) (fun _ _=>False) g) (fun _ _=>False) b) (fun _ _=>False) s)
  (n:Nat) (h:I n s) :
  codeAny (model prog w) A (.compLoop (.ListComp elt [⟨target,iter,ifs,0⟩] scope pos) 0 it acc env) R s:=by
 refine codeAny_loop rfl I (fun n s y=>?_) n h;show wpAny _ A ((compTurn (.ListComp elt [⟨target,iter,ifs,0⟩] scope pos) 0 it acc env).onRaise (fun x=>do noteFrame x env;theTreesLotGoes x)) _ _ s;refine wpAny_noted ?_;rw[compTurn_list];refine um (wpAny_standAt (um (wpAny_mono (u n s y) (fun r b e=>?_) fun _ _ a=>a.elim)));cases r with
 | none=>exact uk e
 | some v=>
  refine um (wpAny_mono e (fun _ g l=>?_) fun _ _ a=>a.elim);refine um (wpAny_mono l (fun _ i o=>um (wpAny_mono o (fun t d f=>?_) fun _ _ a=>a.elim)) fun _ _ a=>a.elim);cases t with
  | false=>exact uk ⟨rfl,f⟩
  | true=>
   exact um (um (wpAny_mono f (fun x j p=>um (wpAny_mono p (fun _ k q=>uk (uk ⟨rfl,q⟩)) fun _ _ a=>a.elim)) fun _ _ a=>a.elim))
def PF(X:Cx)(ifs:List Expr)(t:TT):Prop:=
 ∀(pins:List (Addr×Obj)) (s:Shared) (σ:St) (H:Hp) (Q:Bool->Hp->Prop),Inv X pins σ H s->t σ H Q->
  wpAny (model X.prog X.w) X.A (forIn ifs true fun c r=>if r=true then do let ok <-isTrue c X.env (eval c X.env);pure (ForInStep.yield ok)else pure (ForInStep.yield r)) (TP X pins σ Q) X.xe s
def tYes:TT:=fun _ H Q=>Q true H
theorem Qq:PF X [] tYes:=fun _ _ _ H _ I h=>wpAny_tests_nil ⟨H,I,h⟩
theorem xu(b:PT X c t):PF X [c] t:=fun a s d H Q I h=>wpAny_tests_one (b a s d H Q I h)
noncomputable def closL(env:Env):List (Str×NameKind)->List (Str×Addr)->List (Str×Addr)
 | [],acc=>acc
 | (n,k)::r,acc=>closL env r (if k == .free then(n,(env.cells.lookup n).getD 0)::acc else acc)
theorem Yq(h:∀y∈scope.names,y.2 = .free->∃c,env.cells.lookup y.1=some c):closureFor scope env=pure (closL env scope.names []):=by
 have l:∀(names:List (Str×NameKind)) (b:List (Str×Addr)),(∀y∈names,y.2 = .free->∃c,env.cells.lookup y.1=some c)->
   (forIn (m:=Sem) names b fun x r=>(match x with | (name,kind)=>if(kind == .free)=true then do let a <-cellOf env name;pure (ForInStep.yield ((name,a)::r))else pure (ForInStep.yield r)))=pure (closL env names b):=by
  intro names
  induction names with
  | nil=>intro b _;rfl
  | cons y r ih=>
   obtain⟨n,k⟩:=y;intro b d;rw[List.forIn_cons];cases hk:(k==NameKind.free)with
   | true=>
    have e:k = .free:=by simpa using hk
    obtain⟨c,i⟩:=d (n,k) vq e;have j:cellOf env n=pure c:=by unfold cellOf;rw[i]
    simp only[hk,if_true,j,pure_bind,closL,i,Option.getD_some];exact ih _ fun y f=>d y (vp _ f)
   | false=>
    simp only[hk,Bool.false_eq_true,if_false,pure_bind,closL];exact ih _ fun y f=>d y (vp _ f)
 have g:=l scope.names [] h;unfold closureFor;simp only[g,pure_bind]
theorem wZ:∀(names:List (Str×NameKind)) (acc:List (Str×Addr)),(∀y∈names,y.2 = .free->∃c,env.cells.lookup y.1=some c)->(∀x c,acc.lookup x=some c->env.cells.lookup x=some c)->
  ∀x c,(closL env names acc).lookup x=some c->env.cells.lookup x=some c
 | [],_,_,ha,x,c,h=>ha x c h
 | (n,k)::r,acc,hh,ha,x,c,h=>by
  refine wZ r _ (fun y d=>hh y (vp _ d)) (fun x c e=>?_) x c h;cases hk:(k==NameKind.free)with
  | false=>rw[hk]at e;exact ha x c e
  | true=>
   rw[hk]at e;have a:k = .free:=by simpa using hk
   obtain⟨f,b⟩:=hh (n,k) vq a;simp only[if_true,b,Option.getD_some]at e;rw[lookup_cons]at e;cases hx:(x==n)with
   | true=>
    rw[hx]at e;have:x=n:=by simpa using hx
    rw[this,b];exact e
   | false=>rw[hx]at e;exact ha x c e
theorem wY:∀(names:List (Str×NameKind)) (acc:List (Str×Addr)) (x:Str),(∃c,acc.lookup x=some c)->∃c,(closL env names acc).lookup x=some c
 | [],_,_,h=>h
 | (n,k)::r,acc,x,h=>by
  refine wY r _ x ?_;cases hk:(k==NameKind.free)with
  | false=>exact h
  | true=>
   simp only[if_true];rw[lookup_cons];cases hx:(x==n)with
   | true=>exact⟨_,rfl⟩
   | false=>exact h
theorem Y8:∀(names:List (Str×NameKind)) (acc:List (Str×Addr)) (x:Str),(x,NameKind.free)∈names->∃c,(closL env names acc).lookup x=some c
 | [],_,_,h=>by simp at h
 | (n,k)::r,acc,x,h=>by
  rcases mem_cons.mp h with e | h
  ·cases e;refine wY r _ _ ?_;simp
  ·exact Y8 r _ x h
theorem zl{env:Env}:∀{names:List (Str×NameKind)} {x:Str} {k:NameKind},(names.map fun(n,k)=>if(k==NameKind.free&&env.scope.kind == .function&&env.kindOf n==some .cell)then(n,NameKind.cell)else(n,k)).lookup x=some k->
  ∃b,(x,b)∈names/\names.lookup x=some b/\(b=k\/(b = .free/\k = .cell))
 | [],_,_,h=>by simp at h
 | (n,k₀)::r,x,k,h=>by
  have i:=@zl env r x k;rw[v7]at h;dsimp only at h;cases hx:x==n with
  | true=>
   have e:x=n:=by simpa using hx
   subst e;refine⟨k₀,vq,by simp,?_⟩;by_cases a:(k₀==NameKind.free&&env.scope.kind == .function&&env.kindOf x==some .cell)=true
   ·rw[vd a]at h;simp only[lookup_cons,beq_self_eq_true]at h;simp only[Bool.and_eq_true,beq_iff_eq]at a;exact .inr ⟨a.1.1,(vL h).symm⟩
   ·rw[vc a]at h;simp only[lookup_cons,beq_self_eq_true]at h;exact .inl (vL h)
  | false=>
   have c:(r.map fun(n,k)=>if(k==NameKind.free&&env.scope.kind == .function&&env.kindOf n==some .cell)then(n,NameKind.cell)else(n,k)).lookup x=some k:=by
    by_cases a:(k₀==NameKind.free&&env.scope.kind == .function&&env.kindOf n==some .cell)=true
    ·rw[vd a]at h;simpa only[lookup_cons,hx]using h
    ·rw[vc a]at h;simpa only[lookup_cons,hx]using h
   obtain⟨b,d,f,g⟩:=i c;exact⟨b,vp _ d,by simpa only[lookup_cons,hx]using f,g⟩
theorem Y7:∀(names:List (Str×NameKind)) (n:Nat) (acc:List (Str×Addr)) (x:Str) (c:Addr),(cellsFrom n names acc).lookup x=some c->n<=c\/acc.lookup x=some c
 | [],_,_,_,_,h=>.inr h
 | (y,k)::r,n,acc,x,c,h=>by
  unfold cellsFrom at h;split at h
  ·rcases Y7 r (n+1) _ x c h with q | q
   ·exact .inl (by lia)
   ·rw[lookup_cons]at q;cases hx:x==y with
    | true=>rw[hx]at q;cases q;exact .inl (vb _)
    | false=>rw[hx]at q;exact .inr q
  ·exact Y7 r n acc x c h
theorem X1:∀(names:List (Str×NameKind)) (n:Nat) (acc:List (Str×Addr)),(∀x c,acc.lookup x=some c->c<n)->(∀x y c,acc.lookup x=some c->acc.lookup y=some c->x=y)->
  ∀x y c,(cellsFrom n names acc).lookup x=some c->(cellsFrom n names acc).lookup y=some c->x=y
 | [],_,_,_,hi,x,y,c,h1,h2=>hi x y c h1 h2
 | (z,k)::r,n,acc,hb,hi,x,y,c,h1,h2=>by
  unfold cellsFrom at h1 h2;split at h1
  ·rename_i hk;rw[vd hk]at h2;refine X1 r (n+1) _ (fun x c e=>?_) (fun x y c b a=>?_) x y c h1 h2
   ·rw[lookup_cons]at e;cases hx:x==z with
    | true=>rw[hx]at e;cases e;exact Nat.lt_succ_self _
    | false=>rw[hx]at e;exact Nat.lt_succ_of_lt (hb x c e)
   ·rw[lookup_cons]at b a;cases hx:x==z with
    | true=>
     rw[hx]at b;cases b;cases hy:y==z with
     | true=>rw[beq_iff_eq.mp hx,beq_iff_eq.mp hy]
     | false=>rw[hy]at a;exact uh (hb y n a) (Nat.lt_irrefl _)
    | false=>
     rw[hx]at b;cases hy:y==z with
     | true=>rw[hy]at a;cases a;exact uh (hb x n b) (Nat.lt_irrefl _)
     | false=>rw[hy]at a;exact hi x y c b a
  ·rename_i hk;rw[vc hk]at h2;exact X1 r n acc hb hi x y c h1 h2
theorem WQ:∀(names:List (Str×NameKind)) (n:Nat) (acc:List (Str×Addr)) (x:Str),(∃c,acc.lookup x=some c)->∃c,(cellsFrom n names acc).lookup x=some c
 | [],_,_,_,h=>h
 | (y,k)::r,n,acc,x,h=>by
  unfold cellsFrom;split
  ·refine WQ r (n+1) _ x ?_;rw[lookup_cons];cases hx:x==y with
   | true=>exact⟨_,rfl⟩
   | false=>exact h
  ·exact WQ r n acc x h
theorem X0:∀(names:List (Str×NameKind)) (n:Nat) (acc:List (Str×Addr)) (x:Str),(x,NameKind.cell)∈names->∃c,(cellsFrom n names acc).lookup x=some c
 | [],_,_,_,h=>by simp at h
 | (y,k)::r,n,acc,x,h=>by
  unfold cellsFrom;rcases mem_cons.mp h with e | h
  ·cases e;simp only[beq_self_eq_true,if_true];exact WQ r _ _ _ (by simp)
  ·split
   ·exact X0 r _ _ x h
   ·exact X0 r _ _ x h
theorem X3:∀(names:List (Str×NameKind)) (n:Nat) (acc:List (Str×Addr)) (x:Str),(x,NameKind.cell)∉names->(cellsFrom n names acc).lookup x=acc.lookup x
 | [],_,_,_,_=>rfl
 | (y,k)::r,n,acc,x,h=>by
  have a:(x,NameKind.cell)∉r:=fun q=>h (vp _ q)
  unfold cellsFrom;split
  ·rename_i hk;rw[X3 r _ _ x a,lookup_cons];cases hx:x==y with
   | true=>rw[beq_iff_eq.mp hx,beq_iff_eq.mp hk]at h;exact uh vq h
   | false=>rfl
  ·exact X3 r n acc x a
theorem X2:∀(names:List (Str×NameKind)) (a n:Nat) (acc:List (Str×Addr)) (x:Str) (c:Addr),a<=n->((x,NameKind.cell)∈names\/∀c,acc.lookup x=some c->a<=c)->(cellsFrom n names acc).lookup x=some c->a<=c
 | [],_,_,_,_,c,_,h,e=>h.elim (fun z=>by simp at z) fun z=>z c e
 | (y,k)::r,a,n,acc,x,c,hn,h,e=>by
  unfold cellsFrom at e;split at e
  ·refine X2 r a (n+1) _ x c (by lia) ?_ e;rcases h with h | h
   ·rcases mem_cons.mp h with q | q
    ·cases q;exact .inr fun c q=>by rw[lookup_cons,beq_self_eq_true]at q;cases q;exact hn
    ·exact .inl q
   ·refine .inr fun c q=>?_
    rw[lookup_cons]at q;cases hx:x==y with
    | true=>rw[hx]at q;cases q;exact hn
    | false=>rw[hx]at q;exact h c q
  ·rename_i hk;refine X2 r a n acc x c hn ?_ e;rcases h with h | h
   ·rcases mem_cons.mp h with q | q
    ·cases q;exact uh rfl hk
    ·exact .inl q
   ·exact .inr h
theorem KH:∀(names:List (Str×NameKind)) (h:Heap) (acc:List (Str×Addr)) (x:Str) (c:Addr),(cellsFrom h.objs.size names acc).lookup x=some c->acc.lookup x=some c\/(pushCells h names).IsCell c none
 | [],_,_,_,_,e=>.inl e
 | (y,k)::r,h,acc,x,c,e=>by
  unfold cellsFrom at e;unfold pushCells;split
  ·rename_i hk;rw[vd hk]at e;rw[<-Heap.size_push h {cls:=.type "cell",data:=.cell none}]at e;rcases KH r _ _ x c e with q | q
   ·rw[lookup_cons]at q;cases hx:x==y with
    | true=>
     rw[hx]at q;cases q;exact .inr ⟨_,pushCells_keeps _ _ _ _ (Heap.get?_push_size _ rfl),rfl⟩
    | false=>rw[hx]at q;exact .inl q
   ·exact .inr q
  ·rename_i hk;rw[vc hk]at e;exact KH r h acc x c e
theorem envC{E:Value->Shared->Prop}{Q:Env->Shared->Prop}
  (h:Q (newEnv scope s.heap.objs.size globals (cellsFrom (s.heap.objs.size+1) scope.names cl) qual none .none (some env) builtinsNs) {s with heap:=pushCells (s.heap.push {cls:=.type "dict",data:=.dict #[]}) scope.names}) :
  wpAny M A (newFunctionEnv scope globals cl [] qual none .none (some env)) Q E s:=by
 simp only[newFunctionEnv,Option.isSome_some,if_true];refine um (wpAny_alloc ?_);refine um (wpAny_layCells _ (fun c a b=>by cases hkc:a==NameKind.cell<;>simp[hkc]) _ _ _ _ ?_);rw[show({s with heap:=s.heap.push {cls:=.type "dict",data:=.dict #[]}}:Shared).heap.objs.size=s.heap.objs.size+1 from Heap.size_push ..];rw[List.forIn_nil];exact um (uk (uk h))
noncomputable def blk(X:Cx)(scope:Scope)(ow:List Str)(ci:List Nat)(C:Addr)(s₀:Shared)(H₀:Hp)(ex:List Addr)(pn:List (Addr×Obj)):Cx:=
 {X with N:=ow++ci.map fun j=>X.N.getD j "",s₀:=s₀,H₀:=H₀,env:=compEnvC scope (cellsFrom (C+1) scope.names (closL X.env scope.names [])) C X.env,outer:=X.stack,stack:=X.stack,ex:=ex,fn:=fun x=>scope.names.lookup x==some .cell,pn:=pn,xe:=fun _ _=>False}
structure CompScope(X:Cx)(scope:Scope)(ow:List Str)(ci:List Nat):Prop where
 kind:scope.kind = .function
 cell:∀y∈scope.names,y.2 = .cell->scope.names.lookup y.1=some .cell
 names:∀y∈scope.names,y.2 = .local->scope.names.lookup y.1=some .local
 free:∀y∈scope.names,y.2 = .free->X.env.kindOf y.1=some .cell\/X.env.kindOf y.1=some .free
 ix:∀j∈ci,j<X.N.length/\scope.names.lookup (X.N.getD j "")=some .free
noncomputable def compOk(fsc:Scope)(N:List Str)(scope:Scope)(ci:List Nat):Bool:=
 scope.kind == .function&&scope.names.all (fun y=>y.2 != .cell||scope.names.lookup y.1==some .cell)&&scope.names.all (fun y=>y.2 != .local||scope.names.lookup y.1==some .local) &&
 scope.names.all (fun y=>y.2 != .free||fsc.names.lookup y.1==some .cell||fsc.names.lookup y.1==some .free)&&ci.all (fun j=>decide (j<N.length)&&scope.names.lookup (N.getD j "")==some .free)
theorem CompScope.of(a:Scope)(N:List Str)(c:X.env.scope=a)(d:X.N=N)(h:compOk a N scope ci=true):CompScope X scope ow ci:=by
 subst c d;unfold compOk at h;simp only[Bool.and_eq_true,all_eq_true,Bool.or_eq_true,bne_iff_ne,ne_eq,beq_iff_eq,decide_eq_true_eq]at h;obtain⟨⟨⟨⟨f,g⟩,i⟩,k⟩,l⟩:=h;refine⟨f,fun y b e=>(g y b).resolve_left fun z=>z e,fun y b e=>?_,fun y b e=>?_,fun j m=>l j m⟩
 ·rcases i y b with z | z
  ·exact uh e z
  ·exact z
 ·rcases k y b with(z | z) | z
  ·exact uh e z
  ·exact .inl z
  ·exact .inr z
theorem JU{a:Hp}(N:List Str)(e:X.N=N)(h:(ow++ci.map fun j=>N.getD j "").Nodup):(blk X scope ow ci C s₀ a ex pn).N.Nodup:=by
 subst e;exact h
noncomputable def capAt(σ:St)(j:Nat):Option V:=match σ[j]? with | some o=>o | none=>none
noncomputable def capS(n:Nat)(ci:List Nat)(σ:St):St:=List.replicate n none++ci.map (capAt σ)
def tComp(wi:TI)(n:Nat)(ci:List Nat)(g:TG)(tf:TT)(te:TE):TE:=fun σ H Q=>wi σ H fun J H1=>∃W:Nat->Nat->List V->Hp->Prop,(∃m,W 0 m [] H1)/\∀i m ys H,W i m ys H->
 (J.stop i H/\ys.length<=sizeLine/\∀p,H p=none->Q (.ref p) (upd H p (.lst ys)))\/
 (J.go i H/\∃N:List V->Hp->Prop,(∀ys' H',N ys' H'->∃m',m'<m/\W (i+1) m' ys' H')/\∀x H',J.yld i H x H'->g x (capS n ci σ) H' fun σ2 H2=>tf σ2 H2 fun b H3=>
  if b=true then te σ2 H3 fun v H4=>ys.length<sizeLine/\N (ys++[v]) H4 else N ys H3)
section
variable{X:Cx}{pins:List (Addr×Obj)}{σ:St}{H:Hp}{s:Shared}{elt iter tg:Expr}{ifs:List Expr}{scope:Scope}{pos:Pos}{ow:List Str}{ci:List Nat}{g:TG}{tf:TT}{te:TE}
theorem CompScope.cells(S:CompScope X scope ow ci)(b:X.Ok):∀y∈scope.names,y.2 = .free->∃c,X.env.cells.lookup y.1=some c:=fun y a e=>b.has y.1 (S.free y a e)
theorem CompScope.sub(S:CompScope X scope ow ci)(a:X.Ok):∀x c,(closL X.env scope.names []).lookup x=some c->X.env.cells.lookup x=some c:=
 wZ scope.names [] (S.cells a) fun _ _ e=>by simp at e
theorem CompScope.cel(S:CompScope X scope ow ci)(a:X.Ok)(h:(cellsFrom (C+1) scope.names (closL X.env scope.names [])).lookup x=some c):C+1<=c\/X.env.cells.lookup x=some c:=
 (Y7 _ _ _ _ _ h).imp id (S.sub a x c)
theorem j4I(S:CompScope X scope ow ci)(I:Inv X pins σ H s)(f:s.heap.objs.size<=C)
  (a:∀b∈ex,b<s.heap.objs.size/\FpOk X pins H b):(blk X scope ow ci C s H ex pn).Ok where
 mod:=I.ok.mod
 kind:=S.kind
 glob:=I.ok.glob
 blt:=I.ok.blt
 above:=f
 inj:=X1 scope.names (C+1) _ (fun x c e=>by
   obtain⟨v,q⟩:=I.cell x c (S.sub I.ok x c e);exact Nat.lt_succ_of_le (vX (Nat.lt_of_lt_of_le q.lt f))) fun x y c i j=>I.ok.inj x y c (S.sub I.ok x c i) (S.sub I.ok y c j)
 has:=fun x h=>by
  have n:∃k,(relabel scope X.env).names.lookup x=some k/\(k = .cell\/k = .free):=by
   rcases h with h | h
   ·exact⟨_,h,.inl rfl⟩
   ·exact⟨_,h,.inr rfl⟩
  obtain⟨k,t,r⟩:=n;obtain⟨m,l,_,e⟩:=zl (env:=X.env) t;have g:m = .cell\/m = .free:=by
   rcases e with e | ⟨e,_⟩
   ·subst e;exact r
   ·exact .inr e
  rcases g with g | g
  ·subst g;exact X0 scope.names _ _ x l
  ·subst g;exact WQ scope.names _ _ x (Y8 scope.names [] x l)
 cab:=fun x c h e=>vV (vV f (Nat.le_succ _)) (X2 scope.names (C+1) (C+1) _ x c (vb _) (.inl (PySem.mem_of_lookup (beq_iff_eq.mp h))) e)
 hd:=I.ok.hd
 frames:=I.ok.frames
 stk:=.inl rfl
 exf:=fun b d=>⟨vE (Nat.lt_of_lt_of_le (a b d).1 f),fun x c e=>(S.cel I.ok e).elim (fun q z=>Nat.lt_irrefl _ (Nat.lt_of_lt_of_le (z▸(a b d).1) (vV f (vV (Nat.le_succ _) q)))) fun q=>(a b d).2.2.2.2.2.1 x c q⟩
 bs:=I.bs
 bsz:=vV I.ok.bsz I.sz
 noex:=fun b o e d=>by
  obtain⟨_,_,_,p,_⟩:=(a b d).2;rcases p with z | z
  ·exact I.ok.noex b o e z
  ·exact uh (Nat.lt_of_lt_of_le (vI e) (vV I.ok.bsz z)) (Nat.lt_irrefl _)
 exfs:=fun b d z=>by
  obtain⟨_,i,j,_⟩:=(a b d).2;rcases mem_cons.mp (I.stkSub b z)with e | e
  ·exact i e
  ·exact j e
 funs:=I.stack
 frf:=I.stkFree
theorem j1j(S:CompScope X scope ow ci)(I:Inv X pins σ H s){h:Str->Option Value}(D:s.heap.objs.size<=C)
  (J:∀b∈ex,b<s.heap.objs.size/\FpOk X pins H b) (hn:h₁.Ns C h) (k:∀b o,s.heap.get? b=some o->h₁.get? b=some o)
  (A:∀x c,(cellsFrom (C+1) scope.names (closL X.env scope.names [])).lookup x=some c->(closL X.env scope.names []).lookup x=some c\/h₁.IsCell c none) :
  Inv (blk X scope ow ci C s H ex (X.pn++pins)) [] (capS ow.length ci σ) H {s with heap:=h₁,toks:=t₁}:=by
 have ok:=j4I (pn:=X.pn++pins) S I D J;refine⟨ok,rfl,I.bare,Un.kept k,⟨h,hn,fun i x v T f U=>?_⟩,fun x c e=>?_,I.hok.fresh D,fun x c e=>(S.cel I.ok e).elim (fun q=>I.hok.fresh (vV D (vV (Nat.le_succ _) q))) (I.freeC x c),fun p hp=>?_,I.hok.kept k,?_⟩
 ·have l:(ow++ci.map fun j=>X.N.getD j "")[i]?=some x:=T;unfold capS at f;by_cases K:i<ow.length
  ·rw[vB (by simpa using K),List.getElem?_replicate,vd K]at f;cases f
  ·rw[vC (by simpa using K),vv,length_replicate]at f;rw[vC (by lia),vv]at l;cases hj:ci[i-ow.length]? with
   | none=>rw[hj]at f;cases f
   | some j=>
    rw[hj]at l f;obtain⟨hl,E⟩:=S.ix j (vm hj);have w:X.N.getD j ""= x:=vL l;have W:X.N[j]?=some x:=by
     rw[<-w,vy,vz hl];rfl
    have Y:σ[j]?=some (some v):=by
     have a:capAt σ j=some v:=vL f;unfold capAt at a;cases q:σ[j]? with
     | none=>rw[q]at a;cases a
     | some o=>rw[q]at a;rw[show o=some v from a]
    rw[w]at E;have g:(x,NameKind.free)∈scope.names:=PySem.mem_of_lookup E;have P:=S.free _ g rfl;obtain⟨m,_,L⟩:=I.loc;have N:Vis X.env.scope x:=by
     rcases P with q | q
     ·exact .inr (.inl q)
     ·exact .inr (.inr q)
    obtain⟨u,r,lk⟩:=L j x v W Y N;refine⟨u,r,.inr ⟨?_,?_⟩⟩
    ·rcases U with q | q | q
     ·obtain⟨k',_,O,B⟩:=zl (env:=X.env) q;rw[E]at O;cases O;rcases B with B | ⟨_,B⟩<;>cases B
     ·exact .inl q
     ·exact .inr q
    ·rcases lk with⟨q,_⟩ | ⟨_,c,Z,t⟩
     ·have Q:X.env.kindOf x=some .local:=q;rcases P with z | z<;>(rw[z]at Q;cases Q)
     ·obtain⟨R,y⟩:=Y8 (env:=X.env) scope.names [] x g;have e:=S.sub I.ok x R y;rw[Z]at e;cases e;refine⟨c,?_,t.keeps k⟩;show(cellsFrom (C+1) scope.names (closL X.env scope.names [])).lookup x=some c;rw[X3 scope.names _ _ x fun z=>?_]
      ·exact y
      ·have:=S.cell _ z rfl;rw[E]at this;cases this
 ·rcases A x c e with q | q
  ·obtain⟨v,q⟩:=I.cell x c (S.sub I.ok x c q);exact⟨v,q.keeps k⟩
  ·exact⟨_,q⟩
 ·have M:p∈X.pn++pins:=by
   rcases vh.mp hp with z | z
   ·exact z
   ·cases z
  obtain⟨e,n,ne,nf,d⟩:=I.pin p M;refine⟨k _ _ e,n,vE (Nat.lt_of_lt_of_le (vI e) D),fun z=>?_,d⟩;rcases mem_cons.mp (I.stkSub p.1 z)with q | q
  ·exact ne q
  ·exact nf q
 ·show(capS ow.length ci σ).length=(ow++ci.map fun j=>X.N.getD j "").length;simp[capS]
theorem Inv.forget{σ':St}(I:Inv X pins σ' H s)(n:Nat)(ci:List Nat)(a:St)(c:(capS n ci a).length=X.N.length)(h:∀i v,n<=i->(capS n ci a)[i]?=some (some v)->σ'[i]?=some (some v)):Inv X pins (capS n ci a) H s:=
 I.weak (by rw[c,I.len]) fun i v e=>by
  by_cases b:n<=i
  ·exact h i v b e
  ·unfold capS at e;rw[vB (by simpa using b),List.getElem?_replicate,vd (by lia)]at e;cases e
def GKeeps(n:Nat)(g:TG):Prop:=∀x σ H (Q:St->Hp->Prop),g x σ H Q->g x σ H fun σ2 H2=>(∀(i:Nat) v,n<=i->σ[i]?=some (some v)->σ2[i]?=some (some v))/\Q σ2 H2
theorem JR(h:i<n):GKeeps n (gName i):=fun x b H Q q=>⟨fun j v a e=>by rw[List.getElem?_set_ne (by lia)];exact e,q⟩
theorem j0I{K:Frg}{n i j:Nat}(hi:i<n)(p:j<n):GKeeps n (gTup K 2 (gCons (gName i) (gCons (gName j) gNil))):=fun x t H Q q=>by
 obtain⟨a,o,b,c,d,v,r,f,m,l,g,h,q⟩:=q;refine⟨a,o,b,c,d,v,r,f,m,l,g,h,fun k u s e=>?_,q⟩;rw[List.getElem?_set_ne (by lia),List.getElem?_set_ne (by lia)];exact e
theorem KI{E:Value->Shared->Prop}{tn:Nat->Heap->Prop}{RR:Value->Addr->Result->Shared->Prop}(hc:X.calm=true)(S:CompScope X scope ow ci)(hk:GKeeps ow.length g)
  (a:∀C M y ex pn,PG (blk X scope ow ci C M y ex pn) tg g/\PF (blk X scope ow ci C M y ex pn) ifs tf/\PE (blk X scope ow ci C M y ex pn) elt te)
  (I:Inv X pins σ H s) (T:Turn X.prog X.w X.K tg J fp it tn) (st:tn 0 s.heap) (hf:∀b∈fp,FpOk X pins H b) (Z:List V->Hp->Prop)
  (W:Nat->Nat->List V->Hp->Prop) (w0:∃m,W 0 m [] H)
  (aP:∀i m ys H,W i m ys H->(J.stop i H/\ys.length<=sizeLine/\Z ys H)\/
   (J.go i H/\∃N:List V->Hp->Prop,(∀aQ H',N aQ H'->∃m',m'<m/\W (i+1) m' aQ H')/\∀x H',J.yld i H x H'->g x (capS ow.length ci σ) H' fun aR H2=>tf aR H2 fun b H3=>
    if b=true then te aR H3 fun v H4=>ys.length<sizeLine/\N (ys++[v]) H4 else N ys H3))
  (aY:∀D C s' H' m ys,Inv X pins σ (upd H' D (.lst ys)) s'->H' D=none->Z ys H'->s'.heap.Ns C m->s.heap.objs.size<=C->C≠D->H' C=none->RR (.ref D) C (.ok .next) s') :
  wpAny (model X.prog X.w) X.A (newList []) (fun acc aN=>wpAny (model X.prog X.w) X.A (newFunctionEnv scope X.env.globals (closL X.env scope.names []) [] X.env.qual none .none (some X.env)) (fun a7 aO=>
   codeAny (model X.prog X.w) X.A (.compStart (.ListComp elt [⟨tg,iter,ifs,0⟩] scope pos) 0 (.ref it) acc {a7 with scope:=relabel scope X.env}) (RR acc a7.locals) aO) E aN) E s:=by
 refine wpAny_newObj_type (envC ?_);dsimp only;generalize Q:({s with heap:=s.heap.push {cls:=.type "list",dict:=none,data:=.seq ([]:List Value).toArray}}:Shared)=s3;have e3:s3.heap=s.heap.push {cls:=.type "list",dict:=none,data:=.seq ([]:List Value).toArray}:=by rw[<-Q]
 rw[<-e3];generalize ae:pushCells (s3.heap.push {cls:=.type "dict",data:=.dict #[]}) scope.names=h₁;have k3:∀b o,s.heap.get? b=some o->s3.heap.get? b=some o:=fun b o e=>by rw[e3];exact vJ _ e
 have hsz:s3.heap.objs.size=s.heap.objs.size+1:=by rw[e3,Heap.size_push]
 have I3:Inv X pins σ H s3:=by rw[<-Q];exact I.kept (t':=s.toks) fun b o e=>vJ _ e
 have b4:s3.heap.get? s.heap.objs.size=some {cls:=.type "list",dict:=none,data:=.seq ([]:List Value).toArray}:=by rw[e3];exact Heap.get?_push_size _ rfl
 generalize ad:s.heap.objs.size=D at *;generalize l:s3.heap.objs.size=C at *;have A:D<C:=by lia
 have ar:H D=none:=I.hok.fresh (Nat.le_of_eq ad);have aZ:FpOk X pins H D:=I.fpOk (Nat.le_of_eq ad) ar;have af:∀(b:Addr) o,s.heap.get? b=some o->b<D:=fun b o e=>by rw[<-ad];exact vI e
 have bd:∀(b:Addr) o,s3.heap.get? b=some o->b<C:=fun b o e=>by rw[<-l];exact vI e
 have a9:∀b∈fp,b<D:=fun b a=>by
  obtain⟨o,e,_⟩:=T.obj 0 _ st b a;exact af b o e
 have O:∀b∈D::fp,b<s3.heap.objs.size/\FpOk X pins H b:=fun b a=>by
  rw[l];rcases mem_cons.mp a with rfl | a
  ·exact⟨A,aZ⟩
  ·exact⟨vY (a9 b a) A,hf b a⟩
 have kk:∀b o,s3.heap.get? b=some o->h₁.get? b=some o:=fun b o e=>by rw[<-ae];exact pushCells_keeps _ _ b o (vJ _ e)
 have P:h₁.Ns C fun _=>none:=by rw[<-ae,<-l];exact(Heap.Ns.new s3.heap (.type "dict")).keeps (pushCells_keeps _ _)
 have ay:∀x c,(cellsFrom (C+1) scope.names (closL X.env scope.names [])).lookup x=some c->(closL X.env scope.names []).lookup x=some c\/h₁.IsCell c none:=fun x c e=>by
  rw[<-ae];refine KH scope.names _ _ x c ?_;rw[Heap.size_push,l];exact e
 obtain⟨hg,av,he⟩:=a C s3 H (D::fp) (X.pn++pins);generalize w:blk X scope ow ci C s3 H (D::fp) (X.pn++pins)=Y at hg av he;have f:Y.prog=X.prog:=by rw[<-w];rfl
 have Yw:Y.w=X.w:=by rw[<-w];rfl
 have YK:Y.K=X.K:=by rw[<-w];rfl
 have YA:Y.A=X.A:=by rw[<-w];rfl
 have Yc:Y.calm=true:=by rw[<-w];exact hc
 have h:Y.env=compEnvC scope (cellsFrom (C+1) scope.names (closL X.env scope.names [])) C X.env:=by rw[<-w];rfl
 have ab:Y.xe=fun _ _=>False:=by rw[<-w];rfl
 have an:Y.fs=frs X.stack:=by rw[<-w];rfl
 have am:Y.ex=D::fp:=by rw[<-w];rfl
 have aW:Y.pn=X.pn++pins:=by rw[<-w];rfl
 have Ys:Y.s₀=s3:=by rw[<-w];rfl
 have YH:Y.H₀=H:=by rw[<-w];rfl
 have YN:(capS ow.length ci σ).length=Y.N.length:=by rw[<-w];show(capS ow.length ci σ).length=(ow++ci.map fun j=>X.N.getD j "").length;simp[capS]
 have ag:∀b∈D::fp,b≠Y.env.locals/\b∉Y.fs/\b∈Y.ex/\(∀x c,Y.env.cells.lookup x=some c->c≠b)/\∀p∈Y.pn,p.1≠b:=fun b a=>by
  obtain⟨h0,h1,h2,h3,h4,h5⟩:=(O b a).2;refine⟨by rw[h];exact vE (l▸(O b a).1),fun z=>?_,by rw[am];exact a,fun x c e=>?_,by rw[aW];exact h5⟩
  ·rw[an]at z;rcases mem_cons.mp (I.stkSub b z)with q | q
   ·exact h1 q
   ·exact h2 q
  ·rw[h]at e;rcases S.cel I.ok e with q | q
   ·exact fun z=>Nat.lt_irrefl _ (Nat.lt_of_lt_of_le (l▸(O b a).1) (vV (Nat.le_succ _) (z▸q)))
   ·exact h4 x c q
 have aE:D∉fp:=fun z=>Nat.lt_irrefl _ (a9 D z)
 have aC:∀s4:Shared,Inv Y [] (capS ow.length ci σ) H s4->tn 0 s4.heap->s4.heap.PlainList D #[]->
   codeAny (model X.prog X.w) X.A (.compLoop (.ListComp elt [⟨tg,iter,ifs,0⟩] scope pos) 0 (.ref it) (.ref D) (compEnvC scope (cellsFrom (C+1) scope.names (closL X.env scope.names [])) C X.env)) (RR (.ref D) C) s4:=by
  intro s4 J4 U ah;obtain⟨m0,w0⟩:=w0;refine compLoopT (fun n s'=>∃i ys k H',Inv Y [] (capS ow.length ci σ) H' s'/\tn i s'.heap/\(∀b∈fp,H' b=none)/\H' D=none/\s'.heap.PlainList D k/\Vals ys k.toList/\W i n ys H') ?_ m0
   ⟨0,[],#[],H,J4,U,fun b a=>(hf b a).1,ar,ah,.nil,w0⟩
  rintro n s5 ⟨i,ys,k,H5,J5,aK,ap,t,⟨aH,b9⟩,a0,w5⟩;have vl:ys.length=k.size:=by have:=a0.length;simpa using this
  have aF:∀{H':Hp} {s':Shared} {aj:St},Inv Y [] aj H' s'->H' D=none->∀{o:Obj},s'.heap.get? D=some o->(∀v,o.data≠.cell v)->Inv Y [(D,o)] aj H' s':=fun {H' s' aj} K hD o e d=>
   K.pins_of fun p hp=>by
    have ep:p=(D,o):=by simpa using hp
    subst ep;obtain⟨a1,a2,_⟩:=ag D vq;exact⟨e,hD,a1,a2,d⟩
  have P5:=aF J5 t b9 (fun v z=>by cases z);have ac:∀{H':Hp},(∀b∈fp,H' b=none)->∀{o:Obj},∀b∈fp,FpOk Y [(D,o)] H' b:=fun {H'} hn {o} b a=>by
   obtain⟨a1,a2,a3,a4,a5⟩:=ag b (vp _ a);refine⟨hn b a,a1,a2,.inl a3,a4,fun p hp=>?_⟩;rcases vh.mp hp with q | q
   ·exact a5 p q
   ·have ep:p=(D,o):=by simpa using q
    subst ep;exact fun z=>aE (by have z':D=b:=z;rw[z'];exact a)
  rcases aP i n ys H5 w5 with⟨aM,aB,z5⟩ | ⟨go,NN,as,aL⟩
  ·have d:=T.done Y f Yw YK Yc i [(D,_)] s5 _ H5 (fun _ _=>False) P5 (ac ap) aK aM;rw[YA]at d;refine thn d fun r s6 ⟨hr,J6⟩=>?_
   subst hr;have D6:=(J6.pin (D,_) (mem_append_right _ vq)).1;obtain⟨mC,aw,_⟩:=J6.loc;rw[h]at aw;have ax:s6.heap.Ns C mC:=aw;have b3:H5 C=none:=by have:=J6.free;rw[h]at this;exact this
   refine aY D C s6 H5 mC ys ?_ t z5 ax (vX A) (vN A) b3;have B:=J6.base;rw[an,am,YH,Ys]at B;have aD:∀b o,s.heap.get? b=some o->b≠D/\b≠C:=fun b o e=>⟨vE (af b o e),vE (vY (af b o e) A)⟩
   have R:∀b o,s.heap.get? b=some o->b∉fp->b∉D::fp:=fun b o e a z=>by
    rcases mem_cons.mp z with q | q
    ·exact(aD b o e).1 q
    ·exact a q
   have uN:Un (frs X.stack) fp H (upd H5 D (.lst ys)) s.heap s6.heap:=by
    refine⟨fun b o e n a hx=>B.keep b o (k3 b o e) n a (R b o e hx),fun b o e n a hx=>B.slot b o (k3 b o e) n a (R b o e hx),fun b o e n hx=>?_,fun b o e hx=>B.there b o (k3 b o e) (R b o e hx),fun b xs q=>?_,fun b o u q=>?_,fun b ps q=>?_⟩
    ·rw[jh (aD b o e).1];exact B.free b o (k3 b o e) n (R b o e hx)
    ·rw[jh (je (B.tups b xs q) t)];exact B.tups b xs q
    ·rw[jh (je (B.frzs b o u q) t)];exact B.frzs b o u q
    ·obtain⟨mo,q'⟩:=B.tbls b ps q;exact⟨mo,by rw[jh (je q' t)];exact q'⟩
   have az:HOk X.prog X.w H5 s6.heap:=by rw[<-f,<-Yw];exact J6.hok
   have aA:HOk X.prog X.w (upd H5 D (.lst ys)) s6.heap:=fun b u e=>by
    by_cases au:b=D
    ·subst au;rw[jG]at e;cases e;exact⟨aB,k.toList,_,a0,by simpa using D6⟩
    ·rw[jh au]at e;exact(az b u e).stay (fun c v _ q=>q) (fun c q=>by rw[jh (je q t)];exact q) fun c xs q=>by rw[jh (je q t)];exact q
   refine I.call' (by rw[J6.os,Ys,<-Q]) uN aA J6.bare fun b a=>?_
   obtain⟨h0,h1,h2,h3,h4,h5⟩:=hf b a;exact⟨h3,h1,h4,h5⟩
  ·have d:=T.item Y f Yw YK Yc i [(D,_)] s5 _ H5 (fun _ _=>False) P5 (ac ap) aK go;rw[YA]at d;refine thn d fun r s6 ⟨u,hr,h6⟩=>?_
   subst hr;refine thn h6 fun _ s7 ⟨x,H7,J7,r7,y7,ai,b0⟩=>?_
   have aT:=J7.pinned (ac b0) (T.obj _ _ ai);have h8:=hg _ s7 _ H7 x u _ aT r7 (hk _ _ _ _ (aL x H7 y7));rw[f,Yw,YA,h,ab]at h8;refine thn h8 fun _ s8 ⟨ak,H8,J8,b7,q8⟩=>?_
   have h9:=av _ s8 ak H8 _ J8 q8;rw[f,Yw,YA,h,ab]at h9;refine thn h9 fun b s9 ⟨H9,J9,q9⟩=>?_
   have a6:∀{H':Hp} {s':Shared},Inv Y ([(D,({cls:=.type "list",data:=.seq k aH}:Obj))]++pinsAt fp s7.heap) ak H' s'->Inv Y [] (capS ow.length ci σ) H' s'/\tn (i+1) s'.heap/\(∀b∈fp,H' b=none)/\H' D=none/\s'.heap.get? D=some {cls:=.type "list",data:=.seq k aH}:=fun {H' s'} K=>by
    have pD:=K.pin (D,_) (mem_append_right _ (mem_append_left _ vq));refine⟨(K.pins_of (pins':=[]) (by simp)).forget _ _ _ YN (fun j v hj e=>b7 j v hj e),T.keep _ _ _ ai fun b a o e=>(K.pin (b,o) (mem_append_right _ (mem_append_right _ (Zp a e)))).1,fun b a=>?_,pD.2.1,pD.1⟩;obtain⟨o,e,_⟩:=T.obj _ _ ai b a;exact(K.pin (b,o) (mem_append_right _ (mem_append_right _ (Zp a e)))).2.1
   cases b with
   | false=>
    rw[vc vF]at q9|-;obtain⟨m',hm,w9⟩:=as _ _ q9;obtain⟨K9,bb,b1,b5,e9⟩:=a6 J9;exact⟨m',hm,i+1,ys,k,H9,K9,bb,b1,b5,⟨_,e9⟩,a0,w9⟩
   | true=>
    rw[vd rfl]at q9|-;have aq:=he _ s9 ak H9 _ J9 q9;rw[f,Yw,YA,h,ab]at aq;refine thn aq fun z aI ⟨v,al,aS,ba,b6,b8⟩=>?_
    obtain⟨m',hm,bc⟩:=as _ _ b8;obtain⟨aU,aJ,ao,a8,aX⟩:=a6 aS;refine wpAny_list_append_plain (hsz:=by rw[<-vl];exact vX b6) ⟨_,aX⟩ fun b2 aG aa=>?_
    obtain⟨a1,a2,a3,a4,a5⟩:=ag D vq;have aV:Inv Y [] (capS ow.length ci σ) al {aI with heap:=b2}:=aU.turned (t':=aI.toks) (fun b o a e=>(aa.2 b a).trans e) a8 a1 (.inl a3) a4 (fun p hp=>a5 p (by simpa using hp));refine⟨m',hm,i+1,ys++[v],k.push z,al,aV,T.keep _ _ _ aJ fun b a o e=>(aa.2 b (fun q=>aE (q▸a))).trans e,ao,a8,aG,?_,bc⟩;rw[Array.toList_push];exact a0.append (.cons ba .nil)
 have J4:Inv Y [] (capS ow.length ci σ) H {s3 with heap:=h₁}:=by
  rw[<-w];exact j1j (t₁:=s3.toks) S I3 (Nat.le_of_eq l) O P kk ay
 have U:tn 0 h₁:=T.keep _ _ _ st fun b _ o e=>kk b o (k3 b o e)
 have ah:h₁.PlainList D #[]:=⟨_,kk _ _ b4⟩
 have L:=aC _ J4 U ah;subst Q;exact codeAny_compStart_list L (T.self _ 0 _ _ _ U L)
variable{wi:TI}
theorem qN(U:X.calm=true)(S:CompScope X scope ow ci)(Y:GKeeps ow.length g)(hi:PI X tg iter wi)
  (n:∀C c a ex pn,PG (blk X scope ow ci C c a ex pn) tg g/\PF (blk X scope ow ci C c a ex pn) ifs tf/\PE (blk X scope ow ci C c a ex pn) elt te)
  (hs:∀x,foldedSetIterable iter X.env x=pure x:=by intro _;rfl):PE X (.ListComp elt [⟨tg,iter,ifs,0⟩] scope pos) (tComp wi ow.length ci g tf te):=by
 intro d s u H Q I h;rw[eval_ListComp];refine wpAny_comprehension_free (use:=none) rfl hs (Yq (S.cells I.ok)) S.kind S.names (thn (hi d s u H _ I h) fun v s1 N=>thn N fun a0 s2 O=>?_);obtain⟨it,fp,tn,J,H2,e,t,T,r,A,W,w0,f⟩:=O;subst e;refine KI (RR:=fun j C=>compPost (model X.prog X.w) X.A X.xe none (EP X d u Q) j C) U S Y n t T r A (fun i H=>∀p,H p=none->Q (.ref p) (upd H p (.lst i))) W w0 f fun D C s' H' m i K R z Z P l k=>?_
 refine⟨m,Z,fun h' q=>⟨.ref D,upd H' D (.lst i),?_,rfl,z D R⟩⟩;obtain⟨w,y,B,E,L,M⟩:=t.fpOk (H':=upd H' D (.lst i)) P (by rw[jh l];exact k);exact K.turned (t':=s'.toks) (fun b o n e=>(q.2 b n).trans e) w y E L M
theorem YL(hc:X.calm=true)(S:CompScope X scope ow ci)(hk:GKeeps ow.length g)(hN:X.N.Nodup)(A:X.N[i]?=some x)(hx:Loc X.env.scope x)(hi:PI X tg iter wi)
  (t:∀C f c ex pn,PG (blk X scope ow ci C f c ex pn) tg g/\PF (blk X scope ow ci C f c ex pn) ifs tf/\PE (blk X scope ow ci C f c ex pn) elt te)
  (y:swapsWith (.ListComp elt [⟨tg,iter,ifs,0⟩] scope pos) (some (.Name x px)) spos.line X.env=pure true:=by rfl)
  (hf:X.fn x=true\/X.env.scope.names.lookup x=some .local:=by first | exact .inl rfl | exact .inr rfl | assumption)
  (hs:∀x,foldedSetIterable iter X.env x=pure x:=by intro _;rfl):PS X (.Assign [.Name x px] (.ListComp elt [⟨tg,iter,ifs,0⟩] scope pos) spos) (tAsg (tComp wi ow.length ci g tf te) (gName i)):=by
 intro d s O H D I h;rw[exec_Assign_Name_used _ _ _ _ y];refine um (wpAny_standAt (um ?_));show wpAny _ X.A (do let _ <-comprehension (.ListComp elt [⟨tg,iter,ifs,0⟩] scope pos) scope X.env _ (newList []) false (eval iter X.env) (some (assign (.Name x px) X.env))) _ _ s;refine um (wpAny_mono (wpAny_comprehension_free (use:=some (assign (.Name x px) X.env)) (Q:=fun _ j=>SP X d D .next j) rfl hs (Yq (S.cells I.ok)) S.kind S.names
  (thn (hi d s O H _ I h) fun v s1 h1=>thn h1 fun a0 s2 h2=>?_)) (fun _ j hq=>uk (uk hq)) fun _ _ e=>e)
 obtain⟨it,fp,tn,J,H2,e,L,T,B,Y,W,w0,k⟩:=h2;subst e;refine KI (RR:=fun l C=>compPost (model X.prog X.w) X.A X.xe (some (assign (.Name x px) X.env)) (fun _ j=>SP X d D .next j) l C) hc S hk t L T B Y
  (fun E H=>∀p,H p=none->gName i (.ref p) O (upd H p (.lst E)) D.nx) W w0 k fun P C j H' m E K hD z hn hC r n=>?_
 obtain⟨U,M,Z,f3,N,f5⟩:=L.fpOk (H':=upd H' P (.lst E)) hC (by rw[jh r];exact n);show wpAny _ X.A (assign (.Name x px) X.env (.ref P)) _ _ j;refine wpAny_assign_Name (Wx K hN A hx (v:=.ref P) rfl (fun s3 R ⟨a,w,ha⟩=>⟨m,hn.sameBut w ?_,fun h' u=>?_⟩) hf)
 ·rcases ha with q | q
  ·rw[q];exact M
  ·exact fun z=>N x a q z.symm
 ·exact⟨_,_,R.turned (t':=s3.toks) (fun b o t e=>(u.2 b t).trans e) U M f3 N f5,z P hD⟩
theorem yR{lo:Int}{n k:Nat}{ci:List Nat}{g:TG}{q:TT}{o:TE}{r:St}{H:Hp}{Z:Addr->List V->Hp->Prop}(c:Nat->List V->Hp->Prop)(s:c 0 [] H)
  (t:∀i ys H,i<n->c i ys H->g (.int (lo+i)) (capS k ci r) H fun a H2=>q a H2 fun b h=>if b=true then o a h fun v j=>ys.length<sizeLine/\c (i+1) (ys++[v]) j else c (i+1) ys h)
  (hd:∀ys H,c n ys H->ys.length<=sizeLine/\∀p,H p=none->Z p ys H) :
  ∃W:Nat->Nat->List V->Hp->Prop,(∃m,W 0 m [] H)/\∀i m ys H,W i m ys H->
   ((Itr lo n).stop i H/\ys.length<=sizeLine/\∀p,H p=none->Z p ys H)\/
   ((Itr lo n).go i H/\∃N:List V->Hp->Prop,(∀f H',N f H'->∃l,l<m/\W (i+1) l f H')/\∀x H',(Itr lo n).yld i H x H'->g x (capS k ci r) H' fun a H2=>q a H2 fun b h=>
    if b=true then o a h fun v j=>ys.length<sizeLine/\N (ys++[v]) j else N ys h):=by
 refine⟨fun i m ys H=>m=n-i/\i<=n/\c i ys H,⟨n,by simp,va _,s⟩,?_⟩;rintro i m ys H ⟨rfl,w,p⟩;by_cases d:i<n
 ·refine .inr ⟨d,c (i+1),fun f H' u=>⟨n-(i+1),by lia,rfl,d,u⟩,fun x H' y=>?_⟩;obtain⟨e,y⟩:=y;subst e y;exact t i ys _ d p
 ·have e:i=n:=by lia
  subst e;exact .inl ⟨vb _,hd ys H p⟩
theorem qm{K:Frg}{a:Addr}{xs:List V}{k:Nat}{ci:List Nat}{g:TG}{r:TT}{o:TE}{s:St}{H:Hp}{Z:Addr->List V->Hp->Prop}(d:Nat->List V->Hp->Prop)(t:d 0 [] H)(w:∀i ys H,i<=xs.length->d i ys H->SqL K H a xs)
  (z:∀i x ys H,xs[i]?=some x->d i ys H->g x (capS k ci s) H fun c H2=>r c H2 fun b h=>if b=true then o c h fun v l=>ys.length<sizeLine/\d (i+1) (ys++[v]) l else d (i+1) ys h)
  (hd:∀ys H,d xs.length ys H->ys.length<=sizeLine/\∀p,H p=none->Z p ys H) :
  ∃W:Nat->Nat->List V->Hp->Prop,(∃m,W 0 m [] H)/\∀i m ys H,W i m ys H->
   ((Itl K a).stop i H/\ys.length<=sizeLine/\∀p,H p=none->Z p ys H)\/
   ((Itl K a).go i H/\∃N:List V->Hp->Prop,(∀f H',N f H'->∃n,n<m/\W (i+1) n f H')/\∀x H',(Itl K a).yld i H x H'->g x (capS k ci s) H' fun c H2=>r c H2 fun b h=>
    if b=true then o c h fun v l=>ys.length<sizeLine/\N (ys++[v]) l else N ys h):=by
 refine⟨fun i m ys H=>m=xs.length-i/\i<=xs.length/\d i ys H,⟨xs.length,by simp,va _,t⟩,?_⟩;rintro i m ys H ⟨rfl,u,p⟩;have q:=w i ys H u p;by_cases j:i<xs.length
 ·refine .inr ⟨⟨xs,xs[i],q,by simp[j]⟩,d (i+1),fun f H' A=>⟨xs.length-(i+1),by lia,rfl,j,A⟩,fun x H' y=>?_⟩;obtain⟨e,y⟩:=y;subst e;exact z i x ys _ (y xs q) p
 ·have e:i=xs.length:=by lia
  subst e;exact .inl ⟨⟨xs,q,vb _⟩,hd ys H p⟩
end
theorem j13:(10:Nat)^250<2^831:=by decide +kernel
theorem xN(a : -10^250<=x)(b:x<=10^250):Builtin.Int.intBits x<=1048576:=by
 refine vV (PySem.intBits_le_iff.mpr ?_:Builtin.Int.intBits x<=831) (by decide);have:x.natAbs<=10^250:=by lia
 exact vD this j13
theorem mulOk(a : -10^250<=x)(b:x<=10^250)(c : -10^250<=y)(d:y<=10^250):IntMulOk x y:=.of_bits (xN a b) (xN c d)
section
variable{X:Cx}
theorem Jv:OpR X (binaryOp .Mult) (rI IntMulOk fun i j=>.int (i*j)):=opI fun _ _ _ _ _ _ _ a q=>mul_int q a
def CDivB(_ j:Int):Prop:=0<j/\j<=10^250
theorem cdivB(a:0<j)(b:j<=10^250):CDivB i j:=⟨a,b⟩
theorem j2:OpR X (binaryOp .FloorDiv) (rI CDivB fun i j=>.int (i/j)):=opI fun i j _ _ _ _ _ a q=>by
 have b:(0:Int)<j:=a.1;have c:j<=10^250:=a.2;refine floordiv_int (by lia) ?_ (.inl (PyProof.noPylong_of_log2 ?_))
 ·rw[Int.fdiv_eq_ediv_of_nonneg _ (by lia)];exact q
 ·have e:j.natAbs<=10^250:=by lia
  have g:j.natAbs.log2<831:=(Nat.log2_lt (by lia)).mpr (vD e j13);lia
theorem xR:CallR X (.builtin "isinstance") (fun xs H Q=>∃x T t b,xs=[x,.ty T]/\TyOf X.K H x t/\PySem.W.kitOne X.K t (.type T)=some b/\Q (.bl b) H):=by
 intro a s j H xs i Q I r h;obtain⟨x,T,t,b,rfl,ty,e,q⟩:=h;obtain⟨u,f,rfl,d,c⟩:=vals2 r;cases(show f=Value.type T from c);exact j1w I d ty e fun g=>⟨.bl b,H,I.tok _,rfl,q⟩
theorem j27{E:Value->Shared->Prop}{Q:Value->Shared->Prop}(y:A.handled=none)(d:s.heap.IsList l (intItems xs))
  (h:∀h' tk t',(∀b o,s.heap.get? b=some o->h'.get? b=some o)->Q (.int (preSum (numAt xs) xs.size) t') {s with heap:=h',toks:=tk}) :
  wpAny (model prog w) A (call (.builtin "sum") [.ref l]) Q E s:=by
 obtain⟨o,m,B,n,C⟩:=id d;have f:l≠s.heap.objs.size:=vE (vI m);have g:(intItems xs).size=xs.size:=by simp[intItems]
 have W:=(Walks.list (prog:=prog) (w:=w) (A:=A.in1) y s.heap.objs.size l f (intItems xs)).toS;rw[g]at W;refine call_sum_walkAnyS (wpAny_pyIter_list d ?_);refine⟨s.heap.objs.size,_,_,_,_,_,_,numAt xs,rfl,W,⟨⟨_,Heap.get?_push_size _ rfl,rfl,rfl⟩,d.at fun o e=>vJ _ e⟩,fun b a=>?_,fun i v x=>intItems_at x,fun z t' c=>?_⟩
 ·rcases mem_cons.mp a with rfl | a
  ·exact vI (Heap.get?_push_size _ rfl)
  ·obtain rfl:=vo.mp a;exact vI (vJ _ m)
 ·obtain⟨h',u,p,k,j⟩:=z;have q:u=s.gens:=c.gens;have r:p=s.drawn:=c.drawn;have t:j=s.os:=c.os;subst q r t;exact h h' k t' fun b o e=>c.heap b o (fun a=>uh (vI e) ((vo.mp a)▸Nat.lt_irrefl _)) (vJ _ e)
theorem wX(f:X.calm=true):CallR X (.builtin "sum") (fun xs H Q=>∃(p:Addr) (ns:List Int),xs=[.ref p]/\SqL X.K H p (ns.map V.int)/\Q (.int ns.sum) H):=by
 intro e s y H xs w Q I r h;obtain⟨p,ns,rfl,i,q⟩:=h;obtain⟨u,rfl,m⟩:=vals1 r;cases m;obtain⟨a,l,k,o⟩:=I.list i;have c:IntsAre a ns:=intsAre_of l;obtain⟨x,j⟩:=c.allInts.items;have b:numsOf a.toArray.toList=ns:=by rw[show a.toArray.toList=a from rfl,c.numsOf]
 have d:=k.isList;rw[j]at d b;rw[nums_intItems]at b;refine j27 (I.ok.hd f) d fun n v t g=>?_
 rw[preSum_eq,List.take_of_length_le (by simp),b];exact⟨.int ns.sum,H,I.kept g,⟨_,rfl⟩,q⟩
end
end L2
namespace Att
open PySem PySem.W PySem.Calls PyProof.Rows
theorem kR:∀(ns:List Int) (x:Int),x∈ns->Builtin.Int.intBits x<=WData.weightAll (ns.map WData.int)
 | [],_,h=>by cases h
 | n::r,x,h=>by
  show _<=WData.weight (.int n)+1+WData.weightAll (r.map WData.int);rcases mem_cons.mp h with e | h
  ·subst e;have e:Builtin.Int.intBits x=WData.weight (.int x):=by
    unfold Builtin.Int.intBits WData.weight;rfl
   lia
  ·have:=kR r x h;lia
theorem WK{l:OpenLaw}{n:Nat}{q:Program}{c:List Str}{C:(Str->Option Value)->Heap->Prop}{D:World->Heap->Prop}{d:DefRec}
  (R:l.most=some n) (v:d.params.defaults=[])
  (j:∀(w:World) (e b:Shared) (mg A:Str->Option Value) (fa:Addr) (o:Obj) (B t g:Value) (a:Addr) (vs:List Value) (ns:List Int),
   Ground q c [] C w e mg A b.heap->D w b.heap->
   b.heap.get? fa=some o->o.data = .func (docDef d.name d.params d.body d.scope B t g)->b.heap.CodeRec t d.name->mg d.name=some (.ref fa)->
   b.heap.get? a=some {cls:=.type "list",data:=.seq vs.toArray}->IntsAre vs ns->ns.length<=n->(∀x∈ns,Builtin.Int.intBits x<=1048576)->b.gens = #[]->
   codeAny (model l.prog w) callerA (.call (.ref fa) ⟨[.ref a],[]⟩) (fun r s'=>r = .ok (.ret (.bool true))/\OldK b.heap s'.heap/\s'.os=b.os/\AllBare s'.gens) b) :
  WalkO q c C D l.row.toRowW d [] (fun f vs=>PySem.call f vs):=by
 intro w e b mg A G Y fa o B t g J kV S N u H y O E I Z s k U z P;obtain rfl:J = .none:=Dflts.none H v;obtain rfl:kV = .none:=Dflts.noKw H;obtain⟨a,vs,ns,rfl,rfl,p,i,m⟩:=j1Y R s z;have h:∀x∈ns,Builtin.Int.intBits x<=1048576:=by
  have W:(WData.list (ns.map WData.int)).weight<=2^20:=(layableW_iff.mp (layW_cons k).1).2.2;intro x X;exact vV (kR ns x X) W
 refine enter_call (codeAny_mono (j w e b mg A fa o B t g a vs ns G Y S (fd_plain N) u y p i m h O) fun r s' T=>?_);obtain⟨rfl,K,L,M⟩:=T;exact⟨.inl ⟨.bool true,.bool true,[],rfl,fun _=>rfl,.bool true,j1M l _,fun _=>⟨List.Pairwise.nil,fun _ Q=>(nomatch Q)⟩⟩,K,L,M⟩
end Att
namespace L2
open PySem PySem.Spec PyProof.Rows
theorem j3D{l:PySem.W.OpenLaw}{n k:Nat}{q:Program}{i:List Str}{D:(Str->Option Value)->Heap->Prop}{B:World->Heap->Prop}{d:DefRec}{K:Params->Frg}{CX:CXT}{sp:Frg->Sp}{x:Str}
  (Q:l.most=some n) (y:n<=sizeLine) (r:d.params.defaults=[]) (R:Room k callerA)
  (M:∀(w:World) (h:Heap),B w h->(K w.params).In h)
  (F:∀(w:World) (mg:Str->Option Value) (fa:Addr) (h:Heap),(K w.params).In h->h.Ns mainGlobals mg->mg d.name=some (.ref fa)->
   ∃fd:FuncData,(∀(s:Shared) (u:Value),BindsTo s fd ⟨[u],[]⟩ [(x,u)])/\
    ∀base:Heap,(K w.params).In base->base.Ns mainGlobals mg->FnOk l.prog w (K w.params) mg base CX k fa fd [x] (sp (K w.params)))
  (z:∀(K:Frg) (H:Hp) (a:Addr) (ns:List Int),ns.length<=n->(∀x∈ns,Builtin.Int.intBits x<=1048576)->Only H->SqL K H a (ns.map V.int)->sp K [.ref a] H (fun v _=>v = .bl true) fun _ _ _=>False)
  (p:∀(H:Hp) (s:Shared) (e:Value) (s':Shared),CX [] H s (fun _ _ _=>False) e s'->False) :
  PySem.W.WalkO q i D B l.row.toRowW d [] (fun f vs=>PySem.call f vs):=by
 refine Att.WK Q r fun w C m mg W fa o X S E a vs ns G Y U T O t j g b c P=>?_
 have A:=M w _ Y;obtain⟨fd,N,I⟩:=F w mg fa _ A G.T.g t;exact j2E A G.T.g G.T.b G.T.builtins G.T.nolimit P j g (vV b y) R I N (fun H J L=>z _ H a ns b c J L) fun H e s'=>p H m e s'
section
variable{P:Program}{w:World}{K:Frg}{mg:Str->Option Value}{base:Heap}
end
theorem SP.nx{R:St->Hp->Prop}(a:∀σ' H',R σ' H'->D.nx σ' H')(h:SP X pins {D with nx:=R} f s):SP X pins D f s:=by
 cases f with
 | next=>obtain⟨σ',H',I,q⟩:=h;exact⟨σ',H',I,a _ _ q⟩
 | brk=>exact h
 | cont=>exact h
 | ret u=>exact h
def tIfJ(c:TT)(t u:TS):TS:=fun D σ H=>∃R:St->Hp->Prop,(∀σ' H',R σ' H'->D.nx σ' H')/\tIfS c t u {D with nx:=R} σ H
theorem qC(j:PT X c tc)(g:PSs X a t)(i:PSs X b u):PS X (.If c a b pos) (tIfJ tc t u):=by
 intro d s k H D I h;obtain⟨R,e,h⟩:=h;exact thn (j3 j g i d s k H _ I h) fun f l q=>q.nx e
open PySem
theorem Jj:bootBuiltins "len"= some (.builtin "len"):=by decide +kernel
theorem Y4:bootBuiltins "max"= some (.builtin "max"):=by decide +kernel
theorem WM:bootBuiltins "min"= some (.builtin "min"):=by decide +kernel
theorem j2i:bootBuiltins "sum"= some (.builtin "sum"):=by decide +kernel
theorem yF:bootBuiltins "isinstance"= some (.builtin "isinstance"):=by decide +kernel
theorem XX:bootBuiltins "abs"= some (.builtin "abs"):=by decide +kernel
theorem j1k:bootBuiltins "sorted"= some (.builtin "sorted"):=by decide +kernel
theorem j4J:bootBuiltins "int"= some (.type "int"):=by decide +kernel
theorem j3K:bootBuiltins "bool"= some (.type "bool"):=by decide +kernel
theorem j0z:bootBuiltins "list"= some (.type "list"):=by decide +kernel
theorem Yp:bootBuiltins "tuple"= some (.type "tuple"):=by decide +kernel
theorem Zj:bootBuiltins "dict"= some (.type "dict"):=by decide +kernel
theorem WL:bootBuiltins "enumerate"= some (.type "enumerate"):=by decide +kernel
theorem j4K:bootBuiltins "zip"= some (.type "zip"):=by decide +kernel
theorem xO:bootBuiltins "reversed"= some (.type "reversed"):=by decide +kernel
theorem j2C(K:Frg)(t:Value)(h:(t==t)=true):PySem.W.kitOne K t t=some true:=by unfold PySem.W.kitOne;rw[vd h]
theorem j1x(K:Frg)(c:(Value.type a==Value.type b)=false)(d:PySem.W.kitMeta b=true)(e:PySem.W.subIn [] (.type a) (.type b)=some v):PySem.W.kitOne K (.type a) (.type b)=some v:=by
 unfold PySem.W.kitOne;rw[vc (by rw[c];exact vF)];show(if PySem.W.kitMeta b=true then _ else _)=_;rw[vd d];exact e
theorem j1u{K:Frg}:PySem.W.kitOne K (.type "int") (.type "int")=some true:=j2C K _ (by decide +kernel)
theorem X9{K:Frg}:PySem.W.kitOne K (.type "int") (.type "bool")=some false:=j1x K (by decide +kernel) (by decide +kernel) (by decide +kernel)
section
variable{X:Cx}{tg:Expr}
theorem j3l:SlR X (fun x lo hi H Q=>∃z,x = .str z/\z.length<=sizeLine/\Q (.str (Txt.slice z lo hi)) H):=by
 intro b s n H x v p r lo hi o Q I m c g e h;obtain⟨z,rfl,d,q⟩:=h;obtain⟨t,rfl⟩:=m;refine⟨"str",_,F.slot_str_getitem.lookup,typeIs_str _ _ _,?_⟩;have a:∀(lo hi:Option Int),Q (.str (Txt.slice z lo hi)) H->∀f k,EP X b n Q (.str (Txt.slice z lo hi) f) {s with toks:=k}:=fun lo hi q f k=>⟨.str _,H,I.tok _,⟨_,rfl⟩,q⟩
 cases g with
 | none=>
  cases e with
  | none=>exact wpAny_getItem_str_slice (l:=none) (u:=none) (st:=none) c rfl (post_val_or_str ⟨vV (Txt.slice_le z _ _) d,a _ _ q⟩)
  | int j uj=>exact wpAny_getItem_str_slice (l:=none) (u:=some (j,uj)) (st:=none) c rfl (post_val_or_str ⟨vV (Txt.slice_le z _ _) d,a _ _ q⟩)
 | int i ui=>
  cases e with
  | none=>exact wpAny_getItem_str_slice (l:=some (i,ui)) (u:=none) (st:=none) c rfl (post_val_or_str ⟨vV (Txt.slice_le z _ _) d,a _ _ q⟩)
  | int j uj=>exact wpAny_getItem_str_slice (l:=some (i,ui)) (u:=some (j,uj)) (st:=none) c rfl (post_val_or_str ⟨vV (Txt.slice_le z _ _) d,a _ _ q⟩)
theorem rd_str{R:Str->Prop}(h:R z):∃a,V.str z = .str a/\R a:=⟨z,rfl,h⟩
end
section
variable{X:Cx}{K:Frg}
theorem Yy(e:X.K=K):IxR X (rIxL K):=by subst e;exact jv
theorem Kk(e:X.K=K):IxR X (rIxT K):=by subst e;exact jz
theorem wW(e:X.K=K):CallR X (.builtin "len") (fun xs H Q=>∃x n,xs=[x]/\LenV K x H n/\Q (.int n) H):=by subst e;exact jW
theorem yY(e:X.K=K):OpR X (compareOp .In) (rIn K false):=by subst e;exact j1K
end
mutual
inductive DV(H:Hp):V->PyData->Prop
 | non:DV H .non .none
 | bl (b:Bool):DV H (.bl b) (.bool b)
 | int (i:Int):DV H (.int i) (.int i)
 | str (x:Str):DV H (.str x) (.str x)
 | lst {a:Addr} {xs:List V} {ds:List PyData}:H a=some (.lst xs)->DVs H xs ds->DV H (.ref a) (.list ds)
 | tup {a:Addr} {xs:List V} {ds:List PyData}:H a=some (.tup xs)->DVs H xs ds->DV H (.ref a) (.tuple ds)
inductive DVs(H:Hp):List V->List PyData->Prop
 | nil:DVs H [] []
 | cons {x:V} {d:PyData} {xs:List V} {ds:List PyData}:DV H x d->DVs H xs ds->DVs H (x::xs) (d::ds)
end
section
variable{X:Cx}
mutual
theorem zg{p:St}{H:Hp}(I:Inv X pins p H s):∀{v:V} {d:PyData} {u:Value},DV H v d->RelV v u->∃as,Reads s.heap u d as
 | _,_,_,.non,r=>⟨_,by cases r;exact Reads.none⟩
 | _,_,_,.bl b,r=>⟨_,by cases r;exact Reads.bool b⟩
 | _,_,_,.int i,r=>by obtain⟨t,rfl⟩:=r;exact⟨_,Reads.int i t⟩
 | _,_,_,.str x,r=>by obtain⟨t,rfl⟩:=r;exact⟨_,Reads.str x t⟩
 | _,_,_,.lst e q,r=>by
  cases r;obtain⟨_,a,c,g,k⟩:=I.hok _ _ e;obtain⟨as,f⟩:=kf I q g;exact⟨_,reads_list_at k rfl rfl (by simpa using f)⟩
 | _,_,_,.tup e q,r=>by
  cases r;obtain⟨a,g,m,_⟩:=I.tuple (SqT.of e);obtain⟨o,l,h,n,j⟩:=m;obtain⟨as,f⟩:=kf I q g;exact⟨_,reads_tuple_at l h j (by simpa using f)⟩
theorem kf{d:St}{H:Hp}(I:Inv X pins d H s):∀{vs:List V} {ds:List PyData} {us:List Value},DVs H vs ds->Vals vs us->∃as,ReadsAll s.heap us ds as
 | _,_,_,.nil,r=>by cases r;exact⟨_,ReadsAll.nil⟩
 | _,_,_,.cons a q,r=>by
  cases r with
  | cons r1 r2=>
   obtain⟨as,b⟩:=zg I a r1;obtain⟨e,c⟩:=kf I q r2;exact⟨_,ReadsAll.cons b c⟩
end
theorem xq(f:X.A.units+64<cLine):OpR X (compareOp .Eq) (fun x y H Q=>∃d e,DV H x d/\DV H y e/\SeqAt.shaped d=true/\SeqAt.shaped e=true/\Q (.bl (PyData.eqv d e)) H):=by
 intro a s p H x y v u Q I j k h;obtain⟨d,e,b,c,l,m,q⟩:=h;obtain⟨n,g⟩:=zg I b j;obtain⟨o,i⟩:=zg I c k;exact eq_dataH g i l m f ⟨.bl _,H,I,rfl,q⟩
theorem j0d(f:X.A.units+64<cLine):OpR X (compareOp .NotEq) (fun x y H Q=>∃d e,DV H x d/\DV H y e/\SeqAt.shaped d=true/\SeqAt.shaped e=true/\Q (.bl (!PyData.eqv d e)) H):=by
 intro a s p H x y v u Q I j k h;obtain⟨d,e,b,c,l,m,q⟩:=h;obtain⟨n,g⟩:=zg I b j;obtain⟨o,i⟩:=zg I c k;exact ne_dataH g i l m f ⟨.bl _,H,I,rfl,q⟩
theorem Y6(o:X.calm=true):CallR X (.builtin "max") (fun xs H Q=>∃(p:Addr) (ns:List Int),xs=[.ref p]/\SqL X.K H p (ns.map V.int)/\0<ns.length/\∀m∈ns,(∀a∈ns,a<=m)->Q (.int m) H):=by
 intro l s M H xs L Q I r h;obtain⟨p,ns,rfl,z,c,q⟩:=h;obtain⟨u,rfl,D⟩:=vals1 r;cases D;obtain⟨A,C,B,_⟩:=I.list z;have i:=intsAre_of C;have k:=B.isList;obtain⟨xs,e⟩:=i.allInts.items;have b:ns=xs.toList.map (·.1):=by rw[<-i.numsOf,<-nums_intItems,<-e]
 have d:0<xs.size:=by
  have f:=c;rw[b,vt,Array.length_toList]at f;exact f
 rw[e]at k;refine max_intList (I.ok.hd o) k d fun v J E y x=>?_
 obtain⟨t,rfl⟩:=intItems_at y;obtain⟨K,n⟩:=argBest_gt (numAt xs) (xs.size-1);refine⟨.int _,H,I.kept (t':=E) x,⟨_,rfl⟩,q _ ?_ fun a g=>?_⟩
 ·rw[b,numAt_eq];exact getD_mem (by rw[vt,Array.length_toList];lia)
 ·rw[b]at g;obtain⟨j,w,rfl⟩:=mem_getD g;rw[vt,Array.length_toList]at w;rw[<-numAt_eq];exact n j (by lia)
end
section
variable{σ:St}{H:Hp}{Q:VK}
theorem rd_dget(h:td σ H fun x H1=>ty σ H1 fun y H2=>∃a v,x = .ref a/\DGet H2 a y (some v)/\Q v H2):tDGet td ty σ H Q:=h
end
def TabK(K:Frg)(a:Addr)(D:List (Str×PyProof.Rows.KTD.Dat)):Prop:=PyProof.Rows.KTD.tabLook (PyProof.Rows.KTD.datLooks fun b=>K.lookup b) (fun b=>K.lookup b) a D=true
section
variable{X:Cx}
theorem j51:OpR X (compareOp .In) (fun x y H Q=>∃a k D,x = .str k/\y = .ref a/\TabK X.K a D/\Q (.bl (PyProof.Rows.KTD.inKeys k D)) H):=by
 intro b s f H x y v u Q I c d h;obtain⟨a,k,D,rfl,rfl,T,q⟩:=h;obtain⟨t,rfl⟩:=c;cases d;exact PyProof.Rows.KTD.in_text (h₀:=s.heap) ⟨PySem.W.kt_text_in I.kIn T,fun _ _ e=>e⟩ ⟨.bl _,H,I.tok _,rfl,q⟩
end
theorem Yr{K:Frg}{a:Addr}{xs:List V}{k:Nat}{ci:List Nat}{g:TG}{r:TT}{o:TE}{s:St}{H:Hp}{Z:Addr->List V->Hp->Prop}(d:Nat->List V->Hp->Prop)(t:d 0 [] H)(w:∀i ys H,i<=xs.length->d i ys H->SqT K H a xs)
  (z:∀i x ys H,xs[i]?=some x->d i ys H->g x (capS k ci s) H fun c H2=>r c H2 fun b h=>if b=true then o c h fun v l=>ys.length<sizeLine/\d (i+1) (ys++[v]) l else d (i+1) ys h)
  (hd:∀ys H,d xs.length ys H->ys.length<=sizeLine/\∀p,H p=none->Z p ys H) :
  ∃W:Nat->Nat->List V->Hp->Prop,(∃m,W 0 m [] H)/\∀i m ys H,W i m ys H->
   ((Itt K a).stop i H/\ys.length<=sizeLine/\∀p,H p=none->Z p ys H)\/
   ((Itt K a).go i H/\∃N:List V->Hp->Prop,(∀f H',N f H'->∃n,n<m/\W (i+1) n f H')/\∀x H',(Itt K a).yld i H x H'->g x (capS k ci s) H' fun c H2=>r c H2 fun b h=>
    if b=true then o c h fun v l=>ys.length<sizeLine/\N (ys++[v]) l else N ys h):=by
 refine⟨fun i m ys H=>m=xs.length-i/\i<=xs.length/\d i ys H,⟨xs.length,by simp,va _,t⟩,?_⟩;rintro i m ys H ⟨rfl,u,p⟩;have q:=w i ys H u p;by_cases j:i<xs.length
 ·refine .inr ⟨⟨xs,xs[i],q,by simp[j]⟩,d (i+1),fun f H' A=>⟨xs.length-(i+1),by lia,rfl,j,A⟩,fun x H' y=>?_⟩;obtain⟨e,y⟩:=y;subst e;exact z i x ys _ (y xs q) p
 ·have e:i=xs.length:=by lia
  subst e;exact .inl ⟨⟨xs,q,vb _⟩,hd ys H p⟩
theorem rd_iTup{K:Frg}{b:TE}{c:St}{H:Hp}{R:It->Hp->Prop}(h:b c H fun x H1=>∃a,x = .ref a/\(∃xs,SqT K H1 a xs)/\R (Itt K a) H1):iTup K b c H R:=h
theorem QC{K:Frg}{i j:Nat}{a:Addr}{x y:V}{b:St}{H:Hp}{R:St->Hp->Prop}(e:SqT K H a [x,y])(h:gName i x b H fun σ' H'=>gName j y σ' H' R):gTup K 2 (gCons (gName i) (gCons (gName j) gNil)) (.ref a) b H R:=
 ⟨a,[x,y],rfl,e,rfl,x,[y],rfl,y,[],rfl,rfl,h⟩
theorem rd_sub{a:St}{H:Hp}{R:St->Hp->Prop}(h:to a H fun o H1=>ti a H1 fun i H2=>t o i v H2 fun b=>R a b):gSub to ti t v a H R:=h
theorem rd_dnew{a:St}{H:Hp}(h:∀p,H p=none->Q (.ref p) (upd H p (.dK []))):tDNewK a H Q:=h
theorem rd_dput{b:St}{H:Hp}(h:tv b H fun v H1=>td b H1 fun x H2=>ty b H2 fun y d=>∃a c,x = .ref a/\DPut d a y v c/\D.nx b c):sDPut td ty tv D b H:=h
theorem rd_bm0{K:Frg}{T:String}{r:V->List V->Hp->VK->Prop}{a:TE}{b:St}{H:Hp}{Q:VK}(h:a b H fun x H1=>tyV K T x H1/\r x [] H1 Q):tBM0 K T r a b H Q:=h
section
variable{X:Cx}{pins:List (Addr×Obj)}{σ:St}{H:Hp}{s:Shared}{h':Heap}
theorem Inv.turnedL{t':Nat}{ch:List Addr}(I:Inv X pins σ H s)(f:∀b∈ch,FpOk X pins H b)(k:∀b o,b∉ch->s.heap.get? b=some o->h'.get? b=some o):Inv X pins σ H {s with heap:=h',toks:=t'}:=by
 have d:∀b u,H b=some u->b∉ch:=fun b u e z=>by rw[(f b z).1]at e;cases e
 refine I.step (g':=s.gens) (d':=s.drawn) (ch:=ch) (fun b t=>?_) (fun b o _ _ a e _=>k b o a e) (fun b o _ _ a e _=>⟨o.slots,k b o a e⟩) (fun _ _ _ _ n=>n)
  (fun b o a e=>⟨o,k b o a e⟩) (fun _ _ e=>e) (fun _ _ _ e=>e) (fun b y e=>⟨#[],by rw[e];simp⟩) (fun m w=>?_) (fun b u e=>?_) I.bare
 ·obtain⟨_,i,_,j,l,p⟩:=f b t;exact⟨j,i,l,p⟩
 ·obtain⟨o,h,g,x,r⟩:=w;exact⟨o,h,g,k _ o (fun z=>(f _ z).2.1 rfl) x,r⟩
 ·refine(I.hok b u e).stay (fun c v a q=>k c v ?_ q) (fun _ q=>q) fun _ _ q=>q
  rcases a with z | z
  ·rw[z];exact d b u e
  ·exact d c _ z
theorem Inv.pair{t':Nat}{ch:List Addr}{x y:V}{u v:Value}(I:Inv X pins σ H s)(c:∀b∈ch,FpOk X pins H b)(g:∀b∈ch,b<s.heap.objs.size)(h:RelV x u)(i:RelV y v)
  (hT:h'.get? s.heap.objs.size=some {cls:=.type "tuple",data:=.seq #[u,v]}) (k:∀b o,b∉ch->s.heap.get? b=some o->h'.get? b=some o) :
  Inv X pins σ (upd H s.heap.objs.size (.tup [x,y])) {s with heap:=h',toks:=t'}/\∀b∈ch,FpOk X pins (upd H s.heap.objs.size (.tup [x,y])) b:=by
 have f:∀b∈ch,FpOk X pins (upd H s.heap.objs.size (.tup [x,y])) b:=fun b a=>⟨(jh (vE (g b a))).trans (c b a).1,(c b a).2⟩
 have d:Inv X pins σ (upd H s.heap.objs.size (.tup [x,y])) {s with heap:=s.heap.push {cls:=.type "tuple",data:=.seq #[u,v]},toks:=t'}:=
  I.laid (t':=t') (fun b o e=>vJ _ e) (vb _) (show ObjOk X.prog X.w _ _ _ (.tup [x,y])from⟨(by show 2<=sizeLine;decide),[u,v],.cons h (.cons i .nil),IsTup.new _ _⟩)
 refine⟨d.turnedL (h':=h') (t':=t') f fun b o a e=>?_,f⟩;rcases Heap.get?_push_cases e with⟨rfl,rfl⟩ | e
 ·exact hT
 ·exact k b o a e
end
def Ite(K:Frg)(a:Addr):It:=
 ⟨fun i H=>∃xs x,SqL K H a xs/\xs[i]?=some x,fun i H x H'=>∃T v,x = .ref T/\H T=none/\H'=upd H T (.tup [.int i,v])/\∀xs,SqL K H a xs->xs[i]?=some v,fun i H=>∃xs,SqL K H a xs/\xs.length<=i⟩
theorem j29{P:Program}{w:World}{K:Frg}{n:List Expr}{k:Nat}{R:Pos}(a e it:Addr)(t:e≠it) :
  Turn P w K (.Tuple n k R) (Ite K a) [e,it] e (fun i h=>(∃f,IsEnum h e it ((i:Nat):Int) f)/\h.IsListIter it a i) where
 mem:=by simp
 obj:=fun i h j b g=>by
  rcases(by simpa using g:b=e\/b=it)with rfl | rfl
  ·obtain⟨f,l⟩:=j.1;exact⟨_,l,fun v z=>by cases z⟩
  ·obtain⟨o,e,c,d⟩:=j.2;exact⟨o,e,fun v z=>by rw[d]at z;cases z⟩
 keep:=fun i h h' j k=>⟨let ⟨f,l⟩:=j.1;⟨f,k e (by simp) _ l⟩,j.2.at fun o q=>k it (by simp) o q⟩
 item:=by
  intro X D N C U i A s σ H E I L j M;subst D N C;obtain⟨xs,x,B,O⟩:=M;obtain⟨Q,S,p,hz⟩:=I.list B;obtain⟨u,hu,ru⟩:=S.get O;obtain⟨⟨f,l⟩,m⟩:=j;have le:e<s.heap.objs.size:=vI l;have li:it<s.heap.objs.size:=by obtain⟨o,q,_⟩:=id m;exact vI q
  refine wpAny_pyNext_enum_item l m p.isList (x:=u) (by simpa using hu) t fun h' ho r hT a0 hk=>?_
  obtain⟨Y,T⟩:=I.pair (t':=s.toks+1) (ch:=[e,it]) (x:=.int i) (y:=x) L (fun b g=>by rcases(by simpa using g:b=e\/b=it)with rfl | rfl<;>assumption) ⟨s.toks,rfl⟩ ru hT
   (fun b o g q=>hk b o (fun z=>g (by simp[z])) (fun z=>g (by simp[z])) q)
  refine⟨_,rfl,wpAny_letOwnedTupleGo_enum ho fun h2 J W=>?_⟩;have Z:=Y.turnedL (h':=h2) (t':=s.toks+1) (ch:=[e,it]) T fun b o g q=>(W.2 b fun z=>g (by simp[z])).trans q
  exact⟨.ref s.heap.objs.size,_,Z,rfl,⟨_,x,rfl,I.hok.fresh (vb _),rfl,fun ys hy=>by rw[I.list_inj hy B];exact O⟩,
   ⟨⟨u,by simpa using J⟩,r.at fun o q=>(W.2 it t.symm).trans q⟩,fun b g=>(T b g).1⟩
 done:=by
  intro X D N C U i A s σ H E I L j M;subst D N C;obtain⟨xs,B,O⟩:=M;obtain⟨Q,S,p,hz⟩:=I.list B;obtain⟨⟨f,l⟩,m⟩:=j;have hl:=S.length;exact wpAny_pyNext_enum_end (I.ok.hd U) l m p.isList (by simp;lia) fun h' eb=>⟨rfl,I.turnedL (t':=s.toks) (ch:=[e,it]) L fun b o g q=>eb b o (fun z=>g (by simp[z])) q⟩
 self:=fun _ _ _ _ _ j h=>let ⟨_,l⟩:=j.1;wpAny_pyIter_enum l h
def iEnum(K:Frg)(ta:TA):TI:=fun σ H R=>ta σ H fun vs H1=>∃a xs,vs=[.ref a]/\SqL K H1 a xs/\R (Ite K a) H1
theorem Kp{X:Cx}{a:Expr}{n:TA}{f:List Expr}{k:Nat}{p i j:Pos}(v:Gl X "enumerate")(x:X.mg "enumerate"= none)(r:PA X [a] n)(z:starEach [a] X.env=[(false,eval a X.env)]:=by rfl) :
  PI X (.Tuple f k j) (.Call (.Name "enumerate" p) [a] [] i) (iEnum X.K n):=by
 intro g s J H R I h;refine Call_ (Z3 I v x WL (PyProof.Rows.callWith_type1 (thn (r i g s J H _ I h) fun N e ⟨O,o,d,D,C⟩=>?_) z rfl));obtain⟨b,P,rfl,y,q⟩:=C;obtain⟨u,rfl,E⟩:=vals1 D;cases E;obtain⟨B,M,p,L⟩:=d.list y;refine call_enumerate_list p.isList fun K m l A w=>?_
 refine wpAny_pyIter_enum m ?_;refine⟨e.heap.objs.size+1,[e.heap.objs.size+1,e.heap.objs.size],_,_,o,rfl,d.kept (t':=e.toks) w,j29 b _ _ (Nat.succ_ne_self _),⟨⟨_,by simpa using m⟩,l⟩,fun c t=>?_,q⟩;rcases(by simpa using t:c=e.heap.objs.size+1\/c=e.heap.objs.size)with rfl | rfl
 ·exact d.fpOk (Nat.le_succ _) (d.hok.fresh (Nat.le_succ _))
 ·exact d.fpOk (vb _) (d.hok.fresh (vb _))
theorem Yv{K:Frg}{a:Addr}{xs:List V}{g:TG}{l:TS}{D:Ends}{c:St}{H:Hp}(d:Nat->St->Hp->Prop)(n:d 0 c H)(s:∀i c H,i<=xs.length->d i c H->SqL K H a xs)
  (t:∀i v c H T H',xs[i]?=some v->d i c H->Same H H'->H' T=some (.tup [.int i,v])->g (.ref T) c H' fun f H2=>l {D with nx:=d (i+1),ct:=d (i+1),bk:=D.nx} f H2) (hd:∀c H,d xs.length c H->D.nx c H) :
  ∃W:Nat->Nat->St->Hp->Prop,(∃m,W 0 m c H)/\∀i m c H,W i m c H->
   ((Ite K a).stop i H/\D.nx c H)\/((Ite K a).go i H/\∃N:St->Hp->Prop,(∀σ' H',N σ' H'->∃k,k<m/\W (i+1) k σ' H')/\∀x H',(Ite K a).yld i H x H'->g x c H' fun f H2=>l {D with nx:=N,ct:=N,bk:=D.nx} f H2):=by
 refine⟨fun i m c H=>m=xs.length-i/\i<=xs.length/\d i c H,⟨xs.length,by simp,va _,n⟩,?_⟩;rintro i m c H ⟨rfl,r,p⟩;have q:=s i c H r p;by_cases j:i<xs.length
 ·refine .inr ⟨⟨xs,xs[i],q,by simp[j]⟩,d (i+1),fun σ' H' u=>⟨xs.length-(i+1),by lia,rfl,j,u⟩,fun x H' y=>?_⟩;obtain⟨T,v,rfl,hT,e,y⟩:=y;exact t i v c H T H' (y xs q) p (fun b o h=>by rw[e,jh (je h hT)];exact h) (by rw[e];exact jG)
 ·have e:i=xs.length:=by lia
  subst e;exact .inl ⟨⟨xs,q,vb _⟩,hd c H p⟩
theorem rd_iEnum{K:Frg}{b:TA}{c:St}{H:Hp}{R:It->Hp->Prop}(h:b c H fun vs H1=>∃a xs,vs=[.ref a]/\SqL K H1 a xs/\R (Ite K a) H1):iEnum K b c H R:=h
def Itz(K:Frg)(a b:Addr):It:=
 ⟨fun i H=>∃xs x ys y,SqL K H a xs/\xs[i]?=some x/\SqL K H b ys/\ys[i]?=some y,
  fun i H x H'=>∃T u v,x = .ref T/\H T=none/\H'=upd H T (.tup [u,v])/\(∀xs,SqL K H a xs->xs[i]?=some u)/\∀ys,SqL K H b ys->ys[i]?=some v,
  fun i H=>∃xs ys,SqL K H a xs/\SqL K H b ys/\(xs.length<=i\/ys.length<=i)⟩
theorem qR{h:Heap}{a b:Addr}{o u:Obj}(d:h.get? a=some o)(c:h.get? b=some u)(f:o.cls≠u.cls):a≠b:=fun e=>by
 subst e;rw[d]at c;cases c;exact f rfl
theorem j3A{P:Program}{w:World}{K:Frg}{W:List Expr}{k:Nat}{aa:Pos}(t A z TI TO l m:Addr)
  (D:∀t A,t≠z->t≠TO->t≠l->t≠m->A≠z->A≠TO->A≠l->A≠m->ZipApart z TI TO l m t A) :
  Turn P w K (.Tuple W k aa) (Itz K t A) [z,TI,TO,l,m] z (fun i h=>IsZip h z TI TO .none/\IsPair h TI (.ref l) (.ref m)/\(∃a b,IsPair h TO a b)/\h.IsListIter l t i/\h.IsListIter m A i) where
 mem:=by simp
 obj:=fun i h O b j=>by
  obtain⟨n,g,⟨a,c,f⟩,M,N⟩:=O;rcases(by simpa using j:b=z\/b=TI\/b=TO\/b=l\/b=m)with rfl | rfl | rfl | rfl | rfl
  ·exact⟨_,n,fun v z=>by cases z⟩
  ·exact⟨_,g,fun v z=>by cases z⟩
  ·exact⟨_,f,fun v z=>by cases z⟩
  ·obtain⟨o,e,c,d⟩:=M;exact⟨o,e,fun v z=>by rw[d]at z;cases z⟩
  ·obtain⟨o,e,c,d⟩:=N;exact⟨o,e,fun v z=>by rw[d]at z;cases z⟩
 keep:=fun i h h' O k=>by
  obtain⟨n,g,⟨a,c,f⟩,M,N⟩:=O;exact⟨k z (by simp) _ n,k TI (by simp) _ g,⟨a,c,k TO (by simp) _ f⟩,M.at fun o q=>k l (by simp) o q,N.at fun o q=>k m (by simp) o q⟩
 item:=by
  intro X hP hw hK hc i Z s σ H E I hf O hg;subst hP hw hK;obtain⟨xs,x,ys,y,hq,hx,hr,hy⟩:=hg;obtain⟨a8,rv,p,_⟩:=I.list hq;obtain⟨a9,Q,Y,_⟩:=I.list hr;obtain⟨u,hu,ru⟩:=rv.get hx;obtain⟨v,hv,ab⟩:=Q.get hy;obtain⟨n,g,⟨a,c,f⟩,M,N⟩:=O;obtain⟨o1,n1,J,B,_⟩:=id p;obtain⟨o2,n2,L,C,_⟩:=id Y;obtain⟨o3,R,T,_⟩:=id M;obtain⟨o4,S,U,_⟩:=id N;have r:=D t A (qR J n (by rw[B];show Value.type "list"≠Value.type "zip";decide)) (qR J f (by rw[B];show Value.type "list"≠Value.type "tuple";decide)) (qR J R (by rw[B,T];decide)) (qR J S (by rw[B,U];decide))
   (qR L n (by rw[C];show Value.type "list"≠Value.type "zip";decide)) (qR L f (by rw[C];show Value.type "list"≠Value.type "tuple";decide)) (qR L R (by rw[C,T];decide)) (qR L S (by rw[C,U];decide))
  have lt:∀b∈[z,TI,TO,l,m],b<s.heap.objs.size:=fun b j=>by
   rcases(by simpa using j:b=z\/b=TI\/b=TO\/b=l\/b=m)with rfl | rfl | rfl | rfl | rfl
   ·exact vI n
   ·exact vI g
   ·exact vI f
   ·exact vI R
   ·exact vI S
  refine wpAny_pyNext_zip_item r n g f M N p.isList Y.isList (x:=u) (y:=v) (by simpa using hu) (by simpa using hv) fun h' a1 a2 a3 a4 a5 a6 hk=>?_
  obtain⟨I1,f1⟩:=I.pair (t':=s.toks) (ch:=[z,TI,TO,l,m]) (x:=x) (y:=y) hf lt ru ab a5
   (fun b o j q=>hk b o (fun e=>j (by simp[e])) (fun e=>j (by simp[e])) (fun e=>j (by simp[e])) (fun e=>j (by simp[e])) q)
  refine⟨_,rfl,wpAny_letOwnedTupleGo_zip a1 fun h3 a7 sb=>?_⟩;have I2:=I1.turnedL (h':=h3) (t':=s.toks) (ch:=[z,TI,TO,l,m]) f1 fun b o j q=>(sb.2 b fun e=>j (by simp[e])).trans q
  exact⟨.ref s.heap.objs.size,_,I2,rfl,⟨_,x,y,rfl,I.hok.fresh (vb _),rfl,(fun ys hy=>by rw[I.list_inj hy hq];exact hx),fun ys a0=>by rw[I.list_inj a0 hr];exact hy⟩,
   ⟨a7,(sb.2 TI r.TIz).trans (hk TI _ r.TIz r.TITO r.TIi1 r.TIi2 g),⟨_,_,(sb.2 TO r.TOz).trans a2⟩,a3.at fun o q=>(sb.2 l r.i1z).trans q,a4.at fun o q=>(sb.2 m r.i2z).trans q⟩,fun b j=>(f1 b j).1⟩
 done:=by
  intro X hP hw hK hc i Z s σ H E I hf O hg;subst hP hw hK;obtain⟨xs,ys,hq,hr,hl⟩:=hg;obtain⟨a8,rv,p,_⟩:=I.list hq;obtain⟨a9,Q,Y,_⟩:=I.list hr;obtain⟨n,g,⟨a,c,f⟩,M,N⟩:=O;obtain⟨o1,n1,J,B,_⟩:=id p;obtain⟨o2,n2,L,C,_⟩:=id Y;obtain⟨o3,R,T,_⟩:=id M;obtain⟨o4,S,U,_⟩:=id N;have r:=D t A (qR J n (by rw[B];show Value.type "list"≠Value.type "zip";decide)) (qR J f (by rw[B];show Value.type "list"≠Value.type "tuple";decide)) (qR J R (by rw[B,T];decide)) (qR J S (by rw[B,U];decide))
   (qR L n (by rw[C];show Value.type "list"≠Value.type "zip";decide)) (qR L f (by rw[C];show Value.type "list"≠Value.type "tuple";decide)) (qR L R (by rw[C,T];decide)) (qR L S (by rw[C,U];decide))
  have ac:=rv.length;have ad:=Q.length;refine wpAny_pyNext_zip_end (I.ok.hd hc) r n g f M N p.isList Y.isList ?_ fun h' hk=>⟨rfl,I.turnedL (t':=s.toks) (ch:=[z,TI,TO,l,m]) hf fun b o j q=>hk b o (fun e=>j (by simp[e])) (fun e=>j (by simp[e])) (fun e=>j (by simp[e])) (fun e=>j (by simp[e])) q⟩
  rcases hl with q | q
  ·exact .inl (by simp;lia)
  ·exact .inr (by simp;lia)
 self:=fun _ _ _ _ _ O h=>wpAny_pyIter_zip O.1 h
theorem zO{n i j:Nat}(h:i≠j):n+i≠n+j:=fun e=>h (Nat.add_left_cancel e)
def iZip(K:Frg)(ta:TA):TI:=fun σ H R=>ta σ H fun vs H1=>∃a b xs ys,vs=[.ref a,.ref b]/\SqL K H1 a xs/\SqL K H1 b ys/\R (Itz K a b) H1
theorem j33{X:Cx}{a b:Expr}{w:TA}{f:List Expr}{k:Nat}{p n o:Pos}(Q:Gl X "zip")(T:X.mg "zip"= none)(O:PA X [a,b] w)(Y:starEach [a,b] X.env=[(false,eval a X.env),(false,eval b X.env)]:=by rfl)(l:starEach [b] X.env=[(false,eval b X.env)]:=by rfl) :
  PI X (.Tuple f k o) (.Call (.Name "zip" p) [a,b] [] n) (iZip X.K w):=by
 intro m s σ H R I h;refine Call_ (Z3 I Q T j4K (PyProof.Rows.callWith_type1 (thn (O n m s σ H _ I h) fun us d ⟨vs,x,e,r1,q1⟩=>?_) (by rw[Y,l]) (by rw[l];rfl)));obtain⟨u,v,xs,ys,rfl,U,W,q⟩:=q1;cases r1 with
 | cons r rr=>
  cases rr with
  | cons r' rr=>
   cases rr;cases r;cases r';obtain⟨a0,rv,p,hz⟩:=e.list U;obtain⟨a7,a8,p',Z⟩:=e.list W;refine call_zip_2 p.isList p'.isList fun h' t y z A B a6 S=>?_
   refine wpAny_pyIter_zip t ?_;refine⟨d.heap.objs.size+4,[d.heap.objs.size+4,d.heap.objs.size+2,d.heap.objs.size+3,d.heap.objs.size,d.heap.objs.size+1],_,_,x,rfl,e.kept (t':=d.toks) S,
    j3A u v _ _ _ _ _ (fun u v C D E J K L M N=>⟨zO (by decide),zO (by decide),zO (i:=0) (by decide),zO (by decide),zO (by decide),zO (j:=0) (by decide),zO (by decide),zO (j:=0) (by decide),zO (by decide),zO (i:=0) (by decide),C,D,E,J,K,L,M,N⟩),⟨t,y,⟨_,_,z⟩,A,B⟩,fun c P=>?_,q⟩
   have g:d.heap.objs.size<=c:=by
    rcases(by simpa using P:c=d.heap.objs.size+4\/c=d.heap.objs.size+2\/c=d.heap.objs.size+3\/c=d.heap.objs.size\/c=d.heap.objs.size+1)with rfl | rfl | rfl | rfl | rfl<;>lia
   exact e.fpOk g (e.hok.fresh g)
theorem j40{K:Frg}{a b:Addr}{xs ys:List V}{g:TG}{r:TS}{D:Ends}{c:St}{H:Hp}(d:Nat->St->Hp->Prop)(l:xs.length=ys.length)(s:d 0 c H)(w:∀i c H,i<=xs.length->d i c H->SqL K H a xs/\SqL K H b ys)
  (z:∀i u v c H T H',xs[i]?=some u->ys[i]?=some v->d i c H->Same H H'->H' T=some (.tup [u,v])->g (.ref T) c H' fun f H2=>r {D with nx:=d (i+1),ct:=d (i+1),bk:=D.nx} f H2) (hd:∀c H,d xs.length c H->D.nx c H) :
  ∃W:Nat->Nat->St->Hp->Prop,(∃m,W 0 m c H)/\∀i m c H,W i m c H->
   ((Itz K a b).stop i H/\D.nx c H)\/((Itz K a b).go i H/\∃N:St->Hp->Prop,(∀σ' H',N σ' H'->∃n,n<m/\W (i+1) n σ' H')/\∀x H',(Itz K a b).yld i H x H'->g x c H' fun f H2=>r {D with nx:=N,ct:=N,bk:=D.nx} f H2):=by
 refine⟨fun i m c H=>m=xs.length-i/\i<=xs.length/\d i c H,⟨xs.length,by simp,va _,s⟩,?_⟩;rintro i m c H ⟨rfl,t,p⟩;obtain⟨q,k⟩:=w i c H t p;by_cases j:i<xs.length
 ·refine .inr ⟨⟨xs,xs[i],ys,ys[i],q,by simp[j],k,by simp⟩,d (i+1),fun σ' H' A=>⟨xs.length-(i+1),by lia,rfl,j,A⟩,fun x H' y=>?_⟩;obtain⟨T,u,v,rfl,hT,e,y,B⟩:=y;exact z i u v c H T H' (y xs q) (B ys k) p (fun b o h=>by rw[e,jh (je h hT)];exact h) (by rw[e];exact jG)
 ·have e:i=xs.length:=by lia
  subst e;exact .inl ⟨⟨xs,ys,q,k,.inl (vb _)⟩,hd c H p⟩
theorem rd_iZip{K:Frg}{c:TA}{d:St}{H:Hp}{R:It->Hp->Prop}(h:c d H fun vs H1=>∃a b xs ys,vs=[.ref a,.ref b]/\SqL K H1 a xs/\SqL K H1 b ys/\R (Itz K a b) H1):iZip K c d H R:=h
theorem Wc:entryFor table "dict.update.loop"= some Builtin.«dict.update.loop»:=entryFor_of_tree (by kernel_rfl)
theorem zd:plainId "dict.update.loop"= true:=by decide +kernel
theorem j1E:typeLookup (.type "list") "keys"= pure none:=by rw[typeLookup_type,builtinLookup_eq_fast];kernel_rfl
section
variable{prog:Program}{w:World}{A:Around}{E:Value->Shared->Prop}{s:Shared}
theorem noKeys{Q:Option Value->Shared->Prop}(m:s.heap.get? a=some o)(l:o.cls = .type "list")(f:o.data = .seq xs k)(hd:o.dict=none)(q:A.handled=none)
  (h:∀h' tk,(∀b o,s.heap.get? b=some o->h'.get? b=some o)->Q none {s with heap:=h',toks:=tk}):wpAny (model prog w) A (getAttr? (.ref a) "keys") Q E s:=by
 obtain⟨c,p,n,u⟩:=o;simp only at l f hd;subst l f hd;obtain⟨r,g,d,tk,t⟩:=s;have hT:∀j,(⟨r,g,d,j,t⟩:Shared).TypeIs (.ref a) "list":=fun _=>⟨_,m,rfl⟩
 have v:=sub_AttributeError;have x:=F.slot_list_getattribute.lookup;have y:=F.slot_list_getattribute.bind (.ref a);have z:=am_list_getattr_none;unfold getAttr? getAttrBy? getAttrBy
 repeat (any_goals (first | assumption | exact hT _ | ((with_reducible show wpAny _ _ (call (Value.builtin "list.__getattribute__") _ _) _ _ _);refine call_meets F.slot_list_getattribute (hT _) am_entry_list_getattribute (F.args_list_getattribute_2 _ _) (meets_getattribute_miss_list a xs k u "keys" _ j1E (by decide +kernel) (by decide +kernel)) ⟨m,q,fun h' j e i=>?_⟩) | wp_step))
 obtain⟨C,D,B⟩:=i.there;show wpAny _ _ (getattributeRaised _ _ _ _ _ _ _) _ _ _;unfold getattributeRaised
 repeat (any_goals (first | assumption | wp_step))
 exact h _ _ i.keeps
variable{K:Type}[DecidableEq K]{knd:KeyKind prog w K}
noncomputable def foldS(acc:List (K×Value))(ps:List (K×Value)):List (K×Value):=ps.foldl (fun acc kv=>stored acc kv.1 kv.2) acc
theorem j0q(acc:List (K×Value))(k:K)(v:Value):(stored acc k v).length<=acc.length+1:=by
 unfold stored;split
 ·rw[vt];exact Nat.le_succ _
 ·rw[vn];exact vb _
theorem dul{R:Result->Shared->Prop}{d it l:Addr}{items:List Value}{res:Value}(O:A.handled=none)(g:d≠it)(p:d≠l)(q:it≠l) :
  ∀(ps:List (K×Value)) (i:Nat) (acc:List (K×Value)) (s:Shared),s.heap.IsListIter it l i->s.heap.IsList l items.toArray->(items.length=i+ps.length)->
   (∀j kv,ps[j]?=some kv->∃a key,items[i+j]?=some (.ref a)/\IsTup s.heap a #[key,kv.2]/\knd.is kv.1 key=true/\a≠d/\a≠it)->s.heap.DictOf knd d acc->acc.length+ps.length<=sizeLine->
   (∀h' tk,(∀b o,b≠d->b≠it->s.heap.get? b=some o->h'.get? b=some o)->h'.DictOf knd d (foldS acc ps)->R (.ok (.ret res)) {s with heap:=h',toks:=tk})->
   codeAny (model prog w) A (.builtin "dict.update.loop" ⟨[.ref d,.ref it,rawInt i,res],[]⟩) R s
 | [],i,acc,s,hit,hl,hn,hp,hd,hz,hR=>by
  refine codeAny_builtin Wc ?_;rw[Around.under_plainId zd _];show wpAny _ A.in1 (pyNext (.ref it) >>= _) _ _ s;refine um (wpAny_pyNext_list_end (A:=A.in1) O hit hl (by simp;simp at hn;lia) fun h' N=>?_);show wpAny _ A.in1 (Builtin.Dict.addKeywords d [] >>= _) _ _ _;refine um (uk (uk (hR h' s.toks (fun b o _ B e=>N b o B e) ?_)));exact hd.extBut N g
 | kv::ps,i,acc,s,hit,hl,hn,hp,hd,hz,hR=>by
  obtain⟨a,key,X,ht,hk,Y,z⟩:=hp 0 kv rfl;refine codeAny_builtin Wc ?_;rw[Around.under_plainId zd _];show wpAny _ A.in1 (pyNext (.ref it) >>= _) _ _ s;refine um (wpAny_pyNext_list_item (A:=A.in1) hit hl (x:=.ref a) (by simpa using X) fun v r M=>?_);obtain⟨ot,S,oc,n,od⟩:=ht;have m:v.get? a=some ot:=(M.2 a z).trans S;show wpAny _ A.in1 (holding [Value.ref a] _ >>= _) _ _ _;refine um (wpAny_holding ?_);refine um (wpAny_tryCatch ?_);unfold Builtin.Dict.pairItems;refine um (wpAny_typeOf (T:="tuple") ⟨_,m,oc⟩ ?_);show wpAny _ A.in1 (if((Value.type "tuple"== Value.type "list")||(Value.type "tuple"== Value.type "tuple"))=true then _ else _) _ _ _;rw[vd (by decide)];refine um (wpAny_seqItems m od ?_);refine uk ?_;show wpAny _ A.in1 (holding [key,kv.2] (dictSet d key kv.2)) _ _ _;have C:v.DictOf knd d acc:=hd.extBut (fun b o B e=>(M.2 b B).trans e) g;refine wpAny_holding (wpAny_dictSet_pairs (s:={s with heap:=v}) hk C (fun U D u=>?_) (by simp at hz;lia));show wpAny _ A.in1 (again _) _ _ _;refine uk ⟨plainId_quiet zd _,?_⟩;have J:∀b o,b≠d->b≠it->s.heap.get? b=some o->U.get? b=some o:=fun b o c f e=>(u.2 b c).trans ((M.2 b f).trans e)
  have sl:=j0q acc kv.1 kv.2;refine dul O g p q ps (i+1) (stored acc kv.1 kv.2) _ (r.at fun o e=>(u.2 it g.symm).trans e) (hl.at fun o e=>J l o p.symm q.symm e) (by simp at hn;lia) (fun j L Z=>?_) D (by simp at hz;lia) fun W tk k3 E=>?_
  ·obtain⟨P,t,y,I,H,h,k⟩:=hp (j+1) L (by simpa using Z);obtain⟨o',Q,r'⟩:=I;exact⟨P,t,by rw[<-y];congr 1;lia,⟨o',J _ _ h k Q,r'⟩,H,h,k⟩
  ·exact hR W tk (fun b o c f e=>k3 b o c f (J b o c f e)) E
end
open PySem PySem.W PyProof.Rows
section
variable{n:Nat}{key:Nat->Int}{p:Array Nat}
noncomputable def Tw(n:Nat)(key:Nat->Int){α:Type}:KasT α->(α->Prop)->Prop
 | .ret a,Q=>Q a
 | .ask i j k,Q=>i<n/\j<n/\Tw n key (k (decide (key i<key j))) Q
theorem Tw.bind{b c:Type}{f:b->KasT c}{Q:c->Prop}:∀{t:KasT b},Tw n key t (fun a=>Tw n key (f a) Q)->Tw n key (t.bind f) Q
 | .ret _,h=>h
 | .ask _ _ _,h=>⟨h.1,h.2.1,Tw.bind h.2.2⟩
theorem Tw.mono{d:Type}{Q b:d->Prop}(c:∀a,Q a->b a):∀{t:KasT d},Tw n key t Q->Tw n key t b
 | .ret _,h=>c _ h
 | .ask _ _ _,h=>⟨h.1,h.2.1,Tw.mono c h.2.2⟩
theorem Tw.run{d:Type}{b:Nat->Nat->(Bool->Shared->Prop)->Shared->Prop}{Q:d->Shared->Prop}(c:∀i j C,i<n->j<n->C (decide (key i<key j)) s->b i j C s) :
  ∀{t:KasT d},Tw n key t (fun a=>Q a s)->t.kasWp b Q s
 | .ret _,h=>h
 | .ask i j k,h=>c i j _ h.1 h.2.1 (Tw.run c h.2.2)
theorem Tw.asks{a:Type}{k:Bool->KasT a}{Q:a->Prop}(hi:i<n)(e:j<n)(b:key i<key j->Tw n key (k true) Q)(d:¬key i<key j->Tw n key (k false) Q):Tw n key (.ask i j k) Q:=by
 refine⟨hi,e,?_⟩;by_cases c:key i<key j
 ·rw[vG c];exact b c
 ·rw[vH c];exact d c
def Pk(n:Nat)(p:Array Nat):Prop:=p.toList.Perm (List.range n)
noncomputable def kv(key:Nat->Int)(p:Array Nat)(i:Nat):Int:=key (p.getD i 0)
def Up(key:Nat->Int)(p:Array Nat)(k:Nat):Prop:=∀i j,i<=j->j<k->kv key p i<=kv key p j
def Dn(key:Nat->Int)(p:Array Nat)(k:Nat):Prop:=∀i j,i<=j->j<k->kv key p j<=kv key p i
def Eqs(key:Nat->Int)(p:Array Nat)(m q:Nat):Prop:=∀k,m-(q+1)<=k->k<m->kv key p k=kv key p (m-1)
theorem Pk.size(h:Pk n p):p.size=n:=by have:=h.length_eq;simpa using this
theorem Pk.lt(h:Pk n p)(a:0<n)(i:Nat):p.getD i 0<n:=by
 rw[Array.getD_eq_getD_getElem?];cases e:p[i]? with
 | none=>exact a
 | some x=>exact v2.mp (h.mem_iff.mp (Array.mem_toList_iff.mpr (Array.mem_of_getElem? e)))
theorem Pk.of(h:Pk n p)(a:q.Perm p):Pk n q:=(Array.perm_iff_toList_perm.mp a).trans h
theorem Xm(h:a[i]?=b[j]?):kv key a i=kv key b j:=by
 unfold kv;rw[Array.getD_eq_getD_getElem?,Array.getD_eq_getD_getElem?,h]
theorem j01(a:j<=p.size)(k:Nat):kv key (kas_rev p i j) k=if i<=k/\k<j then kv key p (i+j-1-k)else kv key p k:=by
 have h:=getElem?_mirror_all (xs:=p) (i:=i) a k;split
 ·rename_i c;rw[vd c]at h;exact Xm h
 ·rename_i c;rw[vc c]at h;exact Xm h
theorem j4U(a:src<p.size)(hd:d<=src)(k:Nat):kv key (bubble p src d) k=if k=src-d then kv key p src else if src-d<k/\k<=src then kv key p (k-1)else kv key p k:=by
 have h:=getElem?_bubble (xs:=p) a d hd k;split
 ·rename_i c;rw[vd c]at h;exact Xm h
 ·rename_i c;rw[vc c]at h;split
  ·rename_i c';rw[vd c']at h;exact Xm h
  ·rename_i c';rw[vc c']at h;exact Xm h
theorem Up.snoc(h:Up key p m)(d:1<=m)(f:¬kv key p m<kv key p (m-1)):Up key p (m+1):=fun i j a g=>by
 by_cases e:j<m
 ·exact h i j a e
 ·have c:j=m:=by lia
  subst c;by_cases b:i=j
  ·rw[b];exact vA _
  ·have:=h i (j-1) (by lia) (by lia);lia
theorem Dn.snoc(h:Dn key p m)(d:1<=m)(f:kv key p m<=kv key p (m-1)):Dn key p (m+1):=fun i j a g=>by
 by_cases e:j<m
 ·exact h i j a e
 ·have c:j=m:=by lia
  subst c;by_cases b:i=j
  ·rw[b];exact vA _
  ·have:=h i (j-1) (by lia) (by lia);lia
theorem j3u(a:Pk n p):∀f m,1<=m->m+f<=n->Up key p m->Tw n key (kas_asc p f m) fun r=>m<=r/\r<=m+f/\Up key p r/\(r<m+f->kv key p r<kv key p (r-1))
 | 0,m,h1,hn,hu=>⟨vb _,vb _,hu,fun h=>uh h (Nat.lt_irrefl _)⟩
 | f+1,m,h1,hn,hu=>by
  refine Tw.asks (a.lt (by lia) _) (a.lt (by lia) _) (fun c=>?_) (fun c=>?_)<;>simp only[Bool.false_eq_true,if_true,if_false]
  ·exact⟨vb _,by lia,hu,fun _=>c⟩
  ·exact Tw.mono (fun r h=>⟨by lia,by lia,h.2.2.1,fun b=>h.2.2.2 (by lia)⟩) (j3u a f (m+1) (by lia) (by lia) (hu.snoc h1 c))
theorem j0R(b:m<=p.size)(a:Eqs key p m q)(k:Nat):kv key (kas_rev p (m-(q+1)) m) k=kv key p k:=by
 rw[j01 b];split
 ·rename_i c;rw[a k c.1 c.2,a _ (by lia) (by lia)]
 ·rfl
theorem xH:∀f (p:Array Nat) m q,Pk n p->1<=m->m+f<=n->q+1<=m->Dn key p m->Eqs key p m q->
  Tw n key (kas_desc f p m q) fun r=>Pk n r.1/\m<=r.2.1/\r.2.1<=m+f/\Dn key r.1 r.2.1/\r.2.2+1<=r.2.1/\Eqs key r.1 r.2.1 r.2.2
 | 0,p,m,q,hp,h1,hn,hq,hd,he=>⟨hp,vb _,vb _,hd,hq,he⟩
 | f+1,p,m,q,hp,h1,hn,hq,hd,he=>by
  have t:=hp.size;refine Tw.asks (hp.lt (by lia) _) (hp.lt (by lia) _) (fun c=>?_) (fun c=>?_)<;>simp only[Bool.false_eq_true,if_true,if_false]
  ·have c:kv key p m<kv key p (m-1):=c;split
   ·have g:=j0R (key:=key) (p:=p) (m:=m) (q:=q) (by lia) he;have d:Pk n (kas_rev p (m-(q+1)) m):=hp.of (mirror_perm _ _ _ _);refine Tw.mono (fun r h=>⟨h.1,by lia,by lia,h.2.2.2⟩) (xH f _ (m+1) 0 d (by lia) (by lia) (by lia) (fun i j b s=>?_) fun k l o=>?_)
    ·rw[g,g];exact hd.snoc h1 (by lia) i j b s
    ·rw[show k=m+1-1 by lia]
   ·refine Tw.mono (fun r h=>⟨h.1,by lia,by lia,h.2.2.2⟩) (xH f p (m+1) 0 hp (by lia) (by lia) (by lia) (hd.snoc h1 (by lia)) fun k l o=>?_);rw[show k=m+1-1 by lia]
  ·have c:¬kv key p m<kv key p (m-1):=c;refine Tw.asks (hp.lt (by lia) _) (hp.lt (by lia) _) (fun a=>?_) (fun a=>?_)<;>simp only[Bool.false_eq_true,if_true,if_false]
   ·exact⟨hp,vb _,Nat.le_add_right m (f+1),hd,hq,he⟩
   ·have a:¬kv key p (m-1)<kv key p m:=a;refine Tw.mono (fun r h=>⟨h.1,by lia,by lia,h.2.2.2⟩) (xH f p (m+1) (q+1) hp (by lia) (by lia) (by lia) (hd.snoc h1 (by lia)) fun k l o=>?_);rw[Nat.add_sub_cancel];by_cases e:k=m
    ·rw[e]
    ·rw[he k (by lia) (by lia)];lia
theorem j3w(c:Pk n p)(d:1<=m)(g:m<=n)(hd:Dn key p m):Tw n key (kas_tail3 m n p) fun r=>Pk n r.2/\1<=r.1/\r.1<=n/\Up key r.2 r.1:=by
 have k:=c.size;have a:Pk n (kas_rev p 0 m):=c.of (mirror_perm _ _ _ _);have b:=j01 (key:=key) (p:=p) (i:=0) (j:=m) (by lia);refine Tw.bind (Tw.mono (fun r h=>?_) (j3u a (n-m) m d (by lia) fun i j e f=>?_))
 ·exact⟨a,by lia,by lia,h.2.2.1⟩
 ·rw[b,b,vd ⟨va _,by lia⟩,vd ⟨va _,f⟩];exact hd _ _ (by lia) (by lia)
theorem j3v(s:Pk n p)(t:m+1<=n)(hd:Dn key p (m+1)):Tw n key (kas_descPart m n p) fun r=>Pk n r.2/\1<=r.1/\r.1<=n/\Up key r.2 r.1:=by
 refine Tw.bind (Tw.mono (fun r h=>?_) (xH (n-(m+1)) p (m+1) 0 s (by lia) (by lia) (by lia) hd fun k u v=>by rw[show k=m+1-1 by lia]));obtain⟨a,b,c,d,e,g⟩:=h;have w:=a.size;split
 ·have l:=j0R (key:=key) (p:=r.1) (m:=r.2.1) (q:=r.2.2) (by lia) g;exact j3w (a.of (mirror_perm _ _ _ _)) (by lia) (by lia) fun i j f o=>by rw[l,l];exact d i j f o
 ·exact j3w a (by lia) (by lia) d
theorem j4p(g:Pk n p)(t:1<=n):Tw n key (kas_count n p) fun r=>Pk n r.2/\1<=r.1/\r.1<=n/\Up key r.2 r.1:=by
 have y:=g.size;refine Tw.bind (Tw.mono (fun r h=>?_) (j3u (key:=key) g (n-1) 1 (by lia) (by lia) fun i j l m=>by rw[show i=j by lia];exact vA _));obtain⟨a,b,c,d⟩:=h;split
 ·exact⟨g,a,by lia,c⟩
 rename_i hne;have w:r<n:=by
  have:r≠n:=fun e=>hne (by rw[e];simp)
  lia
 have d:=d (by lia);split
 ·refine Tw.asks (g.lt (by lia) _) (g.lt (by lia) _) (fun q=>?_) (fun q=>?_)<;>simp only[Bool.false_eq_true,if_true,if_false]
  ·exact⟨g,a,by lia,c⟩
  ·have q:¬kv key p 0<kv key p (r-1):=q;have v:=j01 (key:=key) (p:=p) (i:=0) (j:=r) (by lia);have f:∀i,i<r->kv key p i=kv key p (r-1):=fun i u=>by
    have t:=c 0 i (va _) u;have x:=c i (r-1) (by lia) (by lia);lia
   have k:∀i,kv key (kas_rev p 0 r) i=kv key p i:=fun i=>by
    rw[v];split
    ·rename_i q';rw[f _ q'.2,f _ (by lia)]
    ·rfl
   refine j3v (g.of (mirror_perm _ _ _ _)) (by lia) fun i j l m=>?_
   rw[k,k];by_cases e:j=r
   ·by_cases o:i=r
    ·rw[e,o];exact vA _
    ·rw[e,f i (by lia)];lia
   ·rw[f i (by lia),f j (by lia)];exact vA _
 ·have s:r=1:=by lia
  subst s;refine j3v g (by lia) fun i j l m=>?_
  rcases(by lia:(i=0/\j=0)\/(i=0/\j=1)\/(i=1/\j=1))with⟨rfl,rfl⟩ | ⟨rfl,rfl⟩ | ⟨rfl,rfl⟩
  ·exact vA _
  ·have:kv key p 1<kv key p (1-1):=d;exact Int.le_of_lt this
  ·exact vA _
theorem xI(e:Pk n p)(c:k<n)(g:Up key p k):∀f l r,l<=r->r<=k->r-l<=f->(∀i,i<l->kv key p i<=kv key p k)->(∀i,r<=i->i<k->kv key p k<kv key p i)->
  Tw n key (kas_place p k f l r) fun m=>m<=k/\(∀i,i<m->kv key p i<=kv key p k)/\∀i,m<=i->i<k->kv key p k<kv key p i
 | 0,l,r,h1,h2,h3,a,b=>⟨by lia,a,fun i d=>b i (by lia)⟩
 | f+1,l,r,h1,h2,h3,a,b=>by
  unfold kas_place;split
  ·exact⟨by lia,a,fun i d=>b i (by lia)⟩
  refine Tw.asks (e.lt (by lia) _) (e.lt (by lia) _) (fun q=>?_) (fun q=>?_)<;>simp only[Bool.false_eq_true,if_true,if_false]
  ·have q:kv key p k<kv key p ((l+r)/2):=q;exact xI e c g f l _ (by lia) (by lia) (by lia) a fun i d h=>by
    have:=g ((l+r)/2) i d h;lia
  ·have q:¬kv key p k<kv key p ((l+r)/2):=q;exact xI e c g f _ r (by lia) h2 (by lia) (fun i d=>by
    have:=g i ((l+r)/2) (by lia) (by lia);lia) b
theorem j4z:∀f (p:Array Nat) k,Pk n p->k+f<=n->Up key p k->Tw n key (kas_bin f p k) fun q=>Pk n q/\Up key q (k+f)
 | 0,p,k,hp,hn,hu=>⟨hp,hu⟩
 | f+1,p,k,hp,hn,hu=>by
  have t:=hp.size;refine Tw.bind (Tw.mono (fun l h=>?_) (xI hp (by lia) hu k 0 k (va _) (vb _) (by lia) (fun i o=>uh o (Nat.not_lt_zero _)) fun i e m=>uh e (by lia)));obtain⟨a,b,c⟩:=h;have g:=j4U (key:=key) (p:=p) (src:=k) (d:=k-l) (by lia) (by lia);refine Tw.mono (fun q h=>⟨h.1,by rw[show k+(f+1)=k+1+f by lia];exact h.2⟩) (j4z f _ (k+1) (hp.of (bubble_perm _ _ _)) (by lia) fun i j r s=>?_);rw[g,g,show k-(k-l)=l by lia]
  repeat' split
  all_goals first
   | exact vA _
   | (exfalso;lia)
   | exact Int.le_of_lt (c _ (by lia) (by lia))
   | exact b _ (by lia)
   | exact hu _ _ (by lia) (by lia)
   | (have e:=b i (by lia);have m:=c (j-1) (by lia) (by lia);lia)
theorem j5f(f:1<=n):Tw n key (kas_sort n) fun q=>Pk n q/\Up key q n:=by
 have g:Pk n (List.toArray (List.range n)):=List.Perm.refl _;refine Tw.bind (Tw.mono (fun r h=>?_) (j4p (key:=key) g f));obtain⟨a,b,c,d⟩:=h;split
 ·refine Tw.mono (fun q h=>⟨h.1,?_⟩) (j4z (n-max r.1 1) r.2 (max r.1 1) a (by lia) (by rw[show max r.1 1=r.1 by lia];exact d));have e:max r.1 1+(n-max r.1 1)=n:=by lia
  rw[e]at h;exact h.2
 ·have e:r.1=n:=by lia
  exact⟨a,by rw[<-e];exact d⟩
end
section
variable{prog:Program}{w:World}{A:Around}{E:Value->Shared->Prop}{s:Shared}
def PrAt(h:Heap)(as:List Addr)(key:Nat->Int):Prop:=∀i a,as[i]?=some a->∃o t u n,h.get? a=some o/\o.cls = .type "tuple"/\o.data = .seq #[.int (key i) t,u] n
theorem PrAt.keep{key:Nat->Int}(x:PrAt h as key)(k:∀a∈as,∀o,h.get? a=some o->h'.get? a=some o):PrAt h' as key:=fun i a e=>by
 obtain⟨o,t,u,n,q,r⟩:=x i a e;exact⟨o,t,u,n,k a (vm e) _ q,r⟩
theorem j5q{key:Nat->Int}(x:PrAt s.heap as key)(d:∀i j,i<as.length->j<as.length->key i=key j->i=j){C:Bool->Shared->Prop}(hi:i<as.length)(b:j<as.length)
  (h:C (decide (key i<key j)) s):kas_ask prog w A (tuples' true) (as.map Value.ref) i j C s:=by
 unfold kas_ask;obtain⟨o,t,u,n,k,B,f⟩:=x i _ (vz hi);obtain⟨y,z,m,E,l,D,g⟩:=x j _ (vz b);have p:(as.map Value.ref).getD i Value.none = .ref as[i]:=by rw[vy,vv,vz hi];rfl
 have q:(as.map Value.ref).getD j Value.none = .ref as[j]:=by rw[vy,vv,vz b];rfl
 rw[p,q];refine kat_lt k f l g ?_;show KatLex prog w A true _ C [(.int (key i) t,.int (key j) z),(u,m)] 0 s;refine kat_cons (wpAny_eqBool_int ?_);by_cases c:key i=key j
 ·have v:=d i j hi b c;subst v;rw[beq_self_eq_true];have r:u=m:=by
   have e:o=y:=vL (k.symm.trans l);subst e;have e:=f.symm.trans g;injection e with e _;have:=congrArg (fun a:Array Value=>a[1]?) e;simpa using this
  subst r;refine kat_yes (kat_cons (SeqAt.EqAt.same _ _ _ _ _ ?_));refine kat_yes (kat_nil ?_);rw[vH (Int.lt_irrefl _)]at h;exact h
 ·rw[beq_false_of_ne c];exact kat_no (oneLt_int h)
theorem j14{key:Nat->Int}:∀{as:List Addr} (_:PrAt h as key),∃fs,KatTups h (as.map Value.ref) fs/\fs.length=as.length/\∀v∈fs,∃n t,v=Value.int n t
 | [],_=>⟨[],KatTups.nil,rfl,fun v g=>nomatch g⟩
 | a::r,x=>by
  obtain⟨o,t,u,n,q,c,d⟩:=x 0 a rfl;obtain⟨fs,k,l,f⟩:=j14 (key:=fun i=>key (i+1)) (as:=r) fun i b e=>x (i+1) b (by simpa using e)
  refine⟨.int (key 0) t::fs,KatTups.cons q c d rfl k,by rw[vP,l,vP],fun v g=>?_⟩;rcases mem_cons.mp g with rfl | g
  ·exact⟨_,_,rfl⟩
  ·exact f v g
theorem j4r(vs:List Value):(vs.toArray.zip vs.toArray).map (·.2)=vs.toArray:=by
 apply Array.toList_inj.mp;rw[Array.toList_map,Array.toList_zip];exact List.map_snd_zip (vb _)
theorem j1P(vs:List Value):(List.range vs.length).map (fun i=>vs.getD i Value.none)=vs:=by
 refine ext_getElem (by simp) fun i b a=>?_
 rw[getElem_map,getElem_range,vy,vz a];rfl
theorem j3a:∀{l:List Int},l.length<2->l.Pairwise (·<=·)
 | [],_=>.nil
 | [_],_=>pairwise_singleton _ _
 | _::_::_,h=>uh h (by rw[vP,vP];lia)
theorem j3p{key:Nat->Int}{P:PySem.Fin->Shared->Prop}(d:s.heap.get? a=some (seqObj "list" (as.map Value.ref).toArray c0))(U:a∉as)(x:PrAt s.heap as key)
  (W:∀i j,i<as.length->j<as.length->key i=key j->i=j) (R:as.length<64)
  (D:∀(q:List Nat) (h':Heap) (c:Nat),q.Perm (List.range as.length)->(q.map key).Pairwise (·<=·)->(∀b o,b≠a->s.heap.get? b=some o->h'.get? b=some o)->
   h'.get? a=some (seqObj "list" ((q.map fun i=>as.getD i 0).map Value.ref).toArray c)->P (.done (.ret .none)) {s with heap:=h'}) :
  wpAny (model prog w) A (Builtin.«list.sort» ⟨[.ref a],[]⟩) P E s:=by
 have a5:a<s.heap.objs.size:=vI d;obtain⟨u,k⟩:∃u,(s.heap.update a (Obj.mapSeq fun _=>(#[]:Array Value))).get? a=some (seqObj "list" #[] u):=⟨_,get?_update_seq d fun _=>#[]⟩
 have Y:=Heap.SameBut.update s.heap a (Obj.mapSeq fun _=>(#[]:Array Value));rw[list_sort_plain];refine um (listItems_at (s:=s) d rfl ?_);refine um (listUpdate_at (s:=s) d rfl ?_ (by rw[size_toArray,vt,sizeLine_eq];lia) (va _));refine um (seqEpoch_at (n:=u) k rfl ?_);refine um (wpAny_newTuple ?_ (by show(as.map Value.ref).length<=_;rw[vt,sizeLine_eq];lia));refine um (wpAny_newList ?_ (va (sizeLine)));refine wpAny_holding ?_;generalize Z:((s.heap.update a (Obj.mapSeq fun _=>(#[]:Array Value))).push (seqObj "tuple" (as.map Value.ref).toArray 0)).push (seqObj "list" #[] 0)=hX;have kX:∀b o,b≠a->s.heap.get? b=some o->hX.get? b=some o:=fun b o y e=>by
  rw[<-Z];exact vJ _ (vJ _ ((Y.2 b y).trans e))
 have H:hX.get? a=some (seqObj "list" #[] u):=by
  rw[<-Z];exact vJ _ (vJ _ k)
 have xX:PrAt hX as key:=x.keep fun b y o e=>kX b o (fun z=>U (z▸y)) e
 show wpAny (model prog w) A _ P E {s with heap:=hX};dsimp only;have L:(as.map Value.ref).toArray.size=as.length:=by rw[size_toArray,vt]
 have I:∀q:List Nat,q.Perm (List.range as.length)->(List.map (fun i=>(as.map Value.ref).getD i Value.none) q)=(q.map fun i=>as.getD i 0).map Value.ref:=fun q N=>by
  rw[v4];refine map_congr_left fun i B=>?_
  have hl:i<as.length:=v2.mp (N.mem_iff.mp B);show(as.map Value.ref).getD i Value.none=Value.ref (as.getD i 0);rw[vy,vy,vv,vz hl];rfl
 have g:∀(q:List Nat),q.Perm (List.range as.length)->(q.map key).Pairwise (·<=·)->∀r:Array Value,r=(List.map (fun i=>(as.map Value.ref).getD i Value.none) q).toArray->
   P (.done (.ret .none)) {s with heap:=hX.update a (Obj.mapSeq fun _=>r)}:=fun q N hs r ho=>by
  subst ho;have o2:=get?_update_seq H fun _=>(List.map (fun i=>(as.map Value.ref).getD i Value.none) q).toArray
  have K:=Heap.SameBut.update hX a (Obj.mapSeq fun _=>(List.map (fun i=>(as.map Value.ref).getD i Value.none) q).toArray);rw[I q N]at o2 K|-;exact D q _ _ N hs (fun b o y e=>(K.2 b y).trans (kX b o y e)) o2
 by_cases l:(as.map Value.ref).toArray.size<2
 ·rw[vd l,vd l];refine um (uk ?_);rw[StateT.run_pure];refine um (uk ?_);dsimp only;refine um (seqEpoch_at (n:=u) H rfl ?_);have eo:(arrOf (SortSt.mk' general' ((as.map Value.ref).toArray.zip (as.map Value.ref).toArray) #[] 7 none)).map (·.2)=(List.map (fun i=>(as.map Value.ref).getD i Value.none) (List.range as.length)).toArray:=by
   have e:=j1P (as.map Value.ref);rw[vt]at e;rw[e];exact j4r _
  rw[eo];refine um (listUpdate_at (s:={s with heap:=hX}) H rfl ?_ (va _) (by rw[size_toArray,vt,length_range,sizeLine_eq];lia));simp only[bne_self_eq_false,Bool.false_eq_true,if_false];refine uk (g (List.range as.length) (List.Perm.refl _) ?_ _ rfl);rw[L]at l;exact j3a (by rw[vt,length_range];exact l)
 ·rw[vc l,vc l];rw[L]at l;obtain⟨fs,kt,kl,ki⟩:=j14 xX;have a0:hX=({s with heap:=hX}:Shared).heap:=rfl;refine um (kat_kind (s:={s with heap:=hX}) (T:=Value.type "int") kt (by lia) (fun v hv=>?_) (by decide) ?_)
  ·obtain⟨m,t,rfl⟩:=ki v hv;exact Looks.of_pure rfl
  refine um (wpAny_mono (kat_run (s:={s with heap:=hX}) (ks:=as.map Value.ref) (vs:=as.map Value.ref) (κ:=tuples' true) (Q:=fun f J=>∃p:Array Nat,Pk as.length p/\Up key p as.length/\arrOf f=p.map (kas_item ((as.map Value.ref).toArray.zip (as.map Value.ref).toArray))/\failedOf f=none/\J={s with heap:=hX}) (G:=fun p J=>Pk as.length p/\Up key p as.length/\J={s with heap:=hX})
   rfl (by rw[vt];lia) (by rw[vt];exact R) (fun p f J _ a2 a3 O=>⟨p,O.1,O.2.1,a2,a3,O.2.2⟩) ?_) ?_ fun _ _ e=>e)
  ·rw[vt];exact Tw.run (n:=as.length) (key:=key) (fun i j C B M hC=>j5q xX W B M hC) (Tw.mono (fun q h=>⟨h.1,h.2,rfl⟩) (j5f (key:=key) (by lia)))
  rintro⟨⟨⟩,f⟩ J ⟨p,hp,hu,S,hf,rfl⟩;dsimp only;rw[kat_snds rfl S];refine um (seqEpoch_at (n:=u) H rfl ?_);have X:=hp.size;refine um (listUpdate_at (s:={s with heap:=hX}) H rfl ?_ (va _) (by rw[size_toArray,vt,Array.length_toList,X,sizeLine_eq];lia));rw[hf];simp only[bne_self_eq_false,Bool.false_eq_true,if_false];refine uk (g p.toList hp ?_ _ rfl);refine pairwise_map.mpr (pairwise_iff_getElem.mpr fun i j B M a1=>?_);rw[Array.length_toList]at B M;have:=hu i j (by lia) (by lia);unfold kv at this;rw[Array.getD_eq_getD_getElem?,Array.getD_eq_getD_getElem?,Array.getElem?_eq_getElem B,Array.getElem?_eq_getElem M]at this;exact this
end
open PySem PySem.Spec PySem.W PyProof.Rows
section
variable{X:Cx}{pins:List (Addr×Obj)}{σ:St}{H:Hp}{s:Shared}
def NewA(X:Cx)(pins:List (Addr×Obj))(T:Addr):Prop:=X.s₀.heap.objs.size<=T/\T≠X.env.locals/\(∀x c,X.env.cells.lookup x=some c->c≠T)/\∀p∈X.pn++pins,p.1≠T
theorem Inv.newA(I:Inv X pins σ H s)(hT:s.heap.objs.size<=T):NewA X pins T:=by
 obtain⟨_,a,_,_,b,c⟩:=I.fpOk (H':=fun _=>none) hT rfl;exact⟨vV I.sz hT,a,b,c⟩
theorem ObjOk.obj(x:ObjOk P w H h a o):∃u,h.get? a=some u:=by
 cases o with
 | lst xs=>obtain⟨_,_,_,_,e⟩:=x;exact⟨_,e⟩
 | tup xs=>obtain⟨_,_,_,u,e,_⟩:=x;exact⟨u,e⟩
 | dK kvs=>obtain⟨_,_,_,_,u,_,_,e,_⟩:=x;exact⟨u,e⟩
 | dT kvs=>obtain⟨_,_,_,_,u,_,_,e,_⟩:=x;exact⟨u,e⟩
 | set S n=>obtain⟨u,_,_,_,e,_⟩:=x;exact⟨u,e⟩
 | ins C dx fs=>obtain⟨_,_,_,e,_⟩:=x;exact⟨_,e⟩
 | own y=>exact x
 | xd fs=>obtain⟨_,⟨u,_,_,e,_⟩,_⟩:=x;exact⟨u,e⟩
 | rng lo hi=>obtain⟨_,_,_,e⟩:=x;exact⟨_,e⟩
 | frz u v=>exact⟨_,x.1⟩
 | tbl ps=>exact⟨_,x⟩
 | met f y=>exact⟨_,x⟩
 | ext φ=>exact x.2.1
theorem Inv.none_at{a:Heap}(I:Inv X pins σ H s)(c:∀b o,s.heap.get? b=some o->a.get? b=some o):H a.objs.size=none:=by
 cases e:H a.objs.size with
 | none=>rfl
 | some u=>
  obtain⟨v,q⟩:=(I.hok _ _ e).obj;exact uh (vI (c _ _ q)) (Nat.lt_irrefl _)
theorem Inv.newB{a:Heap}(I:Inv X pins σ H s)(h:∀b o,s.heap.get? b=some o->a.get? b=some o):NewA X pins a.objs.size:=by
 have f:∀b o,s.heap.get? b=some o->b<a.objs.size:=fun b o e=>vI (h b o e)
 obtain⟨m,⟨o,_,_,d,_⟩,_⟩:=I.loc;have g:=f _ _ d;refine⟨vX (vD I.ok.above g),vN g,fun x c e=>?_,fun p i=>vE (f _ _ (I.pin p i).1)⟩;obtain⟨v,o,d,_⟩:=I.cell x c e;exact vE (f _ _ d)
theorem Inv.track(I:Inv X pins σ H s)(h:H T=none)(d:NewA X pins T)(g:ObjOk X.prog X.w (upd H T o) s.heap T o):Inv X pins σ (upd H T o) s:=by
 have a:∀b u,H b=some u->b≠T:=fun b u e z=>by rw[z,h]at e;cases e
 refine I.step (h':=s.heap) (H':=upd H T o) (g':=s.gens) (d':=s.drawn) (t':=s.toks) (ch:=[T]) (fun b f=>?_) (fun b o _ _ _ e _=>e) (fun b o _ _ _ e _=>⟨o.slots,e⟩) (fun b u f _ n=>?_) (fun b u _ e=>⟨u,e⟩)
  (fun b k e=>(jh (a _ _ e)).trans e) (fun b u v e=>(jh (a _ _ e)).trans e) (fun b j e=>⟨#[],by rw[jh (a _ _ e),e];simp⟩) (fun m i=>i) (fun b u e=>?_) I.bare
 ·have e:b=T:=by simpa using f
  subst e;exact⟨.inr d.1,d.2.1,d.2.2.1,d.2.2.2⟩
 ·exact(jh fun z=>f (by simp[z])).trans n
 ·by_cases z:b=T
  ·subst z;rw[jG]at e;cases e;exact g
  ·rw[jh z]at e;exact(I.hok b u e).stay (fun c v _ q=>q) (fun c q=>(jh (a _ _ q)).trans q) fun c l q=>(jh (a _ _ q)).trans q
theorem Inv.trackAll:∀(e:List (Addr×HO)) {H:Hp},Inv X pins σ H s->(∀p∈e,H p.1=none/\NewA X pins p.1/\∀H',ObjOk X.prog X.w H' s.heap p.1 p.2)->(e.map (·.1)).Nodup->∃H',Inv X pins σ H' s/\Same H H'/\∀p∈e,H' p.1=some p.2
 | [],H,I,_,_=>⟨H,I,Same.refl _,fun p d=>nomatch d⟩
 | w::r,H,I,h,nd=>by
  obtain⟨a,b,c⟩:=h w vq;rw[v7,ur]at nd;have g:=I.track a b (c _);obtain⟨H',i,f,m⟩:=Inv.trackAll r g (fun p d=>by
   obtain⟨j,k,l⟩:=h p (vp _ d);exact⟨(jh fun z:p.1=w.1=>nd.1 (by rw[<-z];exact vK.mpr ⟨p,d,rfl⟩)).trans j,k,l⟩) nd.2
  have n:Same H (upd H w.1 w.2):=fun b u q=>(jh (je q a)).trans q
  refine⟨H',i,n.trans f,fun p d=>?_⟩;rcases mem_cons.mp d with rfl | d
  ·exact f _ _ jG
  ·exact m p d
end
section
variable{X:Cx}
theorem valsR:∀as:List Addr,Vals (as.map V.ref) (as.map Value.ref)
 | []=>.nil
 | _::r=>.cons rfl (valsR r)
theorem KV.get{κ:Type}:∀{kvs:List (κ×V)} {vs:List (κ×Value)} {i:Nat} {p:κ×V},KV kvs vs->kvs[i]?=some p->∃q,vs[i]?=some q/\p.1=q.1/\RelV p.2 q.2
 | _,_,_,_,.nil,e=>by simp at e
 | _,_,0,_,.cons r _,e=>by simp at e;subst e;exact⟨_,rfl,r⟩
 | _,_,i+1,p,.cons _ t,e=>by
  obtain⟨q,a,b⟩:=KV.get (i:=i) (p:=p) t (by simpa using e);exact⟨q,by simpa using a,b⟩
theorem j1G:MtR X "dict.update" (fun x vs H Q=>∃d o kvs more,x = .ref d/\vs=[.ref o]/\H d=some (.dK kvs)/\H o=some (.dK more)/\d≠o/\kvs.length+more.length<=sizeLine/\Q .non (upd H d (.dK (mergeK kvs more)))):=by
 intro l s K H x vs v D Q I B A h;obtain⟨d,o,kvs,more,rfl,rfl,k,p,g,y,q⟩:=h;cases B;obtain⟨u,rfl,z⟩:=vals1 A;cases z;obtain⟨E,e,i,m,b⟩:=w6 I.hok k;obtain⟨J,f,j,n,c⟩:=w6 I.hok p;refine call_meetsIn PySem.F.slot_dict_update b.typeIs PySem.F.entry_dict_update (PySem.F.args_dict_update_2 _ _) (meets_dict_update (mixKind X.prog X.w) d o g f) ⟨i,j,b,c,by rw[<-m.length,<-n.length];exact y,fun r a _ w=>?_⟩;have t:∃q,r.get? d=some q:=let ⟨q,_,_,hq,_⟩:=a;⟨q,hq⟩;have C:=qS more kvs;exact⟨.non,_,WU (t':=s.toks) I (by rw[k];exact True.intro) w t (ke (by lia) e (n.merge m) a),rfl,q⟩
noncomputable def IView(v d:Addr):HO:=.ext fun h=>h.get? v=some {cls:=.type "dict_items",data:=.fields #[.ref d]}
theorem j2N:MtR X "dict.items" (fun x vs H Q=>∃d kvs,x = .ref d/\vs=[]/\H d=some (.dK kvs)/\∀v,H v=none->Q (.ref v) (upd H v (IView v d))):=by
 intro i s y H x vs v t Q I m l h;obtain⟨d,kvs,rfl,rfl,j,q⟩:=h;cases m;have f:=l.zero;subst f;obtain⟨w,c,g,r,a⟩:=w6 I.hok j;refine call_meetsIn PySem.F.slot_dict_items a.typeIs PySem.F.entry_dict_items (PySem.F.args_dict_items_1 (.ref d)) (meets_dict_items (mixKind X.prog X.w) d c) ⟨⟨g,a⟩,?_⟩;have e:(s.heap.push {cls:=.type "dict_items",data:=.fields #[.ref d]}).get? s.heap.objs.size=some {cls:=.type "dict_items",data:=.fields #[.ref d]}:=Heap.get?_push_size _ rfl;exact⟨.ref s.heap.objs.size,_,I.laid (t':=s.toks) (o:=IView s.heap.objs.size d) (fun b u q=>vJ _ q) (vb _) (show ObjOk X.prog X.w _ _ _ (IView s.heap.objs.size d)from⟨e,⟨_,e⟩,fun n p q k=>k _ q⟩),rfl,q _ (I.hok.fresh (vb _))⟩
noncomputable def iiK(p:Int×Int):Key×V:=(Sum.inl p.1,.int p.2)
theorem WP(hc:X.calm=true):CallR X (.builtin "sorted") (fun xs H Q=>∃(v d:Addr) (kvs:List (Int×Int)),xs=[.ref v]/\H v=some (IView v d)/\H d=some (.dK (kvs.map iiK))/\kvs.length<64/\
  ∀(l:Addr) (as:List Addr) (T:List (Int×Int)) (H':Hp),Same H H'->H l=none->H' l=some (.lst (as.map V.ref))->(∀a∈as,H a=none)->T.Perm kvs->(T.map (·.1)).Pairwise (·<=·)->as.length=T.length->(∀(i:Nat) (a:Addr) (p:Int×Int),as[i]?=some a->T[i]?=some p->H' a=some (.tup [.int p.1,.int p.2]))->Q (.ref l) H'):=by
 intro y s σ H xs us Q I r h;obtain⟨v,d,kvs,rfl,ev,ed,a0,q⟩:=h;obtain⟨u,rfl,ru⟩:=vals1 r;cases ru;obtain⟨z1,a5,P,r1,K⟩:=w6 I.hok ed;have hv:s.heap.get? v=some {cls:=.type "dict_items",data:=.fields #[.ref d]}:=(I.hok v _ ev).1;obtain⟨ep,da⟩:=K.dictAt;have lv:=r1.length;rw[vt]at lv;have nd:(kvs.map (·.1)).Nodup:=by
  have U:(P.map (·.1)).Nodup:=let ⟨_,_,_,_,_,_,_,_,hn⟩:=K;hn;rw[<-r1.keys,v4]at U;refine pairwise_map.mpr ((pairwise_map.mp U).imp fun {a b} h e=>h ?_);show(Sum.inl a.1:Key)=Sum.inl b.1;rw[e]
 refine Calls.call_function_entry kind_sorted plain_sorted entry_sorted (args_sorted1 (.ref v)) ?_;unfold Builtin.«sorted»;refine um (m:=checkCount "sorted" 1 1 1) (uk ?_);refine um (kdx_collect (knd:=mixKind X.prog X.w) (kvs:=P) (ep:=ep) (A:=X.A.in1) (I.ok.hd hc) ⟨_,hv,rfl,rfl⟩ da (by rw[<-lv,sizeLine_eq];lia) fun g tk as S C L=>?_);rw[<-lv]at C;refine um (wpAny_newList ?_ (by rw[vt,C,sizeLine_eq];lia));have M:(g.push (seqObj "list" (as.map Value.ref).toArray 0)).get? g.objs.size=some (seqObj "list" (as.map Value.ref).toArray 0):=Heap.get?_push_size _ rfl;have D:g.objs.size∉as:=fun z=>Nat.lt_irrefl _ (L.there z)
 have E:∀i p,kvs[i]?=some p->(fun i=>(kvs.getD i (0,0)).1) i=p.1/\(fun i=>(kvs.getD i (0,0)).2) i=p.2:=fun i p e=>by
  dsimp only;rw[vy,e];exact⟨rfl,rfl⟩
 have xQ:∀i a,as[i]?=some a->∃t u,(g.push (seqObj "list" (as.map Value.ref).toArray 0)).get? a=some {cls:=.type "tuple",data:=.seq #[.int ((fun i=>(kvs.getD i (0,0)).1) i) t,.int ((fun i=>(kvs.getD i (0,0)).2) i) u]}:=fun i a e=>by
  obtain⟨ky,k,x,R,w,e3⟩:=L.pairs i a e;have f:i<kvs.length:=by rw[<-C];exact(vx.mp e).1
  obtain⟨w',e4,a4⟩:=KV.get r1 (i:=i) (p:=iiK kvs[i]) (by rw[vv,vz f];rfl);rw[R]at e4;cases e4;obtain⟨ek,W,ex⟩:=a4;have Y:k=Sum.inl kvs[i].1:=ek.symm;subst Y;have Z:x = .int kvs[i].2 W:=ex;subst Z;obtain⟨g1,g2⟩:=E i _ (vz f);rw[show(fun i=>(kvs.getD i (0,0)).1) i=kvs[i].1 from g1,show(fun i=>(kvs.getD i (0,0)).2) i=kvs[i].2 from g2];rcases Jx (show keyIs (Sum.inl kvs[i].1) ky=true from w)with⟨n,t,q1,q2⟩ | ⟨n,t,q1,q2⟩
  ·cases q1;subst q2;exact⟨t,W,vJ _ e3⟩
  ·cases q1
 have xP:PrAt (g.push (seqObj "list" (as.map Value.ref).toArray 0)) as (fun i=>(kvs.getD i (0,0)).1):=fun i a e=>by
  obtain⟨t,u,z⟩:=xQ i a e;exact⟨_,t,_,_,z,rfl,rfl⟩
 have a1:∀i j,i<as.length->j<as.length->(fun i=>(kvs.getD i (0,0)).1) i=(fun i=>(kvs.getD i (0,0)).1) j->i=j:=fun i j f B e=>by
  rw[C]at f B;obtain⟨g1,_⟩:=E i _ (vz f);obtain⟨g2,_⟩:=E j _ (vz B);rw[g1,g2]at e;rcases Nat.lt_trichotomy i j with z | z | z
  ·exact uh e (by have:=pairwise_iff_getElem.mp nd i j (by rw[vt];exact f) (by rw[vt];exact B) z;simpa using this)
  ·exact z
  ·exact uh e.symm (by have:=pairwise_iff_getElem.mp nd j i (by rw[vt];exact B) (by rw[vt];exact f) z;simpa using this)
 refine um (wpAny_holding (wpAny_call_entry slot_list_sort ⟨_,M,rfl⟩ entry_list_sort (j3p (s:={s with heap:=g.push (seqObj "list" (as.map Value.ref).toArray 0),toks:=tk}) M D xP a1 (by rw[C];exact a0) fun O J c hq hs kk o2=>⟨_,rfl,?_⟩) (args_list_sort _)));refine uk ⟨_,rfl,?_⟩;have a2:∀b o,s.heap.get? b=some o->b<g.objs.size:=fun b o e=>vI (S b o e)
 have k2:∀b o,s.heap.get? b=some o->J.get? b=some o:=fun b o e=>kk b o (vE (a2 b o e)) (vJ _ (S b o e))
 have I2:Inv X y σ H {s with heap:=J,toks:=tk}:=I.kept (t':=tk) k2;have hB:H g.objs.size=none:=I.none_at S;have nB:=I.newB S;have ha:∀a∈as,H a=none/\NewA X y a:=fun a h=>⟨I.hok.fresh (vX (L.above a h)),I.newA (vX (L.above a h))⟩
 have N:∀i∈O,i<as.length:=fun i f=>v2.mp (hq.mem_iff.mp f)
 have a3:(((g.objs.size,HO.lst ((O.map fun i=>as.getD i 0).map V.ref))::(List.range as.length).map fun i=>(as.getD i 0,HO.tup [.int (kvs.getD i (0,0)).1,.int (kvs.getD i (0,0)).2])).map (·.1)).Nodup:=by
  rw[v7,ur,v4];have w:(List.range as.length).map ((fun x=>x.1)∘fun i=>(as.getD i 0,HO.tup [.int (kvs.getD i (0,0)).1,.int (kvs.getD i (0,0)).2]))=as:=ext_getElem (by simp) fun i g J=>by
   rw[getElem_map,getElem_range];show as.getD i 0=_;rw[vy,vz J];rfl
  rw[w];exact⟨D,L.rise.imp fun h=>vE h⟩
 obtain⟨H',I3,s3,k3⟩:=I2.trackAll ((g.objs.size,HO.lst ((O.map fun i=>as.getD i 0).map V.ref))::(List.range as.length).map fun i=>(as.getD i 0,HO.tup [.int (kvs.getD i (0,0)).1,.int (kvs.getD i (0,0)).2])) (fun p hp=>by
  rcases mem_cons.mp hp with rfl | hp
  ·refine⟨hB,nB,fun H'=>⟨?_,_,c,valsR _,o2⟩⟩;rw[vt,vt,hq.length_eq,length_range,C,sizeLine_eq];lia
  ·obtain⟨i,f,rfl⟩:=vK.mp hp;have f:=v2.mp f;have e:as[i]?=some (as.getD i 0):=by rw[vy,vz f];rfl
   obtain⟨t1,W,eo⟩:=xQ i _ e;have hm:=vm e;obtain⟨U,n2⟩:=ha _ hm;exact⟨U,n2,fun H'=>⟨(by show 2<=sizeLine;decide),[_,_],.cons ⟨t1,rfl⟩ (.cons ⟨W,rfl⟩ .nil),⟨_,kk _ _ (fun z=>D (z▸hm)) eo,rfl,_,rfl⟩⟩⟩) a3
 ·refine⟨.ref g.objs.size,H',I3,rfl,q g.objs.size (O.map fun i=>as.getD i 0) (O.map fun i=>kvs.getD i (0,0)) H' s3 hB (k3 _ vq) (fun a h=>?_) ?_ ?_ (by rw[vt,vt]) fun i a p R w=>?_⟩
  ·obtain⟨i,f,rfl⟩:=vK.mp h;have e:as[i]?=some (as.getD i 0):=by rw[vy,vz (N i f)];rfl
   exact(ha _ (vm e)).1
  ·have e:=hq.map fun i=>kvs.getD i (0,0)
   rw[C]at e;have w:(List.range kvs.length).map (fun i=>kvs.getD i (0,0))=kvs:=ext_getElem (by simp) fun i g J=>by
    rw[getElem_map,getElem_range,vy,vz J];rfl
   rw[w]at e;exact e
  ·rw[v4];exact hs
  ·rw[vv]at R w;obtain⟨j,B,rfl⟩:=vg.mp R;rw[B]at w;cases w;exact k3 _ (vp _ (vK.mpr ⟨j,v2.mpr (N j (vm B)),rfl⟩))
end
theorem zZ:∀{as:List Addr} {us:List Value},Vals (as.map V.ref) us->us=as.map Value.ref
 | [],_,r=>by cases r;rfl
 | a::as,_,r=>by
  cases r with
  | cons r1 r2=>rw[zZ r2,show _=Value.ref a from r1];rfl
theorem XA:∀{as:List Addr} {kvs:List (Int×Int)},as.length=kvs.length->(∀(i:Nat) (a:Addr) (q:Int×Int),as[i]?=some a->kvs[i]?=some q->∃t u,IsTup h a #[.int q.1 t,.int q.2 u])->
  ∃ps:List (Key×Value),KV (kvs.map iiK) ps/\ps.length=kvs.length/\∀(j:Nat) (kv:Key×Value),ps[j]?=some kv->∃a key,as[j]?=some a/\IsTup h a #[key,kv.2]/\keyIs kv.1 key=true
 | [],[],_,_=>⟨[],.nil,rfl,fun j kv e=>by simp at e⟩
 | [],_::_,l,_=>by simp at l
 | _::_,[],l,_=>by simp at l
 | a::as,q::kvs,l,f=>by
  obtain⟨ps,o,p,r⟩:=XA (as:=as) (kvs:=kvs) (by simpa using l) fun i a q m n=>f (i+1) a q (by simpa using m) (by simpa using n)
  obtain⟨t,u,e⟩:=f 0 a q rfl rfl;refine⟨(Sum.inl q.1,.int q.2 u)::ps,.cons ⟨rfl,u,rfl⟩ o,by rw[vP,p,vP],fun j kv c=>?_⟩;cases j with
  | zero=>simp at c;subst c;exact⟨a,_,rfl,e,kr _ _⟩
  | succ j=>obtain⟨b,s,d,g,k⟩:=r j kv (by simpa using c);exact⟨b,s,by simpa using d,g,k⟩
section
variable{X:Cx}
theorem KF(K:X.calm=true):CallR X (.type "dict") (fun xs H Q=>∃(p:Addr) (as:List Addr) (kvs:List (Int×Int)),xs=[.ref p]/\H p=some (.lst (as.map V.ref))/\as.length=kvs.length/\
  (∀(i:Nat) (a:Addr) (q:Int×Int),as[i]?=some a->kvs[i]?=some q->H a=some (.tup [.int q.1,.int q.2]))/\∀d,H d=none->Q (.ref d) (upd H d (.dK (mergeK [] (kvs.map iiK))))):=by
 intro O s σ H xs us Q I r h;obtain⟨p,as,kvs,rfl,ep,B,ht,q⟩:=h;obtain⟨u,rfl,ru⟩:=vals1 r;cases ru;obtain⟨z,D,n,rv,lv,e⟩:=I.lstM ep;have Z:=zZ rv;subst Z;rw[vt]at z;have L:p<s.heap.objs.size:=vI e;obtain⟨ps,kp,P,pt⟩:=XA (h:=s.heap) B fun i a q W Y=>by
  obtain⟨_,D,r',t'⟩:=I.hok a _ (ht i a q W Y);cases r' with
  | cons ra rr=>
   cases rr with
   | cons rb rr=>
    cases rr;obtain⟨t1,rfl⟩:=ra;obtain⟨t2,rfl⟩:=rb;exact⟨t1,t2,t'⟩
 refine callType_codes (Q₁:=fun t g=>t = .ref s.heap.objs.size/\g={s with heap:=s.heap.push {cls:=.type "dict",data:=.dict #[]}}) PySem.F.kt_called_dict (PySem.F.kt_typeCall_dict_1 (.ref p)) PySem.F.entry_dict_init (kt_code_dict_new (.ref p) ⟨rfl,rfl⟩) ?_;rintro t g ⟨rfl,rfl⟩;have c:(s.heap.push {cls:=.type "dict",data:=.dict #[]}).DictOf (mixKind X.prog X.w) s.heap.objs.size []:=Heap.DictOf.new s.heap;have v:∀b o,s.heap.get? b=some o->(s.heap.push {cls:=.type "dict",data:=.dict #[]}).get? b=some o:=fun b o e=>vJ _ e
 generalize s.heap.push {cls:=.type "dict",data:=.dict #[]}=h0 at c v;refine⟨c.typeIs (s:={s with heap:=h0}),PySem.F.args_dict_init_2 _ _,?_⟩;unfold Builtin.«dict.__init__»;refine um ?_;unfold Builtin.Dict.selfAndRest;refine um (wpAny_notOrdered_dict (c.typeIs (s:={s with heap:=h0})) ?_);show wpAny (model X.prog X.w) _ (pure (s.heap.objs.size,[Value.ref p])) _ _ _;refine uk ?_;show wpAny (model X.prog X.w) _ (Builtin.Dict.updateFrom "dict.__init__" s.heap.objs.size (.ref p) [] .none) _ _ _;unfold Builtin.Dict.updateFrom;refine um (wpAny_typeOf (T:="list") ⟨_,v _ _ e,rfl⟩ ?_);rw[vd (by decide)];refine um (noKeys (s:={s with heap:=h0}) (v _ _ e) rfl rfl rfl (I.ok.hd K) fun m tk M=>?_);rw[vd (show(none:Option Value).isNone=true from rfl)];have f:∀b o,s.heap.get? b=some o->m.get? b=some o:=fun b o e=>M b o (v b o e)
 have k:m.DictOf (mixKind X.prog X.w) s.heap.objs.size []:=c.keep M;have w:s.heap.objs.size<m.objs.size:=by obtain⟨_,_,_,hg,_⟩:=k;exact vI hg
 have lp:p<m.objs.size:=vY L w;refine um (wpAny_rule ?_);refine um (wpAny_pyIter_list (l:=p) (items:=(as.map Value.ref).toArray) ⟨_,f _ _ e,rfl,n,rfl⟩ ?_);refine uk ⟨plainId_quiet zd _,?_⟩;refine dul (knd:=mixKind X.prog X.w) (A:=X.A.in1) (d:=s.heap.objs.size) (it:=m.objs.size) (l:=p) (items:=as.map Value.ref) (res:=.none) (I.ok.hd K) (vE w) (vN L) (vN lp) ps 0 [] _
  ⟨_,Heap.get?_push_size _ rfl,rfl,rfl⟩ ⟨_,vJ _ (f _ _ e),rfl,n,rfl⟩ (by rw[vt,B,P,Nat.zero_add]) (fun j kv ej=>?_) (k.push _) (by rw[length_nil,P,<-B,Nat.zero_add];exact z) fun h2 E k2 x=>?_
 ·obtain⟨a,ky,R,⟨o,J,S⟩,U⟩:=pt j kv ej;have N:a<s.heap.objs.size:=vI J;exact⟨a,ky,by rw[Nat.zero_add,vv,R];rfl,⟨o,vJ _ (f _ _ J),S⟩,U,vE N,vE (vY N w)⟩
 ·refine⟨rfl,.ref s.heap.objs.size,upd H s.heap.objs.size (.dK (mergeK [] (kvs.map iiK))),I.laid (t':=E) (fun b o y=>k2 b o (vE (vI y)) (vE (vY (vI y) w)) (vJ _ (f _ _ y))) (vb _) ?_,rfl,q _ (I.hok.fresh (vb _))⟩;have hm:=qS (kvs.map iiK) [];rw[length_nil,vt]at hm;have C:(s.heap.objs.size==sysModules)=false:=by
   rw[beq_eq_false_iff_ne];exact vN I.big
  exact ke (by lia) C (kp.merge .nil) x
end
theorem j0F{H:Hp}:∀(ks:List Int),DVs H (ks.map V.int) (ks.map PyData.int)
 | []=>.nil
 | k::r=>.cons (.int k) (j0F r)
theorem j3V(ks:List Int):PyData.eqv (.list (ks.map PyData.int)) (.list [])=decide (ks=[]):=by
 cases ks<;>simp[PyData.eqv,PyData.eqvAll]
theorem j50(U:X.A.units+64<cLine):OpR X (compareOp .In) (fun x y H Q=>∃(a l:Addr) (as:List Addr) (hs:List (List Int)),x = .ref a/\y = .ref l/\H a=some (.lst [])/\H l=some (.lst (as.map V.ref))/\as.length=hs.length/\
  (∀(i:Nat) (b:Addr) (ks:List Int),as[i]?=some b->hs[i]?=some ks->H b=some (.lst (ks.map V.int)))/\Q (.bl (hs.any fun ks=>decide (ks=[]))) H):=by
 intro o s Y H x y v u Q I N O h;obtain⟨a,l,as,hs,rfl,rfl,t,B,T,D,q⟩:=h;cases N;cases O;obtain⟨J,r,K,W⟩:=I.list (SqL.of B);have A:=zZ r;subst A;obtain⟨P,L⟩:=zg I (DV.lst t .nil) (show RelV (.ref a) (.ref a)from rfl)
 classical
 have p:∀(i:Nat) (b:Addr) (ks:List Int),as[i]?=some b->hs[i]?=some ks->∃c,Reads s.heap (.ref b) (.list (ks.map PyData.int)) c:=fun i b ks d f=>zg I (DV.lst (D i b ks d f) (j0F ks)) (show RelV (.ref b) (.ref b)from rfl)
 have n:∀(i:Nat) (b:Addr) (ks:List Int),as[i]?=some b->hs[i]?=some ks->decide (∃c,Reads s.heap (.ref b) (.list []) c)=decide (ks=[]):=fun i b ks d f=>by
  obtain⟨c,m⟩:=p i b ks d f;rw[decide_eq_decide];constructor
  ·rintro⟨R,M⟩;have e:=SeqAt.Reads.unique _ _ _ _ _ (show PyData.canLay0 (.list [])=true from rfl) M m;cases ks with
   | nil=>rfl
   | cons k r=>simp at e
  ·rintro rfl;exact⟨c,m⟩
 refine SeqAt.in_listAt (fun w=>decide (∃c,Reads s.heap w (.list []) c)) K.isList (fun w j=>?_) ⟨.bl _,H,I,rfl,?_⟩
 ·obtain⟨i,g,e⟩:=mem_iff_getElem.mp (show w∈as.map Value.ref by simpa using j);rw[getElem_map]at e;rw[vt]at g;subst e;have d:as[i]?=some as[i]:=vz g;have f:hs[i]?=some hs[i]:=vz (by lia);obtain⟨c,m⟩:=p i _ _ d f;have z:=SeqAt.eqAt_reads _ _ X.A.in1 s _ _ _ _ m L (by show PyData.canLayAll0 _=true;exact ke_canLayAll0 _) rfl (by
   show X.A.in1.units+min (PyData.depthAll _+1) (0+1)<cLine;have S:X.A.in1.units=X.A.units+1:=rfl;lia)
  rw[j3V,<-n i _ _ d f]at z;exact z
 ·have e:(as.map Value.ref).toArray.any (fun w=>decide (∃c,Reads s.heap w (.list []) c))=hs.any fun ks=>decide (ks=[]):=by
   rw[List.any_toArray,List.any_map,Bool.eq_iff_iff,any_eq_true,any_eq_true];constructor
   ·rintro⟨b,C,j⟩;obtain⟨i,g,rfl⟩:=mem_iff_getElem.mp C;exact⟨hs[i],getElem_mem _,by rw[<-n i _ _ (vz g) (vz (by lia))];exact j⟩
   ·rintro⟨ks,E,j⟩;obtain⟨i,g,rfl⟩:=mem_iff_getElem.mp E;refine⟨as[i],getElem_mem _,?_⟩;show decide _=true;rw[n i _ _ (vz (by lia)) (vz g)];exact j
  rw[e];exact q
def Itv(K:Frg)(a:Addr)(n:Nat):It:=
 ⟨fun i H=>∃xs x,SqL K H a xs/\i<n/\xs[n-1-i]?=some x,fun i H x H'=>H'=H/\∀xs,SqL K H a xs->xs[n-1-i]?=some x,fun i _=>i=n⟩
theorem j3z{P:Program}{w:World}{K:Frg}{tg:Expr}(a it:Addr)(n:Nat):Turn P w K tg (Itv K a n) [it] it (fun i h=>h.IsRevIter it a ((n:Int)-1-(i:Nat))) where
 mem:=by simp
 obj:=fun i h f b j=>by
  have e:b=it:=by simpa using j
  subst e;obtain⟨o,e,c,d⟩:=f;exact⟨o,e,fun v z=>by rw[d]at z;cases z⟩
 keep:=fun i h q f k=>f.at fun o e=>k it (by simp) o e
 item:=by
  intro X J L D M i g s Q H E I r f m;subst J L D;obtain⟨xs,x,N,Y,O⟩:=m;obtain⟨a0,rv,p,hz⟩:=I.list N;obtain⟨u,Z,ru⟩:=rv.get O;obtain⟨t,y,W,A,B,C⟩:=r it (by simp);have e:((n:Int)-1-(i:Nat))=((n-1-i:Nat):Int):=by lia
  rw[e]at f;refine wpAny_pyNext_rev_item f p.isList (x:=u) (by simpa using Z) fun q l sb=>?_
  have R:Inv X g Q H {s with heap:=q}:=I.turned (t':=s.toks) (fun b o j e=>(sb.2 b j).trans e) t y A B C;have S:(((n-1-i:Nat):Int)-1)=((n:Int)-1-((i+1:Nat):Int)):=by lia
  rw[S]at l;obtain⟨o,U,c,d⟩:=id l;exact⟨u,rfl,Xi (s:={s with heap:=q}) U c d (by decide) ⟨x,H,R,ru,⟨rfl,fun ys hy=>by rw[I.list_inj hy N];exact O⟩,l,fun b j=>(r b j).1⟩⟩
 done:=by
  intro X J L D M i g s Q H E I r f m;subst J L D;have m:i=n:=m;subst m;obtain⟨t,y,W,A,B,C⟩:=r it (by simp);rw[show((i:Int)-1-(i:Nat)) = -1 by lia]at f;exact wpAny_pyNext_rev_end (I.ok.hd M) f fun q T=>⟨rfl,I.turned (t':=s.toks) (fun b o j e=>T b o j e) t y A B C⟩
 self:=fun _ _ _ _ _ f h=>wpAny_pyIter_revIter f h
def iRev(K:Frg)(ta:TA):TI:=fun σ H R=>ta σ H fun vs H1=>∃a xs,vs=[.ref a]/\SqL K H1 a xs/\R (Itv K a xs.length) H1
theorem j56{X:Cx}{E a:Expr}{l:TA}{p j:Pos}(v:Gl X "reversed")(x:X.mg "reversed"= none)(r:PA X [a] l)(z:starEach [a] X.env=[(false,eval a X.env)]:=by rfl) :
  PI X E (.Call (.Name "reversed" p) [a] [] j) (iRev X.K l):=by
 intro i s J H R I h;refine Call_ (Z3 I v x xO (PyProof.Rows.callWith_type1 (thn (r j i s J H _ I h) fun L d ⟨M,n,k,B,A⟩=>?_) z rfl));obtain⟨b,m,rfl,y,q⟩:=A;obtain⟨u,rfl,C⟩:=vals1 B;cases C;obtain⟨g,D,p,K⟩:=k.list y;have w:=D.length;refine call_reversed_list p.isList ?_;have f:(d.heap.push (revObj b ((g.toArray.size:Int)-1))).IsRevIter d.heap.objs.size b ((m.length:Int)-1-((0:Nat):Int)):=⟨_,Heap.get?_push_size _ rfl,rfl,by rw[w];simp[revObj]⟩
 refine wpAny_pyIter_revIter (s:={d with heap:=d.heap.push (revObj b ((g.toArray.size:Int)-1))}) f ?_;refine⟨d.heap.objs.size,[d.heap.objs.size],_,_,n,rfl,k.kept (t':=d.toks) fun b o e=>vJ _ e,j3z b _ m.length,f,fun c t=>?_,q⟩;have e:c=d.heap.objs.size:=by simpa using t
 subst e;exact k.fpOk (vb _) (k.hok.fresh (vb _))
theorem j3Y{K:Frg}{a:Addr}{xs:List V}{g:TG}{j:TS}{D:Ends}{b:St}{H:Hp}(c:Nat->St->Hp->Prop)(k:c 0 b H)(n:∀i b H,i<=xs.length->c i b H->SqL K H a xs)
  (o:∀i x b H,i<xs.length->xs[xs.length-1-i]?=some x->c i b H->g x b H fun f H2=>j {D with nx:=c (i+1),ct:=c (i+1),bk:=D.nx} f H2) (hd:∀b H,c xs.length b H->D.nx b H) :
  ∃W:Nat->Nat->St->Hp->Prop,(∃m,W 0 m b H)/\∀i m b H,W i m b H->
   ((Itv K a xs.length).stop i H/\D.nx b H)\/((Itv K a xs.length).go i H/\∃N:St->Hp->Prop,(∀σ' H',N σ' H'->∃h,h<m/\W (i+1) h σ' H')/\∀x H',(Itv K a xs.length).yld i H x H'->g x b H' fun f H2=>j {D with nx:=N,ct:=N,bk:=D.nx} f H2):=by
 refine⟨fun i m b H=>m=xs.length-i/\i<=xs.length/\c i b H,⟨xs.length,by simp,va _,k⟩,?_⟩;rintro i m b H ⟨rfl,l,p⟩;have q:=n i b H l p;by_cases d:i<xs.length
 ·refine .inr ⟨⟨xs,xs[xs.length-1-i],q,d,vz (by lia)⟩,c (i+1),fun σ' H' r=>⟨xs.length-(i+1),by lia,rfl,d,r⟩,fun x H' y=>?_⟩;obtain⟨e,y⟩:=y;subst e;exact o i x b _ d (y xs q) p
 ·have e:i=xs.length:=by lia
  subst e;exact .inl ⟨rfl,hd b H p⟩
theorem rd_iRev{K:Frg}{b:TA}{c:St}{H:Hp}{R:It->Hp->Prop}(h:b c H fun vs H1=>∃a xs,vs=[.ref a]/\SqL K H1 a xs/\R (Itv K a xs.length) H1):iRev K b c H R:=h
section
variable{X:Cx}
end
theorem j2j{K:Frg}{a b:Addr}{xs zs:List V}{k:Nat}{ci:List Nat}{g:TG}{z:TT}{w:TE}{A:St}{H:Hp}{Z:Addr->List V->Hp->Prop}(d:Nat->List V->Hp->Prop)(s:xs.length=zs.length)(B:d 0 [] H)(D:∀i ys H,i<=xs.length->d i ys H->SqL K H a xs/\SqL K H b zs)
  (E:∀i u v ys H T H',xs[i]?=some u->zs[i]?=some v->d i ys H->Same H H'->H' T=some (.tup [u,v])->g (.ref T) (capS k ci A) H' fun c H2=>z c H2 fun b j=>if b=true then w c j fun v n=>ys.length<sizeLine/\d (i+1) (ys++[v]) n else d (i+1) ys j)
  (hd:∀ys H,d xs.length ys H->ys.length<=sizeLine/\∀p,H p=none->Z p ys H) :
  ∃W:Nat->Nat->List V->Hp->Prop,(∃m,W 0 m [] H)/\∀i m ys H,W i m ys H->
   ((Itz K a b).stop i H/\ys.length<=sizeLine/\∀p,H p=none->Z p ys H)\/
   ((Itz K a b).go i H/\∃N:List V->Hp->Prop,(∀f H',N f H'->∃t,t<m/\W (i+1) t f H')/\∀x H',(Itz K a b).yld i H x H'->g x (capS k ci A) H' fun c H2=>z c H2 fun b j=>
    if b=true then w c j fun v n=>ys.length<sizeLine/\N (ys++[v]) n else N ys j):=by
 refine⟨fun i m ys H=>m=xs.length-i/\i<=xs.length/\d i ys H,⟨xs.length,by simp,va _,B⟩,?_⟩;rintro i m ys H ⟨rfl,C,p⟩;obtain⟨q,r⟩:=D i ys H C p;by_cases l:i<xs.length
 ·refine .inr ⟨⟨xs,xs[i],zs,zs[i],q,by simp[l],r,by simp⟩,d (i+1),fun f H' I=>⟨xs.length-(i+1),by lia,rfl,l,I⟩,fun x H' y=>?_⟩;obtain⟨T,u,v,rfl,hT,e,y,J⟩:=y;exact E i u v ys H T H' (y xs q) (J zs r) p (fun b o h=>by rw[e,jh (je h hT)];exact h) (by rw[e];exact jG)
 ·have e:i=xs.length:=by lia
  subst e;exact .inl ⟨⟨xs,zs,q,r,.inl (vb _)⟩,hd ys H p⟩
section
variable{X:Cx}{e:Expr}{te:TE}
end
theorem j3d{K:Frg}{i j k:Nat}{a:Addr}{x y z:V}{b:St}{H:Hp}{R:St->Hp->Prop}(e:SqT K H a [x,y,z])(h:gName i x b H fun σ' H'=>gName j y σ' H' fun σ' H'=>gName k z σ' H' R):gTup K 3 (gCons (gName i) (gCons (gName j) (gCons (gName k) gNil))) (.ref a) b H R:=
 ⟨a,[x,y,z],rfl,e,rfl,x,[y,z],rfl,y,[z],rfl,z,[],rfl,rfl,h⟩
theorem j5b{K:Frg}{i j k l:Nat}{a:Addr}{x y z w:V}{b:St}{H:Hp}{R:St->Hp->Prop}(e:SqT K H a [x,y,z,w])(h:gName i x b H fun σ' H'=>gName j y σ' H' fun σ' H'=>gName k z σ' H' fun σ' H'=>gName l w σ' H' R):gTup K 4 (gCons (gName i) (gCons (gName j) (gCons (gName k) (gCons (gName l) gNil)))) (.ref a) b H R:=
 ⟨a,[x,y,z,w],rfl,e,rfl,x,[y,z,w],rfl,y,[z,w],rfl,z,[w],rfl,w,[],rfl,rfl,h⟩
section
variable{prog:Program}{w:World}{A:Around}{E:Value->Shared->Prop}{s:Shared}
end
def Itd(lo:Int)(n:Nat):It:=⟨fun i _=>i<n,fun i H x H'=>H'=H/\x = .int (lo-i),fun i _=>n<=i⟩
theorem XO{P:Program}{w:World}{K:Frg}{Q:Expr}(it:Addr)(lo:Int)(n:Nat):Turn P w K Q (Itd lo n) [it] it (fun i h=>IsRangeIter h it (lo+(i:Nat)*(-1)) ((n:Int)-(i:Nat)) (-1)) where
 mem:=by simp
 obj:=fun i h a b d=>by
  have e:b=it:=by simpa using d
  subst e;exact⟨_,a,fun v z=>by
   have R:Data.fields _=Data.cell v:=z;cases R⟩
 keep:=fun i h g a k=>k it (by simp) _ a
 item:=by
  intro X x B u y i c s D H E I j a A;subst x B u;obtain⟨l,m,M,p,q,r⟩:=j it (by simp);have W:=Walks.range (prog:=X.prog) (w:=X.w) (I.ok.hd y) it lo (-1) n;refine W.item i s _ _ A a fun v g C N f O=>?_
  obtain⟨t,rfl⟩:=N;have J:Inv X c D H {s with heap:=g,toks:=C}:=I.turned (fun b o d e=>O b o (by simpa using d) e) l m p q r;refine⟨_,rfl,Xi (s:={s with heap:=g,toks:=C}) (n:="range_iterator") f rfl rfl (by decide) ⟨.int (lo-i),H,J,⟨t,?_⟩,⟨rfl,rfl⟩,f,fun b d=>(j b d).1⟩⟩;rw[show lo+(i:Int)*(-1)=lo-i by lia]
 done:=by
  intro X x B u y i c s D H E I j a A;subst x B u;obtain⟨l,m,M,p,q,r⟩:=j it (by simp);exact wpAny_pyNext_range_end (I.ok.hd y) a (by have:n<=i:=A;lia) fun g L=>⟨rfl,I.turned (t':=s.toks) (fun b o d e=>L b o d e) l m p q r⟩
 self:=fun _ _ _ _ _ a h=>wpAny_pyIter_rangeiter a h
section
variable{X:Cx}{tg:Expr}
theorem yG(a b:Int):Builtin.Range.rangeSize a b (-1)=if b<a then a-b else 0:=by
 unfold Builtin.Range.rangeSize;simp only[show¬((-1:Int)>0) by decide,if_false,show(- -1:Int)=1 by decide,Int.ediv_one];split<;>lia
theorem j23(c : -(2^61)<=a)(d:a<2^61)(e : -(2^61)<=b)(h:b<2^61):Builtin.Range.small a b (-1)=true:=by
 have f:∀x:Int,-(2^62)<=x->x<2^62->Builtin.Range.rangeFitsLong x=true:=fun x c d=>by
  unfold Builtin.Range.rangeFitsLong;simp;lia
 unfold Builtin.Range.small;rw[yG];have g : -(2^62)<=(if b<a then a-b else 0)/\(if b<a then a-b else 0)<2^62:=by split<;>lia
 rw[f a (by lia) (by lia),f b (by lia) (by lia),f (-1) (by decide) (by decide),f _ g.1 g.2,vc (show¬((-1:Int)>0) by decide),f (b+(-1+1)) (by lia) (by lia)];simp
theorem j1Q{a:List (Addr×Obj)}{f:St}{H:Hp}{s:Shared}{R:It->Hp->Prop}{E:Value->Shared->Prop}{lo hi:Int}{t u v:Tok}{d:Nat}(I:Inv X a f H s)(i : -(2^61)<=lo)(j:lo<2^61)(k : -(2^61)<=hi)(l:hi<2^61)
  (q:R (Itd lo (lo-hi).toNat) H):wpAny (model X.prog X.w) X.A (pyIter (.ref s.heap.objs.size)) (PIE X a f tg R) E {s with heap:=s.heap.push {cls:=.type "range",data:=.fields #[.int lo t,.int hi u,.int (-1) v]},toks:=d}:=by
 refine wpAny_pyIter_range (IsRange.new ..) (j23 i j k l) ?_;have c:Inv X a f H {s with heap:=s.heap.push {cls:=.type "range",data:=.fields #[.int lo t,.int hi u,.int (-1) v]},toks:=d}:=I.kept fun b o e=>vJ _ e
 refine⟨(s.heap.push {cls:=.type "range",data:=.fields #[.int lo t,.int hi u,.int (-1) v]}).objs.size,[(s.heap.push {cls:=.type "range",data:=.fields #[.int lo t,.int hi u,.int (-1) v]}).objs.size],_,_,H,rfl,
  c.kept (t':=d) fun b o e=>vJ _ e,XO _ lo (lo-hi).toNat,?_,fun b m=>?_,q⟩
 ·have g:lo+((0:Nat):Int)*(-1)=lo:=by simp
  have h:(((lo-hi).toNat:Nat):Int)-((0:Nat):Int)=Builtin.Range.rangeSize lo hi (-1):=by rw[yG];split<;>lia
  show IsRangeIter _ _ (lo+((0:Nat):Int)*(-1)) ((((lo-hi).toNat:Nat):Int)-((0:Nat):Int)) (-1);rw[g,h];exact Heap.get?_push_size _ rfl
 ·have e:b=(s.heap.push {cls:=.type "range",data:=.fields #[.int lo t,.int hi u,.int (-1) v]}).objs.size:=by simpa using m
  subst e;exact c.fpOk (vb _) (c.hok.fresh (vb _))
def iRngD(ta:TA):TI:=fun σ H R=>ta σ H fun vs H1=>∃i j:Int,vs=[.int i,.int j,.int (-1)]/\(-(2^61)<=i/\i<2^61/\-(2^61)<=j/\j<2^61)/\R (Itd i (i-j).toNat) H1
theorem j1L(m:Gl X "range")(n:X.mg "range"= none)(l:PA X [a,b,c] ta)(o:starEach [a,b,c] X.env=(false,eval a X.env)::starEach [b,c] X.env:=by rfl)(f:(backTo pos (starEach [b,c] X.env)).any (·.1)=false:=by rfl) :
  PI X tg (.Call (.Name "range" p) [a,b,c] [] pos) (iRngD ta):=by
 intro d s z H R I h;refine Call_ (Z3 I m n boot_range (PyProof.Rows.callWith_type1 (thn (l pos d s z H _ I h) fun D B ⟨E,A,k,x,g⟩=>?_) o f));obtain⟨i,j,e,⟨g,u,v,w⟩,q⟩:=g;subst e;cases x with
 | cons r rr=>
  cases rr with
  | cons r' rr=>
   cases rr with
   | cons r'' rr=>
    cases rr;obtain⟨t,rfl⟩:=r;obtain⟨C,rfl⟩:=r';obtain⟨y,rfl⟩:=r'';exact call_range_3 (by decide) (j1Q k g u v w q) (.inl (PyProof.noPylong_small (by lia)))
end
theorem rd_rngD{a:St}{H:Hp}{R:It->Hp->Prop}(h:ta a H fun vs H1=>∃i j:Int,vs=[.int i,.int j,.int (-1)]/\(-(2^61)<=i/\i<2^61/\-(2^61)<=j/\j<2^61)/\R (Itd i (i-j).toNat) H1):iRngD ta a H R:=h
theorem j2u{lo:Int}{n:Nat}{g:TG}{h:TS}{D:Ends}{a:St}{H:Hp}(b:Nat->St->Hp->Prop)(j:b 0 a H)(k:∀i a H,i<n->b i a H->g (.int (lo-i)) a H fun d H2=>h {D with nx:=b (i+1),ct:=b (i+1),bk:=D.nx} d H2)(hd:∀a H,b n a H->D.nx a H) :
  ∃W:Nat->Nat->St->Hp->Prop,(∃m,W 0 m a H)/\∀i m a H,W i m a H->
   ((Itd lo n).stop i H/\D.nx a H)\/((Itd lo n).go i H/\∃N:St->Hp->Prop,(∀σ' H',N σ' H'->∃f,f<m/\W (i+1) f σ' H')/\∀x H',(Itd lo n).yld i H x H'->g x a H' fun d H2=>h {D with nx:=N,ct:=N,bk:=D.nx} d H2):=by
 refine⟨fun i m a H=>m=n-i/\i<=n/\b i a H,⟨n,by simp,va _,j⟩,?_⟩;rintro i m a H ⟨rfl,o,p⟩;by_cases c:i<n
 ·refine .inr ⟨c,b (i+1),fun σ' H' l=>⟨n-(i+1),by lia,rfl,c,l⟩,fun x H' y=>?_⟩;obtain⟨e,y⟩:=y;subst e y;exact k i a _ c p
 ·have e:i=n:=by lia
  subst e;exact .inl ⟨vb _,hd a H p⟩
section
variable{X:Cx}
theorem j1F:MtR X "list.index" (fun x vs H Q=>∃(p:Addr) (xs:List V) (y z:V) (j:Nat),x = .ref p/\vs=[y]/\SqL X.K H p xs/\flatV y=true/\xs.all flatV=true/\xs[j]?=some z/\eqV z y=true/\(∀(m:Nat) (c:V),m<j->xs[m]?=some c->eqV c y=false)/\Q (.int j) H):=by
 intro J s σ H x vs v us Q I rx Z h;obtain⟨p,xs,y,z,j,rfl,rfl,W,P,d,f,O,k,q⟩:=h;cases rx;obtain⟨u,rfl,Y⟩:=vals1 Z;obtain⟨a,r,K,hz⟩:=I.list W;have lx:=r.length;have jl:=(vx.mp f).1;obtain⟨w',U,w⟩:=r.get f;have R:flatV z=true:=all_eq_true.mp d z (vm f);obtain⟨⟨M,N,B,sl⟩,T,C,n,D⟩:=id K.isList;simp only at C D;subst C D;have g:j<a.toArray.size:=by rw[size_toArray];lia
 have L:sizeLine<2^62:=by decide
 have t:(j:Int)<2^63-1:=by lia
 refine call_meets F.slot_list_index K.isList.typeIs F.entry_list_index (F.args_list_index_2 _ _) (SeqAt.list_indexAt p a.toArray n N sl u (eqU y) j g t ?_ ?_) ⟨T,fun y' o=>zV Y P r d y' (by simpa using o),⟨.int j,H,I.tok _,⟨_,rfl⟩,q⟩⟩
 ·have e:a.toArray[j]=w':=by
   have:=vx.mp U;obtain⟨h,e⟩:=this;simpa using e
  rw[e,WV w R];exact O
 ·intro m E i;have S:m<a.length:=by rw[size_toArray]at E;exact E
  obtain⟨c,b⟩:∃c,xs[m]?=some c:=⟨_,vz (by lia)⟩
  obtain⟨w2,l,A⟩:=r.get b;have e:a.toArray[m]=w2:=by
   obtain⟨h,e⟩:=vx.mp l;simpa using e
  rw[e,WV A (all_eq_true.mp d c (vm b))];exact k m c i b
end
section
variable{prog:Program}{w:World}{A:Around}{E:Value->Shared->Prop}{s:Shared}
end
section
variable{X:Cx}{pos:Pos}
end
section
variable{σ:St}{H:Hp}{D:Ends}{Q:VK}{ta tb te:TE}
theorem rd_seq(h:t {D with nx:=u D} σ H):tSeq t u D σ H:=h
theorem rd_asg(h:te σ H fun x H1=>g x σ H1 D.nx):tAsg te g D σ H:=h
theorem rd_v0{r:St}(h:Q v H):tVar 0 (some v::r) H Q:=⟨v,rfl,h⟩
theorem rd_n0{r:St}{R:St->Hp->Prop}(h:R (some v::r) H):gName 0 v (a0::r) H R:=h
theorem rd_v1{r:St}(h:Q v H):tVar 1 (a0::some v::r) H Q:=⟨v,rfl,h⟩
theorem rd_n1{r:St}{R:St->Hp->Prop}(h:R (a0::some v::r) H):gName 1 v (a0::a1::r) H R:=h
theorem rd_v2{r:St}(h:Q v H):tVar 2 (a0::a1::some v::r) H Q:=⟨v,rfl,h⟩
theorem rd_n2{r:St}{R:St->Hp->Prop}(h:R (a0::a1::some v::r) H):gName 2 v (a0::a1::a2::r) H R:=h
theorem rd_v3{r:St}(h:Q v H):tVar 3 (a0::a1::a2::some v::r) H Q:=⟨v,rfl,h⟩
theorem rd_n3{r:St}{R:St->Hp->Prop}(h:R (a0::a1::a2::some v::r) H):gName 3 v (a0::a1::a2::a3::r) H R:=h
theorem rd_v4{r:St}(h:Q v H):tVar 4 (a0::a1::a2::a3::some v::r) H Q:=⟨v,rfl,h⟩
theorem rd_n4{r:St}{R:St->Hp->Prop}(h:R (a0::a1::a2::a3::some v::r) H):gName 4 v (a0::a1::a2::a3::a4::r) H R:=h
theorem rd_v5{r:St}(h:Q v H):tVar 5 (a0::a1::a2::a3::a4::some v::r) H Q:=⟨v,rfl,h⟩
theorem rd_n5{r:St}{R:St->Hp->Prop}(h:R (a0::a1::a2::a3::a4::some v::r) H):gName 5 v (a0::a1::a2::a3::a4::a5::r) H R:=h
theorem rd_v6{r:St}(h:Q v H):tVar 6 (a0::a1::a2::a3::a4::a5::some v::r) H Q:=⟨v,rfl,h⟩
theorem rd_n6{r:St}{R:St->Hp->Prop}(h:R (a0::a1::a2::a3::a4::a5::some v::r) H):gName 6 v (a0::a1::a2::a3::a4::a5::a6::r) H R:=h
theorem rd_v7{r:St}(h:Q v H):tVar 7 (a0::a1::a2::a3::a4::a5::a6::some v::r) H Q:=⟨v,rfl,h⟩
theorem rd_n7{r:St}{R:St->Hp->Prop}(h:R (a0::a1::a2::a3::a4::a5::a6::some v::r) H):gName 7 v (a0::a1::a2::a3::a4::a5::a6::a7::r) H R:=h
theorem rd_v8{r:St}(h:Q v H):tVar 8 (a0::a1::a2::a3::a4::a5::a6::a7::some v::r) H Q:=⟨v,rfl,h⟩
theorem rd_n8{r:St}{R:St->Hp->Prop}(h:R (a0::a1::a2::a3::a4::a5::a6::a7::some v::r) H):gName 8 v (a0::a1::a2::a3::a4::a5::a6::a7::a8::r) H R:=h
theorem rd_v9{r:St}(h:Q v H):tVar 9 (a0::a1::a2::a3::a4::a5::a6::a7::a8::some v::r) H Q:=⟨v,rfl,h⟩
theorem rd_n9{r:St}{R:St->Hp->Prop}(h:R (a0::a1::a2::a3::a4::a5::a6::a7::a8::some v::r) H):gName 9 v (a0::a1::a2::a3::a4::a5::a6::a7::a8::a9::r) H R:=h
theorem rd_v10{r:St}(h:Q v H):tVar 10 (a0::a1::a2::a3::a4::a5::a6::a7::a8::a9::some v::r) H Q:=⟨v,rfl,h⟩
theorem rd_n10{r:St}{R:St->Hp->Prop}(h:R (a0::a1::a2::a3::a4::a5::a6::a7::a8::a9::some v::r) H):gName 10 v (a0::a1::a2::a3::a4::a5::a6::a7::a8::a9::a10::r) H R:=h
theorem rd_v11{r:St}(h:Q v H):tVar 11 (a0::a1::a2::a3::a4::a5::a6::a7::a8::a9::a10::some v::r) H Q:=⟨v,rfl,h⟩
theorem rd_n11{r:St}{R:St->Hp->Prop}(h:R (a0::a1::a2::a3::a4::a5::a6::a7::a8::a9::a10::some v::r) H):gName 11 v (a0::a1::a2::a3::a4::a5::a6::a7::a8::a9::a10::a11::r) H R:=h
theorem rd_v12{r:St}(h:Q v H):tVar 12 (a0::a1::a2::a3::a4::a5::a6::a7::a8::a9::a10::a11::some v::r) H Q:=⟨v,rfl,h⟩
theorem rd_n12{r:St}{R:St->Hp->Prop}(h:R (a0::a1::a2::a3::a4::a5::a6::a7::a8::a9::a10::a11::some v::r) H):gName 12 v (a0::a1::a2::a3::a4::a5::a6::a7::a8::a9::a10::a11::a12::r) H R:=h
theorem rd_v13{r:St}(h:Q v H):tVar 13 (a0::a1::a2::a3::a4::a5::a6::a7::a8::a9::a10::a11::a12::some v::r) H Q:=⟨v,rfl,h⟩
theorem rd_n13{r:St}{R:St->Hp->Prop}(h:R (a0::a1::a2::a3::a4::a5::a6::a7::a8::a9::a10::a11::a12::some v::r) H):gName 13 v (a0::a1::a2::a3::a4::a5::a6::a7::a8::a9::a10::a11::a12::a13::r) H R:=h
theorem rd_v14{r:St}(h:Q v H):tVar 14 (a0::a1::a2::a3::a4::a5::a6::a7::a8::a9::a10::a11::a12::a13::some v::r) H Q:=⟨v,rfl,h⟩
theorem rd_n14{r:St}{R:St->Hp->Prop}(h:R (a0::a1::a2::a3::a4::a5::a6::a7::a8::a9::a10::a11::a12::a13::some v::r) H):gName 14 v (a0::a1::a2::a3::a4::a5::a6::a7::a8::a9::a10::a11::a12::a13::a14::r) H R:=h
theorem rd_v15{r:St}(h:Q v H):tVar 15 (a0::a1::a2::a3::a4::a5::a6::a7::a8::a9::a10::a11::a12::a13::a14::some v::r) H Q:=⟨v,rfl,h⟩
theorem rd_n15{r:St}{R:St->Hp->Prop}(h:R (a0::a1::a2::a3::a4::a5::a6::a7::a8::a9::a10::a11::a12::a13::a14::some v::r) H):gName 15 v (a0::a1::a2::a3::a4::a5::a6::a7::a8::a9::a10::a11::a12::a13::a14::a15::r) H R:=h
theorem rd_v16{r:St}(h:Q v H):tVar 16 (a0::a1::a2::a3::a4::a5::a6::a7::a8::a9::a10::a11::a12::a13::a14::a15::some v::r) H Q:=⟨v,rfl,h⟩
theorem rd_n16{r:St}{R:St->Hp->Prop}(h:R (a0::a1::a2::a3::a4::a5::a6::a7::a8::a9::a10::a11::a12::a13::a14::a15::some v::r) H):gName 16 v (a0::a1::a2::a3::a4::a5::a6::a7::a8::a9::a10::a11::a12::a13::a14::a15::a16::r) H R:=h
theorem rd_const(h:Q v H):tC v σ H Q:=h
theorem rd_op(h:ta σ H fun x H1=>tb σ H1 fun y H2=>r x y H2 Q):tOp r ta tb σ H Q:=h
theorem rd_un{r:V->Hp->VK->Prop}(h:ta σ H fun x H1=>r x H1 Q):tUn r ta σ H Q:=h
theorem rd_i0{g:Int->Int->V}(h:Q (g i j) H):rI0 g (.int i) (.int j) H Q:=⟨i,j,rfl,rfl,h⟩
theorem j5s{C:Int->Int->Prop}{g:Int->Int->V}(c:C i j)(h:Q (g i j) H):rI C g (.int i) (.int j) H Q:=⟨i,j,rfl,rfl,c,h⟩
theorem rd_u{g:Int->V}(h:Q (g i) H):rU g (.int i) H Q:=⟨i,rfl,h⟩
theorem rd_eqI(h:Q (.bl (decide (i=j))) H):rEq (.int i) (.int j) H Q:=by
 refine⟨rfl,?_⟩;rw[show decide (V.int i=V.int j)=decide (i=j) by simp];exact h
theorem rd_neI(h:Q (.bl (!decide (i=j))) H):rNe (.int i) (.int j) H Q:=by
 refine⟨rfl,?_⟩;rw[show decide (V.int i=V.int j)=decide (i=j) by simp];exact h
theorem rd_eqS(h:Q (.bl (decide (i=j))) H):rEq (.str i) (.str j) H Q:=by
 refine⟨rfl,?_⟩;rw[show decide (V.str i=V.str j)=decide (i=j) by simp];exact h
theorem rd_if(h:c σ H fun b H1=>if b=true then t D σ H1 else u D σ H1):tIfS c t u D σ H:=h
theorem rd_test{R:Bool->Hp->Prop}(h:te σ H fun x H'=>∃k,x = .bl k/\R k H'):tTest te σ H R:=h
theorem rd_tB{R:Bool->Hp->Prop}(h:te σ H fun x H'=>∃k,x = .bl k/\R k H'):tB te σ H R:=h
theorem rd_blP{R:Bool->Prop}(h:R k):∃a,V.bl k = .bl a/\R a:=⟨k,rfl,h⟩
theorem rd_not{R:Bool->Hp->Prop}(h:t σ H fun c H1=>R (!c) H1):tNot t σ H R:=h
theorem rd_and{R:Bool->Hp->Prop}(h:t σ H fun c H1=>if c=true then u σ H1 R else R false H1):tAnd t u σ H R:=h
theorem rd_or{R:Bool->Hp->Prop}(h:t σ H fun c H1=>if c=true then R true H1 else u σ H1 R):tOr t u σ H R:=h
theorem rd_andV(h:ta σ H fun x H1=>∃c,x = .bl c/\if c=true then tb σ H1 Q else Q (.bl false) H1):tAndV ta tb σ H Q:=h
theorem rd_notV(h:ta σ H fun x H1=>∃c,x = .bl c/\Q (.bl (!c)) H1):tNotV ta σ H Q:=h
theorem rd_ifE(h:t σ H fun c H1=>if c=true then ta σ H1 Q else tb σ H1 Q):tIf t ta tb σ H Q:=h
theorem rd_ret(h:te σ H D.rt):tRet te D σ H:=h
theorem rd_next(h:D.nx σ H):tNext D σ H:=h
theorem rd_drop(h:te σ H fun _ H1=>D.nx σ H1):tDrop te D σ H:=h
theorem rd_cb{r:List V->Hp->VK->Prop}(h:t σ H fun vs H1=>r vs H1 Q):tCB r t σ H Q:=h
theorem rd_call{sp:Sp}(h:t σ H fun vs H1=>sp (vs++dvs) H1 Q E):tCall sp dvs E t σ H Q:=h
theorem rd_fld{K:Frg}{f:Str}(h:ta σ H fun x H1=>∃a C dx fs v,x = .ref a/\H1 a=some (.ins C dx fs)/\Cls K C/\NoAttr K C f/\fs.lookup f=some v/\Q v H1):tFld K ta f σ H Q:=h
theorem rd_sfld{K:Frg}{f:Str}(h:tb σ H fun y H1=>ta σ H1 fun x H2=>∃a C dx fs,x = .ref a/\H2 a=some (.ins C dx fs)/\Cls K C/\NoAttr K C f/\fs.length<1000/\D.nx σ (upd H2 a (.ins C dx (putF f y fs)))):sFld K ta tb f D σ H:=h
theorem rd_meth{sp:Sp}(h:ta σ H fun x H1=>∃a dx fs,x = .ref a/\H1 a=some (.ins C dx fs)/\fs.lookup m=none/\t σ H1 fun vs H2=>sp (x::(vs++dvs)) H2 Q E):tMeth C m sp dvs E ta t σ H Q:=h
theorem rd_make{sp:Sp}(h:t σ H fun vs H1=>∀x dx,H1 x=none->H1 dx=none->dx≠x->sp (.ref x::(vs++dvs)) (upd (upd H1 dx (.own x)) x (.ins C dx [])) (fun v H2=>v = .non/\Q (.ref x) H2) E):tMake C sp dvs E t σ H Q:=h
theorem rd_nil{R:List V->Hp->Prop}(h:R [] H):tNil σ H R:=h
theorem rd_cons{R:List V->Hp->Prop}(h:ta σ H fun x H1=>tr σ H1 fun xs H2=>R (x::xs) H2):tCons ta tr σ H R:=h
theorem rd_lst(h:t σ H fun xs H1=>xs.length<=sizeLine/\∀p,H1 p=none->Q (.ref p) (upd H1 p (.lst xs))):tLst t σ H Q:=h
theorem rd_tup(h:t σ H fun xs H1=>xs.length<=sizeLine/\∀p,H1 p=none->Q (.ref p) (upd H1 p (.tup xs))):tTup t σ H Q:=h
theorem rd_chain(h:ta σ H fun x H1=>tb σ H1 fun y H2=>r x y H2 fun z a=>∃k,z = .bl k/\(if k=true then tc σ a fun c b=>r' y c b Q else Q (.bl false) a)):tChain r r' ta tb tc σ H Q:=h
theorem rd_bm{K:Frg}{T:String}{r:V->List V->Hp->VK->Prop}{t:TA}(h:te σ H fun x H1=>tyV K T x H1/\t σ H1 fun xs H2=>r x xs H2 Q):tBM K T r te t σ H Q:=h
theorem rd_sl{r:V->Option Int->Option Int->Hp->VK->Prop}(h:te σ H fun x H1=>tl σ H1 fun l H2=>th σ H2 fun u a=>r x l u a Q):tSl r te tl th σ H Q:=h
theorem rd_nopart{R:Option Int->Hp->Prop}(h:R none H):tNoPart σ H R:=h
theorem rd_part{R:Option Int->Hp->Prop}(h:te σ H fun x H1=>∃i,x = .int i/\R (some i) H1):tPart te σ H R:=h
theorem rd_int{R:Int->Prop}(h:R i):∃a,V.int i = .int a/\R a:=⟨i,rfl,h⟩
theorem iteD{p A B:Prop}[Decidable p](a:p->A)(b:¬p->B):if decide p=true then A else B:=by
 by_cases h:p
 ·rw[vd (vG h)];exact a h
 ·rw[vc (by simpa using h)];exact b h
theorem iteN{p A B:Prop}[Decidable p](a:¬p->A)(b:p->B):if(!decide p)=true then A else B:=by
 by_cases h:p
 ·rw[vc (by simpa using h)];exact b h
 ·rw[vd (by simpa using h)];exact a h
theorem rd_rng1{a:TA}{R:It->Hp->Prop}(h:a σ H fun vs H1=>∃j:Int,vs=[.int j]/\-(2^62)<=j/\j<2^62/\R (Itr 0 j.toNat) H1):iRng1 a σ H R:=h
theorem rd_iList{K:Frg}{R:It->Hp->Prop}(h:te σ H fun x H1=>∃a,x = .ref a/\(∃xs,SqL K H1 a xs)/\R (Itl K a) H1):iList K te σ H R:=h
theorem rd_p18(h:Q (.int (10^18)) H):rI CPow (fun i j=>.int (i^j.toNat)) (.int 10) (.int 18) H Q:=⟨10,18,rfl,rfl,⟨by decide,by decide,by decide⟩,h⟩
theorem rd_p30(h:Q (.int (10^30)) H):rI CPow (fun i j=>.int (i^j.toNat)) (.int 10) (.int 30) H Q:=⟨10,30,rfl,rfl,⟨by decide,by decide,by decide⟩,h⟩
theorem rd_p60(h:Q (.int (10^60)) H):rI CPow (fun i j=>.int (i^j.toNat)) (.int 10) (.int 60) H Q:=⟨10,60,rfl,rfl,⟨by decide,by decide,by decide⟩,h⟩
theorem rd_aug(h:tVar i σ H fun x H0=>te σ H0 fun y H1=>ti x y H1 fun z H2=>gName i z σ H2 D.nx):tAug i te ti D σ H:=h
theorem rd_ipI{f:Int->Int->Int}(h:Q (.int (f i j)) H):ipI f (.int i) (.int j) H Q:=⟨i,j,rfl,rfl,h⟩
theorem rd_for{c:TS} (h:wi σ H fun J H1=>∃W:Nat->Nat->St->Hp->Prop,(∃m,W 0 m σ H1)/\∀i m σ H,W i m σ H->
 (J.stop i H/\D.nx σ H)\/(J.go i H/\∃N:St->Hp->Prop,(∀σ' H',N σ' H'->∃b,b<m/\W (i+1) b σ' H')/\∀x H',J.yld i H x H'->g x σ H' fun a H2=>c {D with nx:=N,ct:=N,bk:=D.nx} a H2)):tFor wi g c D σ H:=h
theorem rd_comp (h:wi σ H fun J H1=>∃W:Nat->Nat->List V->Hp->Prop,(∃m,W 0 m [] H1)/\∀i m ys H,W i m ys H->
 (J.stop i H/\ys.length<=sizeLine/\∀p,H p=none->Q (.ref p) (upd H p (.lst ys)))\/
 (J.go i H/\∃N:List V->Hp->Prop,(∀a H',N a H'->∃e,e<m/\W (i+1) e a H')/\∀x H',J.yld i H x H'->g x (capS n ci σ) H' fun c H2=>tf c H2 fun b d=>
  if b=true then te c d fun v f=>ys.length<sizeLine/\N (ys++[v]) f else N ys d)):tComp wi n ci g tf te σ H Q:=h
theorem rd_yes{R:Bool->Hp->Prop}(h:R true H):tYes σ H R:=h
theorem qa{n:Nat}{ci:List Nat}{g:TG}{x:V}{σ':St}{R:St->Hp->Prop}(e:capS n ci σ=σ')(h:g x σ' H R):g x (capS n ci σ) H R:=by rw[e];exact h
theorem jE{t:TS}{σ':St}(e:σ=σ')(h:t D σ' H):t D σ H:=by subst e;exact h
theorem j0G(a:0<b)(c : -B<=x)(d:x<=B) : -B<=x/b/\x/b<=B:=by
 have hB:0<=B:=by lia
 constructor
 ·rw[Int.le_ediv_iff_mul_le a];have:=Int.mul_le_mul_of_nonneg_left (show(1:Int)<=b by lia) hB;rw[Int.neg_mul];lia
 ·have:x/b<B+1:=by
   rw[Int.ediv_lt_iff_lt_mul a];have:=Int.mul_le_mul_of_nonneg_left (show(1:Int)<=b by lia) (show 0<=B+1 by lia);lia
  lia
theorem j2O(d : -A<=x)(f:x<=A)(g : -B<=y)(i:y<=B) : -(A*B)<=x*y/\x*y<=A*B:=by
 have a:x.natAbs<=A.toNat:=by lia
 have b:y.natAbs<=B.toNat:=by lia
 have h:=Nat.mul_le_mul a b;rw[<-Int.natAbs_mul]at h;have e:((A.toNat*B.toNat:Nat):Int)=A*B:=by
  rw[Int.natCast_mul,Int.toNat_of_nonneg (by lia),Int.toNat_of_nonneg (by lia)]
 have c:((x*y).natAbs:Int)<=A*B:=by rw[<-e];exact Int.ofNat_le.mpr h
 lia
theorem j4m{H H':Hp}(h:H p=none)(e:upd H p o=H'):Same H H':=fun b u q=>by rw[<-e,jh (je q h)];exact q
theorem qQ{H H':Hp}(e:upd H p o=H'):H' p=some o:=by rw[<-e];exact jG
end
theorem ixLm{K:Frg}{p:Addr}{xs:List V}{i:Int}{v:V}{H:Hp}{Q:VK}(h:SqL K H p xs)(e:atI xs i=some v)(q:Q v H):rIxL K (.ref p) (.int i) H Q:=⟨p,xs,i,v,rfl,rfl,h,e,q⟩
theorem ixTm{K:Frg}{p:Addr}{xs:List V}{i:Int}{v:V}{H:Hp}{Q:VK}(h:SqT K H p xs)(e:atI xs i=some v)(q:Q v H):rIxT K (.ref p) (.int i) H Q:=⟨p,xs,i,v,rfl,rfl,h,e,q⟩
end L2
local macro_rules | `(tactic| walk_at "side") => `(tactic| first | with_reducible assumption | exact L2.cdivB (by lia) (by lia) | exact L2.mulOk (by lia) (by lia) (by lia) (by lia) | exact L2.mulOkC (by first | assumption | exact L2.bits_ediv (by assumption) _) (by lia) (by lia) | lia)
local macro_rules | `(tactic| walk_at $s:str) => do
 let ws:=s.getString.splitOn " "
 if ws.head?==some "f" then
  let vs:=if ws.length==3 then["p"++ws.getD 1 "","hp"++ws.getD 1 "","H"++ws.getD 1 "","s"++ws.getD 1 "",ws.getD 2 ""++ws.getD 1 ""]else ws.drop 1
  let i:=fun(k:Nat)=>Lean.mkIdent (Lean.Name.mkSimple (vs.getD k ""))
  return <-`(tactic| (intro $(i 0):ident $(i 1):ident;generalize eH:L2.upd _ $(i 0) _ = $(i 2):ident;have $(i 3):ident:=L2.j4m $(i 1) eH;have $(i 4):ident:=L2.qQ eH;clear eH))
 if s.getString != "g" then Lean.Macro.throwUnsupported
 let as <-("rd_seq rd_asg rd_op rd_const rd_i0 rd_cons rd_nil rd_call rd_ret rd_if rd_test rd_tB rd_blP rd_not rd_next rd_v0 rd_v1 rd_v2 rd_v3 rd_v4 rd_v5 rd_v6 rd_v7 rd_v8 rd_v9 rd_v10 rd_v11 rd_v12 rd_v13 rd_v14 rd_v15 rd_v16 rd_un rd_u rd_and rd_or rd_andV rd_notV rd_ifE rd_drop rd_cb rd_lst rd_tup rd_chain rd_bm rd_sl rd_nopart rd_part rd_eqI rd_neI rd_eqS rd_str rd_int rd_rng1 rd_iList rd_ipI rd_aug rd_for rd_comp rd_yes rd_dget rd_iTup rd_sub rd_iEnum rd_iZip rd_dnew rd_dput rd_bm0 rd_iRev rd_rngD rd_fld rd_sfld rd_meth rd_make rd_n0 rd_n1 rd_n2 rd_n3 rd_n4 rd_n5 rd_n6 rd_n7 rd_n8 rd_n9 rd_n10 rd_n11 rd_n12 rd_n13 rd_n14 rd_n15 rd_n16 rd_p18 rd_p30 rd_p60".splitOn " ").toArray.mapM λn=>`(Lean.Parser.Tactic.tacticSeq| refine $(Lean.mkIdent (Lean.Name.mkStr2 "L2" n)) ?_)
 `(tactic| repeat first | with_reducible (first $[| $as]*) | (with_reducible refine L2.j5s ?c ?_; (case c => ((try dsimp only); walk_at "side"))))
local macro_rules | `(tactic| exists $e) => `(tactic| (walk_at "g"; refine $e))
namespace Fs
noncomputable def G(b s:Nat):Nat->Nat->Nat
 | 0,_=>0
 | m+1,r=>G b s m r+(b*m+r)/s
theorem j2b(a:0<s)(r:Nat):∀m,G b s m (r+s)=G b s m r+m
 | 0=>rfl
 | m+1=>by
  have h:=j2b (b:=b) a r m;have e:(b*m+(r+s))/s=(b*m+r)/s+1:=by
   rw[<-Nat.add_assoc,Nat.add_div_right _ a]
  simp only[G];rw[h,e];lia
theorem j0w(b s r:Nat):∀m,G b s (m+1) r=r/s+G b s m (b+r)
 | 0=>by simp[G]
 | m+1=>by
  have h:=j0w b s r m;have e:b*(m+1)+r=b*m+(b+r):=by rw[Nat.mul_add];lia
  rw[G,h,e];simp only[G];lia
noncomputable def F(s q b:Nat):Nat->Nat
 | 0=>0
 | n+1=>F s q b n+(s*n+q)/b
theorem recip(k:s<b)(g:q<b):∀n,F s q b n=G b s ((s*n+q)/b) ((s*n+q)%b)
 | 0=>by
  have e:(s*0+q)/b=0:=by rw[Nat.mul_zero,Nat.zero_add];exact Nat.div_eq_of_lt g
  rw[e];rfl
 | n+1=>by
  have h:=recip k g n;have f:0<b:=by lia
  have e:s*(n+1)+q=s*n+q+s:=by rw[Nat.mul_add];lia
  simp only[F];rw[h,e];generalize p:s*n+q=x;have t:=Nat.div_add_mod x b;have u:=Nat.mod_lt x f;generalize o:x/b=M at *;generalize v:x%b=r at *;by_cases m:r+s<b
  ·have a:(x+s)/b=M:=by
    rw[show x+s=(r+s)+b*M by lia,Nat.add_mul_div_left _ _ f,Nat.div_eq_of_lt m,Nat.zero_add]
   have c:(x+s)%b=r+s:=by
    rw[show x+s=(r+s)+b*M by lia,Nat.add_mul_mod_self_left,Nat.mod_eq_of_lt m]
   rw[a,c];by_cases i:0<s
   ·rw[j2b i]
   ·have j:s=0:=by lia
    subst j;have l:x=q:=by rw[<-p];simp
    have d:M=0:=by rw[<-o,l];exact Nat.div_eq_of_lt g
    rw[d];rfl
  ·have i:0<s:=by lia
   have a:(x+s)/b=M+1:=by
    rw[show x+s=(r+s-b)+b*(M+1) by rw[Nat.mul_add];lia,Nat.add_mul_div_left _ _ f,Nat.div_eq_of_lt (by lia),Nat.zero_add]
   have c:(x+s)%b=r+s-b:=by
    rw[show x+s=(r+s-b)+b*(M+1) by rw[Nat.mul_add];lia,Nat.add_mul_mod_self_left,Nat.mod_eq_of_lt (by lia)]
   rw[a,c,j0w,Nat.div_eq_of_lt (by lia),show b+(r+s-b)=r+s by lia,j2b i];lia
noncomputable def fs:Nat->Int->Int->Int->Int
 | 0,_,_,_=>0
 | n+1,t,p,b=>fs n t p b+(t*(n:Int)+p)/b
noncomputable def fsum(many t p b:Int):Int:=fs many.toNat t p b
theorem j2v(s q b:Nat):∀n,fs n (s:Int) (q:Int) (b:Int)=(F s q b n:Nat)
 | 0=>rfl
 | n+1=>by
  rw[fs,F,j2v s q b n]
  norm_cast
theorem j5i(b s r:Nat):∀m,(G b s m r:Nat)=fs m (b:Int) (r:Int) (s:Int)
 | 0=>rfl
 | m+1=>by
  rw[fs,G,<-j5i b s r m]
  norm_cast
noncomputable def tri(n:Nat):Int:=((n:Int)*((n:Int)-1))/2
theorem j3y(n:Nat):tri (n+1)=tri n+n:=by
 unfold tri;have e:((n+1:Nat):Int)*(((n+1:Nat):Int)-1)=(n:Int)*((n:Int)-1)+n*2:=by
  have:((n+1:Nat):Int)=(n:Int)+1:=by lia
  rw[this,show(n:Int)+1-1=n by lia,Int.add_mul,Int.mul_sub,uw,Int.mul_one];lia
 rw[e,Int.add_mul_ediv_right _ _ (by decide)]
theorem j0p(h:0<b)(t p j:Int) :
  (t*j+p)/b=j*(t/b)+p/b+(t%b*j+p%b)/b:=by
 have a:=Int.mul_ediv_add_emod t b;have f:=Int.mul_ediv_add_emod p b;have e:t*j+p=(t%b*j+p%b)+b*(j*(t/b)+p/b):=by
  have c:t*j=(b*(t/b)+t%b)*j:=by rw[a]
  have d:b*(t/b)*j=b*(j*(t/b)):=by rw[Int.mul_assoc,Int.mul_comm (t/b) j]
  rw[c,Int.add_mul,Int.mul_add,d];lia
 rw[e,Int.add_mul_ediv_left _ _ (by lia)];have g:(t%b*j+p%b+b*(j*(t/b)+p/b))=t*j+p:=e.symm;lia
theorem Xg(a:0<b)(t p:Int):∀n,fs n t p b=tri n*(t/b)+(n:Int)*(p/b)+fs n (t%b) (p%b) b
 | 0=>by
  have:tri 0=0:=by decide
  rw[this];simp[fs]
 | n+1=>by
  rw[fs,fs,Xg a t p n,j0p a,j3y,Int.add_mul];have:((n+1:Nat):Int)=(n:Int)+1:=by lia
  rw[this,Int.add_mul,uw];lia
theorem j41(g:0<b)(t p:Int)(l:0<=m) :
  fsum m t p b=(m*(m-1))/2*(t/b)+m*(p/b)
   + fsum ((t%b*m+p%b)/b) b ((t%b*m+p%b)%b) (t%b):=by
 have h:=Xg g t p m.toNat;have a:((m.toNat:Nat):Int)=m:=by lia
 unfold fsum;rw[h];unfold tri;rw[a];have u:=ve t (show b≠0 by lia);have v:=vf t g;have n:=ve p (show b≠0 by lia);have o:=vf p g;generalize t%b=s at *;generalize p%b=q at *;have i:fs m.toNat s q b=fs ((s*m+q)/b).toNat b ((s*m+q)%b) s:=by
  have c:((b.toNat:Nat):Int)=b:=by lia
  have d:((s.toNat:Nat):Int)=s:=by lia
  have e:((q.toNat:Nat):Int)=q:=by lia
  have r:=recip (b:=b.toNat) (s:=s.toNat) (q:=q.toNat) (by lia) (by lia) m.toNat;have f:=j2v s.toNat q.toNat b.toNat m.toNat;rw[c,d,e,r,j5i,c,d]at f;have j:(s*m+q)/b=(((s.toNat*m.toNat+q.toNat)/b.toNat:Nat):Int):=by
   push_cast
   rw[c,d,e,a]
  have k:(s*m+q)%b=(((s.toNat*m.toNat+q.toNat)%b.toNat:Nat):Int):=by
   push_cast
   rw[c,d,e,a]
  rw[j,k];exact f
 rw[i]
theorem Wi(h:m<=0)(t p b:Int):fsum m t p b=0:=by
 unfold fsum;rw[show m.toNat=0 by lia];rfl
theorem j1r(h:0<=m)(t p b:Int):fsum (m+1) t p b=fsum m t p b+(t*m+p)/b:=by
 unfold fsum;rw[show(m+1).toNat=m.toNat+1 by lia,fs,show((m.toNat:Nat):Int)=m by lia]
theorem round{b t p m:Int}(c:0<b)(g:0<m) :
  0<=(t%b*m+p%b)/b/\(t%b*m+p%b)/b<=m/\0<=(t%b*m+p%b)%b/\(t%b*m+p%b)%b<b/\0<=t%b/\t%b<b/\(0<(t%b*m+p%b)/b->0<t%b)/\0<=t%b*m+p%b:=by
 have h:=ve t (show b≠0 by lia);have r:=vf t c;have k:=ve p (show b≠0 by lia);have l:=vf p c;generalize t%b=s at *;generalize p%b=q at *;have u:0<=s*m:=vM h (Int.le_of_lt g);have f:s*m<=(b-1)*m:=vT (by lia) (Int.le_of_lt g);rw[Int.sub_mul,uw]at f;have n:=ve (s*m+q) (show b≠0 by lia);have o:=vf (s*m+q) c;have i:0<=(s*m+q)/b:=Int.ediv_nonneg (by lia) (by lia);have e:=Int.mul_ediv_add_emod (s*m+q) b;have j:(s*m+q)/b<=m:=by
  have:(s*m+q)/b<m+1:=by
   refine Int.lt_of_mul_lt_mul_left (a:=b) ?_ (by lia);rw[Int.mul_add,Int.mul_one];lia
  lia
 refine⟨i,j,n,o,h,r,fun v=>?_,by lia⟩;rcases(by lia:s=0\/0<s)with d | d
 ·subst d;have:(0*m+q)/b=0:=by
   rw[Int.zero_mul,uz];exact Int.ediv_eq_zero_of_lt k l
  lia
 ·exact d
end Fs
namespace Rp
noncomputable def ramp(s g b j:Int):Int:=s+(g-s)*j/b
noncomputable def reached(s g b h:Int):Int:=if g>s then -((s-h)*b/(g-s))else(s-h-1)*b/(s-g)+1
theorem W1{x y q:Int}(a:0<y):q<=x/y↔q*y<=x:=Int.le_ediv_iff_mul_le a
theorem j0H{x y q:Int}(a:0<y):x/y<q↔x<q*y:=by
 have h:=W1 (x:=x) (q:=q) a;lia
theorem up{s g b h j:Int}(e:0<b)(f:s<g):reached s g b h<=j↔h<=ramp s g b j:=by
 unfold reached ramp;rw[vd f];have i:=W1 (x:=(g-s)*j) (y:=b) (q:=h-s) e;have d:=W1 (x:=(s-h)*b) (y:=g-s) (q:=-j) (by lia);have c : -j*(g-s) = -((g-s)*j):=by rw[Int.neg_mul,Int.mul_comm]
 have a:(s-h)*b = -((h-s)*b):=by rw[show s-h = -(h-s) by lia,Int.neg_mul]
 rw[c,a]at d;rw[a];lia
theorem down{s g b h j:Int}(e:0<b)(i:g<s):reached s g b h<=j↔ramp s g b j<=h:=by
 unfold reached ramp;rw[vc (by lia)];have d:=j0H (x:=(g-s)*j) (y:=b) (q:=h-s+1) e;have f:=j0H (x:=(s-h-1)*b) (y:=s-g) (q:=j) (by lia);have a:(g-s)*j = -(j*(s-g)):=by rw[show g-s = -(s-g) by lia,Int.neg_mul,Int.mul_comm]
 have c:(h-s+1)*b = -((s-h-1)*b):=by rw[show h-s+1 = -(s-h-1) by lia,Int.neg_mul]
 rw[a,c]at d;rw[a];lia
noncomputable def beyond(s g h:Int):Int:=if g>s then h+1 else h-1
theorem j4G(d:0<b)(e:g≠s):ramp s g b j=h↔reached s g b h<=j/\j<reached s g b (beyond s g h):=by
 unfold beyond;rcases(by lia:s<g\/g<s)with q | q
 ·rw[vd q];have a:=up (h:=h) (j:=j) d q;have c:=up (h:=h+1) (j:=j) d q;lia
 ·rw[vc (by lia)];have a:=down (h:=h) (j:=j) d q;have c:=down (h:=h-1) (j:=j) d q;lia
theorem flat:ramp s s b j=s:=by
 unfold ramp;rw[Int.sub_self,Int.zero_mul,Int.zero_ediv,Int.add_zero]
theorem ends(a:0<b):ramp s g b b=g:=by
 unfold ramp;rw[Int.mul_ediv_cancel _ (by lia)];lia
noncomputable def imax(a b:Int):Int:=if b>a then b else a
noncomputable def imin(a b:Int):Int:=if b<a then b else a
noncomputable def fst(s g b h:Int):Int:=if g=s then 0 else imax (reached s g b h) 0
noncomputable def lst(s g b h m:Int):Int:=if g=s then(if h=s then m else 0)else imax (fst s g b h) (imin (reached s g b (beyond s g h)) m)
noncomputable def count(s g b h m:Int):Int:=lst s g b h m-fst s g b h
theorem X5:count s g b h 0=0:=by
 unfold count lst fst imax imin;split
 ·split<;>rfl
 ·split<;>split<;>lia
theorem X4(d:0<b)(f:0<=m):count s g b h (m+1)-count s g b h m=if ramp s g b m=h then 1 else 0:=by
 unfold count lst fst;by_cases e:g=s
 ·subst e;rw[vd rfl,vd rfl,vd rfl,flat];by_cases q:h=g
  ·rw[vd q,vd q,vd q.symm];lia
  ·rw[vc q,vc q,vc (fun z=>q z.symm)];lia
 ·rw[vc e,vc e,vc e];have a:=j4G (h:=h) (j:=m) d e;unfold imax imin;by_cases q:ramp s g b m=h
  ·rw[vd q];have c:=a.mp q
   (repeat' split)<;>lia
  ·rw[vc q];have c:¬(reached s g b h<=m/\m<reached s g b (beyond s g h)):=fun z=>q (a.mpr z)
   (repeat' split)<;>lia
end Rp
namespace Rp
end Rp
namespace Pr
open PySem L2
noncomputable def cell(ns:List Int)(k:Int):Int:=ns.getD k.toNat 0
inductive sp_cell_at(K:Frg)(vs:List V)(H:Hp)(Q:VK)(xk:XK):Prop
 | mk (a:Addr) (ns:List Int) (k:Int) (_:vs=[.ref a,.int k]) (_:SqL K H a (ns.map V.int)) (_:ns.length<=63) (_:0<=k) (_:Q (.int (cell ns k)) H):sp_cell_at K vs H Q xk
def XM:Sp:=fun vs H Q _=>∃i,vs=[.int i]/\Q (.bl true) H
theorem j3H{ns:List Int}{k:Int}(c:0<=k)(h:k<(ns.length:Int)):atI (ns.map V.int) k=some (.int (cell ns k)):=by
 have b:k=((k.toNat:Nat):Int):=by lia
 have a:k.toNat<ns.length:=by lia
 have q:atI (ns.map V.int) ((k.toNat:Nat):Int)=some (.int ns[k.toNat]):=jO (by rw[vv,vz a]<;>rfl);rw[<-b]at q;rw[q];unfold cell;rw[vy,vz a];rfl
end Pr
namespace Pr
open PySem L2
inductive sp_law(K:Frg)(vs:List V)(H:Hp)(Q:VK)(xk:XK):Prop
 | mk (a:Addr) (ns:List Int) (_:vs=[.ref a]) (_:SqL K H a (ns.map V.int)) (_:ns.length<=63) (_:(∀x∈ns,Builtin.Int.intBits x<=1048576)) (_:∀H',Q (.bl true) H'):sp_law K vs H Q xk
end Pr
namespace Pr
open PySem L2
end Pr
namespace Pr
open PySem L2
theorem YO{H:Hp}(h:H p=none)(o:HO):Same H (upd H p o):=fun b u q=>by rw[jh (je q h)];exact q
end Pr
namespace Pr
open PySem L2
end Pr
namespace Pr
open PySem L2
def YV:Sp:=fun vs H Q _=>∃m t p b:Int,vs=[.int m,.int t,.int p,.int b]/\(0<=m/\m<=10^100/\-10^125<=t/\t<=10^125/\-10^125<=p/\p<=10^125/\0<b/\b<=10^125)/\Q (.int (Fs.fsum m t p b)) H
end Pr
namespace Pr
open PySem L2
def B4(s g b j:Int):Prop:=-10^61<=s/\s<=10^61/\-10^61<=g/\g<=10^61/\0<b/\b<=10^61/\-10^61<=j/\j<=10^61
noncomputable def rsum(s g b m:Int):Int:=s*m+Fs.fsum m (g-s) 0 b
def kY:Sp:=fun vs H Q _=>∃s g b m:Int,vs=[.int s,.int g,.int b,.int m]/\B4 s g b m/\0<=m/\Q (.int (rsum s g b m)) H
def wp:Sp:=fun vs H Q _=>∃s g b h:Int,vs=[.int s,.int g,.int b,.int h]/\B4 s g b h/\g≠s/\Q (.int (Rp.reached s g b h)) H
def wt:Sp:=fun vs H Q _=>∃s g b h m:Int,vs=[.int s,.int g,.int b,.int h,.int m]/\B4 s g b h/\-10^60*2<=h/\h<=10^60*2/\
 ∀p H',Same H H'->H' p=some (.tup [.int (Rp.fst s g b h),.int (Rp.lst s g b h m)])->Q (.ref p) H'
def yI:Sp:=fun vs H Q _=>∃s g b h m:Int,vs=[.int s,.int g,.int b,.int h,.int m]/\B4 s g b h/\-10^60*2<=h/\h<=10^60*2/\∀H',Same H H'->Q (.int (Rp.count s g b h m)) H'
end Pr
namespace Pr
open PySem L2
end Pr
namespace Ws
open PySem PySem.NumText L2
noncomputable def lets:Str:="abcdefghijklmnopqrstuvwxyz"
noncomputable def among(x z:Str):Bool:=decide (∀c∈x.cps.toList,c∈z.cps.toList)
noncomputable def isW(x:Str):Bool:=decide (1<=x.length/\x.length<=8)&&among x lets
end Ws
namespace Ws
open PySem PySem.NumText L2
end Ws
namespace Ws
open PySem L2
end Ws
namespace Rm
open PySem PySem.NumText PyProof.Rows L2
theorem j3O{x:Str}{lo hi:Option Int}:(Txt.slice x lo hi).length<=x.length:=Txt.slice_le x lo hi
theorem j2K:c∈Ws.lets.cps.toList↔97<=c/\c<=122:=by
 rw[show Ws.lets.cps.toList=List.range' 97 26 by decide +kernel,List.mem_range'_1];lia
open PySem L2
theorem none_of{H H':Hp}(s:Same H H')(h:H' p=none):H p=none:=by
 cases e:H p with
 | none=>rfl
 | some u=>rw[s _ _ e]at h;cases h
inductive Fm where
 | hold (n:Int) | ring (x:Str) (n:Int) | rise (x:Str) (h n:Int) | row (ps:List Str) | side (ps:List Str) | again (k:Int) (x:Str)
noncomputable def FormAt(H:Hp)(a:Addr):Fm->Prop
 | .hold n=>H a=some (.tup [.str "hold",.int n])
 | .ring x n=>H a=some (.tup [.str "ring",.str x,.int n])
 | .rise x h n=>H a=some (.tup [.str "raise",.str x,.int h,.int n])
 | .row ps=>∃b,H a=some (.tup [.str "row",.ref b])/\H b=some (.tup (ps.map V.str))
 | .side ps=>∃b,H a=some (.tup [.str "side",.ref b])/\H b=some (.tup (ps.map V.str))
 | .again k x=>H a=some (.tup [.str "again",.int k,.str x])
def PartAt(H:Hp)(a:Addr)(p:Str×Fm):Prop:=∃b,H a=some (.tup [.str p.1,.ref b])/\FormAt H b p.2
def LimbAt(H:Hp)(a:Addr)(p:Str×Int):Prop:=H a=some (.tup [.str p.1,.int p.2])
def All2{α:Type}(R:Addr->α->Prop)(as:List Addr)(xs:List α):Prop:=as.length=xs.length/\∀(i:Nat) (a:Addr) (x:α),as[i]?=some a->xs[i]?=some x->R a x
theorem All2.nil{b:Type}{R:Addr->b->Prop}:All2 R [] []:=⟨rfl,fun i a x h=>by simp at h⟩
theorem All2.mono{b:Type}{R S:Addr->b->Prop}{as:List Addr}{xs:List b}(h:All2 R as xs)(k:∀a x,R a x->S a x):All2 S as xs:=⟨h.1,fun i a x c d=>k a x (h.2 i a x c d)⟩
theorem All2.snoc{f:Type}{R:Addr->f->Prop}{as:List Addr}{xs:List f}{a:Addr}{x:f}(h:All2 R as xs)(k:R a x):All2 R (as++[a]) (xs++[x]):=by
 have j:=h.1;refine⟨by simp[j],fun i b y c d=>?_⟩;by_cases g:i<as.length
 ·rw[vB g]at c;rw[vB (by lia)]at d;exact h.2 i b y c d
 ·rw[vC (by lia)]at c;rw[vC (by lia)]at d;have e:i-as.length=0:=by
   have:=(vx.mp c).1;simp at this;lia
  rw[e]at c;rw[show i-xs.length=0 by lia]at d;simp at c d;subst c d;exact k
theorem All2.get{b:Type}{R:Addr->b->Prop}{as:List Addr}{xs:List b}{i:Nat}{x:b}(h:All2 R as xs)(d:xs[i]?=some x):∃a,as[i]?=some a/\R a x:=by
 have e:=(vx.mp d).1;have f:=h.1;have c:as[i]?=some as[i]:=vz (by lia);exact⟨_,c,h.2 i _ _ c d⟩
section
variable{H H':Hp}{z:Ra}{m:Rr}
end
section
variable{m:Rr}{f:Fm}{ks:List Int}{g:Int}
theorem getD_snoc{a:Type}{l:List a}{x d:a}{j:Nat}(h:j<l.length):(l++[x]).getD j d=l.getD j d:=by
 rw[vy,vy,vB h]
end
theorem getD_in{a:List Str}{n:Nat}(h:n<a.length):a.getD n ⟨#[]⟩∈a:=by
 rw[vy,vz h];exact getElem_mem h
theorem WJ{as:List Addr}{i:Int}{a:Addr}(b:0<=i)(h:as[i.toNat]?=some a):atI (as.map V.ref) i=some (.ref a):=by
 have e:atI (as.map V.ref) ((i.toNat:Nat):Int)=some (.ref a):=jO (by rw[vv,h];rfl);rw[Int.toNat_of_nonneg b]at e;exact e
open PySem PySem.Spec PyProof.Rows L2
theorem kx:∀{ks:List Int} {lo hi:Int},ks.Pairwise (· < ·)->(∀k∈ks,lo<=k/\k<hi)->ks.length<=(hi-lo).toNat
 | [],_,_,_,_=>va _
 | k::r,lo,hi,h,b=>by
  have c:=kx (ks:=r) (lo:=k+1) (hi:=hi) (vU.mp h).2 fun x a=>⟨(vU.mp h).1 x a,(b x (vp _ a)).2⟩
  have d:=b k vq;rw[vP];lia
theorem j1p{H:Hp}(h:H a=some (.lst [])):DV H (.ref a) (.list []):=.lst h .nil
theorem shp0:SeqAt.shaped (.list [])=true:=PySem.W.ke_shaped_ints []
theorem j0K(n:Int):∀hs:List Int,inV (.int n) (hs.map V.int)=decide (n∈hs)
 | []=>rfl
 | h::r=>by
  have a:=j0K n r;unfold inV at a|-;rw[v7,any_cons,a];have e:eqV (.int h) (.int n)=decide (h=n):=by
   show decide _=_;simp
  rw[e,Bool.eq_iff_iff];simp only[Bool.or_eq_true,decide_eq_true_eq,mem_cons];constructor
  ·rintro(x | x)
   ·exact .inl x.symm
   ·exact .inr x
  ·rintro(x | x)
   ·exact .inl x.symm
   ·exact .inr x
theorem inI(n:Int)(a:List Int):(if false=true then !inV (.int n) (a.map V.int)else inV (.int n) (a.map V.int))=decide (n∈a):=by rw[vc (by decide),j0K]
theorem flats:∀hs:List Int,(hs.map V.int).all flatV=true
 | []=>rfl
 | h::r=>by rw[v7,all_cons,flats r];rfl
theorem take_snoc{a:Type}{l:List a}{i:Nat}{x:a}(h:l[i]?=some x):l.take (i+1)=l.take i++[x]:=by
 rw[List.take_add_one,h];rfl
theorem j24{c d:List Int}(f:c.Perm d)(g:d.Nodup)(e:c.Pairwise (·<=·)):c.Pairwise (· < ·):=
 (List.Pairwise.and e (f.nodup_iff.mpr g)).imp fun {a b} h=>by have i:=h.1;have j:a≠b:=h.2;lia
def Shp(n:Nat)(d:PyData):Prop:=d.canLay0=true/\d.depth<=n
theorem Shp.int:Shp 0 (.int i):=⟨rfl,vb _⟩
theorem Shp.str(h:PyData.strOk x=true):Shp 0 (.str x):=⟨h,vb _⟩
theorem Shp.mono(h:Shp n d)(a:n<=k):Shp k d:=⟨h.1,vV h.2 a⟩
theorem YR:∀{ds:List PyData},(∀d∈ds,Shp n d)->PyData.canLayAll0 ds=true/\PyData.depthAll ds<=n
 | [],_=>⟨rfl,va _⟩
 | d::r,h=>by
  have a:=h d vq;have b:=YR (ds:=r) fun x c=>h x (vp _ c)
  constructor
  ·show(d.canLay0&&PyData.canLayAll0 r)=true;rw[a.1,b.1];rfl
  ·show max d.depth (PyData.depthAll r)<=n;exact Nat.max_le.mpr ⟨a.2,b.2⟩
theorem Shp.lst(h:∀d∈ds,Shp n d):Shp (n+1) (.list ds):=⟨(YR h).1,Nat.succ_le_succ (YR h).2⟩
theorem Shp.tup(h:∀d∈ds,Shp n d):Shp (n+1) (.tuple ds):=⟨(YR h).1,Nat.succ_le_succ (YR h).2⟩
theorem Shp.ok(h:Shp n d)(a:n<=64):SeqAt.shaped d=true:=by
 unfold SeqAt.shaped;rw[h.1,Bool.true_and];exact vG (vV h.2 a)
theorem yC(h:Ws.isW x=true):PyData.strOk x=true:=by
 unfold Ws.isW Ws.among at h;rw[Bool.and_eq_true]at h;have a:=of_decide_eq_true h.2;unfold PyData.strOk;rw[Array.all_eq_true_iff_forall_mem];intro c b;have:=j2K.mp (a c (by simpa using b));exact vG (by lia)
noncomputable def fmD:Fm->PyData
 | .hold n=>.tuple [.str "hold",.int n]
 | .ring x n=>.tuple [.str "ring",.str x,.int n]
 | .rise x h n=>.tuple [.str "raise",.str x,.int h,.int n]
 | .row ps=>.tuple [.str "row",.tuple (ps.map PyData.str)]
 | .side ps=>.tuple [.str "side",.tuple (ps.map PyData.str)]
 | .again k x=>.tuple [.str "again",.int k,.str x]
noncomputable def partD(p:Str×Fm):PyData:=.tuple [.str p.1,fmD p.2]
noncomputable def limbD(p:Str×Int):PyData:=.tuple [.str p.1,.int p.2]
theorem Q9{H:Hp}:∀(xs:List Str),DVs H (xs.map V.str) (xs.map PyData.str)
 | []=>.nil
 | x::r=>.cons (.str x) (Q9 r)
theorem j3Q{H:Hp}(h:FormAt H a f):DV H (.ref a) (fmD f):=by
 cases f with
 | hold n=>exact .tup h (.cons (.str _) (.cons (.int _) .nil))
 | ring x n=>exact .tup h (.cons (.str _) (.cons (.str _) (.cons (.int _) .nil)))
 | rise x v n=>exact .tup h (.cons (.str _) (.cons (.str _) (.cons (.int _) (.cons (.int _) .nil))))
 | row ps=>obtain⟨b,c,d⟩:=h;exact .tup c (.cons (.str _) (.cons (.tup d (Q9 ps)) .nil))
 | side ps=>obtain⟨b,c,d⟩:=h;exact .tup c (.cons (.str _) (.cons (.tup d (Q9 ps)) .nil))
 | again k x=>exact .tup h (.cons (.str _) (.cons (.int _) (.cons (.str _) .nil)))
theorem j3S{H:Hp}(h:PartAt H a p):DV H (.ref a) (partD p):=by
 obtain⟨b,c,d⟩:=h;exact .tup c (.cons (.str _) (.cons (j3Q d) .nil))
theorem j3R{H:Hp}(h:LimbAt H a p):DV H (.ref a) (limbD p):=.tup h (.cons (.str _) (.cons (.int _) .nil))
theorem All2.tail{c:Type}{R:Addr->c->Prop}{a:Addr}{x:c}{as:List Addr}{xs:List c}(h:All2 R (a::as) (x::xs)):R a x/\All2 R as xs:=
 ⟨h.2 0 a x rfl rfl,Nat.succ.inj h.1,fun i b y d e=>h.2 (i+1) b y (by simpa using d) (by simpa using e)⟩
theorem KJ{b:Type}{H:Hp}{R:Addr->b->Prop}{D:b->PyData}(k:∀a x,R a x->DV H (.ref a) (D x)):∀{as:List Addr} {xs:List b},All2 R as xs->DVs H (as.map V.ref) (xs.map D)
 | [],[],_=>.nil
 | [],_::_,h=>by have:=h.1;simp at this
 | _::_,[],h=>by have:=h.1;simp at this
 | _::_,_::_,h=>.cons (k _ _ h.tail.1) (KJ k h.tail.2)
noncomputable def FmWs:Fm->Prop
 | .hold n=>0<=n/\n<=10^18
 | .ring x n=>Ws.isW x=true/\0<=n/\n<=10^18
 | .rise x h n=>Ws.isW x=true/\0<=h/\h<=10^18/\0<=n/\n<=10^18
 | .row ps=>ps.length<=8/\∀x∈ps,Ws.isW x=true
 | .side ps=>ps.length<=8/\∀x∈ps,Ws.isW x=true
 | .again k x=>0<=k/\k<=10^18/\Ws.isW x=true
structure BkOk(ls:List (Str×Int))(ps:List (Str×Fm)):Prop where
 l8:ls.length<=8
 ln:∀p∈ls,Ws.isW p.1=true/\0<=p.2/\p.2<=10^18
 p61:ps.length<=61
 pn:∀p∈ps,Ws.isW p.1=true/\FmWs p.2
theorem wm{n:Nat}{xs:List Str}(h:∀x∈xs,Ws.isW x=true):∀d∈xs.map PyData.str,Shp n d:=fun d a=>by
 obtain⟨x,b,rfl⟩:=vK.mp a;exact(Shp.str (yC (h x b))).mono (va _)
theorem j3j{f:Fm}(h:FmWs f):Shp 2 (fmD f):=by
 cases f with
 | hold n=>exact(Shp.tup (n:=0) (by rintro d a;simp only[mem_cons,not_mem_nil,or_false]at a;rcases a with rfl | rfl;exact Shp.str (by decide +kernel);exact Shp.int)).mono (by decide)
 | ring x n=>exact(Shp.tup (n:=0) (by rintro d a;simp only[mem_cons,not_mem_nil,or_false]at a;rcases a with rfl | rfl | rfl;exact Shp.str (by decide +kernel);exact Shp.str (yC h.1);exact Shp.int)).mono (by decide)
 | rise x v n=>exact(Shp.tup (n:=0) (by rintro d a;simp only[mem_cons,not_mem_nil,or_false]at a;rcases a with rfl | rfl | rfl | rfl;exact Shp.str (by decide +kernel);exact Shp.str (yC h.1);exact Shp.int;exact Shp.int)).mono (by decide)
 | row ps=>exact Shp.tup (n:=1) (by rintro d a;simp only[mem_cons,not_mem_nil,or_false]at a;rcases a with rfl | rfl;exact(Shp.str (by decide +kernel)).mono (by decide);exact Shp.tup (wm h.2))
 | side ps=>exact Shp.tup (n:=1) (by rintro d a;simp only[mem_cons,not_mem_nil,or_false]at a;rcases a with rfl | rfl;exact(Shp.str (by decide +kernel)).mono (by decide);exact Shp.tup (wm h.2))
 | again k x=>exact(Shp.tup (n:=0) (by rintro d a;simp only[mem_cons,not_mem_nil,or_false]at a;rcases a with rfl | rfl | rfl;exact Shp.str (by decide +kernel);exact Shp.int;exact Shp.str (yC h.2.2))).mono (by decide)
theorem j20(B:BkOk ls ps):Shp 4 (.list (ps.map partD)):=by
 refine Shp.lst fun d a=>?_
 obtain⟨p,b,rfl⟩:=vK.mp a;refine Shp.tup fun d a=>?_
 simp only[mem_cons,not_mem_nil,or_false]at a;rcases a with rfl | rfl
 ·exact(Shp.str (yC (B.pn p b).1)).mono (by decide)
 ·exact j3j (B.pn p b).2
theorem j1Z(B:BkOk ls ps):Shp 4 (.list (ls.map limbD)):=by
 refine Shp.mono (n:=2) (Shp.lst fun d a=>?_) (by decide);obtain⟨p,b,rfl⟩:=vK.mp a;refine Shp.tup fun d a=>?_
 simp only[mem_cons,not_mem_nil,or_false]at a;rcases a with rfl | rfl
 ·exact Shp.str (yC (B.ln p b).1)
 ·exact Shp.int
noncomputable def bookD(ls:List (Str×Int))(ps:List (Str×Fm)):PyData:=.tuple [.list (ls.map limbD),.list (ps.map partD)]
theorem wg(B:BkOk ls ps):Shp 5 (bookD ls ps):=by
 refine Shp.tup fun d a=>?_
 simp only[mem_cons,not_mem_nil,or_false]at a;rcases a with rfl | rfl
 ·exact j1Z B
 ·exact j20 B
structure BookAt(H:Hp)(b pl pp:Addr)(las pas:List Addr)(ls:List (Str×Int))(ps:List (Str×Fm)):Prop where
 t:H b=some (.tup [.ref pl,.ref pp])
 l:H pl=some (.lst (las.map V.ref))
 la:All2 (LimbAt H) las ls
 p:H pp=some (.lst (pas.map V.ref))
 pa:All2 (PartAt H) pas ps
theorem FormAt.same{H H':Hp}(s:Same H H')(h:FormAt H a f):FormAt H' a f:=by
 cases f with
 | row ps=>obtain⟨b,c,d⟩:=h;exact⟨b,s _ _ c,s _ _ d⟩
 | side ps=>obtain⟨b,c,d⟩:=h;exact⟨b,s _ _ c,s _ _ d⟩
 | hold n=>exact s _ _ h
 | ring x n=>exact s _ _ h
 | rise x g n=>exact s _ _ h
 | again x n=>exact s _ _ h
theorem PartAt.same{H H':Hp}(s:Same H H')(h:PartAt H a p):PartAt H' a p:=by
 obtain⟨b,c,d⟩:=h;exact⟨b,s _ _ c,FormAt.same s d⟩
theorem BookAt.same{H H':Hp}(B:BookAt H b pl pp las pas ls ps)(s:Same H H'):BookAt H' b pl pp las pas ls ps:=
 ⟨s _ _ B.t,s _ _ B.l,B.la.mono fun a x h=>s _ _ h,s _ _ B.p,B.pa.mono fun a x h=>PartAt.same s h⟩
theorem BookAt.dv{H:Hp}(B:BookAt H b pl pp las pas ls ps):DV H (.ref b) (bookD ls ps):=
 .tup B.t (.cons (.lst B.l (KJ (fun _ _ h=>j3R h) B.la)) (.cons (.lst B.p (KJ (fun _ _ h=>j3S h) B.pa)) .nil))
theorem j2p(B:BkOk ls ps):PyData.eqv (bookD ls ps) (bookD ls ps)=true:=SeqAt.eqv_refl _ (wg B).1
theorem getD_inj{a:List Str}(d:a.Nodup){i j:Nat}(hi:i<a.length)(b:j<a.length)(h:a.getD i ⟨#[]⟩=a.getD j ⟨#[]⟩):i=j:=by
 rw[vy,vy,vz hi,vz b]at h;have c:a[i]=a[j]:=h;rcases Nat.lt_trichotomy i j with q | q | q
 ·exact uh c (pairwise_iff_getElem.mp d i j hi b q)
 ·exact q
 ·exact uh c.symm (pairwise_iff_getElem.mp d j i b hi q)
open PyProof.Rows.KTD (inKeys Dat)
theorem at0:atI (x::xs) 0=some x:=jO (j:=0) rfl
theorem iteB0{A B:Prop}(e:b=false)(h:B):if b=true then A else B:=by rw[e];exact h
theorem iteB1{A B:Prop}(e:b=true)(h:A):if b=true then A else B:=by rw[e];exact h
theorem All2.at_ref{e:Type}{R:Addr->e->Prop}{as:List Addr}{xs:List e}{i:Nat}{v:V}(h:All2 R as xs)(c:(as.map V.ref)[i]?=some v):∃a x,v = .ref a/\xs[i]?=some x/\R a x:=by
 rw[vv]at c;obtain⟨a,b,rfl⟩:=vg.mp c;have f:=(vx.mp b).1;have g:=h.1;have d:xs[i]?=some xs[i]:=vz (by lia);exact⟨a,_,rfl,d,h.2 i a _ b d⟩
theorem yx:∀{n:Nat} {hs:List Int},hs.Nodup->(∀k∈hs,0<=k/\k<(n:Int))->hs.length<=n
 | 0,hs,_,h=>by
  cases hs with
  | nil=>exact vb _
  | cons k r=>have:=h k vq;lia
 | n+1,hs,nd,h=>by
  by_cases e:(n:Int)∈hs
  ·have i:=yx (n:=n) (nd.erase (n:Int)) fun k a=>by
    have b:=h k (List.mem_of_mem_erase a);have c:k≠(n:Int):=fun z=>nd.not_mem_erase (z▸a)
    lia
   have l:=List.length_erase_of_mem e;lia
  ·have i:=yx (n:=n) nd fun k a=>by
    have b:=h k a;have c:k≠(n:Int):=fun z=>e (z▸a)
    lia
   lia
noncomputable def Fm.ns:Fm->List Str
 | .row ps=>ps
 | .side ps=>ps
 | .again _ x=>[x]
 | _=>[]
noncomputable def numK(xs:List Str):List (Key×V):=xs.zipIdx.map fun p=>(Sum.inr p.1,.int (p.2:Nat))
theorem j1H(xs:List Str)(x:Str):numK (xs++[x])=numK xs++[(Sum.inr x,.int (xs.length:Nat))]:=by
 unfold numK;rw[List.zipIdx_append,vj];simp
theorem j2V(xs:List Str):(numK xs).length=xs.length:=by simp[numK]
theorem Wu(xs:List Str):(numK xs).map (·.1)=xs.map Sum.inr:=by
 unfold numK;rw[v4];have e:∀(k:Nat) (xs:List Str),(xs.zipIdx k).map ((fun x=>x.1)∘fun p:Str×Nat=>((Sum.inr p.1:Key),V.int (p.2:Nat)))=xs.map Sum.inr:=fun k xs=>by
  induction xs generalizing k with
  | nil=>rfl
  | cons x r ih=>rw[List.zipIdx_cons,v7,v7,ih];rfl
 exact e 0 xs
theorem j4c{xs:List Str}{j:Nat}{x:Str}(h:xs[j]?=some x):(numK xs)[j]?=some (Sum.inr x,.int (j:Nat)):=by
 unfold numK;rw[vv,List.getElem?_zipIdx,h];simp
theorem j0s:∀{kvs:List (Key×V)} {j:Nat} {k:Key} {v:V},(kvs.map (·.1)).Nodup->kvs[j]?=some (k,v)->valV kvs k=some v
 | [],j,k,v,_,h=>by simp at h
 | p::r,0,k,v,_,h=>by
  simp at h;subst h;unfold valV;simp
 | p::r,j+1,k,v,nd,h=>by
  rw[v7,ur]at nd;have a:r[j]?=some (k,v):=by simpa using h
  have c:p.1≠k:=fun e=>nd.1 (e▸vK.mpr ⟨(k,v),vm a,rfl⟩)
  have b:=j0s nd.2 a;unfold valV at b|-;rw[List.find?_cons,vH c];exact b
theorem KW{xs:List Str}(a:xs.Nodup){j:Nat}{x:Str}(h:xs[j]?=some x):valV (numK xs) (Sum.inr x)=some (.int (j:Nat)):=
 j0s (by rw[Wu];exact pairwise_map.mpr (a.imp fun h e=>h (Sum.inr.inj e))) (j4c h)
theorem ya{kvs:List (Key×V)}{k:Key}{v:V}(h:k∉kvs.map (·.1)):putK kvs k v=kvs++[(k,v)]:=by
 unfold putK;rw[vc];intro e;obtain⟨p,b,a⟩:=any_eq_true.mp e;exact h (vK.mpr ⟨p,b,of_decide_eq_true a⟩)
noncomputable def ixOf:List Str->Str->Nat
 | [],_=>0
 | y::r,x=>if y=x then 0 else ixOf r x+1
theorem Jg:∀{xs:List Str} {j:Nat} {x:Str},xs.Nodup->xs[j]?=some x->ixOf xs x=j
 | [],j,x,_,h=>by simp at h
 | y::r,0,x,_,h=>by
  simp at h;subst h;exact vd rfl
 | y::r,j+1,x,nd,h=>by
  rw[ur]at nd;have a:r[j]?=some x:=by simpa using h
  have b:y≠x:=fun e=>nd.1 (e▸vm a)
  show(if y=x then 0 else ixOf r x+1)=j+1;rw[vc b,Jg nd.2 a]
noncomputable def nmsOf{α:Type}(ps:List (Str×α)):List Str:=ps.map (·.1)
noncomputable def inP(ps:List (Str×Fm))(f:Fm):List Nat:=f.ns.map (ixOf (nmsOf ps))
structure WfB(ls:List (Str×Int))(ps:List (Str×Fm)):Prop where
 ln:(nmsOf ls).Nodup
 l8:ls.length<=8
 pn:(nmsOf ps).Nodup
 p61:ps.length<=61
 f:∀(i:Nat) (p:Str×Fm),ps[i]?=some p->(∀x∈p.2.ns,∃j,j<i/\(nmsOf ps)[j]?=some x)/\p.2.ns.length<=8
 r:∀(i:Nat) (y x:Str) (h n:Int),ps[i]?=some (y,.rise x h n)->∃j:Nat,(nmsOf ls)[j]?=some x
theorem WfB.inP_lt(W:WfB ls ps)(h:ps[i]?=some p)(a:j∈inP ps p.2):j<i:=by
 obtain⟨x,c,rfl⟩:=vK.mp a;obtain⟨k,b,e⟩:=(W.f i p h).1 x c;rw[Jg W.pn e];exact b
inductive sp_numbers_of(vs:List V)(H:Hp)(Q:VK)(xk:XK):Prop
 | mk (l:Addr) (as:List Addr) (xs:List Str) (_:vs=[.ref l]) (_:H l=some (.lst (as.map V.ref))) (_:as.length=xs.length) (_:(∀(i:Nat) (a:Addr) (x:Str),as[i]?=some a->xs[i]?=some x->∃r,H a=some (.tup [.str x,r]))) (_:xs.Nodup) (_:xs.length<=100) (_:∀(d:Addr) (H':Hp),Same H H'->H d=none->H' d=some (.dK (numK xs))->Q (.ref d) H'):sp_numbers_of vs H Q xk
inductive sp_names_in(vs:List V)(H:Hp)(Q:VK)(xk:XK):Prop
 | mk (a:Addr) (f:Fm) (_:vs=[.ref a]) (_:FormAt H a f) (_:∀(b:Addr) (H':Hp),Same H H'->H' b=some (.tup (f.ns.map V.str))->Q (.ref b) H'):sp_names_in vs H Q xk
def ListsAt(H:Hp)(as:List Addr)(M:List (List Int)):Prop:=All2 (fun a ks=>H a=some (.lst (ks.map V.int))) as M
theorem All2.monoM{c:Type}{R S:Addr->c->Prop}{as:List Addr}{xs:List c}(h:All2 R as xs)(k:∀a∈as,∀x,R a x->S a x):All2 S as xs:=⟨h.1,fun i a x b d=>k a (vm b) x (h.2 i a x b d)⟩
inductive sp_inner(vs:List V)(H:Hp)(Q:VK)(xk:XK):Prop
 | mk (b pl pp:Addr) (las pas:List Addr) (ls:List (Str×Int)) (ps:List (Str×Fm)) (_:vs=[.ref b]) (_:BookAt H b pl pp las pas ls ps) (_:WfB ls ps) (_:∀(l:Addr) (as:List Addr) (H':Hp),Same H H'->H l=none->H' l=some (.lst (as.map V.ref))->(∀a∈as,H a=none)->ListsAt H' as (ps.map fun p=>(inP ps p.2).map fun j:Nat=>(j:Int))->Q (.ref l) H'):sp_inner vs H Q xk
def PrsAt(H:Hp)(bs:List Addr)(e:List (Int×Int)):Prop:=All2 (fun b q=>H b=some (.tup [.int q.1,.int q.2])) bs e
def EndsAt(H:Hp)(as:List Addr)(E:List (List (Int×Int))):Prop:=All2 (fun a e=>∃bs,H a=some (.lst (bs.map V.ref))/\PrsAt H bs e) as E
def LastIn(E:List (List (Int×Int)))(is:List Nat)(k v:Int):Prop:=∃pre j post,is=pre++j::post/\(k,v)∈E.getD j []/\∀j'∈post,∀v',(k,v')∉E.getD j' []
def EndIs(ls:List (Str×Int))(ps:List (Str×Fm))(E:List (List (Int×Int)))(f:Fm)(k v:Int):Prop:=LastIn E (inP ps f) k v\/∃x n,f = .rise x v n/\k=(ixOf (nmsOf ls) x:Nat)
def EndOk(ls:List (Str×Int))(ps:List (Str×Fm))(E:List (List (Int×Int))):Prop:=∀(i:Nat) (p:Str×Fm) (e:List (Int×Int)),ps[i]?=some p->E[i]?=some e->(e.map (·.1)).Pairwise (· < ·)/\∀k v,(k,v)∈e↔EndIs ls ps E p.2 k v
inductive sp_ends(vs:List V)(H:Hp)(Q:VK)(xk:XK):Prop
 | mk (b pl pp:Addr) (las pas:List Addr) (ls:List (Str×Int)) (ps:List (Str×Fm)) (_:vs=[.ref b]) (_:BookAt H b pl pp las pas ls ps) (_:WfB ls ps) (_:∀(l:Addr) (as:List Addr) (E:List (List (Int×Int))) (H':Hp),Same H H'->H l=none->H' l=some (.lst (as.map V.ref))->(∀a∈as,H a=none)->E.length=ps.length->EndsAt H' as E->EndOk ls ps E->Q (.ref l) H'):sp_ends vs H Q xk
def MovOk(ls:List (Str×Int))(ps:List (Str×Fm))(M:List (List Int)):Prop:=∀(i:Nat) (p:Str×Fm) (ks:List Int),ps[i]?=some p->M[i]?=some ks->ks.Pairwise (· < ·)/\∀k,k∈ks↔(∃j∈inP ps p.2,k∈M.getD j [])\/∃x h n,p.2 = .rise x h n/\k=(ixOf (nmsOf ls) x:Nat)
inductive sp_moved(vs:List V)(H:Hp)(Q:VK)(xk:XK):Prop
 | mk (b pl pp:Addr) (las pas:List Addr) (ls:List (Str×Int)) (ps:List (Str×Fm)) (_:vs=[.ref b]) (_:BookAt H b pl pp las pas ls ps) (_:WfB ls ps) (_:∀(l:Addr) (as:List Addr) (M:List (List Int)) (H':Hp),Same H H'->H l=none->H' l=some (.lst (as.map V.ref))->(∀a∈as,H a=none)->M.length=ps.length->ListsAt H' as M->MovOk ls ps M->Q (.ref l) H'):sp_moved vs H Q xk
theorem j3C:∀{a b:List Int},a.Pairwise (· < ·)->b.Pairwise (· < ·)->(∀k,k∈a↔k∈b)->a=b
 | [],[],_,_,_=>rfl
 | [],y::s,_,_,h=>uh ((h y).mpr vq) (by simp)
 | x::r,[],_,_,h=>uh ((h x).mp vq) (by simp)
 | x::r,y::s,ha,hb,h=>by
  rw[vU]at ha hb;have e:x=y:=by
   rcases mem_cons.mp ((h x).mp vq)with q | q
   ·exact q
   ·rcases mem_cons.mp ((h y).mpr vq)with d | d
    ·exact d.symm
    ·have f:=hb.1 x q;have g:=ha.1 y d;lia
  subst e;congr 1;refine j3C ha.2 hb.2 fun k=>⟨fun c=>?_,fun c=>?_⟩
  ·rcases mem_cons.mp ((h k).mp (vp _ c))with q | q
   ·have:=ha.1 k c;lia
   ·exact q
  ·rcases mem_cons.mp ((h k).mpr (vp _ c))with q | q
   ·have:=hb.1 k c;lia
   ·exact q
theorem getD_map{E:List (List (Int×Int))}(j:Nat):(E.map fun e=>e.map (·.1)).getD j []=(E.getD j []).map (·.1):=by
 rw[vy,vy,vv];cases E[j]?<;>rfl
theorem W4{k:Int}{e:List (Int×Int)}:k∈e.map (·.1)↔∃v,(k,v)∈e:=by
 constructor
 ·intro h;obtain⟨p,a,rfl⟩:=vK.mp h;exact⟨p.2,a⟩
 ·rintro⟨v,h⟩;exact vK.mpr ⟨_,h,rfl⟩
theorem Kl:∀{is:List Nat},(∃v,LastIn E is k v)↔∃j∈is,∃v,(k,v)∈E.getD j []
 | []=>⟨fun⟨v,b,j,a,e,_⟩=>by cases b<;>simp at e,fun⟨j,h,_⟩=>by simp at h⟩
 | i::r=>by
  have p:=Kl (E:=E) (k:=k) (is:=r);constructor
  ·rintro⟨v,b,j,a,e,c,m⟩;exact⟨j,by rw[e];simp,v,c⟩
  ·rintro⟨j,d,v,n⟩;by_cases q:∃j∈r,∃v,(k,v)∈E.getD j []
   ·obtain⟨l,b,g,a,e,c,m⟩:=p.mpr q;exact⟨l,i::b,g,a,by rw[e];rfl,c,m⟩
   ·rcases mem_cons.mp d with rfl | d
    ·exact⟨v,[],j,r,rfl,n,fun g o l f=>q ⟨g,o,l,f⟩⟩
    ·exact uh ⟨j,d,v,n⟩ q
theorem j2M{ls:List (Str×Int)}{ps:List (Str×Fm)}{E:List (List (Int×Int))}(s:E.length=ps.length)(h:EndOk ls ps E):MovOk ls ps (E.map fun e=>e.map (·.1)):=fun i p t q d=>by
 rw[vv]at d;obtain⟨e,o,rfl⟩:=vg.mp d;obtain⟨a,b⟩:=h i p e q o;refine⟨a,fun k=>?_⟩;rw[W4];constructor
 ·rintro⟨v,r⟩;rcases(b k v).mp r with z | ⟨x,n,f,g⟩
  ·obtain⟨j,l,m,c⟩:=Kl.mp ⟨v,z⟩;exact .inl ⟨j,l,by rw[getD_map];exact W4.mpr ⟨m,c⟩⟩
  ·exact .inr ⟨x,v,n,f,g⟩
 ·rintro(⟨j,l,d⟩ | ⟨x,h,n,f,g⟩)
  ·rw[getD_map]at d;obtain⟨m,c⟩:=W4.mp d;obtain⟨v,z⟩:=Kl.mpr ⟨j,l,m,c⟩;exact⟨v,(b k v).mpr (.inl z)⟩
  ·exact⟨h,(b k h).mpr (.inr ⟨x,n,f,g⟩)⟩
theorem j0M(h:x∈xs):ixOf xs x<xs.length:=by
 induction xs with
 | nil=>exact nomatch h
 | cons y r ih=>
  show(if y=x then 0 else ixOf r x+1)<r.length+1;split
  ·lia
  ·rename_i hne;rcases mem_cons.mp h with e | e
   ·exact uh e.symm hne
   ·have:=ih e;lia
theorem KK(W:WfB ls ps)(s:E.length<=ps.length)(h:EndOk ls ps E):∀(i:Nat),∀q∈E.getD i [],0<=q.1/\q.1<(ls.length:Int):=by
 intro i
 induction i using Nat.strongRecOn with
 | ind i ih=>
  intro q a;rw[vy]at a;cases e:E[i]? with
  | none=>rw[e]at a;exact nomatch a
  | some ev=>
   rw[e]at a;have r:=(vx.mp e).1;have f:ps[i]?=some ps[i]:=vz (by lia);obtain⟨_,b⟩:=h i _ ev f e;rcases(b q.1 q.2).mp a with⟨m,j,k,c,d,_⟩ | ⟨x,n,c,d⟩
   ·exact ih j (W.inP_lt f (by rw[c];simp)) _ d
   ·have g:ps[i]?=some (ps[i].1,.rise x q.2 n):=by rw[f,<-c]
    obtain⟨j,l⟩:=W.r i _ _ _ _ g;have o:=j0M (vm l);have p:(nmsOf ls).length=ls.length:=vt _;rw[d];lia
theorem Xb{ls:List (Str×Int)}{ps:List (Str×Fm)}(W:WfB ls ps){E:List (List (Int×Int))}(f:E.length<=ps.length)(h:EndOk ls ps E){i:Nat}{e:List (Int×Int)}(c:E[i]?=some e):e.length<=8:=by
 have hi:=(vx.mp c).1;have a:=(h i _ e (vz (by lia)) c).1;have b:=KK W f h i;rw[vy,c]at b;have z:=kx (ks:=e.map (·.1)) (lo:=0) (hi:=ls.length) a fun k d=>by
  obtain⟨q,g,rfl⟩:=vK.mp d;exact b q g
 rw[vt]at z;have:=W.l8;lia
noncomputable def putI(kvs:List (Int×Int))(k v:Int):List (Int×Int):=if k∈kvs.map (·.1)then kvs.map (fun q=>if q.1=k then(q.1,v)else q)else kvs++[(k,v)]
noncomputable def mergeI(kvs more:List (Int×Int)):List (Int×Int):=more.foldl (fun acc q=>putI acc q.1 q.2) kvs
theorem j39(kvs:List (Int×Int))(k v:Int):putK (kvs.map iiK) (Sum.inl k) (.int v)=(putI kvs k v).map iiK:=by
 have e:(((kvs.map iiK).any fun kv=>decide (kv.1=(Sum.inl k:Key)))=true)↔k∈kvs.map (·.1):=by
  rw[List.any_map,any_eq_true];constructor
  ·rintro⟨q,a,h⟩;have b:(Sum.inl q.1:Key)=Sum.inl k:=of_decide_eq_true h;exact vK.mpr ⟨q,a,Sum.inl.inj b⟩
  ·intro h;obtain⟨q,a,rfl⟩:=vK.mp h;exact⟨q,a,vG rfl⟩
 unfold putK putI;by_cases c:k∈kvs.map (·.1)
 ·rw[vd (e.mpr c),vd c,v4,v4];refine map_congr_left fun q _=>?_
  show(if(Sum.inl q.1:Key)=Sum.inl k then _ else _)=iiK (if q.1=k then(q.1,v)else q);by_cases z:q.1=k
  ·rw[vd z,vd (by rw[z])];rfl
  ·rw[vc z,vc (fun w=>z (Sum.inl.inj w))]
 ·rw[vc (fun w=>c (e.mp w)),vc c,vj];rfl
theorem Zq:∀(more kvs:List (Int×Int)),mergeK (kvs.map iiK) (more.map iiK)=(mergeI kvs more).map iiK
 | [],kvs=>rfl
 | q::r,kvs=>by
  show mergeK (putK (kvs.map iiK) (Sum.inl q.1) (.int q.2)) (r.map iiK)=(mergeI (putI kvs q.1 q.2) r).map iiK;rw[j39,Zq r]
theorem j1O(kvs:List (Int×Int))(k v:Int)(d:(kvs.map (·.1)).Nodup):((putI kvs k v).map (·.1)).Nodup:=by
 unfold putI;split
 ·rw[v4];have e:kvs.map ((fun x=>x.1)∘fun q=>if q.1=k then(q.1,v)else q)=kvs.map (·.1):=map_congr_left fun q _=>by
   show(if q.1=k then(q.1,v)else q).1=q.1;split<;>rfl
  rw[e];exact d
 ·rename_i c;rw[vj,nodup_append];exact⟨d,pairwise_singleton _ _,fun a f b g e=>c (by rw[show k=b from(vo.mp g).symm,<-e];exact f)⟩
theorem j2L:(a,b)∈putI kvs k v↔(a=k/\b=v)\/(a≠k/\(a,b)∈kvs):=by
 unfold putI;split
 ·rename_i c;rw[vK];constructor
  ·rintro⟨q,d,e⟩;by_cases z:q.1=k
   ·rw[vd z]at e;cases e;exact .inl ⟨z,rfl⟩
   ·rw[vc z]at e;subst e;exact .inr ⟨z,d⟩
  ·rintro(⟨rfl,rfl⟩ | ⟨f,g⟩)
   ·obtain⟨q,d,e⟩:=vK.mp c;exact⟨q,d,by rw[vd e,e]⟩
   ·exact⟨(a,b),g,by rw[vc f]⟩
 ·rename_i c;rw[vh];constructor
  ·rintro(h | h)
   ·exact .inr ⟨fun e=>c (e▸vK.mpr ⟨(a,b),h,rfl⟩),h⟩
   ·cases vo.mp h;exact .inl ⟨rfl,rfl⟩
  ·rintro(⟨rfl,rfl⟩ | ⟨_,h⟩)
   ·exact .inr (vo.mpr rfl)
   ·exact .inl h
theorem Wp:∀{more kvs:List (Int×Int)},(kvs.map (·.1)).Nodup->(more.map (·.1)).Nodup->((mergeI kvs more).map (·.1)).Nodup/\∀k v,(k,v)∈mergeI kvs more↔(k,v)∈more\/((∀c,(k,c)∉more)/\(k,v)∈kvs)
 | [],kvs,nd,_=>⟨nd,fun k v=>⟨fun h=>.inr ⟨(fun _ h=>nomatch h),h⟩,fun h=>h.elim (fun h=>nomatch h) (·.2)⟩⟩
 | q::r,kvs,nd,nm=>by
  rw[v7,ur]at nm;obtain⟨a,b⟩:=Wp (more:=r) (kvs:=putI kvs q.1 q.2) (j1O _ _ _ nd) nm.2;refine⟨a,fun k v=>(b k v).trans ?_⟩;rw[j2L];have i:∀c,(q.1,c)∉r:=fun c h=>nm.1 (vK.mpr ⟨_,h,rfl⟩)
  constructor
  ·rintro(h | ⟨f,⟨rfl,rfl⟩ | ⟨g,j⟩⟩)
   ·exact .inl (vp _ h)
   ·exact .inl vq
   ·refine .inr ⟨fun c d=>?_,j⟩;rcases mem_cons.mp d with e | e
    ·exact g (by rw[<-e])
    ·exact f c e
  ·rintro(h | ⟨f,g⟩)
   ·rcases mem_cons.mp h with e | e
    ·refine .inr ⟨fun c d=>?_,.inl ⟨by rw[<-e],by rw[<-e]⟩⟩;rw[<-e]at i;exact i c d
    ·exact .inl e
   ·refine .inr ⟨fun c d=>f c (vp _ d),.inr ⟨fun e=>?_,g⟩⟩;exact f q.2 (by rw[e];exact vq)
theorem KQ(b:(ms.map (·.1)).Nodup):mergeI [] ms=ms:=by
 have e:∀(r a:List (Int×Int)),((a++r).map (·.1)).Nodup->mergeI a r=a++r:=by
  intro r
  induction r with
  | nil=>intro a _;exact(append_nil _).symm
  | cons q r ih=>
   intro a b;have c:q.1∉a.map (·.1):=fun h=>by
    rw[vj,nodup_append]at b;exact b.2.2 q.1 h q.1 (by simp) rfl
   show mergeI (putI a q.1 q.2) r=_;unfold putI;rw[vc c,ih (a++[(q.1,q.2)]) (by rw[List.append_assoc];exact b),List.append_assoc];rfl
 exact e ms [] b
theorem j1y:LastIn E (is++[j]) k v↔(k,v)∈E.getD j []\/((∀m,(k,m)∉E.getD j [])/\LastIn E is k v):=by
 constructor
 ·rintro⟨c,i,a,e,g,l⟩;rcases List.eq_nil_or_concat a with rfl | ⟨b,x,rfl⟩
  ·have f:=List.append_inj' (show is++[j]=c++[i]from e) rfl;have n:j=i:=by simpa using f.2
   rw[n];exact .inl g
  ·have p:is++[j]=(c++i::b)++[x]:=by rw[e];simp
   have f:=List.append_inj' p rfl;have n:j=x:=by simpa using f.2
   subst n;exact .inr ⟨l j (by simp),c,i,b,f.1,g,fun o d=>l o (by simp[d])⟩
 ·rintro(h | ⟨g,c,i,a,e,l,q⟩)
  ·exact⟨is,j,[],rfl,h,(fun _ h=>nomatch h)⟩
  ·refine⟨c,i,a++[j],by rw[e];simp,l,fun o d m=>?_⟩;rcases vh.mp d with z | z
   ·exact q o z m
   ·rw[vo.mp z];exact g m
theorem zU(h:∀j∈is,E.getD j []=E'.getD j []):LastIn E is k v->LastIn E' is k v:=by
 rintro⟨c,j,b,e,f,g⟩;refine⟨c,j,b,e,by rw[<-h j (by rw[e];simp)];exact f,fun d a=>?_⟩;rw[<-h d (by rw[e];simp[a])];exact g d a
theorem EndOk.snoc{ls:List (Str×Int)}{ps:List (Str×Fm)}(W:WfB ls ps){E:List (List (Int×Int))}{p:Str×Fm}{e:List (Int×Int)}(h:EndOk ls ps E)(u:ps[E.length]?=some p)(o:(e.map (·.1)).Pairwise (· < ·))
  (r:∀k v,(k,v)∈e↔EndIs ls ps E p.2 k v):EndOk ls ps (E++[e]):=fun i q f g c=>by
 have t:i<=E.length:=by
  have:=(vx.mp c).1;rw[vn]at this;exact Nat.le_of_lt_succ this
 have ext:∀j∈inP ps q.2,E.getD j []=(E++[e]).getD j []:=fun j l=>(getD_snoc (by have:=W.inP_lt g l;lia)).symm
 have d:∀k v,EndIs ls ps E q.2 k v↔EndIs ls ps (E++[e]) q.2 k v:=fun k v=>by
  unfold EndIs;exact⟨fun h=>h.imp (zU ext) id,fun h=>h.imp (zU fun j l=>(ext j l).symm) id⟩
 by_cases s:i<E.length
 ·rw[vB s]at c;obtain⟨a,b⟩:=h i q f g c;exact⟨a,fun k v=>(b k v).trans (d k v)⟩
 ·have n:i=E.length:=by lia
  subst n;rw[vC (vb _),uu]at c;have m:e=f:=by simpa using c
  subst m;rw[u]at g;cases g;exact⟨o,fun k v=>(r k v).trans (d k v)⟩
theorem j2B{H:Hp}(h:FormAt H a f)(d:∀x v n,f≠.rise x v n):∃k xs,H a=some (.tup (.str k::xs))/\decide (k=("raise" : Str))=false:=by
 cases f with
 | hold n=>exact⟨_,_,h,by decide +kernel⟩
 | ring x n=>exact⟨_,_,h,by decide +kernel⟩
 | rise x v n=>exact uh rfl (d x v n)
 | row ps=>obtain⟨b,c,_⟩:=h;exact⟨_,_,c,by decide +kernel⟩
 | side ps=>obtain⟨b,c,_⟩:=h;exact⟨_,_,c,by decide +kernel⟩
 | again k x=>exact⟨_,_,h,by decide +kernel⟩
noncomputable def kv0(ls:List (Str×Int)):Fm->List (Int×Int)
 | .rise x h _=>[((ixOf (nmsOf ls) x:Nat),h)]
 | _=>[]
theorem j44(a:∀x v n,f≠.rise x v n):kv0 ls f=[]:=by
 cases f with
 | rise x v n=>exact uh rfl (a x v n)
 | _=>rfl
theorem W5:(k,v)∈kv0 ls f↔∃x n,f = .rise x v n/\k=(ixOf (nmsOf ls) x:Nat):=by
 cases f with
 | rise x h n=>
  constructor
  ·intro a;cases vo.mp a;exact⟨x,n,rfl,rfl⟩
  ·rintro⟨c,b,e,rfl⟩;injection e with e1 e2 e3;subst e1 e2;exact vo.mpr rfl
 | _=>exact⟨(fun h=>nomatch h),fun⟨_,_,e,_⟩=>nomatch e⟩
theorem j4S(f:Fm):inP ps f=[]\/kv0 ls f=[]:=by
 cases f with
 | rise x h n=>exact .inl rfl
 | _=>exact .inr rfl
theorem j4T(f:Fm):((kv0 ls f).map (·.1)).Nodup:=by
 cases f with
 | rise x h n=>exact pairwise_singleton _ _
 | _=>exact .nil
inductive sp_check_side(vs:List V)(H:Hp)(Q:VK)(xk:XK):Prop
 | mk (r:Int) (l ll:Addr) (as las:List Addr) (M:List (List Int)) (_:vs=[.int r,.ref l,.ref ll]) (_:H l=some (.lst (as.map V.ref))) (_:ListsAt H as M) (_:(∀ks∈M,ks≠[])) (_:M.length<=8) (_:H ll=some (.lst (las.map V.ref))) (_:(∀k:Int,(M.filter fun ks=>decide (k∈ks)).length<=1)) (_:∀H',Same H H'->Q .non H'):sp_check_side vs H Q xk
noncomputable def LenIs:Fm->List Int->Int->Prop
 | .hold n,_,g=>g=n
 | .ring _ n,_,g=>g=n
 | .rise _ _ n,_,g=>g=n
 | .row _,gs,g=>g=gs.sum
 | .side _,gs,g=>g∈gs/\∀x∈gs,x<=g
 | .again k _,gs,g=>∃y,gs.head?=some y/\g=k*y
noncomputable def LenPre:Fm->List Int->Prop
 | .side _,gs=>gs≠[]
 | .again k _,gs=>∃y r,gs=y::r/\0<=k/\k<=10^18/\0<=y/\y<=10^60
 | _,_=>True
inductive sp_length_of(vs:List V)(H:Hp)(Q:VK)(xk:XK):Prop
 | mk (a l:Addr) (f:Fm) (gs:List Int) (_:vs=[.ref a,.ref l]) (_:FormAt H a f) (_:H l=some (.lst (gs.map V.int))) (_:LenPre f gs) (_:∀g,LenIs f gs g->Q (.int g) H):sp_length_of vs H Q xk
structure Snd(ls:List (Str×Int))(ps:List (Str×Fm))(gs:List Int)(hs:List (List Int)):Prop where
 w:WfB ls ps
 gl:gs.length=ps.length
 gb:∀i,i<ps.length->0<=gs.getD i 0/\gs.getD i 0<=10^60
 mv:∀M:List (List Int),M.length=ps.length->MovOk ls ps M->∀i,i<ps.length->M.getD i []=hs.getD i []
 ln:∀(i:Nat) (p:Str×Fm),ps[i]?=some p->LenPre p.2 ((inP ps p.2).map fun j=>gs.getD j 0)/\∀g,LenIs p.2 ((inP ps p.2).map fun j=>gs.getD j 0) g->g=gs.getD i 0
 sd:∀(i:Nat) (p:Str×Fm) (qs:List Str),ps[i]?=some p->p.2 = .side qs->(∀j∈inP ps p.2,hs.getD j []≠[])/\∀k:Int,(((inP ps p.2).map fun j=>hs.getD j []).filter fun ks=>decide (k∈ks)).length<=1
inductive sp_lengths(vs:List V)(H:Hp)(Q:VK)(xk:XK):Prop
 | mk (b pl pp:Addr) (las pas:List Addr) (ls:List (Str×Int)) (ps:List (Str×Fm)) (gs:List Int) (hs:List (List Int)) (_:vs=[.ref b]) (_:BookAt H b pl pp las pas ls ps) (_:Snd ls ps gs hs) (_:∀(l:Addr) (H':Hp),Same H H'->H l=none->H' l=some (.lst (gs.map V.int))->Q (.ref l) H'):sp_lengths vs H Q xk
theorem any_empty{M:List (List Int)}(h:∀ks∈M,ks≠[]):(M.any fun ks=>decide (ks=[]))=false:=by
 rw[List.any_eq_false];intro ks a;simpa using h ks a
theorem j43{gs:List Int}{i:Nat}(h:i<gs.length):gs.take (i+1)=gs.take i++[gs.getD i 0]:=by
 refine take_snoc ?_;rw[vy,vz h];rfl
theorem j5n{gs:List Int}{i j:Nat}(hi:i<=gs.length)(a:j<i):atI ((gs.take i).map V.int) (j:Int)=some (.int (gs.getD j 0)):=by
 refine jO ?_;rw[vv,List.getElem?_take,vd a,vy,vz (by lia)];rfl
theorem j1a:∀{a b:List (Int×Int)},(a.map (·.1)).Pairwise (· < ·)->(b.map (·.1)).Pairwise (· < ·)->(∀k v,(k,v)∈a↔(k,v)∈b)->a=b
 | [],[],_,_,_=>rfl
 | [],y::s,_,_,h=>uh ((h y.1 y.2).mpr vq) (by simp)
 | x::r,[],_,_,h=>uh ((h x.1 x.2).mp vq) (by simp)
 | x::r,y::s,ha,hb,h=>by
  rw[v7,vU]at ha hb;have g:∀q∈r,x.1<q.1:=fun q d=>ha.1 _ (vK.mpr ⟨q,d,rfl⟩)
  have i:∀q∈s,y.1<q.1:=fun q d=>hb.1 _ (vK.mpr ⟨q,d,rfl⟩)
  have e:x=y:=by
   rcases mem_cons.mp ((h x.1 x.2).mp vq)with q | q
   ·exact q
   ·rcases mem_cons.mp ((h y.1 y.2).mpr vq)with f | f
    ·exact f.symm
    ·have j:=i _ q;have l:=g _ f;simp only at j l;lia
  subst e;rw[j1a ha.2 hb.2 fun k v=>?_];constructor
  ·intro c;rcases mem_cons.mp ((h k v).mp (vp _ c))with q | q
   ·have:=g _ c;rw[<-q]at this;simp only at this;lia
   ·exact q
  ·intro c;rcases mem_cons.mp ((h k v).mpr (vp _ c))with q | q
   ·have:=i _ c;rw[<-q]at this;simp only at this;lia
   ·exact q
theorem j2k{xs:List V}{k:Nat}:cutV xs none (some (k:Int))=xs.take k:=by
 unfold cutV;rw[show HT.sIx xs.length 0 none=0 from rfl,HT.j4l,List.drop_zero,Nat.sub_zero,List.take_eq_take_iff];lia
theorem j48(W:WfB ls ps)(m:M.length=ps.length)(h:MovOk ls ps M):∀(i:Nat),∀k∈M.getD i [],0<=k/\k<(ls.length:Int):=by
 intro i
 induction i using Nat.strongRecOn with
 | ind i ih=>
  intro k a;rw[vy]at a;cases e:M[i]? with
  | none=>rw[e]at a;exact nomatch a
  | some ks=>
   rw[e]at a;have l:=(vx.mp e).1;have d:ps[i]?=some ps[i]:=vz (by lia);obtain⟨_,b⟩:=h i _ ks d e;rcases(b k).mp a with⟨j,c,f⟩ | ⟨x,v,n,g,rfl⟩
   ·exact ih j (W.inP_lt d c) k f
   ·obtain⟨j,c⟩:=W.r i (ps[i]).1 x v n (by rw[d,<-g]);rw[Jg W.ln c];have:=(vx.mp c).1;unfold nmsOf at this;rw[vt]at this;lia
theorem j49{ls:List (Str×Int)}{ps:List (Str×Fm)}(W:WfB ls ps){M:List (List Int)}(d:M.length=ps.length)(h:MovOk ls ps M){i:Nat}{ks:List Int}(c:M[i]?=some ks):ks.length<=8:=by
 have hi:=(vx.mp c).1;have a:=(h i _ ks (vz (by lia)) c).1;have b:=j48 W d h i;rw[vy,c]at b;have z:=kx (ks:=ks) (lo:=0) (hi:=ls.length) a b;have:=W.l8;lia
theorem FormAt.keep{H H':Hp}(k:∀c xs,H c=some (.tup xs)->H' c=some (.tup xs))(h:FormAt H a f):FormAt H' a f:=by
 cases f with
 | row ps=>obtain⟨c,b,d⟩:=h;exact⟨c,k _ _ b,k _ _ d⟩
 | side ps=>obtain⟨c,b,d⟩:=h;exact⟨c,k _ _ b,k _ _ d⟩
 | hold n=>exact k _ _ h
 | ring x n=>exact k _ _ h
 | rise x g n=>exact k _ _ h
 | again x n=>exact k _ _ h
theorem PartAt.keep{H H':Hp}(k:∀c xs,H c=some (.tup xs)->H' c=some (.tup xs))(h:PartAt H a p):PartAt H' a p:=by
 obtain⟨b,d,e⟩:=h;exact⟨b,k _ _ d,FormAt.keep k e⟩
theorem All2.set{f:Type}{R:Addr->f->Prop}{as:List Addr}{xs:List f}(h:All2 R as xs){k:Nat}{a:Addr}{x:f}(g:R a x):All2 R (as.set k a) (xs.set k x):=by
 refine⟨by rw[length_set,length_set];exact h.1,fun i b y c d=>?_⟩;rw[List.getElem?_set]at c d;by_cases e:k=i
 ·rw[vd e]at c d;split at c
  ·split at d
   ·cases c;cases d;exact g
   ·cases d
  ·cases c
 ·rw[vc e]at c d;exact h.2 i b y c d
section
variable{ls:List (Str×Int)}{x:Str}{f:Fm}
end
theorem j2e(a:0<=i)(h:xs[i.toNat]?=some c):atI xs i=some c:=by
 have q:∀k:Nat,xs[k]?=some c->atI xs (k:Int)=some c:=fun k d=>by
  obtain⟨b,rfl⟩:=vx.mp d;unfold atI ixN;simp[b]
 have:=q i.toNat h;rw[Int.toNat_of_nonneg a]at this;exact this
noncomputable abbrev Pc:=Nat×Int×Int
noncomputable abbrev Pr4:=Nat×Int×Int×Option Int
noncomputable def rowPc(gs:List Int):List Nat->Int->List Pc
 | [],_=>[]
 | j::r,b=>(j,1,b)::rowPc gs r (b+gs.getD j 0)
noncomputable def pcsI(gs:List Int)(f:Fm)(is:List Nat):List Pc:=
 match f with
 | .again k _=>match is with
  | []=>[]
  | j::_=>(j,1,0)::(if 1<k then[(j,k-1,gs.getD j 0)]else[])
 | .row _=>rowPc gs is 0
 | _=>is.map fun j=>(j,1,0)
def PcsAt(H:Hp)(as:List Addr)(qs:List Pc):Prop:=All2 (fun a q=>H a=some (.tup [.int (q.1:Nat),.int q.2.1,.int q.2.2])) as qs
def PssAt(H:Hp)(as:List Addr)(qss:List (List Pc)):Prop:=All2 (fun a qs=>∃bs,H a=some (.lst (bs.map V.ref))/\PcsAt H bs qs) as qss
inductive sp_pieces_in(vs:List V)(H:Hp)(Q:VK)(xk:XK):Prop
 | mk (a l s:Addr) (f:Fm) (is:List Nat) (gs:List Int) (_:vs=[.ref a,.ref l,.ref s]) (_:FormAt H a f) (_:H l=some (.lst ((is.map fun j:Nat=>(j:Int)).map V.int))) (_:H s=some (.lst (gs.map V.int))) (_:is.length<=8) (_:(∀j∈is,j<gs.length)) (_:(∀k x,f = .again k x->is≠[])) (_:∀(p:Addr) (as:List Addr) (H':Hp),Same H H'->H p=none->H' p=some (.lst (as.map V.ref))->PcsAt H' as (pcsI gs f is)->Q (.ref p) H'):sp_pieces_in vs H Q xk
inductive sp_pieces_of(vs:List V)(H:Hp)(Q:VK)(xk:XK):Prop
 | mk (b pl pp s:Addr) (las pas:List Addr) (ls:List (Str×Int)) (ps:List (Str×Fm)) (gs:List Int) (_:vs=[.ref b,.ref s]) (_:BookAt H b pl pp las pas ls ps) (_:WfB ls ps) (_:H s=some (.lst (gs.map V.int))) (_:gs.length=ps.length) (_:∀(l:Addr) (as:List Addr) (H':Hp),Same H H'->H l=none->H' l=some (.lst (as.map V.ref))->PssAt H' as (ps.map fun p=>pcsI gs p.2 (inP ps p.2))->(∀a∈as,H a=none)->Q (.ref l) H'):sp_pieces_of vs H Q xk
noncomputable def ov(gs:List Int)(t:Int)(q:Pc):Int:=if q.2.1<(t-q.2.2)/gs.getD q.1 0 then q.2.1 else(t-q.2.2)/gs.getD q.1 0
noncomputable def prg1(gs:List Int)(t:Int)(q:Pc):Option Pr4:=
 if q.2.2<=t then some (q.1,q.2.2,ov gs t q,if ov gs t q<q.2.1 then some (t-q.2.2-ov gs t q*gs.getD q.1 0)else none)else none
noncomputable def prg(gs:List Int)(t:Int)(qs:List Pc):List Pr4:=qs.filterMap (prg1 gs t)
noncomputable def optV:Option Int->V
 | none=>.non
 | some r=>.int r
def PrgAt(H:Hp)(as:List Addr)(ys:List Pr4):Prop:=All2 (fun a y=>H a=some (.tup [.int (y.1:Nat),.int y.2.1,.int y.2.2.1,optV y.2.2.2])) as ys
def PcOk(gs:List Int)(q:Pc):Prop:=q.1<gs.length/\1<=gs.getD q.1 0/\gs.getD q.1 0<=10^60/\1<=q.2.1/\q.2.1<=10^18/\0<=q.2.2/\q.2.2<=10^62
inductive sp_progress(vs:List V)(H:Hp)(Q:VK)(xk:XK):Prop
 | mk (l s:Addr) (t:Int) (bs:List Addr) (qs:List Pc) (gs:List Int) (_:vs=[.ref l,.ref s,.int t]) (_:H l=some (.lst (bs.map V.ref))) (_:PcsAt H bs qs) (_:H s=some (.lst (gs.map V.int))) (_:qs.length<=8) (_:(∀q∈qs,PcOk gs q)) (_:0<=t) (_:t<=10^62) (_:∀(p:Addr) (as:List Addr) (H':Hp),Same H H'->H p=none->H' p=some (.lst (as.map V.ref))->PrgAt H' as (prg gs t qs)->Q (.ref p) H'):sp_progress vs H Q xk
noncomputable def wth1(gs:List Int)(y:Pr4):List (Nat×Int):=(if 0<y.2.2.1 then[(y.1,gs.getD y.1 0)]else[])++(match y.2.2.2 with | some r=>[(y.1,r)] | none=>[])
noncomputable def wth(gs:List Int)(t:Int)(qs:List Pc):List (Nat×Int):=(prg gs t qs).flatMap (wth1 gs)
noncomputable def reachL(pc:Nat->List Pc)(gs:List Int):Nat->Nat->Int->List (Nat×Int)
 | 0,i,t=>[(i,t)]
 | n+1,i,t=>if gs.getD i 0<=t\/pc i=[]then[(i,t)]else(wth gs t (pc i)).flatMap fun x=>reachL pc gs n x.1 x.2
noncomputable def nodesL(pc:Nat->List Pc)(gs:List Int):Nat->Nat->Int->Nat
 | 0,_,_=>1
 | n+1,i,t=>if gs.getD i 0<=t\/pc i=[]then 1 else 1+((wth gs t (pc i)).map fun x=>nodesL pc gs n x.1 x.2).sum
noncomputable def pcB(ps:List (Str×Fm))(gs:List Int)(i:Nat):List Pc:=match ps[i]? with | some p=>pcsI gs p.2 (inP ps p.2) | none=>[]
section
variable{gs:List Int}{t:Int}
theorem Wo(h:q∈rowPc gs is b):q.1∈is/\q.2.1=1:=by
 induction is generalizing b with
 | nil=>exact nomatch h
 | cons j r ih=>
  rcases mem_cons.mp h with rfl | h
  ·exact⟨vq,rfl⟩
  ·obtain⟨a,b⟩:=ih h;exact⟨vp _ a,b⟩
theorem j1A(is:List Nat)(b:Int):(rowPc gs is b).length=is.length:=by
 induction is generalizing b with
 | nil=>rfl
 | cons j r ih=>rw[rowPc,vP,vP,ih]
theorem kU(d:∀j∈is,0<=gs.getD j 0/\gs.getD j 0<=10^60)(h:q∈rowPc gs is b):b<=q.2.2/\q.2.2<=b+10^60*is.length:=by
 induction is generalizing b with
 | nil=>exact nomatch h
 | cons j r ih=>
  have g:=d j vq;rw[vP];rcases mem_cons.mp h with rfl | h
  ·have:(0:Int)<=10^60*((r.length+1:Nat):Int):=vM (by decide) (by lia);exact⟨vA _,by show b<=_;lia⟩
  ·obtain⟨a,c⟩:=ih (fun k e=>d k (vp _ e)) h;refine⟨by lia,?_⟩;rw[show((r.length+1:Nat):Int)=(r.length:Int)+1 by lia,Int.mul_add];lia
theorem YC(h:q∈pcsI gs f is):q.1∈is:=by
 unfold pcsI at h;split at h
 ·split at h
  ·exact nomatch h
  ·rcases mem_cons.mp h with rfl | h
   ·exact vq
   ·split at h
    ·rw[vo.mp h];exact vq
    ·exact nomatch h
 ·exact(Wo h).1
 ·obtain⟨j,a,rfl⟩:=vK.mp h;exact a
theorem Xn(a:is.length<=8):(pcsI gs f is).length<=8:=by
 unfold pcsI;split
 ·split
  ·exact va _
  ·split<;>simp
 ·rw[j1A];exact a
 ·rw[vt];exact a
theorem j0T(h:y∈prg gs t qs):∃q∈qs,prg1 gs t q=some y:=mem_filterMap.mp h
theorem j35(h:prg1 gs t q=some y):y.1=q.1:=by
 unfold prg1 at h;split at h
 ·cases h;rfl
 ·cases h
theorem W6(h:x∈wth gs t qs):∃q∈qs,x.1=q.1:=by
 obtain⟨y,c,a⟩:=mem_flatMap.mp h;obtain⟨q,b,e⟩:=j0T c;refine⟨q,b,?_⟩;rw[<-j35 e];unfold wth1 at a;rcases vh.mp a with z | z
 ·split at z
  ·rw[vo.mp z]
  ·exact nomatch z
 ·split at z
  ·rw[vo.mp z]
  ·exact nomatch z
end
section
variable{ls:List (Str×Int)}{ps:List (Str×Fm)}{gs:List Int}
theorem kC(W:WfB ls ps)(h:q∈pcB ps gs i):q.1<i:=by
 unfold pcB at h;split at h
 ·rename_i p hp;exact W.inP_lt hp (YC h)
 ·exact nomatch h
theorem yp(W:WfB ls ps)(h:x∈wth gs t (pcB ps gs i)):x.1<i:=by
 obtain⟨q,a,e⟩:=W6 h;rw[e];exact kC W a
theorem QH{a c:Type}{f g:a->List c}:∀{l:List a},(∀x∈l,f x=g x)->l.flatMap f=l.flatMap g
 | [],_=>rfl
 | x::r,h=>by rw[flatMap_cons,flatMap_cons,h x vq,QH fun y b=>h y (vp _ b)]
theorem K4(W:WfB ls ps):∀{n m i:Nat} {t:Int},i<n->i<m->reachL (pcB ps gs) gs n i t=reachL (pcB ps gs) gs m i t
 | 0,_,_,_,h,_=>uh h (Nat.not_lt_zero _)
 | _,0,_,_,_,h=>uh h (Nat.not_lt_zero _)
 | n+1,m+1,i,t,h1,h2=>by
  unfold reachL;split
  ·rfl
  ·exact QH fun x a=>by
    have:=yp W a;exact K4 W (by lia) (by lia)
theorem KS(W:WfB ls ps):∀{n m i:Nat} {t:Int},i<n->i<m->nodesL (pcB ps gs) gs n i t=nodesL (pcB ps gs) gs m i t
 | 0,_,_,_,h,_=>uh h (Nat.not_lt_zero _)
 | _,0,_,_,_,h=>uh h (Nat.not_lt_zero _)
 | n+1,m+1,i,t,h1,h2=>by
  unfold nodesL;split
  ·rfl
  ·congr 2;exact map_congr_left fun x a=>by
    have:=yp W a;exact KS W (by lia) (by lia)
noncomputable def reach(ps:List (Str×Fm))(gs:List Int)(i:Nat)(t:Int):List (Nat×Int):=reachL (pcB ps gs) gs (i+1) i t
noncomputable def nodes(ps:List (Str×Fm))(gs:List Int)(i:Nat)(t:Int):Nat:=nodesL (pcB ps gs) gs (i+1) i t
theorem JD(h:gs.getD i 0<=t\/pcB ps gs i=[]):reach ps gs i t=[(i,t)]:=by
 unfold reach reachL;rw[vd h]
theorem qD(W:WfB ls ps)(h:¬(gs.getD i 0<=t\/pcB ps gs i=[])):reach ps gs i t=(wth gs t (pcB ps gs i)).flatMap fun x=>reach ps gs x.1 x.2:=by
 unfold reach;rw[reachL,vc h];exact QH fun x a=>by
  have:=yp W a;exact K4 W (by lia) (by lia)
theorem KU(h:gs.getD i 0<=t\/pcB ps gs i=[]):nodes ps gs i t=1:=by
 unfold nodes nodesL;rw[vd h]
theorem j08(W:WfB ls ps)(h:¬(gs.getD i 0<=t\/pcB ps gs i=[])):nodes ps gs i t=1+((wth gs t (pcB ps gs i)).map fun x=>nodes ps gs x.1 x.2).sum:=by
 unfold nodes;rw[nodesL,vc h];congr 2;exact map_congr_left fun x a=>by
  have:=yp W a;exact KS W (by lia) (by lia)
end
section
variable{gs:List Int}{t:Int}
noncomputable def wq(gs:List Int)(t:Int)(q:Pc):List (Nat×Int):=match prg1 gs t q with | some y=>wth1 gs y | none=>[]
theorem ZG:wth gs t []=[]:=rfl
theorem qW(q:Pc)(a:List Pc):wth gs t (q::a)=wq gs t q++wth gs t a:=by
 unfold wth prg wq;rw[filterMap_cons];cases prg1 gs t q with
 | none=>rfl
 | some y=>rfl
theorem j1g(h:t<q.2.2):wq gs t q=[]:=by
 unfold wq prg1;rw[vc (by lia)]
theorem xJ(d:1<=gs.getD j 0)(h:b<=t):wq gs t (j,1,b)=if gs.getD j 0<=t-b then[(j,gs.getD j 0)]else[(j,t-b)]:=by
 have c:wq gs t (j,1,b)=wth1 gs (j,b,ov gs t (j,1,b),if ov gs t (j,1,b)<1 then some (t-b-ov gs t (j,1,b)*gs.getD j 0)else none):=by
  unfold wq prg1;rw[vd (show b<=t from h)]
 rw[c];generalize a:gs.getD j 0=g at d|-;have e:ov gs t (j,1,b)=if g<=t-b then 1 else 0:=by
  show(if(1:Int)<(t-b)/gs.getD j 0 then(1:Int)else(t-b)/gs.getD j 0)=_;rw[a];by_cases z:g<=t-b
  ·rw[vd z];have:1<=(t-b)/g:=by
    rw[Int.le_ediv_iff_mul_le (by lia)];lia
   split<;>lia
  ·rw[vc z];have:(t-b)/g=0:=Int.ediv_eq_zero_of_lt (by lia) (by lia);rw[this];rfl
 by_cases z:g<=t-b
 ·rw[vd z]at e;rw[vd z,e];unfold wth1;simp;rw[<-vy];exact a
 ·rw[vc z]at e;rw[vc z,e];unfold wth1;simp
theorem j1h(h:q.2.2<=t):wq gs t q=(if 0<ov gs t q then[(q.1,gs.getD q.1 0)]else[])++(if ov gs t q<q.2.1 then[(q.1,t-q.2.2-ov gs t q*gs.getD q.1 0)]else[]):=by
 unfold wq prg1;rw[vd h];show wth1 gs _=_;unfold wth1;congr 1;show(match(if ov gs t q<q.2.1 then some (t-q.2.2-ov gs t q*gs.getD q.1 0)else none)with | some r=>[(q.1,r)] | none=>[])=_;split<;>rename_i e<;>split at e
 ·cases e;rw[vd (by assumption)]
 ·cases e
 ·cases e
 ·rw[vc (by assumption)]
theorem wy:∀{a:List Pc},(∀q∈a,t<q.2.2)->wth gs t a=[]
 | [],_=>rfl
 | q::r,h=>by rw[qW,j1g (h q vq),wy fun q b=>h q (vp _ b)];rfl
theorem XG(a:∀j∈is,0<=gs.getD j 0/\gs.getD j 0<=10^60)(h:t<b):wth gs t (rowPc gs is b)=[]:=
 wy fun q c=>by have:=(kU a c).1;lia
theorem zX(a:∀k∈j::r,1<=gs.getD k 0/\gs.getD k 0<=10^60)(h:b<=t):wth gs t (rowPc gs (j::r) b)=if gs.getD j 0<=t-b then(j,gs.getD j 0)::wth gs t (rowPc gs r (b+gs.getD j 0))else[(j,t-b)]:=by
 have g:=a j vq;rw[rowPc,qW,xJ g.1 h];split
 ·rfl
 ·rw[XG (fun k c=>by have:=a k (vp _ c);lia) (by lia)];rfl
theorem j3t{a:Type}{f g:a->Nat}:∀{l:List a},(∀x∈l,f x<=g x)->(l.map f).sum<=(l.map g).sum
 | [],_=>vb _
 | x::r,h=>by
  rw[v7,v7,v8,v8];have:=h x vq;have:=j3t (l:=r) fun y b=>h y (vp _ b)
  lia
theorem j15{N:Nat×Int->Nat}:∀{is:List Nat} {b:Int},(∀k∈is,1<=gs.getD k 0/\gs.getD k 0<=10^60)->(∀k∈is,N (k,gs.getD k 0)=1)->(∀k∈is,∀r,0<=r->N (k,r)<=B)->((wth gs t (rowPc gs is b)).map N).sum<=is.length+B
 | [],b,_,_,_=>va _
 | j::r,b,hg,h1,h2=>by
  by_cases h:b<=t
  ·rw[zX hg h];split
   ·rw[v7,v8,h1 j vq,vP];have:=j15 (N:=N) (B:=B) (is:=r) (b:=b+gs.getD j 0) (fun k a=>hg k (vp _ a)) (fun k a=>h1 k (vp _ a)) fun k a=>h2 k (vp _ a)
    lia
   ·have:=h2 j vq (t-b) (by lia);simp;lia
  ·rw[XG (fun k a=>by have:=hg k a;lia) (by lia)];exact va _
theorem YS{is:List Nat}(a:∀k∈is,1<=gs.getD k 0)(c:0<=t):wth gs t (is.map fun j=>(j,1,0))=is.map fun j=>if gs.getD j 0<=t then(j,gs.getD j 0)else(j,t):=by
 induction is with
 | nil=>rfl
 | cons j r ih=>
  rw[v7,qW,xJ (a j vq) c,ih fun k b=>a k (vp _ b),v7,Int.sub_zero];split<;>rfl
theorem j1i{N:Nat×Int->Nat}(l:1<=gs.getD j 0)(f:0<=t)(b:N (j,gs.getD j 0)=1)(d:∀r,0<=r->N (j,r)<=B) :
  ((wth gs t ((j,1,0)::(if 1<k then[(j,k-1,gs.getD j 0)]else[]))).map N).sum<=2+B:=by
 rw[qW,xJ l f,Int.sub_zero,vj,List.sum_append];by_cases z:gs.getD j 0<=t
 ·rw[vd z];have a:((wth gs t (if 1<k then[(j,k-1,gs.getD j 0)]else[])).map N).sum<=1+B:=by
   split
   ·rw[qW,ZG,append_nil,j1h (show gs.getD j 0<=t from z),vj,List.sum_append];have g:(((if 0<ov gs t (j,k-1,gs.getD j 0)then[(j,gs.getD j 0)]else[]):List (Nat×Int)).map N).sum<=1:=by
     split
     ·simp;rw[<-vy,b];exact vb _
     ·simp
    have h:(((if ov gs t (j,k-1,gs.getD j 0)<k-1 then[(j,t-gs.getD j 0-ov gs t (j,k-1,gs.getD j 0)*gs.getD j 0)]else[]):List (Nat×Int)).map N).sum<=B:=by
     split
     ·have m:ov gs t (j,k-1,gs.getD j 0)=(t-gs.getD j 0)/gs.getD j 0:=by
       show(if k-1<(t-gs.getD j 0)/gs.getD j 0 then k-1 else(t-gs.getD j 0)/gs.getD j 0)=_;rename_i c;have i:(if k-1<(t-gs.getD j 0)/gs.getD j 0 then k-1 else(t-gs.getD j 0)/gs.getD j 0)<k-1:=c;split at i
       ·lia
       ·rename_i z;rw[vc z]
      have:=d (t-gs.getD j 0-ov gs t (j,k-1,gs.getD j 0)*gs.getD j 0) (by
       rw[m];have:=Int.ediv_mul_le (t-gs.getD j 0) (show gs.getD j 0≠0 by lia);lia)
      simp;exact this
     ·simp
    have o:((if 0<ov gs t (j,k-1,gs.getD j 0)then[((j,k-1,gs.getD j 0):Pc).1].map fun a=>(a,gs.getD a 0)else[]):List (Nat×Int))=if 0<ov gs t (j,k-1,gs.getD j 0)then[(j,gs.getD j 0)]else[]:=rfl
    exact Nat.add_le_add g h
   ·exact va _
  have:(([(j,gs.getD j 0)]:List (Nat×Int)).map N).sum=1:=by
   simp;rw[<-vy,b]
  lia
 ·rw[vc z];have e:wth gs t (if 1<k then[(j,k-1,gs.getD j 0)]else[])=[]:=by
   split
   ·exact wy fun q n=>by rw[vo.mp n];show t<gs.getD j 0;lia
   ·rfl
  rw[e];have:=d t f;simp;lia
end
theorem len_sub{a b:List Int}(c:a.Nodup)(f:∀x∈a,x∈b):a.length<=b.length:=by
 induction a generalizing b with
 | nil=>exact va _
 | cons x r ih=>
  rw[ur]at c;have g:=f x vq;have:=ih (b:=b.erase x) c.2 fun y h=>by
   have d:y≠x:=fun e=>c.1 (e▸h)
   exact(List.mem_erase_of_ne d).mpr (f y (vp _ h))
  rw[List.length_erase_of_mem g]at this;have:0<b.length:=length_pos_of_mem g;rw[vP];lia
section
variable{ls:List (Str×Int)}{ps:List (Str×Fm)}{gs:List Int}{hs:List (List Int)}
theorem Xk(S:Snd ls ps gs hs)(a:hs.length=ps.length)(hi:i<ps.length):hs[i]?=some (hs.getD i []):=by
 rw[vy,vz (by lia)];rfl
theorem j4X(S:Snd ls ps gs hs)(e:hs.length=ps.length)(M:MovOk ls ps hs){i:Nat}{p:Str×Fm}(c:ps[i]?=some p){j:Nat}(d:j∈inP ps p.2):(hs.getD j []).length<=(hs.getD i []).length:=by
 have f:=(vx.mp c).1;have l:=S.w.inP_lt c d;obtain⟨_,b⟩:=M i p _ c (Xk S e f);obtain⟨a,_⟩:=M j _ _ (vz (show j<ps.length by lia)) (Xk S e (by lia));exact len_sub (a.imp fun h=>by lia) fun k g=>(b k).mpr (.inl ⟨j,d,g⟩)
theorem j3k(S:Snd ls ps gs hs)(v:hs.length=ps.length)(M:MovOk ls ps hs){i:Nat}{p:Str×Fm}{x:List Str}(f:ps[i]?=some p)(e:p.2 = .side x):((inP ps p.2).map fun j=>(hs.getD j []).length).sum<=(hs.getD i []).length:=by
 have A:=(vx.mp f).1;obtain⟨_,t⟩:=S.sd i p x f e;obtain⟨_,b⟩:=M i p _ f (Xk S v A);have C:=fun j=>S.w.inP_lt (j:=j) f
 have D:∀d:List Nat,(∀j∈d,j<ps.length)->(∀k:Int,((d.map fun j=>hs.getD j []).filter fun s=>decide (k∈s)).length<=1)->(d.flatMap fun j=>hs.getD j []).Nodup:=fun d=>by
  induction d with
  | nil=>exact fun _ _=>.nil
  | cons j r ih=>
   intro l u;rw[flatMap_cons];have E:(hs.getD j []).Nodup:=by
    obtain⟨a,_⟩:=M j _ _ (vz (l j vq)) (Xk S v (l j vq));exact a.imp fun h=>by lia
   refine nodup_append.mpr ⟨E,ih (fun k c=>l k (vp _ c)) fun k=>?_,fun a y b z g=>?_⟩
   ·have:=u k;rw[v7,v6]at this;split at this
    ·rw[vP]at this;lia
    ·exact this
   ·subst g;obtain⟨B,o,q⟩:=mem_flatMap.mp z;have:=u a;rw[v7,v6,vd (vG y),vP]at this;have H:0<((r.map fun j=>hs.getD j []).filter fun s=>decide (a∈s)).length:=length_pos_of_mem (vO.mpr ⟨vK.mpr ⟨B,o,rfl⟩,vG q⟩);lia
 have n:=D (inP ps p.2) (fun j m=>by have:=C j m;lia) t;have w:=len_sub (b:=hs.getD i []) n fun k c=>by
  obtain⟨j,m,c⟩:=mem_flatMap.mp c;exact(b k).mpr (.inl ⟨j,m,c⟩)
 rw[List.length_flatMap]at w;exact w
theorem j19{a:Type}{f:a->Nat}:∀{l:List a},(l.map fun x=>c*f x).sum=c*(l.map f).sum
 | []=>rfl
 | x::r=>by rw[v7,v7,v8,v8,j19,Nat.mul_add]
theorem j2U(S:Snd ls ps gs hs)(z:hs.length=ps.length)(M:MovOk ls ps hs)(H:∀i,i<ps.length->1<=gs.getD i 0):∀i t,i<ps.length->0<=t->nodes ps gs i t<=9*(i+1)*max 1 (hs.getD i []).length:=by
 intro i
 induction i using Nat.strongRecOn with
 | ind i ih=>
  intro t I y;have W:=S.w;have B:1<=max 1 (hs.getD i []).length:=Nat.le_max_left _ _;by_cases a:gs.getD i 0<=t\/pcB ps gs i=[]
  ·rw[KU a];have:1*1<=9*(i+1)*max 1 (hs.getD i []).length:=Nat.mul_le_mul (by lia) B;lia
  rw[j08 W a];obtain⟨p,o⟩:∃p,ps[i]?=some p:=⟨_,vz I⟩
  have c:pcB ps gs i=pcsI gs p.2 (inP ps p.2):=by unfold pcB;rw[o]
  have q:=fun j=>W.inP_lt (j:=j) o
  have h:∀k∈inP ps p.2,1<=gs.getD k 0/\gs.getD k 0<=10^60:=fun k m=>by
   have:=q k m;exact⟨H k (by lia),(S.gb k (by lia)).2⟩
  have J:(inP ps p.2).length<=8:=by unfold inP;rw[vt];exact(W.f i p o).2
  have b:∀k∈inP ps p.2,nodes ps gs k (gs.getD k 0)=1:=fun k _=>KU (.inl (vA _))
  have hB:∀k∈inP ps p.2,∀r,0<=r->nodes ps gs k r<=9*i*max 1 (hs.getD i []).length:=fun k m r w=>by
   have l:=q k m;have:=ih k l r (by lia) w;have s:=j4X S z M o m;refine vV this (Nat.mul_le_mul (by lia) ?_);exact Nat.max_le.mpr ⟨Nat.le_max_left _ _,vV s (Nat.le_max_right _ _)⟩
  have f:∀X:Nat,X<=8+9*i*max 1 (hs.getD i []).length->1+X<=9*(i+1)*max 1 (hs.getD i []).length:=fun X L=>by
   rw[Nat.mul_add,Nat.add_mul];have:9*1*1<=9*1*max 1 (hs.getD i []).length:=Nat.mul_le_mul (vb _) B;lia
  rw[c];cases e:p.2 with
  | again k x=>
   have d:inP ps p.2=[ixOf (nmsOf ps) x]:=by rw[e];rfl
   rw[e]at d;rw[d];have g:ixOf (nmsOf ps) x∈inP ps p.2:=by rw[e,d];exact vq
   refine f _ (vV (j1i (N:=fun x=>nodes ps gs x.1 x.2) (h _ g).1 y (b _ g) (hB _ g)) (by lia))
  | row xs=>
   rw[e]at h b hB J;exact f _ (vV (j15 (N:=fun x=>nodes ps gs x.1 x.2) h b hB) (by lia))
  | side xs=>
   have E:=j3k S z M o e;obtain⟨D,_⟩:=S.sd i p xs o e;rw[show pcsI gs (.side xs) (inP ps (.side xs))=(inP ps (.side xs)).map fun j=>(j,1,0)from rfl];rw[e]at h b E D q;rw[YS (fun k m=>(h k m).1) y,v4];have A:((inP ps (.side xs)).map ((fun x=>nodes ps gs x.1 x.2)∘fun j=>if gs.getD j 0<=t then(j,gs.getD j 0)else(j,t))).sum<=((inP ps (.side xs)).map fun j=>9*i*(hs.getD j []).length).sum:=by
    refine j3t fun j u=>?_
    have l:=q j u;have K:1<=(hs.getD j []).length:=length_pos_iff.mpr (D j u);have C:∀r,0<=r->nodes ps gs j r<=9*i*(hs.getD j []).length:=fun r w=>by
     have:=ih j l r (by lia) w;rw[Nat.max_eq_right K]at this;exact vV this (Nat.mul_le_mul (by lia) (vb _))
    show nodes ps gs (if gs.getD j 0<=t then(j,gs.getD j 0)else(j,t)).1 (if gs.getD j 0<=t then(j,gs.getD j 0)else(j,t)).2<=_;split
    ·exact C _ (by have:=h j u;lia)
    ·exact C _ y
   rw[j19]at A;refine f _ (vV A (vV (Nat.mul_le_mul (vb (9*i)) (vV E (Nat.le_max_right 1 _))) (Nat.le_add_left _ _)))
  | hold n=>
   exact uh (.inr (by rw[c,e];rfl)) a
  | ring x n=>
   exact uh (.inr (by rw[c,e];rfl)) a
  | rise x v n=>
   exact uh (.inr (by rw[c,e];rfl)) a
end
structure Sn(ls:List (Str×Int))(ps:List (Str×Fm))(gs:List Int)(hs:List (List Int)):Prop where
 s:Snd ls ps gs hs
 hl:hs.length=ps.length
 m:MovOk ls ps hs
 g1:∀i,i<ps.length->1<=gs.getD i 0
 ne:1<=ps.length
 l18:∀q∈ls,0<=q.2/\q.2<=10^18
 r18:∀(i:Nat) (y x:Str) (v n:Int),ps[i]?=some (y,.rise x v n)->0<=v/\v<=10^18/\1<=n/\n<=10^18
 a18:∀(i:Nat) (y x:Str) (k:Int),ps[i]?=some (y,.again k x)->1<=k/\k<=10^18
section
variable{ls:List (Str×Int)}{ps:List (Str×Fm)}{gs:List Int}{hs:List (List Int)}
theorem Sn.g(N:Sn ls ps gs hs)(hi:i<ps.length):1<=gs.getD i 0/\gs.getD i 0<=10^60:=⟨N.g1 i hi,(N.s.gb i hi).2⟩
theorem Sn.i8(N:Sn ls ps gs hs){i:Nat}{p:Str×Fm}(a:ps[i]?=some p):(inP ps p.2).length<=8:=by
 unfold inP;rw[vt];exact(N.s.w.f i p a).2
theorem Sn.pcOk(N:Sn ls ps gs hs){i:Nat}{q:Pc}(h:q∈pcB ps gs i):PcOk gs q:=by
 have u:=kC N.s.w h;have n:=h;unfold pcB at h;split at h
 case h_2=>exact nomatch h
 rename_i p hp;have o:=(vx.mp hp).1;have g:=N.g (show q.1<ps.length by lia);have t:=N.i8 hp;have a:∀k∈inP ps p.2,0<=gs.getD k 0/\gs.getD k 0<=10^60:=fun k d=>by
  have:=N.s.w.inP_lt hp d;have:=N.g (show k<ps.length by lia);lia
 refine⟨by rw[N.s.gl];lia,g.1,g.2,?_⟩;unfold pcsI at h;split at h
 ·rename_i k x e;have f:=N.a18 i p.1 x k (by rw[hp,<-e]);split at h
  ·exact nomatch h
  ·rename_i j r ein;have c:=a j (by rw[ein];exact vq);rcases mem_cons.mp h with rfl | h
   ·exact⟨(by show(1:Int)<=1;decide),(by show(1:Int)<=10^18;decide),(by show(0:Int)<=0;decide),(by show(0:Int)<=10^62;decide)⟩
   ·split at h
    ·rw[vo.mp h];refine⟨?_,?_,c.1,?_⟩
     ·show 1<=k-1;lia
     ·show k-1<=_;lia
     ·show gs.getD j 0<=_;lia
    ·exact nomatch h
 ·obtain⟨b,l⟩:=kU a h;have m:=(Wo h).2;refine⟨by lia,by lia,b,?_⟩;have:(10:Int)^60*((inP ps p.2).length:Int)<=10^60*8:=Int.mul_le_mul_of_nonneg_left (by lia) (by decide);lia
 ·obtain⟨j,s,rfl⟩:=vK.mp h;exact⟨(by show(1:Int)<=1;decide),(by show(1:Int)<=10^18;decide),(by show(0:Int)<=0;decide),(by show(0:Int)<=10^62;decide)⟩
theorem j2Z(c:PcOk gs q)(h:q.2.2<=t):0<=ov gs t q/\ov gs t q<=q.2.1/\ov gs t q*gs.getD q.1 0<=t-q.2.2/\0<=ov gs t q*gs.getD q.1 0:=by
 obtain⟨_,e,_,f,_,_⟩:=c;have d:0<=(t-q.2.2)/gs.getD q.1 0:=Int.ediv_nonneg (by lia) (by lia);have b:=Int.ediv_mul_le (t-q.2.2) (show gs.getD q.1 0≠0 by lia);have a:0<=ov gs t q/\ov gs t q<=q.2.1/\ov gs t q<=(t-q.2.2)/gs.getD q.1 0:=by
  unfold ov;split<;>lia
 refine⟨a.1,a.2.1,?_,vM a.1 (by lia)⟩;exact Int.le_trans (vT a.2.2 (by lia)) b
theorem j0u(j:∀q∈qs,PcOk gs q)(h:x∈wth gs t qs):0<=x.2:=by
 obtain⟨y,i,d⟩:=mem_flatMap.mp h;obtain⟨q,g,e⟩:=j0T i;have o:=j q g;by_cases c:q.2.2<=t
 case neg=>unfold prg1 at e;rw[vc c]at e;cases e
 have b:=j2Z o c;unfold prg1 at e;rw[vd c]at e;have f:=vL e;subst f;unfold wth1 at d;rcases vh.mp d with z | z
 ·have z:x∈(if 0<ov gs t q then[(q.1,gs.getD q.1 0)]else[]):=z;split at z
  ·rw[vo.mp z];exact Int.le_trans (by decide) o.2.1
  ·exact nomatch z
 ·split at z
  ·rename_i r a;rw[vo.mp z];have a:(if ov gs t q<q.2.1 then some (t-q.2.2-ov gs t q*gs.getD q.1 0)else none)=some r:=a;split at a
   ·cases a;show 0<=t-q.2.2-ov gs t q*gs.getD q.1 0;lia
   ·cases a
  ·exact nomatch z
theorem Sn.nodes(N:Sn ls ps gs hs)(a:∀i,i<ps.length->(hs.getD i []).length<=8)(hi:i<ps.length)(b:0<=t):Rm.nodes ps gs i t<=5000:=by
 have:=j2U N.s N.hl N.m N.g1 i t hi b;have c:=N.s.w.p61;have d:=a i hi;have:9*(i+1)*max 1 (hs.getD i []).length<=9*61*8:=Nat.mul_le_mul (by lia) (by lia);lia
end
noncomputable def appH(ls:List (Str×Int))(ps:List (Str×Fm))(gs:List Int)(E:List (List (Int×Int)))(h:List Int)(x:Nat×Int):List Int:=
 if gs.getD x.1 0<=x.2 then(E.getD x.1 []).foldl (fun h q=>h.set q.1.toNat q.2) h
 else match ps[x.1]? with
  | some (_,.rise y v n)=>h.set (ixOf (nmsOf ls) y) (Rp.ramp (h.getD (ixOf (nmsOf ls) y) 0) v n x.2)
  | _=>h
noncomputable def standH(ls:List (Str×Int))(ps:List (Str×Fm))(gs:List Int)(E:List (List (Int×Int)))(t:Int):List Int:=(reach ps gs (ps.length-1) t).foldl (appH ls ps gs E) (ls.map (·.2))
noncomputable def ringX(ps:List (Str×Fm))(x:Nat×Int):List Str:=match ps[x.1]? with
 | some (_,.ring y _)=>if x.2=0 then[y]else[]
 | _=>[]
theorem All2.app{e:Type}{R:Addr->e->Prop}{as d:List Addr}{xs ys:List e}(h:All2 R as xs)(k:All2 R d ys):All2 R (as++d) (xs++ys):=by
 have g:=h.1;refine⟨by rw[vn,vn,h.1,k.1],fun i a x b c=>?_⟩;by_cases f:i<as.length
 ·rw[vB f]at b;rw[vB (by lia)]at c;exact h.2 i a x b c
 ·rw[vC (by lia)]at b;rw[vC (by lia)]at c;exact k.2 _ a x b (by rw[g];exact c)
theorem All2.cons{b:Type}{R:Addr->b->Prop}{a:Addr}{as:List Addr}{x:b}{xs:List b}(h:R a x)(k:All2 R as xs):All2 R (a::as) (x::xs):=All2.app (as:=[a]) (xs:=[x]) (All2.snoc (as:=[]) (xs:=[]) .nil h) k
theorem j3I{gs:List Int}{n:Nat}(h:1<=n)(e:gs.length=n):atI (gs.map V.int) (-1)=some (.int (gs.getD (n-1) 0)):=by
 have i:ixN n (-1)=some (n-1):=by
  unfold ixN;simp;lia
 unfold atI;rw[vt,e,i];show(gs.map V.int)[n-1]?=_;rw[vv,vy,vz (by lia)];rfl
section
variable{ls:List (Str×Int)}{ps:List (Str×Fm)}{gs:List Int}{hs:List (List Int)}
theorem K5(W:WfB ls ps):∀{i:Nat} {t:Int} {x:Nat×Int},i<ps.length->x∈reach ps gs i t->x.1<ps.length:=by
 intro i
 induction i using Nat.strongRecOn with
 | ind i ih=>
  intro t x b a;by_cases h:gs.getD i 0<=t\/pcB ps gs i=[]
  ·rw[JD h]at a;rw[vo.mp a];exact b
  ·rw[qD W h]at a;obtain⟨y,c,a⟩:=mem_flatMap.mp a;have:=yp W c;exact ih y.1 this (by lia) a
theorem Wv(N:Sn ls ps gs hs):∀{i:Nat} {t:Int} {x:Nat×Int},i<ps.length->0<=t->x∈reach ps gs i t->0<=x.2:=by
 intro i
 induction i using Nat.strongRecOn with
 | ind i ih=>
  intro t x e d a;by_cases h:gs.getD i 0<=t\/pcB ps gs i=[]
  ·rw[JD h]at a;rw[vo.mp a];exact d
  ·rw[qD N.s.w h]at a;obtain⟨y,b,a⟩:=mem_flatMap.mp a;have:=yp N.s.w b;exact ih y.1 this (by lia) (j0u (fun q c=>N.pcOk c) b) a
theorem j2o(N:Sn ls ps gs hs)(m:E.length=ps.length)(k:EndOk ls ps E):∀{i:Nat},i<ps.length->∀q∈E.getD i [],0<=q.2/\q.2<=10^18:=by
 intro i
 induction i using Nat.strongRecOn with
 | ind i ih=>
  intro f q h;have d:E[i]?=some (E.getD i []):=by rw[vy,vz (by lia)];rfl
  obtain⟨p,a⟩:∃p,ps[i]?=some p:=⟨_,vz f⟩
  rcases((k i p _ a d).2 q.1 q.2).mp h with⟨l,j,b,e,c,_⟩ | ⟨x,n,e,_⟩
  ·have g:j∈inP ps p.2:=by rw[e];simp
   have:=N.s.w.inP_lt a g;exact ih j this (by lia) _ c
  ·have:=N.r18 i p.1 x q.2 n (by rw[a,<-e]);lia
theorem xz(i:0<=h/\h<=10^18)(l:0<=v/\v<=10^18)(k:1<=n)(d:0<=j)(e:j<=n):0<=Rp.ramp h v n j/\Rp.ramp h v n j<=10^18:=by
 unfold Rp.ramp;by_cases c:h<=v
 ·have a:0<=(v-h)*j:=vM (by lia) d;have b:(v-h)*j<=(v-h)*n:=Int.mul_le_mul_of_nonneg_left e (by lia);have f:0<=(v-h)*j/n:=Int.ediv_nonneg a (by lia);have g:(v-h)*j/n<=v-h:=by
   have:=Int.ediv_le_ediv (show 0<n by lia) b;rw[Int.mul_ediv_cancel _ (show n≠0 by lia)]at this;exact this
  lia
 ·have a:(v-h)*j<=0:=Int.mul_nonpos_of_nonpos_of_nonneg (by lia) d;have b:(v-h)*n<=(v-h)*j:=Int.mul_le_mul_of_nonpos_left (by lia) e;have f:(v-h)*j/n<=0:=by
   have:=Int.ediv_le_ediv (show 0<n by lia) a;rw[Int.zero_ediv]at this;exact this
  have g:v-h<=(v-h)*j/n:=by
   have:=Int.ediv_le_ediv (show 0<n by lia) b;rw[Int.mul_ediv_cancel _ (show n≠0 by lia)]at this;exact this
  lia
end
inductive Fn where
 | hold (n:Int) | ring (x:Str) (n:Int) | rise (x:Str) (h n:Int) | row (is:List Nat) | side (is:List Nat) | again (k:Int) (j:Nat)
noncomputable def Fn.js:Fn->List Nat
 | .row is=>is
 | .side is=>is
 | .again _ j=>[j]
 | _=>[]
def Ex(p:Addr)(H H':Hp):Prop:=∀c u,c≠p->H c=some u->H' c=some u
theorem Ex.refl(H:Hp):Ex p H H:=fun _ _ _ h=>h
theorem Ex.trans{d e f:Hp}(a:Ex p d e)(b:Ex p e f):Ex p d f:=fun c u n h=>b c u n (a c u n h)
theorem Ex.of{H H':Hp}(s:Same H H'):Ex p H H':=fun c u _ h=>s c u h
noncomputable def LenN(gs:List Int):Fn->Int->Prop
 | .hold n,g=>g=n
 | .ring _ n,g=>g=n
 | .rise _ _ n,g=>g=n
 | .row is,g=>g=(is.map fun j=>gs.getD j 0).sum
 | .side is,g=>(∃j∈is,g=gs.getD j 0)/\∀j∈is,gs.getD j 0<=g
 | .again k j,g=>g=k*gs.getD j 0
def MovN(L:List Str)(M:List (List Int))(f:Fn)(ks:List Int):Prop:=ks.Pairwise (· < ·)/\∀k,k∈ks↔(∃j∈f.js,k∈M.getD j [])\/∃(x:Str) (h n:Int) (i:Nat),f = .rise x h n/\L[i]?=some x/\k=(i:Int)
def ApartN(M:List (List Int))(is:List Nat):Prop:=(∀j∈is,M.getD j []≠[])/\is.Pairwise fun a b=>∀k∈M.getD a [],¬k∈M.getD b []
noncomputable def PreN(L:List Str)(M:List (List Int))(n:Nat):Fn->Prop
 | .hold m=>1<=m/\m<=10^18
 | .ring x m=>1<=m/\m<=10^18/\Ws.isW x=true
 | .rise x h m=>(∃i:Nat,L[i]?=some x)/\0<=h/\h<=10^18/\1<=m/\m<=10^18
 | .row is=>is≠[]/\is.length<=8/\∀j∈is,j<n
 | .side is=>2<=is.length/\is.length<=8/\(∀j∈is,j<n)/\ApartN M is
 | .again k j=>1<=k/\k<=10^18/\j<n
theorem PreN.js(h:PreN L M n f):f.js.length<=8/\∀j∈f.js,j<n:=by
 cases f with
 | row is=>exact h.2
 | side is=>exact⟨h.2.1,h.2.2.1⟩
 | again k j=>exact⟨by show 1<=8;lia,fun i a=>by rw[vo.mp a];exact h.2.2⟩
 | hold n=>exact⟨va _,fun j h=>nomatch h⟩
 | ring x n=>exact⟨va _,fun j h=>nomatch h⟩
 | rise x v n=>exact⟨va _,fun j h=>nomatch h⟩
structure DOk(L:List Str)(fs:List Fn)(M:List (List Int))(gs:List Int):Prop where
 ml:M.length=fs.length
 gl:gs.length=fs.length
 f:∀(i:Nat) (f:Fn),fs[i]?=some f->PreN L M i f/\MovN L M f (M.getD i [])/\LenN gs f (gs.getD i 0)
 g:∀i,i<fs.length->1<=gs.getD i 0/\gs.getD i 0<=10^60
noncomputable def toldF(names:List Str):Fn->Fm
 | .hold n=>.hold n
 | .ring x n=>.ring x n
 | .rise x h n=>.rise x h n
 | .row is=>.row (is.map fun j=>names.getD j ⟨#[]⟩)
 | .side is=>.side (is.map fun j=>names.getD j ⟨#[]⟩)
 | .again k j=>.again k (names.getD j ⟨#[]⟩)
theorem Qo{a:Type}{xs:List a}{x d:a}{j:Nat}(h:j<xs.length):(xs++[x]).getD j d=xs.getD j d:=by
 rw[vy,vy,vB h]
theorem zh{a:Type}{xs:List a}{x d:a}:(xs++[x]).getD xs.length d=x:=by
 rw[vy,vC (vb _),uu];rfl
theorem PreN.ext{L:List Str}{M:List (List Int)}{ks:List Int}{n:Nat}{f:Fn}(q:n<=M.length)(h:PreN L M n f):PreN L (M++[ks]) n f:=by
 cases f with
 | side is=>
  obtain⟨a,b,c,d,e⟩:=h;have g:∀j∈is,(M++[ks]).getD j []=M.getD j []:=fun j i=>Qo (by have:=c j i;lia)
  refine⟨a,b,c,fun j i=>by rw[g j i];exact d j i,?_⟩;exact(List.pairwise_iff_forall_sublist.mpr fun {x y} l=>by
   have o:x∈is:=l.subset vq;have p:y∈is:=l.subset (vp _ vq);rw[g x o,g y p];exact List.pairwise_iff_forall_sublist.mp e l)
 | hold m=>exact h
 | ring x m=>exact h
 | rise x v m=>exact h
 | row is=>exact h
 | again k j=>exact h
theorem MovN.ext{L:List Str}{M:List (List Int)}{ks d:List Int}{f:Fn}(c:∀j∈f.js,j<M.length)(h:MovN L M f d):MovN L (M++[ks]) f d:=by
 refine⟨h.1,fun k=>(h.2 k).trans ?_⟩;have:(∃j∈f.js,k∈M.getD j [])↔∃j∈f.js,k∈(M++[ks]).getD j []:=by
  constructor
  ·rintro⟨j,a,b⟩;exact⟨j,a,by rw[Qo (c j a)];exact b⟩
  ·rintro⟨j,a,b⟩;exact⟨j,a,by rw[Qo (c j a)]at b;exact b⟩
 rw[this]
theorem LenN.ext{gs:List Int}{g' g:Int}{f:Fn}(n:∀j∈f.js,j<gs.length)(h:LenN gs f g):LenN (gs++[g']) f g:=by
 have e:∀j∈f.js,(gs++[g']).getD j 0=gs.getD j 0:=fun j a=>Qo (n j a)
 cases f with
 | hold m=>exact h
 | ring x m=>exact h
 | rise x v m=>exact h
 | row is=>
  show g=(is.map fun j=>(gs++[g']).getD j 0).sum;have d:is.map (fun j=>(gs++[g']).getD j 0)=is.map fun j=>gs.getD j 0:=map_congr_left e
  rw[d];exact h
 | side is=>
  obtain⟨⟨j,a,i⟩,l⟩:=h;exact⟨⟨j,a,by rw[e j a];exact i⟩,fun c b=>by rw[e c b];exact l c b⟩
 | again k j=>
  show g=k*(gs++[g']).getD j 0;rw[e j vq];exact h
theorem DOk.bnd{fs:List Fn}(D:DOk L fs M gs):∀i,i<fs.length->∀k∈M.getD i [],0<=k/\k<(L.length:Int):=by
 intro i
 induction i using Nat.strongRecOn with
 | ind i ih=>
  intro e k f;obtain⟨a,b,_⟩:=D.f i _ (vz e);rcases(b.2 k).mp f with⟨j,c,d⟩ | ⟨x,h,n,j,_,c,rfl⟩
  ·have:=a.js.2 j c;exact ih j this (by lia) k d
  ·have:=(vx.mp c).1;lia
noncomputable def drawnPs(names:List Str)(fs:List Fn):List (Str×Fm):=(List.range fs.length).map fun i=>(names.getD i ⟨#[]⟩,toldF names (fs.getD i (.hold 0)))
section
variable{L:List Str}{fs:List Fn}{M:List (List Int)}{gs:List Int}{names:List Str}{ls:List (Str×Int)}
theorem Jo:(drawnPs names fs).length=fs.length:=by unfold drawnPs;rw[vt,length_range]
theorem qg(h:fs[i]?=some f):(drawnPs names fs)[i]?=some (names.getD i ⟨#[]⟩,toldF names f):=by
 unfold drawnPs;have a:=(vx.mp h).1;rw[vv,List.getElem?_range a];have e:fs.getD i (.hold 0)=f:=by rw[vy,h];rfl
 show some (names.getD i ⟨#[]⟩,toldF names (fs.getD i (.hold 0)))=_;rw[e]
theorem Qg(h:(drawnPs names fs)[i]?=some p):∃f,fs[i]?=some f/\p=(names.getD i ⟨#[]⟩,toldF names f):=by
 have b:=(vx.mp h).1;rw[Jo]at b;obtain⟨f,a⟩:∃f,fs[i]?=some f:=⟨_,vz b⟩
 rw[qg a]at h;exact⟨f,a,(vL h).symm⟩
theorem Wb(c:fs.length<=names.length):nmsOf (drawnPs names fs)=names.take fs.length:=by
 unfold nmsOf drawnPs;rw[v4];refine ext_getElem (by rw[vt,length_range,vi];lia) fun i a b=>?_
 rw[getElem_map,getElem_range,getElem_take];show names.getD i ⟨#[]⟩=_;rw[vy,vz];rfl
theorem j4v(b:fs.length<=names.length)(a:j<fs.length):(nmsOf (drawnPs names fs))[j]?=some (names.getD j ⟨#[]⟩):=by
 rw[Wb b,List.getElem?_take,vd a,vy,vz (by lia)];rfl
theorem xY(a:fs.length<=names.length)(b:names.Nodup):(nmsOf (drawnPs names fs)).Nodup:=by
 rw[Wb a];exact b.sublist (take_sublist _ _)
theorem zf(c:fs.length<=names.length)(d:names.Nodup)(b:∀j∈f.js,j<fs.length):inP (drawnPs names fs) (toldF names f)=f.js:=by
 have e:∀a:List Nat,(∀j∈a,j<fs.length)->(a.map fun j=>names.getD j ⟨#[]⟩).map (ixOf (nmsOf (drawnPs names fs)))=a:=fun a h=>by
  rw[v4]
  conv=>rhs;rw[<-map_id a]
  exact map_congr_left fun j b=>Jg (xY c d) (j4v c (h j b))
 unfold inP;cases f with
 | row a=>exact e a b
 | side a=>exact e a b
 | again k j=>exact e [j] b
 | hold n=>rfl
 | ring x n=>rfl
 | rise x v n=>rfl
theorem XN(f:Fn):(toldF names f).ns=f.js.map fun j=>names.getD j ⟨#[]⟩:=by cases f<;>rfl
theorem DOk.wf(D:DOk (nmsOf ls) fs M gs)(m:fs.length<=names.length)(t:names.Nodup)(l:(nmsOf ls).Nodup)(s:ls.length<=8)(d:fs.length<=61):WfB ls (drawnPs names fs):=by
 refine⟨l,s,xY m t,by rw[Jo];exact d,fun i p g=>?_,fun i y x h n g=>?_⟩
 ·obtain⟨f,c,rfl⟩:=Qg g;have u:=(vx.mp c).1;obtain⟨a,_⟩:=D.f i f c;have q:=a.js;refine⟨fun x o=>?_,?_⟩
  ·rw[XN]at o;obtain⟨j,r,rfl⟩:=vK.mp o;have:=q.2 j r;exact⟨j,this,j4v m (by lia)⟩
  ·rw[XN,vt];exact q.1
 ·obtain⟨f,c,e⟩:=Qg g;obtain⟨a,_⟩:=D.f i f c;have b:=(Prod.mk.inj e).2;cases f with
  | rise x' h' n'=>
   have:x=x':=by injection b
   subst this;exact a.1
  | hold n=>cases b
  | ring x n=>cases b
  | row is=>cases b
  | side is=>cases b
  | again k j=>cases b
theorem DOk.mov(D:DOk (nmsOf ls) fs M gs)(o:fs.length<=names.length)(t:names.Nodup)(b:(nmsOf ls).Nodup):MovOk ls (drawnPs names fs) M:=by
 intro i p s q m;obtain⟨f,g,rfl⟩:=Qg q;have u:=(vx.mp g).1;obtain⟨c,d,_⟩:=D.f i f g;have r:=c.js.2;have l:M.getD i []=s:=by rw[vy,m];rfl
 rw[l]at d;refine⟨d.1,fun k=>(d.2 k).trans ?_⟩;rw[zf o t fun j a=>by have:=r j a;lia];refine⟨fun h=>h.imp id ?_,fun h=>h.imp id ?_⟩
 ·rintro⟨x,v,n,j,rfl,a,rfl⟩;exact⟨x,v,n,rfl,by rw[Jg b a]⟩
 ·rintro⟨x,v,n,e,rfl⟩;cases f with
  | rise x' h' n'=>
   have:x'=x:=by injection e
   subst this;obtain⟨j,a⟩:=c.1;exact⟨x',h',n',j,rfl,a,by rw[Jg b a]⟩
  | hold n=>cases e
  | ring x n=>cases e
  | row is=>cases e
  | side is=>cases e
  | again k j=>cases e
theorem j4a{M c:List (List Int)}(W:WfB ls ps)(h:MovOk ls ps M)(h':MovOk ls ps c)(l:M.length=ps.length)(r:c.length=ps.length):∀i,i<ps.length->c.getD i []=M.getD i []:=by
 intro i
 induction i using Nat.strongRecOn with
 | ind i ih=>
  intro q;have e:ps[i]?=some ps[i]:=vz q;have p:M[i]?=some (M.getD i []):=by rw[vy,vz (by lia)];rfl
  have f:c[i]?=some (c.getD i []):=by rw[vy,vz (by lia)];rfl
  obtain⟨a,b⟩:=h i _ _ e p;obtain⟨n,o⟩:=h' i _ _ e f;refine j3C n a fun k=>(o k).trans (Iff.trans ?_ (b k).symm)
  have m:(∃j∈inP ps (ps[i]).2,k∈c.getD j [])↔∃j∈inP ps (ps[i]).2,k∈M.getD j []:=by
   constructor
   ·rintro⟨j,d,g⟩;have:=W.inP_lt e d;exact⟨j,d,by rw[<-ih j this (by lia)];exact g⟩
   ·rintro⟨j,d,g⟩;have:=W.inP_lt e d;exact⟨j,d,by rw[ih j this (by lia)];exact g⟩
  rw[m]
theorem DOk.sn(D:DOk (nmsOf ls) fs M gs)(C:fs.length<=names.length)(I:names.Nodup)(B:(nmsOf ls).Nodup)(Y:ls.length<=8)(K:fs.length<=61)(f1:1<=fs.length)(Z:∀q∈ls,0<=q.2/\q.2<=10^18):Sn ls (drawnPs names fs) gs M:=by
 have W:=D.wf C I B Y K;have P:=D.mov C I B;have dl:(drawnPs names fs).length=fs.length:=Jo;have ml:=D.ml;have gl:=D.gl;refine⟨⟨W,by lia,fun i w=>?_,fun M' U L i w=>j4a W P L (by lia) U i w,fun i p t=>?_,fun i p qs t e=>?_⟩,by lia,P,fun i w=>(D.g i (by lia)).1,by lia,Z,fun i y x v n t=>?_,fun i y x k t=>?_⟩
 ·have:=D.g i (by lia);lia
 ·obtain⟨f,m,rfl⟩:=Qg t;have w:=(vx.mp m).1;obtain⟨d,_,u⟩:=D.f i f m;have o:=d.js.2;rw[show inP (drawnPs names fs) (names.getD i ⟨#[]⟩,toldF names f).2=f.js from zf C I fun j A=>by have:=o j A;lia];cases f with
  | hold n=>exact⟨trivial,fun g h=>Eq.trans h (Eq.symm u)⟩
  | ring x n=>exact⟨trivial,fun g h=>Eq.trans h (Eq.symm u)⟩
  | rise x v n=>exact⟨trivial,fun g h=>Eq.trans h (Eq.symm u)⟩
  | row is=>exact⟨trivial,fun g h=>Eq.trans h (Eq.symm u)⟩
  | side is=>
   refine⟨fun z=>?_,fun g h=>?_⟩
   ·have p2:=d.1;have:is.length=0:=by rw[<-vt (f:=fun j=>gs.getD j 0)];exact congrArg List.length z
    lia
   ·obtain⟨R,S⟩:=h;obtain⟨j,A,rfl⟩:=vK.mp R;obtain⟨⟨E,s,e'⟩,X⟩:=u;have a1:=X j A;have a2:=S (gs.getD E 0) (vK.mpr ⟨E,s,rfl⟩);lia
  | again k j=>
   have Q:=D.g j (by have:=o j vq;lia);refine⟨⟨gs.getD j 0,[],rfl,Int.le_trans (by decide) d.1,d.2.1,by lia,Q.2⟩,fun g h=>?_⟩;obtain⟨y,T,rfl⟩:=h;cases T;exact Eq.symm u
 ·obtain⟨f,m,rfl⟩:=Qg t;have w:=(vx.mp m).1;obtain⟨d,_,_⟩:=D.f i f m;have o:=d.js.2;rw[show inP (drawnPs names fs) (names.getD i ⟨#[]⟩,toldF names f).2=f.js from zf C I fun j A=>by have:=o j A;lia];cases f with
  | side is=>
   obtain⟨_,_,_,ap1,J⟩:=d;refine⟨ap1,fun k=>?_⟩;have O:∀o:List Nat,o.Pairwise (fun a b=>∀k∈M.getD a [],¬k∈M.getD b [])->((o.map fun j=>M.getD j []).filter fun H=>decide (k∈H)).length<=1:=fun o=>by
    induction o with
    | nil=>exact fun _=>va _
    | cons j r ih=>
     intro h;rw[vU]at h;rw[v7,v6];split
     ·rename_i c;have e:(r.map fun j=>M.getD j []).filter (fun H=>decide (k∈H))=[]:=by
       rw[List.filter_eq_nil_iff];intro H N;obtain⟨E,s,rfl⟩:=vK.mp N;have:=h.1 E s k (of_decide_eq_true c);simpa using this
      rw[e];exact vb _
     ·exact ih h.2
   exact O is J
  | hold n=>cases e
  | ring x n=>cases e
  | rise x v n=>cases e
  | row is=>cases e
  | again k j=>cases e
 ·obtain⟨f,m,e⟩:=Qg t;obtain⟨d,_⟩:=D.f i f m;have l:=(Prod.mk.inj e).2;cases f with
  | rise x' L n'=>
   injection l with e3 e4 e5;subst e3 e4 e5;exact d.2
  | hold n=>cases l
  | ring x n=>cases l
  | row is=>cases l
  | side is=>cases l
  | again k j=>cases l
 ·obtain⟨f,m,e⟩:=Qg t;obtain⟨d,_⟩:=D.f i f m;have l:=(Prod.mk.inj e).2;cases f with
  | again k' j=>
   injection l with e3 e4;subst e3;exact⟨d.1,d.2.1⟩
  | rise x' L n'=>cases l
  | hold n=>cases l
  | ring x n=>cases l
  | row is=>cases l
  | side is=>cases l
end
section
variable{z:Sa}
theorem j5(h:¬a=b):(putF b v r).lookup a=r.lookup a:=by rw[zD,vc h]
theorem Qn:(putF a v r).lookup a=some v:=by rw[zD,vd rfl]
theorem JJ(f:Str)(v:V):∀r:List (Str×V),(putF f v r).length<=r.length+1
 | []=>vb _
 | (g,u)::r=>by
  unfold putF;split
  ·exact Nat.le_succ _
  ·rw[vP,vP];have:=JJ f v r;lia
end
theorem BookAt.less{H:Hp}{fs:List (Str×V)}(m:H a=some (.ins C dx fs))(B:BookAt H b pl pp las pas ls ps) :
  ∃H0:Hp,(∀H',(∀c u,c≠a->H c=some u->H' c=some u)->Same H0 H')/\(∀{c u},H0 c=some u->c≠a)/\BookAt H0 b pl pp las pas ls ps:=by
 have f:∀{c:Addr} {g:List V},H c=some (.tup g)->(fun c=>if c=a then none else H c) c=some (.tup g):=fun {c g} h=>by
  show(if c=a then none else H c)=_;rw[vc (fun z=>by rw[z,m]at h;cases h)];exact h
 have o:∀{c:Addr} {g:List V},H c=some (.lst g)->(fun c=>if c=a then none else H c) c=some (.lst g):=fun {c g} h=>by
  show(if c=a then none else H c)=_;rw[vc (fun z=>by rw[z,m]at h;cases h)];exact h
 refine⟨fun c=>if c=a then none else H c,fun H' k c u h=>?_,fun {c u} h=>?_,f B.t,o B.l,B.la.mono fun a x l=>f l,o B.p,B.pa.mono fun a x l=>?_⟩
 ·have h:(if c=a then none else H c)=some u:=h;by_cases e:c=a
  ·rw[vd e]at h;cases h
  ·rw[vc e]at h;exact k c u e h
 ·have h:(if c=a then none else H c)=some u:=h;intro e;rw[vd e]at h;cases h
 ·obtain⟨p,q,d⟩:=l;refine⟨p,f q,?_⟩;cases hx2:x.2 with
  | row r=>rw[hx2]at d;obtain⟨c,i,j⟩:=d;exact⟨c,f i,f j⟩
  | side r=>rw[hx2]at d;obtain⟨c,i,j⟩:=d;exact⟨c,f i,f j⟩
  | hold n=>rw[hx2]at d;exact f d
  | ring y n=>rw[hx2]at d;exact f d
  | rise y v n=>rw[hx2]at d;exact f d
  | again k y=>rw[hx2]at d;exact f d
theorem few(h:(putF f v r).length<=n)(k:n<1000):(putF f v r).length<1000:=vD h k
section
variable{a b c d e:Str}{u v w x y:V}
theorem few3:(putF c w (putF b v (putF a u []))).length<1000:=by
 have:=JJ c w (putF b v (putF a u []));have:=JJ b v (putF a u []);have:=JJ a u [];simp at *;lia
theorem few4:(putF d x (putF c w (putF b v (putF a u [])))).length<1000:=by
 have:=JJ d x (putF c w (putF b v (putF a u [])));have:=JJ c w (putF b v (putF a u []));have:=JJ b v (putF a u []);have:=JJ a u [];simp at *;lia
end
section
variable{L:List Str}{fs:List Fn}{M:List (List Int)}{gs:List Int}{names:List Str}{ls:List (Str×Int)}{n:Nat}
theorem JX{a:Type}{xs:List a}{d:a}{i:Nat}(h:i<n):(xs.take n).getD i d=xs.getD i d:=by
 rw[vy,vy,List.getElem?_take,vd h]
theorem PreN.take{f:Fn}{i:Nat}(hi:i<=n)(h:PreN L M i f):PreN L (M.take n) i f:=by
 cases f with
 | side is=>
  obtain⟨a,b,c,d,e⟩:=h;have g:∀j∈is,(M.take n).getD j []=M.getD j []:=fun j l=>JX (by have:=c j l;lia)
  refine⟨a,b,c,fun j l=>by rw[g j l];exact d j l,?_⟩;exact(List.pairwise_iff_forall_sublist.mpr fun {x y} o=>by
   have p:x∈is:=o.subset vq;have q:y∈is:=o.subset (vp _ vq);rw[g x p,g y q];exact List.pairwise_iff_forall_sublist.mp e o)
 | hold m=>exact h
 | ring x m=>exact h
 | rise x v m=>exact h
 | row is=>exact h
 | again k j=>exact h
theorem MovN.take{ks:List Int}{f:Fn}(c:∀j∈f.js,j<n)(h:MovN L M f ks):MovN L (M.take n) f ks:=by
 refine⟨h.1,fun k=>(h.2 k).trans ?_⟩;have:(∃j∈f.js,k∈M.getD j [])↔∃j∈f.js,k∈(M.take n).getD j []:=by
  constructor
  ·rintro⟨j,a,b⟩;exact⟨j,a,by rw[JX (c j a)];exact b⟩
  ·rintro⟨j,a,b⟩;exact⟨j,a,by rw[JX (c j a)]at b;exact b⟩
 rw[this]
theorem LenN.take{g:Int}{f:Fn}(o:∀j∈f.js,j<n)(h:LenN gs f g):LenN (gs.take n) f g:=by
 have e:∀j∈f.js,(gs.take n).getD j 0=gs.getD j 0:=fun j a=>JX (o j a)
 cases f with
 | hold m=>exact h
 | ring x m=>exact h
 | rise x v m=>exact h
 | row is=>
  show g=(is.map fun j=>(gs.take n).getD j 0).sum;have d:is.map (fun j=>(gs.take n).getD j 0)=is.map fun j=>gs.getD j 0:=map_congr_left e
  rw[d];exact h
 | side is=>
  obtain⟨⟨j,a,i⟩,l⟩:=h;exact⟨⟨j,a,by rw[e j a];exact i⟩,fun c b=>by rw[e c b];exact l c b⟩
 | again k j=>
  show g=k*(gs.take n).getD j 0;rw[e j vq];exact h
theorem DOk.take(D:DOk L fs M gs)(l:n<=fs.length):DOk L (fs.take n) (M.take n) (gs.take n):=by
 have m:=D.ml;have k:=D.gl;refine⟨by rw[vi,vi];lia,by rw[vi,vi];lia,fun i f d=>?_,fun i e=>?_⟩
 ·have e:=(vx.mp d).1;rw[vi]at e;rw[List.getElem?_take,vd (by lia)]at d;obtain⟨a,b,c⟩:=D.f i f d;have h:=a.js.2;rw[JX (by lia),JX (by lia)];exact⟨a.take (by lia),b.take fun j g=>by have:=h j g;lia,c.take fun j g=>by have:=h j g;lia⟩
 ·rw[vi]at e;rw[JX (by lia)];exact D.g i (by lia)
theorem kW{gs a:List Int}:∀{is:List Nat} {b:Int},(∀j∈is,gs.getD j 0=a.getD j 0)->rowPc gs is b=rowPc a is b
 | [],_,_=>rfl
 | j::r,b,h=>by
  unfold rowPc;rw[h j vq,kW fun k c=>h k (vp _ c)]
theorem j0e{gs a:List Int}(h:∀j∈is,gs.getD j 0=a.getD j 0):pcsI gs f is=pcsI a f is:=by
 unfold pcsI;split
 ·split
  ·rfl
  ·rw[h _ vq]
 ·exact kW h
 ·rfl
theorem j3F{gs a:List Int}(h:gs.getD q.1 0=a.getD q.1 0):wq gs t q=wq a t q:=by
 unfold wq prg1 ov wth1;rw[h];split
 ·rename_i y e;split at e
  ·have b:=vL e;subst b;show _=_;rw[h]
  ·cases e
 ·rfl
theorem WD{gs a:List Int}:∀{b:List Pc},(∀q∈b,gs.getD q.1 0=a.getD q.1 0)->wth gs t b=wth a t b
 | [],_=>rfl
 | q::r,h=>by rw[qW,qW,j3F (h q vq),WD fun p c=>h p (vp _ c)]
theorem Ww(D:DOk (nmsOf ls) fs M gs)(e:fs.length<=names.length)(m:names.Nodup)(W:WfB ls (drawnPs names fs))(o:WfB ls (drawnPs names (fs.take n)))(u:n<=fs.length):∀{i:Nat} {t:Int},i<n->reach (drawnPs names (fs.take n)) (gs.take n) i t=reach (drawnPs names fs) gs i t:=by
 intro i
 induction i using Nat.strongRecOn with
 | ind i ih=>
  intro t l;obtain⟨f,c⟩:∃f,fs[i]?=some f:=⟨_,vz (by lia)⟩
  have d:(fs.take n)[i]?=some f:=by rw[List.getElem?_take,vd l];exact c
  have g:=(D.f i f c).1.js.2;have b:pcB (drawnPs names (fs.take n)) (gs.take n) i=pcB (drawnPs names fs) gs i:=by
   unfold pcB;rw[qg c,qg d];show pcsI _ _ _=pcsI _ _ _;rw[zf (by rw[vi];lia) m (fun j a=>by rw[vi];have:=g j a;lia),zf e m (fun j a=>by have:=g j a;lia)];exact j0e fun j a=>JX (by have:=g j a;lia)
  have k:(gs.take n).getD i 0=gs.getD i 0:=JX l;by_cases h:gs.getD i 0<=t\/pcB (drawnPs names fs) gs i=[]
  ·rw[JD h,JD (by rw[k,b];exact h)]
  ·rw[qD W h,qD o (by rw[k,b];exact h),b];have p:wth (gs.take n) t (pcB (drawnPs names fs) gs i)=wth gs t (pcB (drawnPs names fs) gs i):=WD fun q r=>JX (by have:=kC W r;lia)
   rw[p];exact QH fun x s=>by
    have:=yp W s;exact ih x.1 this (by lia)
end
noncomputable def setE(es:List (Int×Int))(h:List Int):List Int:=es.foldl (fun h q=>h.set q.1.toNat q.2) h
theorem yA(q:Int×Int)(r:List (Int×Int))(h:List Int):setE (q::r) h=setE r (h.set q.1.toNat q.2):=rfl
theorem qj:∀(es:List (Int×Int)) (h:List Int),(setE es h).length=h.length
 | [],_=>rfl
 | q::r,h=>by rw[yA,qj r,length_set]
theorem Qu:∀{es:List (Int×Int)} {h:List Int} {i:Nat},(∀q∈es,0<=q.1)->(∀v,((i:Int),v)∉es)->(setE es h)[i]?=h[i]?
 | [],_,_,_,_=>rfl
 | q::r,h,i,p,n=>by
  rw[yA,Qu (fun x c=>p x (vp _ c)) (fun v b=>n v (vp _ b))];have:q.1.toNat≠i:=fun e=>by
   have d:=p q vq;have a:q.1=(i:Int):=by lia
   exact n q.2 (by rw[<-a];exact vq)
  rw[List.getElem?_set_ne this]
theorem zI:∀{es:List (Int×Int)} {h:List Int} {i:Nat} {v:Int},(es.map (·.1)).Pairwise (· < ·)->(∀q∈es,0<=q.1)->((i:Int),v)∈es->i<h.length->(setE es h)[i]?=some v
 | [],_,_,_,_,_,m,_=>nomatch m
 | q::r,h,i,v,pw,p,m,hi=>by
  rw[v7,vU]at pw;rw[yA];rcases mem_cons.mp m with e | m
  ·subst e;rw[Qu (fun x a=>p x (vp _ a)) (fun w b=>by
    have:=pw.1 _ (vK.mpr ⟨_,b,rfl⟩);exact uh this (Int.lt_irrefl _))]
   show(h.set (i:Int).toNat v)[i]?=_;rw[Int.toNat_natCast,List.getElem?_set_self hi]
  ·exact zI pw.2 (fun x a=>p x (vp _ a)) m (by rw[length_set];exact hi)
theorem we(d:(es.map (·.1)).Pairwise (· < ·))(p:∀q∈es,0<=q.1)(h:List Int):setE es (setE es h)=setE es h:=by
 refine ext_getElem? fun i=>?_
 by_cases b:i<h.length
 case neg=>rw[vS (by rw[qj,qj];lia),vS (by rw[qj];lia)]
 by_cases c:∃v,((i:Int),v)∈es
 ·obtain⟨v,a⟩:=c;rw[zI d p a (by rw[qj];exact b),zI d p a b]
 ·rw[Qu p (fun v a=>c ⟨v,a⟩)]
def EN(L:List Str)(fs:List Fn)(n:Nat)(E:List (List (Int×Int))):Prop:=∀(i:Nat) (f:Fn),i<n->fs[i]?=some f->((E.getD i []).map (·.1)).Pairwise (· < ·)/\∀k v,(k,v)∈E.getD i []↔LastIn E f.js k v\/∃x m,f = .rise x v m/\k=(ixOf L x:Nat)
noncomputable def apN(L:List Str)(fs:List Fn)(gs:List Int)(E:List (List (Int×Int)))(h:List Int)(x:Nat×Int):List Int:=
 if gs.getD x.1 0<=x.2 then setE (E.getD x.1 []) h
 else match fs[x.1]? with
  | some (.rise y v n)=>h.set (ixOf L y) (Rp.ramp (h.getD (ixOf L y) 0) v n x.2)
  | _=>h
noncomputable def plN(L:List Str)(names:List Str)(fs:List Fn)(gs:List Int)(E:List (List (Int×Int)))(j:Nat)(t:Int)(h:List Int):List Int:=(reach (drawnPs names fs) gs j t).foldl (apN L fs gs E) h
noncomputable def rgN(names:List Str)(fs:List Fn)(gs:List Int)(j:Nat)(t:Int):List Str:=(reach (drawnPs names fs) gs j t).flatMap (ringX (drawnPs names fs))
noncomputable def wsN(names:List Str)(fs:List Fn)(gs:List Int)(j:Nat)(t:Int):List (Nat×Int):=wth gs t (pcB (drawnPs names fs) gs j)
section
variable{L:List Str}{fs:List Fn}{M:List (List Int)}{gs:List Int}{names:List Str}{ls:List (Str×Int)}{n:Nat}{E:List (List (Int×Int))}
theorem EN.mov(D:DOk L fs M gs)(u:L.Nodup)(e:EN L fs n E)(w:n<=fs.length):∀{i:Nat},i<n->∀q∈E.getD i [],q.1∈M.getD i []:=by
 intro i
 induction i using Nat.strongRecOn with
 | ind i ih=>
  intro s q t;obtain⟨f,c⟩:∃f,fs[i]?=some f:=⟨_,vz (by lia)⟩
  obtain⟨a,b,_⟩:=D.f i f c;rcases((e i f s c).2 q.1 q.2).mp t with⟨v,j,h,o,r,_⟩ | ⟨x,m,l,p⟩
  ·have d:j∈f.js:=by rw[o];simp
   have:=a.js.2 j d;exact(b.2 q.1).mpr (.inl ⟨j,d,ih j this (by lia) _ r⟩)
  ·subst l;obtain⟨⟨k,g⟩,_⟩:=a;refine(b.2 q.1).mpr (.inr ⟨x,q.2,m,k,rfl,g,?_⟩);rw[p,Jg u g]
theorem EN.pos(D:DOk L fs M gs)(c:L.Nodup)(e:EN L fs n E)(a:n<=fs.length)(hi:i<n):∀q∈E.getD i [],0<=q.1:=fun q b=>(D.bnd i (by lia) q.1 (e.mov D c a hi q b)).1
theorem Wm(h:LastIn E r k v):LastIn E (j::r) k v:=by
 obtain⟨b,i,a,e,c,d⟩:=h;exact⟨j::b,i,a,by rw[e];rfl,c,d⟩
theorem Wf:∀{js:List Nat} {h:List Int} {i:Nat},(∀j∈js,((E.getD j []).map (·.1)).Pairwise (· < ·)/\∀q∈E.getD j [],0<=q.1)->i<h.length->
  (∃v,LastIn E js i v/\(js.foldl (fun h j=>setE (E.getD j []) h) h)[i]?=some v)\/((∀v,¬LastIn E js i v)/\(js.foldl (fun h j=>setE (E.getD j []) h) h)[i]?=h[i]?)
 | [],h,i,_,_=>.inr ⟨fun v ⟨f,j,g,e,_⟩=>by simp at e,rfl⟩
 | j::r,h,i,p,hi=>by
  obtain⟨D,z⟩:=p j vq;rw[v5];rcases Wf (js:=r) (h:=setE (E.getD j []) h) (i:=i) (fun k B=>p k (vp _ B)) (by rw[qj];exact hi)with⟨v,a,b⟩ | ⟨a,b⟩
  ·exact .inl ⟨v,Wm a,b⟩
  ·by_cases c:∃v,((i:Int),v)∈E.getD j []
   ·obtain⟨v,d⟩:=c;refine .inl ⟨v,⟨[],j,r,rfl,d,fun n t o u=>?_⟩,by rw[b];exact zI D z d hi⟩;exact no_last a t u
   ·refine .inr ⟨fun v d=>?_,by rw[b];exact Qu z fun v d=>c ⟨v,d⟩⟩;obtain⟨f,k,g,e,x,A⟩:=d;cases f with
    | nil=>rw[nil_append]at e;cases e;exact c ⟨v,x⟩
    | cons y f=>rw[cons_append]at e;cases e;exact a v ⟨f,k,g,rfl,x,A⟩
where
 no_last:∀{r:List Nat} {i n:Nat} {o:Int},(∀v,¬LastIn E r i v)->n∈r->((i:Int),o)∈E.getD n []->False
  | [],_,_,_,_,m,_=>nomatch m
  | y::r,i,n,o,a,m,d=>by
   have w:∀v,¬LastIn E r i v:=fun v d=>a v (Wm d)
   rcases mem_cons.mp m with e | m
   ·subst e;exact a o ⟨[],n,r,rfl,d,fun C s H l=>no_last w s l⟩
   ·exact no_last w m d
theorem Xe:∀(js:List Nat) (h:List Int),(js.foldl (fun h j=>setE (E.getD j []) h) h).length=h.length
 | [],_=>rfl
 | j::r,h=>by rw[v5,Xe r,qj]
theorem EN.all(D:DOk L fs M gs)(d:L.Nodup)(e:EN L fs n E)(c:n<=fs.length)(hi:i<n)(o:fs[i]?=some f)(u:∀x v m,f≠.rise x v m)(h:List Int):setE (E.getD i []) h=f.js.foldl (fun h j=>setE (E.getD j []) h) h:=by
 have js:=(D.f i f o).1.js.2;obtain⟨a,b⟩:=e i f hi o;have w:∀j∈f.js,((E.getD j []).map (·.1)).Pairwise (· < ·)/\∀q∈E.getD j [],0<=q.1:=fun j s=>by
  have:=js j s;obtain⟨g,r⟩:∃g,fs[j]?=some g:=⟨_,vz (by lia)⟩
  exact⟨(e j g (by lia) r).1,e.pos D d c (by lia)⟩
 refine ext_getElem? fun k=>?_
 by_cases p:k<h.length
 case neg=>rw[vS (by rw[qj];lia),vS (by rw[Xe];lia)]
 rcases Wf w p with⟨v,l,q⟩ | ⟨l,q⟩
 ·rw[q];exact zI a (e.pos D d c hi) ((b _ _).mpr (.inl l)) p
 ·rw[q];refine Qu (e.pos D d c hi) fun v t=>?_
  rcases(b _ _).mp t with z | ⟨x,m,z,_⟩
  ·exact l v z
  ·exact u x v m z
theorem EN.one(D:DOk L fs M gs)(e:EN L fs n E)(o:EN L fs m E')(q:m<=n)(r:n<=fs.length):∀i,i<m->E'.getD i []=E.getD i []:=by
 intro i
 induction i using Nat.strongRecOn with
 | ind i ih=>
  intro p;obtain⟨f,d⟩:∃f,fs[i]?=some f:=⟨_,vz (by lia)⟩
  have g:=(D.f i f d).1.js.2;obtain⟨a,b⟩:=e i f (by lia) d;obtain⟨h,l⟩:=o i f p d;refine j1a h a fun k v=>(l k v).trans (Iff.trans ?_ (b k v).symm)
  have ext:∀j∈f.js,E'.getD j []=E.getD j []:=fun j c=>ih j (g j c) (by have:=g j c;lia)
  exact⟨fun z=>z.imp (zU ext) id,fun z=>z.imp (zU fun j c=>(ext j c).symm) id⟩
theorem EN.of(D:DOk L fs M gs)(s:fs.length<=names.length)(w:names.Nodup)(y:n<=fs.length)(q:nmsOf ls'=L)(u:E.length=(drawnPs names (fs.take n)).length)(h:EndOk ls' (drawnPs names (fs.take n)) E):EN L fs n E:=fun i f o l=>by
 have e:(fs.take n)[i]?=some f:=by rw[List.getElem?_take,vd o];exact l
 have t:=(D.f i f l).1.js.2;have g:(fs.take n).length=n:=by rw[vi];lia
 have p:E[i]?=some (E.getD i []):=by
  rw[vy,vz (by rw[u,Jo,g];exact o)];rfl
 obtain⟨a,b⟩:=h i _ _ (qg e) p;refine⟨a,fun k v=>(b k v).trans ?_⟩;unfold EndIs;rw[zf (by rw[g];lia) w (fun j r=>by rw[g];have:=t j r;lia),q];refine or_congr_right ⟨?_,?_⟩
 ·rintro⟨x,m,c,d⟩;refine⟨x,m,?_,d⟩;cases f<;>cases c
  rfl
 ·rintro⟨x,m,c,d⟩;exact⟨x,m,by rw[c];rfl,d⟩
theorem Zo{b c a:Type}{g:b->List c}{f:a->c->a}:∀{l:List b} {h:a},(l.flatMap g).foldl f h=l.foldl (fun h x=>(g x).foldl f h) h
 | [],_=>rfl
 | x::r,h=>by rw[flatMap_cons,foldl_append,v5,Zo]
theorem We{a b c:Type}{g:a->List b}{f:b->List c}:∀{l:List a},(l.flatMap g).flatMap f=l.flatMap fun x=>(g x).flatMap f
 | []=>rfl
 | x::r=>by rw[flatMap_cons,List.flatMap_append,flatMap_cons,We]
theorem ko{b a:Type}{f g:a->b->a}:∀{l:List b} {h:a},(∀x∈l,∀h,f h x=g h x)->l.foldl f h=l.foldl g h
 | [],_,_=>rfl
 | x::r,h,e=>by rw[v5,v5,e x vq,ko fun y c=>e y (vp _ c)]
theorem j26{ls':List (Str×Int)}{E':List (List (Int×Int))}{j:Nat}{t:Int}(D:DOk L fs M gs)(a:fs.length<=names.length)(i:names.Nodup)(d:L.Nodup)(w:L.length<=8)(l:fs.length<=61)(r:nmsOf ls'=L)(v:j<n)(s:n<=fs.length)(e:EN L fs n E)(u:E'.length=(drawnPs names (fs.take (j+1))).length)(h:EndOk ls' (drawnPs names (fs.take (j+1))) E') :
  standH ls' (drawnPs names (fs.take (j+1))) (gs.take (j+1)) E' t=plN L names fs gs E j t (ls'.map (·.2)):=by
 subst r;have c:ls'.length<=8:=by have:(nmsOf ls').length=ls'.length:=vt _;lia
 have W:=D.wf a i d c l;have g:(fs.take (j+1)).length=j+1:=by rw[vi];lia
 have k:=(D.take (n:=j+1) (by lia)).wf (names:=names) (by rw[g];lia) i d c (by rw[g];lia);have q:=EN.one D e (EN.of D a i (by lia) rfl u h) (by lia) s;unfold standH plN;rw[Jo,g];show(reach _ _ j t).foldl _ _=_;rw[Ww D a i W k (by lia) (show j<j+1 by lia)];refine ko fun x p h=>?_
 have b:x.1<j+1:=by
  rw[<-Ww D a i W k (by lia) (show j<j+1 by lia)]at p;have:=K5 k (by rw[Jo,g];lia) p;rw[Jo,g]at this;exact this
 obtain⟨f,o⟩:∃f,fs[x.1]?=some f:=⟨_,vz (by lia)⟩
 have m:(fs.take (j+1))[x.1]?=some f:=by rw[List.getElem?_take,vd b];exact o
 unfold appH apN;rw[JX b,q _ b,qg m,o];split
 ·rfl
 ·cases f<;>rfl
end
section
variable{α β:Type}
end
section
variable{ls:List (Str×Int)}{ps:List (Str×Fm)}{gs:List Int}{hs:List (List Int)}{E:List (List (Int×Int))}{t:Int}
theorem j3U(N:Sn ls ps gs hs)(b:E.length=ps.length)(c:EndOk ls ps E)(hi:i<ps.length)(a:q∈E.getD i []):q.1∈hs.getD i []:=by
 have:=N.s.mv _ (by rw[vt];exact b) (j2M b c) i hi;rw[<-this,vy,vv,vz (by lia)];rw[vy,vz (by lia)]at a;exact vK.mpr ⟨q,a,rfl⟩
end
section
variable{ls:List (Str×Int)}{ps:List (Str×Fm)}{gs:List Int}{E:List (List (Int×Int))}{D:List (Nat×Int)}{x:Nat×Int}
end
section
variable{L:List Str}{fs:List Fn}{M:List (List Int)}{gs:List Int}{names:List Str}{n:Nat}{E:List (List (Int×Int))}
theorem Qr:plN L names fs gs E j (gs.getD j 0) h=setE (E.getD j []) h:=by
 unfold plN;rw[JD (.inl (vA _))];show apN L fs gs E h (j,gs.getD j 0)=_;unfold apN;rw[vd (vA _)]
theorem yz(a:1<=gs.getD j 0):rgN names fs gs j (gs.getD j 0)=[]:=by
 unfold rgN;rw[JD (.inl (vA _)),flatMap_cons,List.flatMap_nil,append_nil];unfold ringX;split
 ·rw[vc (show¬gs.getD j 0=0 by lia)]
 ·rfl
theorem zc(D:DOk L fs M gs)(b:fs.length<=names.length)(d:names.Nodup)(a:fs[k]?=some f):pcB (drawnPs names fs) gs k=pcsI gs (toldF names f) f.js:=by
 have js:=(D.f k f a).1.js.2;have e:=(vx.mp a).1;unfold pcB;rw[qg a];show pcsI _ _ _=_;rw[zf b d fun j c=>by have:=js j c;lia]
theorem kF:∀{is:List Nat} {b:Int} {i:Nat},(∀k∈is,1<=gs.getD k 0/\gs.getD k 0<=10^60)->b+((is.take i).map fun j=>gs.getD j 0).sum<=t->wth gs t (rowPc gs is b)=((is.take i).map fun j=>(j,gs.getD j 0))++wth gs t (rowPc gs (is.drop i) (b+((is.take i).map fun j=>gs.getD j 0).sum))
 | [],b,i,_,h=>by simp[rowPc,ZG]
 | j::r,b,0,_,h=>by
  show _=[]++wth gs t (rowPc gs (j::r) (b+0));rw[Int.add_zero,nil_append]
 | j::r,b,i+1,hg,h=>by
  have g:=hg j vq;have d:∀l:List Nat,(∀k∈l,1<=gs.getD k 0)->0<=(l.map fun j=>gs.getD j 0).sum:=fun l=>by
   induction l with
   | nil=>intro _;exact vA _
   | cons x l ih=>
    intro c;rw[v7,v8];have:=ih fun k a=>c k (vp _ a)
    have:=c x vq;lia
  have e:=d (r.take i) fun k a=>(hg k (vp _ (mem_of_mem_take a))).1
  rw[List.take_succ_cons,v7,v8]at h;rw[zX hg (by lia),vd (by lia),List.take_succ_cons,v7,v7,v8,List.drop_succ_cons,kF (is:=r) (i:=i) (fun k a=>hg k (vp _ a)) (by lia),cons_append,Int.add_assoc]
theorem Ym(p:1<=gs.getD j 0)(v:1<=k)(a:0<=t)(r:t<=k*gs.getD j 0) :
  (t/gs.getD j 0=0/\wth gs t ((j,1,0)::(if 1<k then[(j,k-1,gs.getD j 0)]else[]))=[(j,t%gs.getD j 0)])\/
  (1<=t/gs.getD j 0/\t/gs.getD j 0<k/\∃z,(z=[]\/z=[(j,gs.getD j 0)])/\wth gs t ((j,1,0)::(if 1<k then[(j,k-1,gs.getD j 0)]else[]))=(j,gs.getD j 0)::z++[(j,t%gs.getD j 0)])\/
  (t/gs.getD j 0=k/\∃z,(z=[]\/z=[(j,gs.getD j 0)])/\wth gs t ((j,1,0)::(if 1<k then[(j,k-1,gs.getD j 0)]else[]))=(j,gs.getD j 0)::z):=by
 rw[qW,xJ p a,Int.sub_zero];generalize b:gs.getD j 0=g at *;have u:=Int.emod_add_mul_ediv t g;have w:=ve t (show g≠0 by lia);have x:=vf t (show 0<g by lia);have s:t/g<=k:=by
  have:=Int.ediv_le_ediv (show 0<g by lia) r;rw[Int.mul_ediv_cancel _ (show g≠0 by lia)]at this;exact this
 have m:(t-g)/g=t/g-1:=by
  have:=Int.add_mul_ediv_right t (-1) (show g≠0 by lia);have e:t + -1*g=t-g:=by lia
  rw[e]at this;lia
 by_cases c:g<=t
 case neg=>
  have i:t/g=0:=Int.ediv_eq_zero_of_lt a (by lia);have q:t%g=t:=vZ a (by lia);refine .inl ⟨i,?_⟩;rw[vc c,q];split
  ·rw[qW,ZG,j1g (show t<g by lia)];rfl
  ·rw[ZG];rfl
 have l:1<=t/g:=by
  have:=Int.ediv_le_ediv (show 0<g by lia) c;rw[Int.ediv_self (show g≠0 by lia)]at this;exact this
 rw[vd c];have n:ov gs t (j,k-1,g)=t/g-1:=by
  unfold ov;show(if k-1<(t-g)/gs.getD j 0 then k-1 else(t-g)/gs.getD j 0)=_;rw[b,m];split<;>lia
 have o:t-g-(t/g-1)*g=t%g:=by
  have:(t/g-1)*g=g*(t/g)-g:=by rw[Int.sub_mul,uw,Int.mul_comm]
  lia
 by_cases f:1<k
 ·rw[vd f,qW,ZG,append_nil,j1h (show g<=t from c),n];show _\/(_/\_/\∃z,_/\[(j,g)]++((if 0<t/g-1 then[(j,gs.getD j 0)]else[])++(if t/g-1<k-1 then[(j,t-g-(t/g-1)*gs.getD j 0)]else[]))=_)\/(_/\∃z,_/\[(j,g)]++((if 0<t/g-1 then[(j,gs.getD j 0)]else[])++(if t/g-1<k-1 then[(j,t-g-(t/g-1)*gs.getD j 0)]else[]))=_);rw[b,o];have d:(if 0<t/g-1 then[(j,g)]else[])=[]\/(if 0<t/g-1 then[(j,g)]else[])=[(j,g)]:=by split<;>simp
  by_cases h:t/g=k
  ·refine .inr (.inr ⟨h,_,d,?_⟩);rw[vc (show¬t/g-1<k-1 by lia),append_nil];rfl
  ·refine .inr (.inl ⟨l,by lia,_,d,?_⟩);rw[vd (show t/g-1<k-1 by lia)];rfl
 ·rw[vc f,ZG];exact .inr (.inr ⟨by lia,[],.inl rfl,rfl⟩)
noncomputable def Fn.comp:Fn->Prop
 | .row _=>True
 | .side _=>True
 | .again _ _=>True
 | _=>False
theorem kq{js:List Nat}{h:List Int}:(js.map fun j=>(j,gs.getD j 0)).foldl (fun h x=>plN L names fs gs E x.1 x.2 h) h=js.foldl (fun h j=>setE (E.getD j []) h) h:=by
 rw[List.foldl_map];exact ko fun j _ h=>Qr
theorem Kh:∀{js:List Nat},(∀j∈js,1<=gs.getD j 0)->((js.map fun j=>(j,gs.getD j 0)).flatMap fun x=>rgN names fs gs x.1 x.2)=[]
 | [],_=>rfl
 | j::r,h=>by
  rw[v7,flatMap_cons,Kh fun k a=>h k (vp _ a)];show rgN names fs gs j (gs.getD j 0)++[]=[]
  rw[yz (h j vq)];rfl
theorem WR(D:DOk L fs M gs)(s:fs.length<=names.length)(K:names.Nodup)(p:L.Nodup)(X:L.length<=8)(y:fs.length<=61)(e:EN L fs n E)(J:n<=fs.length){k:Nat}(T:k<n){f:Fn}(A:fs[k]?=some f)(o:f.comp){t:Int}(O:0<=t)(t1:t<=gs.getD k 0)(h:List Int) :
  plN L names fs gs E k t h=(wsN names fs gs k t).foldl (fun h x=>plN L names fs gs E x.1 x.2 h) h/\rgN names fs gs k t=(wsN names fs gs k t).flatMap fun x=>rgN names fs gs x.1 x.2:=by
 have I:nmsOf (L.map fun x=>(x,(0:Int)))=L:=by
  unfold nmsOf;rw[v4];exact map_id _
 have W:WfB (L.map fun x=>(x,(0:Int))) (drawnPs names fs):=DOk.wf (by rw[I];exact D) s K (by rw[I];exact p) (by rw[vt];exact X) y;obtain⟨u,d2,l⟩:=D.f k f A;have js:=u.js.2;have d:∀j∈f.js,1<=gs.getD j 0/\gs.getD j 0<=10^60:=fun j b=>D.g j (by have:=js j b;lia)
 have q:=zc D s K A;have nr:∀x v m,f≠.rise x v m:=fun x v m h=>by rw[h]at o;exact o
 by_cases c:gs.getD k 0<=t
 case neg=>
  have Z:pcB (drawnPs names fs) gs k≠[]:=by
   rw[q];cases f with
   | row is=>
    obtain⟨a,_⟩:=u;cases is with
    | nil=>exact uh rfl a
    | cons j r=>exact cons_ne_nil _ _
   | side is=>
    obtain⟨a,_⟩:=u;cases is with
    | nil=>exact uh a (by decide)
    | cons j r=>exact cons_ne_nil _ _
   | again m j=>exact cons_ne_nil _ _
   | hold m=>exact o.elim
   | ring x m=>exact o.elim
   | rise x v m=>exact o.elim
  have P:=qD W (t:=t) (show¬(gs.getD k 0<=t\/pcB (drawnPs names fs) gs k=[])from fun z=>z.elim c Z);unfold plN rgN wsN;rw[P,Zo,We];exact⟨rfl,rfl⟩
 have Q:t=gs.getD k 0:=by lia
 subst Q;have lhs:=Qr (L:=L) (names:=names) (fs:=fs) (gs:=gs) (E:=E) (j:=k) (h:=h);have rhs:rgN names fs gs k (gs.getD k 0)=[]:=yz (D.g k (by lia)).1;rw[lhs,rhs,e.all D p J T A nr h];unfold wsN;rw[q];cases f with
 | row is=>
  have d:∀j∈is,1<=gs.getD j 0/\gs.getD j 0<=10^60:=d;have l:gs.getD k 0=(is.map fun j=>gs.getD j 0).sum:=l;have w:wth gs (gs.getD k 0) (pcsI gs (toldF names (.row is)) is)=is.map fun j=>(j,gs.getD j 0):=by
   show wth gs _ (rowPc gs is 0)=_;rw[kF (is:=is) (i:=is.length) d (by rw[v3];lia),v3,List.drop_length];show _++wth gs _ []=_;rw[ZG,append_nil]
  show _=(wth gs (gs.getD k 0) (pcsI gs (toldF names (.row is)) is)).foldl _ h/\_=(wth gs (gs.getD k 0) (pcsI gs (toldF names (.row is)) is)).flatMap _;rw[w,kq,Kh (js:=is) fun j b=>(d j b).1];exact⟨rfl,rfl⟩
 | side is=>
  have d:∀j∈is,1<=gs.getD j 0/\gs.getD j 0<=10^60:=d;obtain⟨_,l⟩:=l;have w:wth gs (gs.getD k 0) (pcsI gs (toldF names (.side is)) is)=is.map fun j=>(j,gs.getD j 0):=by
   show wth gs _ (is.map fun j=>(j,1,0))=_;rw[YS (is:=is) (fun j b=>(d j b).1) O];exact map_congr_left fun j b=>by rw[vd (l j b)]
  show _=(wth gs (gs.getD k 0) (pcsI gs (toldF names (.side is)) is)).foldl _ h/\_=(wth gs (gs.getD k 0) (pcsI gs (toldF names (.side is)) is)).flatMap _;rw[w,kq,Kh (js:=is) fun j b=>(d j b).1];exact⟨rfl,rfl⟩
 | again m j=>
  have l:gs.getD k 0=m*gs.getD j 0:=l;obtain⟨Y,_,b⟩:=u;have H:=(d j vq).1;have em:gs.getD k 0/gs.getD j 0=m:=by rw[l,Int.mul_ediv_cancel _ (show gs.getD j 0≠0 by lia)]
  obtain⟨S,B⟩:∃g,fs[j]?=some g:=⟨_,vz (by lia)⟩
  have C:=we (e j S (by lia) B).1 (e.pos D p J (show j<n by lia)) h;show[j].foldl _ h=(wth gs (gs.getD k 0) ((j,1,0)::(if 1<m then[(j,m-1,gs.getD j 0)]else[]))).foldl _ h/\[]=(wth gs (gs.getD k 0) ((j,1,0)::(if 1<m then[(j,m-1,gs.getD j 0)]else[]))).flatMap _;rcases Ym H Y O (show gs.getD k 0<=m*gs.getD j 0 by lia)with⟨z,_⟩ | ⟨_,z,_⟩ | ⟨_,z,U,R⟩
  ·lia
  ·lia
  ·rw[R];have N:rgN names fs gs j (gs.getD j 0)=[]:=yz H;rcases U with rfl | rfl
   ·refine⟨Qr.symm,?_⟩;show[]=rgN names fs gs j (gs.getD j 0)++[];rw[N];rfl
   ·constructor
    ·show setE (E.getD j []) h=plN L names fs gs E j (gs.getD j 0) (plN L names fs gs E j (gs.getD j 0) h);rw[Qr,Qr,C]
    ·show[]=rgN names fs gs j (gs.getD j 0)++(rgN names fs gs j (gs.getD j 0)++[]);rw[N];rfl
 | hold m=>exact o.elim
 | ring x m=>exact o.elim
 | rise x v m=>exact o.elim
end
end Rm
namespace L2
open PySem PySem.Spec PySem.W PyProof.Rows
theorem j4u(h:(mixKind P w).is k u=true):RelV (kV k) u:=by
 cases k with
 | inl i=>obtain⟨t,rfl⟩:=Value.isInt_shape (k:=i) h;exact⟨t,rfl⟩
 | inr z=>obtain⟨t,rfl⟩:=Value.isStrOf_shape (x:=z) h;exact⟨t,rfl⟩
theorem j1c:∀{ys:List V} {us:List Value},us.length=ys.length->(∀(j:Nat) (u:Value),us[j]?=some u->∃y,ys[j]?=some y/\RelV y u)->Vals ys us
 | [],[],_,_=>.nil
 | [],_::_,h,_=>by simp at h
 | _::_,[],h,_=>by simp at h
 | y::ys,u::us,h,q=>by
  obtain⟨b,e,r⟩:=q 0 u rfl;simp only[List.getElem?_cons_zero,Option.some.injEq]at e;subst e;exact .cons r (j1c (by simpa using h) fun j u a=>by simpa using q (j+1) u (by simpa using a))
theorem XZ(E:X.calm=true):CallR X (.type "list") (fun xs H Q=>∃(p:Addr) (kvs:List (Key×V)),xs=[.ref p]/\H p=some (.dK kvs)/\∀l,H l=none->Q (.ref l) (upd H l (.lst (kvs.map fun q=>kV q.1)))):=by
 intro t s O H xs N Q I r h;obtain⟨p,kvs,rfl,ep,q⟩:=h;obtain⟨u,rfl,K⟩:=vals1 r;cases K;obtain⟨w,f,m,i,c⟩:=w6 I.hok ep;obtain⟨B,d⟩:=c.dictAt;refine kdl_call (kdl_dict (knd:=mixKind X.prog X.w) (kvs:=m) (ep:=B) f) (I.ok.hd E) d (by rw[<-i.length];exact w) fun C M a z g D b=>?_
 have v:=i.length;have L:Vals (kvs.map fun q=>kV q.1) a.toList:=j1c (by rw[Array.length_toList,vt,v];exact b.1) fun j u J=>by
  obtain⟨k,x,e,g⟩:=b.2 j u (by rw[<-Array.getElem?_toList];exact J);have o:j<kvs.length:=by rw[v];exact(vx.mp e).1
  obtain⟨y,n,A,_⟩:=i.get (vz o);rw[e]at n;cases n;refine⟨kV kvs[j].1,by rw[vv,vz o];rfl,?_⟩;rw[A];exact j4u g
 refine⟨.ref s.heap.objs.size,_,I.laid (t':=M) g (vb _) (show ObjOk X.prog X.w _ C _ (.lst (kvs.map fun q=>kV q.1))from⟨by rw[vt];exact w,a.toList,z,L,by rw[Array.toArray_toList];exact D⟩),rfl,q _ (I.hok.fresh (vb _))⟩
noncomputable def ivK(p:Int×V):Key×V:=(Sum.inl p.1,p.2)
theorem pairsV:∀{as:List Addr} {kvs:List (Int×V)},as.length=kvs.length->(∀(i:Nat) (a:Addr) (q:Int×V),as[i]?=some a->kvs[i]?=some q->∃t u,RelV q.2 u/\IsTup h a #[.int q.1 t,u])->
  ∃ps:List (Key×Value),KV (kvs.map ivK) ps/\ps.length=kvs.length/\∀(j:Nat) (kv:Key×Value),ps[j]?=some kv->∃a key,as[j]?=some a/\IsTup h a #[key,kv.2]/\keyIs kv.1 key=true
 | [],[],_,_=>⟨[],.nil,rfl,fun j kv e=>by simp at e⟩
 | [],_::_,l,_=>by simp at l
 | _::_,[],l,_=>by simp at l
 | a::as,q::kvs,l,f=>by
  obtain⟨ps,o,p,r⟩:=pairsV (as:=as) (kvs:=kvs) (by simpa using l) fun i a q m n=>f (i+1) a q (by simpa using m) (by simpa using n)
  obtain⟨t,u,v,e⟩:=f 0 a q rfl rfl;refine⟨(Sum.inl q.1,u)::ps,.cons ⟨rfl,v⟩ o,by rw[vP,p,vP],fun j kv c=>?_⟩;cases j with
  | zero=>simp at c;subst c;exact⟨a,_,rfl,e,kr _ _⟩
  | succ j=>obtain⟨b,s,d,g,k⟩:=r j kv (by simpa using c);exact⟨b,s,by simpa using d,g,k⟩
section
variable{X:Cx}
theorem XY(K:X.calm=true):CallR X (.type "dict") (fun xs H Q=>∃(p:Addr) (as:List Addr) (kvs:List (Int×V)),xs=[.ref p]/\H p=some (.lst (as.map V.ref))/\as.length=kvs.length/\
  (∀(i:Nat) (a:Addr) (q:Int×V),as[i]?=some a->kvs[i]?=some q->H a=some (.tup [.int q.1,q.2]))/\∀d,H d=none->Q (.ref d) (upd H d (.dK (mergeK [] (kvs.map ivK))))):=by
 intro O s σ H xs us Q I r h;obtain⟨p,as,kvs,rfl,ep,B,ht,q⟩:=h;obtain⟨u,rfl,ru⟩:=vals1 r;cases ru;obtain⟨z,D,n,rv,lv,e⟩:=I.lstM ep;have Z:=zZ rv;subst Z;rw[vt]at z;have L:p<s.heap.objs.size:=vI e;obtain⟨ps,kp,P,pt⟩:=pairsV (h:=s.heap) B fun i a q W Y=>by
  obtain⟨_,D,r',t'⟩:=I.hok a _ (ht i a q W Y);cases r' with
  | cons ra rr=>
   cases rr with
   | cons rb rr=>
    cases rr;obtain⟨t1,rfl⟩:=ra;exact⟨t1,_,rb,t'⟩
 refine callType_codes (Q₁:=fun t g=>t = .ref s.heap.objs.size/\g={s with heap:=s.heap.push {cls:=.type "dict",data:=.dict #[]}}) PySem.F.kt_called_dict (PySem.F.kt_typeCall_dict_1 (.ref p)) PySem.F.entry_dict_init (kt_code_dict_new (.ref p) ⟨rfl,rfl⟩) ?_;rintro t g ⟨rfl,rfl⟩;have c:(s.heap.push {cls:=.type "dict",data:=.dict #[]}).DictOf (mixKind X.prog X.w) s.heap.objs.size []:=Heap.DictOf.new s.heap;have v:∀b o,s.heap.get? b=some o->(s.heap.push {cls:=.type "dict",data:=.dict #[]}).get? b=some o:=fun b o e=>vJ _ e
 generalize s.heap.push {cls:=.type "dict",data:=.dict #[]}=h0 at c v;refine⟨c.typeIs (s:={s with heap:=h0}),PySem.F.args_dict_init_2 _ _,?_⟩;unfold Builtin.«dict.__init__»;refine um ?_;unfold Builtin.Dict.selfAndRest;refine um (wpAny_notOrdered_dict (c.typeIs (s:={s with heap:=h0})) ?_);show wpAny (model X.prog X.w) _ (pure (s.heap.objs.size,[Value.ref p])) _ _ _;refine uk ?_;show wpAny (model X.prog X.w) _ (Builtin.Dict.updateFrom "dict.__init__" s.heap.objs.size (.ref p) [] .none) _ _ _;unfold Builtin.Dict.updateFrom;refine um (wpAny_typeOf (T:="list") ⟨_,v _ _ e,rfl⟩ ?_);rw[vd (by decide)];refine um (noKeys (s:={s with heap:=h0}) (v _ _ e) rfl rfl rfl (I.ok.hd K) fun m tk M=>?_);rw[vd (show(none:Option Value).isNone=true from rfl)];have f:∀b o,s.heap.get? b=some o->m.get? b=some o:=fun b o e=>M b o (v b o e)
 have k:m.DictOf (mixKind X.prog X.w) s.heap.objs.size []:=c.keep M;have w:s.heap.objs.size<m.objs.size:=by obtain⟨_,_,_,hg,_⟩:=k;exact vI hg
 have lp:p<m.objs.size:=vY L w;refine um (wpAny_rule ?_);refine um (wpAny_pyIter_list (l:=p) (items:=(as.map Value.ref).toArray) ⟨_,f _ _ e,rfl,n,rfl⟩ ?_);refine uk ⟨plainId_quiet zd _,?_⟩;refine dul (knd:=mixKind X.prog X.w) (A:=X.A.in1) (d:=s.heap.objs.size) (it:=m.objs.size) (l:=p) (items:=as.map Value.ref) (res:=.none) (I.ok.hd K) (vE w) (vN L) (vN lp) ps 0 [] _
  ⟨_,Heap.get?_push_size _ rfl,rfl,rfl⟩ ⟨_,vJ _ (f _ _ e),rfl,n,rfl⟩ (by rw[vt,B,P,Nat.zero_add]) (fun j kv ej=>?_) (k.push _) (by rw[length_nil,P,<-B,Nat.zero_add];exact z) fun h2 E k2 x=>?_
 ·obtain⟨a,ky,R,⟨o,J,S⟩,U⟩:=pt j kv ej;have N:a<s.heap.objs.size:=vI J;exact⟨a,ky,by rw[Nat.zero_add,vv,R];rfl,⟨o,vJ _ (f _ _ J),S⟩,U,vE N,vE (vY N w)⟩
 ·refine⟨rfl,.ref s.heap.objs.size,upd H s.heap.objs.size (.dK (mergeK [] (kvs.map ivK))),I.laid (t':=E) (fun b o y=>k2 b o (vE (vI y)) (vE (vY (vI y) w)) (vJ _ (f _ _ y))) (vb _) ?_,rfl,q _ (I.hok.fresh (vb _))⟩;have hm:=qS (kvs.map ivK) [];rw[length_nil,vt]at hm;have C:(s.heap.objs.size==sysModules)=false:=by
   rw[beq_eq_false_iff_ne];exact vN I.big
  exact ke (by lia) C (kp.merge .nil) x
end
section
variable{X:Cx}{pins:List (Addr×Obj)}{σ:St}{H:Hp}{s:Shared}{tg:Expr}
theorem Inv.freeze(I:Inv X pins σ H s)(e:H a=some (.dK kvs)):∃o,Inv X pins σ (upd H a (.frz o (.dK kvs))) s:=by
 obtain⟨z,l,t,r,o,k,j,i,g⟩:=(show ObjOk X.prog X.w H s.heap a (.dK kvs)from I.hok a _ e)
 have f:∀b u,H b=some u->u≠.dK kvs->b≠a:=fun b u q d z=>by subst z;rw[e]at q;exact d (vL q).symm
 refine⟨o,I.step (h':=s.heap) (g':=s.gens) (d':=s.drawn) (t':=s.toks) (ch:=[]) (fun b h=>nomatch h) (fun b o _ _ _ e _=>e) (fun b o _ _ _ e _=>⟨o.slots,e⟩) (fun b u _ _ n=>(jh fun z=>by subst z;rw[e]at n;cases n).trans n) (fun b u _ e=>⟨u,e⟩)
  (fun b x q=>(jh (f _ _ q fun z=>nomatch z)).trans q) (fun b u v q=>(jh (f _ _ q fun z=>nomatch z)).trans q) (fun b w q=>⟨#[],by rw[jh (f _ _ q fun z=>nomatch z),q];simp⟩) (fun m p=>p) (fun b u q=>?_) I.bare⟩
 by_cases h:b=a
 ·subst h;rw[jG]at q;cases q;exact⟨i,z,l,t,r,o,k,j,i,g⟩
 ·rw[jh h]at q;exact(I.hok b u q).stay (fun c v _ q=>q) (fun c q=>(jh (f _ _ q fun z=>nomatch z)).trans q) fun c y q=>(jh (f _ _ q fun z=>nomatch z)).trans q
def Frz(as:List Addr)(H H':Hp):Prop:=(∀b,b∉as->H' b=H b)/\∀b∈as,∀kvs,H b=some (.dK kvs)->∃o,H' b=some (.frz o (.dK kvs))
theorem Inv.freezeAll:∀(as:List Addr) {H:Hp},Inv X pins σ H s->as.Nodup->(∀b∈as,∃kvs,H b=some (.dK kvs))->∃H',Inv X pins σ H' s/\Frz as H H'
 | [],H,I,_,_=>⟨H,I,fun _ _=>rfl,fun b c=>nomatch c⟩
 | a::as,H,I,nd,h=>by
  rw[ur]at nd;obtain⟨kvs,e⟩:=h a vq;obtain⟨o,g⟩:=I.freeze e;have f:∀b∈as,b≠a:=fun b c z=>nd.1 (by rw[<-z];exact c)
  obtain⟨H',i,d,j⟩:=Inv.freezeAll as g nd.2 fun b c=>by
   obtain⟨k,q⟩:=h b (vp _ c);exact⟨k,(jh (f b c)).trans q⟩
  refine⟨H',i,fun b c=>?_,fun b c k q=>?_⟩
  ·rw[d b fun z=>c (vp _ z),jh fun z=>c (by rw[z];exact vq)]
  ·rcases mem_cons.mp c with rfl | c
   ·rw[e]at q;cases q;exact⟨o,(d b nd.1).trans jG⟩
   ·exact j b c k ((jh (f b c)).trans q)
def tFrz(te:TE):TE:=fun σ H Q=>te σ H fun v H1=>∃as:List Addr,as.Nodup/\(∀b∈as,∃kvs,H1 b=some (.dK kvs))/\∀H2,Frz as H1 H2->Q v H2
theorem xt(h:PE X e te):PE X e (tFrz te):=by
 intro a s m H Q I q;refine thn (h a s m H _ I q) fun v o ⟨x,n,c,l,f,j,i,k⟩=>?_
 obtain⟨b,d,g⟩:=c.freezeAll f j i;exact⟨x,b,d,l,k b g⟩
def Itk(a:Addr)(o:Obj)(kvs:List (Key×V)):It:=
 ⟨fun i H=>H a=some (.frz o (.dK kvs))/\i<kvs.length,fun i H x H'=>H'=H/\∃q,kvs[i]?=some q/\x=kV q.1,fun i H=>H a=some (.frz o (.dK kvs))/\kvs.length<=i⟩
theorem KO(I:Inv X pins σ H s)(e:H a=some (.frz o (.dK kvs)))(hd:o.data = .dict es ep):kvs.length<=sizeLine/\(a==sysModules)=false/\∃vs,KV kvs vs/\s.heap.DictAt (mixKind X.prog X.w) a vs ep:=by
 obtain⟨d,z,j,vs,r,k,i,h,b,f,c,g⟩:=(show ObjOk X.prog X.w H s.heap a (.frz o (.dK kvs))from I.hok a _ e)
 rw[d]at b;cases b;rw[hd]at c;cases c;exact⟨z,j,vs,r,o,es,d,f,hd,g⟩
theorem j28{P:Program}{w:World}{K:Frg}{tg:Expr}(a it:Addr)(o:Obj)(kvs:List (Key×V))(Y:Array DictEntry)(ep:Nat)(hd:o.data = .dict Y ep):Turn P w K tg (Itk a o kvs) [it] it (fun i h=>h.IsKeyIter it a i kvs.length ep) where
 mem:=by simp
 obj:=fun i h f b j=>by
  have e:b=it:=by simpa using j
  subst e;obtain⟨o,e,c,d⟩:=f;exact⟨o,e,fun v z=>by rw[d]at z;cases z⟩
 keep:=fun i h n f k=>f.at fun o e=>k it (by simp) o e
 item:=by
  intro X D M C O i g s R H E I p f J;subst D M C;obtain⟨L,q⟩:=J;obtain⟨z,h0,vs,l,r⟩:=KO I L hd;have Q:=vz q;obtain⟨y,T,U,_⟩:=l.get Q;obtain⟨t,u,Z,x,A,B⟩:=p it (by simp);rw[l.length]at f;refine wpAny_pyNext_dict_item f r (k:=y.1) (v:=y.2) T fun N n hk m sb=>?_
  have S:Inv X g R H {s with heap:=n}:=I.turned (t':=s.toks) (fun b o j e=>(sb.2 b j).trans e) t u x A B;refine⟨N,rfl,letGo_keyiter (s':={s with heap:=n}) m ⟨kV kvs[i].1,H,S,by rw[U];exact j4u hk,⟨rfl,_,Q,rfl⟩,by rw[l.length];exact m,fun b j=>(p b j).1⟩⟩
 done:=by
  intro X D M C O i g s R H E I p f J;subst D M C;obtain⟨L,q⟩:=J;obtain⟨z,h0,vs,l,r⟩:=KO I L hd;obtain⟨t,u,Z,x,A,B⟩:=p it (by simp);rw[l.length]at f q;exact wpAny_pyNext_dict_end (I.ok.hd O) f r (vS q) fun n W=>⟨rfl,I.turned (t':=s.toks) (fun b o j e=>W b o j e) t u x A B⟩
 self:=fun _ _ _ _ _ f h=>wpAny_pyIter_keyiter f h
def iDict(tl:TE):TI:=fun σ H R=>tl σ H fun x H1=>∃a o kvs,x = .ref a/\H1 a=some (.frz o (.dK kvs))/\R (Itk a o kvs) H1
theorem j12{l:Expr}{n:TE}(y:PE X l n):PI X tg l (iDict n):=by
 intro g s E H R I h;refine thn (y g s E H _ I h) fun v i ⟨x,j,c,C,B⟩=>?_
 obtain⟨a,o,f,e,m,q⟩:=B;subst e;cases C;obtain⟨A,_,_,_,_,J,t,r,d,_,k,_⟩:=(show ObjOk X.prog X.w j i.heap a (.frz o (.dK f))from c.hok a _ m)
 rw[A]at d;cases d;obtain⟨z,u,K,D,p⟩:=KO c m k;refine wpAny_pyIter_dict u p ?_;rw[<-D.length];refine⟨i.heap.objs.size,[i.heap.objs.size],_,_,j,rfl,c.kept (t':=i.toks) fun b o e=>vJ _ e,j28 a _ o f t r k,⟨_,Heap.get?_push_size _ rfl,rfl,rfl⟩,fun b w=>?_,q⟩;have e:b=i.heap.objs.size:=by simpa using w
 subst e;exact c.fpOk (vb _) (c.hok.fresh (vb _))
end
theorem j2t{a:Addr}{o:Obj}{kvs:List (Key×V)}{g:TG}{j:TS}{D:Ends}{b:St}{H:Hp}(c:Nat->St->Hp->Prop)(l:c 0 b H)(r:∀i b H,i<=kvs.length->c i b H->H a=some (.frz o (.dK kvs)))
  (s:∀i q b H,kvs[i]?=some q->c i b H->g (kV q.1) b H fun d H2=>j {D with nx:=c (i+1),ct:=c (i+1),bk:=D.nx} d H2) (hd:∀b H,c kvs.length b H->D.nx b H) :
  ∃W:Nat->Nat->St->Hp->Prop,(∃m,W 0 m b H)/\∀i m b H,W i m b H->
   ((Itk a o kvs).stop i H/\D.nx b H)\/((Itk a o kvs).go i H/\∃N:St->Hp->Prop,(∀σ' H',N σ' H'->∃h,h<m/\W (i+1) h σ' H')/\∀x H',(Itk a o kvs).yld i H x H'->g x b H' fun d H2=>j {D with nx:=N,ct:=N,bk:=D.nx} d H2):=by
 refine⟨fun i m b H=>m=kvs.length-i/\i<=kvs.length/\c i b H,⟨kvs.length,by simp,va _,l⟩,?_⟩;rintro i m b H ⟨rfl,n,p⟩;have q:=r i b H n p;by_cases f:i<kvs.length
 ·refine .inr ⟨⟨q,f⟩,c (i+1),fun σ' H' t=>⟨kvs.length-(i+1),by lia,rfl,f,t⟩,fun x H' y=>?_⟩;obtain⟨e,k,y,rfl⟩:=y;subst e;exact s i k b _ y p
 ·have e:i=kvs.length:=by lia
  subst e;exact .inl ⟨⟨q,vb _⟩,hd b H p⟩
theorem j1l{a:Addr}{o:Obj}{kvs:List (Key×V)}{k:Nat}{ci:List Nat}{g:TG}{s:TT}{r:TE}{t:St}{H:Hp}{Z:Addr->List V->Hp->Prop}(d:Nat->List V->Hp->Prop)(u:d 0 [] H)(A:∀i ys H,i<=kvs.length->d i ys H->H a=some (.frz o (.dK kvs)))
  (B:∀i q ys H,kvs[i]?=some q->d i ys H->g (kV q.1) (capS k ci t) H fun c H2=>s c H2 fun b h=>if b=true then r c h fun v l=>ys.length<sizeLine/\d (i+1) (ys++[v]) l else d (i+1) ys h)
  (hd:∀ys H,d kvs.length ys H->ys.length<=sizeLine/\∀p,H p=none->Z p ys H) :
  ∃W:Nat->Nat->List V->Hp->Prop,(∃m,W 0 m [] H)/\∀i m ys H,W i m ys H->
   ((Itk a o kvs).stop i H/\ys.length<=sizeLine/\∀p,H p=none->Z p ys H)\/
   ((Itk a o kvs).go i H/\∃N:List V->Hp->Prop,(∀f H',N f H'->∃n,n<m/\W (i+1) n f H')/\∀x H',(Itk a o kvs).yld i H x H'->g x (capS k ci t) H' fun c H2=>s c H2 fun b h=>
    if b=true then r c h fun v l=>ys.length<sizeLine/\N (ys++[v]) l else N ys h):=by
 refine⟨fun i m ys H=>m=kvs.length-i/\i<=kvs.length/\d i ys H,⟨kvs.length,by simp,va _,u⟩,?_⟩;rintro i m ys H ⟨rfl,w,p⟩;have q:=A i ys H w p;by_cases j:i<kvs.length
 ·refine .inr ⟨⟨q,j⟩,d (i+1),fun f H' C=>⟨kvs.length-(i+1),by lia,rfl,j,C⟩,fun x H' y=>?_⟩;obtain⟨e,z,y,rfl⟩:=y;subst e;exact B i z ys _ y p
 ·have e:i=kvs.length:=by lia
  subst e;exact .inl ⟨⟨q,vb _⟩,hd ys H p⟩
section
variable{σ:St}{H:Hp}{Q:VK}
theorem j3c(h:td σ H fun x H1=>∃a,x = .ref a/\IsD H1 a/\ty σ H1 fun y H2=>∃o,DGet H2 a y o/\Q (o.getD .non) H2):tDGet1 td ty σ H Q:=h
theorem xA(h:te σ H fun v H1=>∃as:List Addr,as.Nodup/\(∀b∈as,∃kvs,H1 b=some (.dK kvs))/\∀H2,Frz as H1 H2->Q v H2):tFrz te σ H Q:=h
theorem XF{R:It->Hp->Prop}(h:tl σ H fun x H1=>∃a o kvs,x = .ref a/\H1 a=some (.frz o (.dK kvs))/\R (Itk a o kvs) H1):iDict tl σ H R:=h
end
def tNotT(K:Frg)(ta:TE):TE:=fun σ H Q=>ta σ H fun x H'=>∃k,TruV K x H' k/\Q (.bl (!k)) H'
theorem j4h(o:PE X a ta):PE X (.UnaryOp .Not a pos) (tNotT X.K ta):=by
 intro d s g H Q I h;refine UnaryOp_ (thn (o d s g H _ I h) fun v r ⟨x,f,l,q,k,t,p⟩=>?_);refine not_of (wpAny_mono (j5g d r g f x v (fun b i=>b=k/\i=f) l q ⟨k,t,rfl,rfl⟩) (fun c u n=>?_) fun _ _ e=>e);obtain⟨j,m,rfl,rfl⟩:=n;exact⟨.bl (!c),j,m,rfl,p⟩
theorem j4k{K:Frg}{a:TE}{b:St}{H:Hp}{Q:VK}(h:a b H fun x H'=>∃k,TruV K x H' k/\Q (.bl (!k)) H'):tNotT K a b H Q:=h
section
variable{prog:Program}{w:World}{A:Around}{E:Value->Shared->Prop}{s:Shared}
end
end L2
namespace Pr
open PySem L2
end Pr
namespace Rm
open PySem PySem.Spec PyProof.Rows L2
section
variable{κ:Type}[DecidableEq κ]
theorem Xl(kvs:List (κ×V))(k:κ)(v:V):(putK kvs k v).map (·.1)=if(valV kvs k).isSome then kvs.map (·.1)else kvs.map (·.1)++[k]:=by
 unfold putK;rw[Qv];split
 ·rw[v4];refine map_congr_left fun q _=>?_
  show(if q.1=k then(q.1,v)else q).1=q.1;split<;>rfl
 ·rw[vj];rfl
theorem j4q{kvs:List (κ×V)}{k:κ}(h:k∈kvs.map (·.1)):(valV kvs k).isSome=true:=by
 cases e:valV kvs k with
 | none=>exact uh h (XR e)
 | some x=>rfl
theorem j4Y{kvs:List (κ×V)}{k:κ}(v:V)(a:(kvs.map (·.1)).Nodup):((putK kvs k v).map (·.1)).Nodup:=by
 cases e:valV kvs k with
 | none=>exact j4b v a e
 | some x=>rw[Xl,e];exact a
theorem Wr{d:Type}[DecidableEq d]:∀{l m:List d},l.Nodup->(∀x∈l,x∈m)->l.length<=m.length
 | [],m,_,_=>va _
 | a::l,m,nd,h=>by
  rw[ur]at nd;have b:=h a vq;have:=Wr (l:=l) (m:=m.erase a) nd.2 fun x c=>(List.mem_erase_of_ne (fun z:x=a=>nd.1 (by rw[<-z];exact c))).mpr (h x (vp _ c))
  rw[List.length_erase_of_mem b]at this;have:=length_pos_of_mem b;rw[vP];lia
end
noncomputable abbrev Tb:=List (Key×V)
def Has(B:List Tb)(i:Nat)(h:Int):Prop:=(valV (B.getD i []) (Sum.inl h)).isSome=true
noncomputable def lef(L:List (Option Int))(i:Nat):Int:=(L.getD i none).getD 0
noncomputable def Run(L:List (Option Int))(B:List Tb):Int->List Pc->Prop
 | _,[]=>True
 | h,q::r=>Has B q.1 h/\Run L B (lef L q.1) r
noncomputable def nowH(L:List (Option Int)):Int->List Pc->Int
 | h,[]=>h
 | _,q::r=>nowH L (lef L q.1) r
theorem Run.snoc:∀{r:List Pc} {h:Int},Run L B h r->Has B q.1 (nowH L h r)->Run L B h (r++[q])
 | [],_,_,k=>⟨k,trivial⟩
 | _::_,_,h,k=>⟨h.1,Run.snoc h.2 k⟩
theorem Wt:∀{r:List Pc} {h:Int},nowH L h (r++[q])=lef L q.1
 | [],_=>rfl
 | _::r,_=>Wt (r:=r)
theorem Run.mono(g:∀i h,Has B i h->Has B' i h):∀{r:List Pc} {h:Int},Run L B h r->Run L B' h r
 | [],_,_=>trivial
 | _::_,_,h=>⟨g _ _ h.1,Run.mono g h.2⟩
def Alw(f:Int)(L:List (Option Int))(k:Key):Prop:=∃h,k=Sum.inl h/\(h=f\/∃j,L.getD j none=some h)
structure KB(f:Int)(L:List (Option Int))(B:List Tb):Prop where
 nd:∀i,((B.getD i []).map (·.1)).Nodup
 al:∀i,∀q∈B.getD i [],Alw f L q.1
theorem KB.len(h:KB f L B)(i:Nat):(B.getD i []).length<=L.length+1:=by
 have:=Wr (m:=(f::L.map fun o=>o.getD 0).map fun h=>(Sum.inl h:Key)) (h.nd i) fun k a=>by
  obtain⟨q,b,rfl⟩:=vK.mp a;obtain⟨x,e,z⟩:=h.al i q b;rw[e];refine vK.mpr ⟨x,?_,rfl⟩;rcases z with rfl | ⟨j,z⟩
  ·exact vq
  ·refine vp _ (vK.mpr ⟨L.getD j none,?_,by rw[z];rfl⟩);rw[vy]at z|-;cases e:L[j]? with
   | none=>rw[e]at z;cases z
   | some o=>exact vm e
 rw[vt,vt,vP,vt]at this;exact this
noncomputable def putB(B:List Tb)(j:Nat)(h:Int):List Tb:=B.set j (putK (B.getD j []) (Sum.inl h) (.bl true))
theorem Kq(a:j<B.length):(putB B j h).getD j []=putK (B.getD j []) (Sum.inl h) (.bl true):=by
 unfold putB;rw[vy,List.getElem?_set_self a];rfl
theorem YM(a:i≠j):(putB B j h).getD i []=B.getD i []:=by
 unfold putB;rw[vy,List.getElem?_set_ne (Ne.symm a),<-vy]
theorem XC(a:j<B.length):Has (putB B j h) j h:=by
 unfold Has;rw[Kq a,yn,vd rfl];rfl
theorem j1N(a:j<B.length)(i:Nat)(x:Int)(k:Has B i x):Has (putB B j h) i x:=by
 by_cases e:i=j
 ·subst e;unfold Has;rw[Kq a,yn];split
  ·rfl
  ·exact k
 ·unfold Has;rw[YM e];exact k
theorem KB.put{f:Int}{L:List (Option Int)}{B:List Tb}(k:KB f L B){j:Nat}{h:Int}(l:j<B.length)(a:h=f\/∃j,L.getD j none=some h):KB f L (putB B j h):=by
 refine⟨fun i=>?_,fun i q b=>?_⟩
 ·by_cases e:i=j
  ·subst e;rw[Kq l];exact j4Y _ (k.nd i)
  ·rw[YM e];exact k.nd i
 ·by_cases e:i=j
  ·subst e;rw[Kq l]at b;have:q.1∈(putK (B.getD i []) (Sum.inl h) (.bl true)).map (·.1):=vK.mpr ⟨q,b,rfl⟩;rw[Xl]at this;split at this
   ·obtain⟨g,c,d⟩:=vK.mp this;rw[<-d];exact k.al i g c
   ·rcases vh.mp this with z | z
    ·obtain⟨g,c,d⟩:=vK.mp z;rw[<-d];exact k.al i g c
    ·rw[vo.mp z];exact⟨h,rfl,a⟩
  ·rw[YM e]at b;exact k.al i q b
structure Beg(H0:Hp)(l:Addr)(as:List Addr)(B:List Tb)(H:Hp):Prop where
 sm:Same H0 H
 el:H l=some (.lst (as.map V.ref))
 at':All2 (fun a kvs=>H a=some (.dK kvs)) as B
 nd:as.Nodup
 nw:∀a∈as,H0 a=none
 nl:H0 l=none
theorem Beg.more{a:Hp}{H H':Hp}(b:Beg a l as B H)(s:Same H H'):Beg a l as B H':=
 ⟨b.sm.trans s,s _ _ b.el,All2.mono b.at' fun _ _ h=>s _ _ h,b.nd,b.nw,b.nl⟩
theorem Beg.put{m:Hp}{H:Hp}(b:Beg m l as B H)(g:as[j]?=some a)(h:Int) :
  Beg m l as (putB B j h) (upd H a (.dK (putK (B.getD j []) (Sum.inl h) (.bl true)))):=by
 have s:l≠a:=fun z=>by
  have k:j<B.length:=by rw[<-b.at'.1];exact(vx.mp g).1
  have:=b.at'.2 j a _ g (vz k);rw[<-z,b.el]at this;cases this
 refine⟨fun c u d=>(jh fun z=>?_).trans (b.sm _ _ d),(jh s).trans b.el,⟨by rw[b.at'.1,putB,length_set],fun i c x d f=>?_⟩,b.nd,b.nw,b.nl⟩
 ·have:=b.nw a (vm g);rw[z,this]at d;cases d
 ·by_cases e:i=j
  ·subst e;rw[g]at d;cases d;refine jG.trans ?_;have k:=(vx.mp f).1;unfold putB at f k;rw[length_set]at k;rw[List.getElem?_set_self k]at f;rw[vL f]
  ·have r:c≠a:=fun z=>by
    have p:=(vx.mp d)
    have q:=(vx.mp g)
    obtain⟨t,n⟩:=p;obtain⟨v,o⟩:=q;exact e ((List.getElem_inj b.nd).mp (n.trans (z.trans o.symm)))
   refine(jh r).trans ?_;unfold putB at f;rw[List.getElem?_set_ne (Ne.symm e)]at f;exact b.at'.2 i c x d f
structure BegOk(f:Int)(L:List (Option Int))(PC:List (List Pc))(B:List Tb):Prop where
 ln:B.length=PC.length
 kb:KB f L B
 tp:Has B (PC.length-1) f
 cl:∀i,i<PC.length->∀h,Has B i h->Run L B h (PC.getD i [])
structure StrOk(f:Int)(L:List (Option Int))(gs:List Int)(PC:List (List Pc)):Prop where
 n1:1<=PC.length
 n61:PC.length<=61
 lL:L.length=PC.length
 lg:gs.length=PC.length
 f0:0<=f/\f<=10^18
 lb:∀i v,L.getD i none=some v->0<=v/\v<=10^18
 pc:∀i,∀q∈PC.getD i [],q.1<i/\(L.getD q.1 none).isSome=true/\PcOk gs q
 p8:∀i,(PC.getD i []).length<=8
 rs:∀i v,L.getD i none=some v->PC.getD i []=[]->1<=gs.getD i 0/\gs.getD i 0<=10^18
def FrzAt(H:Hp)(as:List Addr)(B:List Tb):Prop:=All2 (fun a kvs=>∃o,H a=some (.frz o (.dK kvs))) as B
inductive sp_begunH(vs:List V)(H:Hp)(Q:VK)(xk:XK):Prop
 | mk (pp pl:Addr) (pa:List Addr) (f:Int) (L:List (Option Int)) (gs:List Int) (PC:List (List Pc)) (_:vs=[.ref pp,.ref pl,.int f]) (_:H pp=some (.lst (pa.map V.ref))) (_:PssAt H pa PC) (_:H pl=some (.lst (L.map optV))) (_:StrOk f L gs PC) (_:∀(b:Addr) (ba:List Addr) (B:List Tb) (H':Hp),Same H H'->H b=none->H' b=some (.lst (ba.map V.ref))->FrzAt H' ba B->BegOk f L PC B->Q (.ref b) H'):sp_begunH vs H Q xk
structure Ta where
 s:Addr
 l:Addr
 p:Addr
 b:Addr
 pa:List Addr
 ba:List Addr
noncomputable def fldT(z:Ta)(f:Int):List (Str×V):=putF "begun" (.ref z.b) (putF "pieces" (.ref z.p) (putF "left" (.ref z.l) (putF "sizes" (.ref z.s) (putF "first" (.int f) []))))
section
variable{z:Ta}{f:Int}
theorem Xh:(fldT z f).lookup ("begun" : Str)=some (.ref z.b):=Qn
theorem Wj:(fldT z f).lookup ("pieces" : Str)=some (.ref z.p):=(j5 (by decide +kernel)).trans Qn
theorem WW:(fldT z f).lookup ("left" : Str)=some (.ref z.l):=(j5 (by decide +kernel)).trans ((j5 (by decide +kernel)).trans Qn)
theorem Z2:(fldT z f).lookup ("sizes" : Str)=some (.ref z.s):=(j5 (by decide +kernel)).trans ((j5 (by decide +kernel)).trans ((j5 (by decide +kernel)).trans Qn))
theorem j2w:(fldT z f).lookup ("first" : Str)=some (.int f):=(j5 (by decide +kernel)).trans ((j5 (by decide +kernel)).trans ((j5 (by decide +kernel)).trans ((j5 (by decide +kernel)).trans Qn)))
theorem j5m{m:Str}(a:¬m = "begun")(b:¬m = "pieces")(c:¬m = "left")(d:¬m = "sizes")(e:¬m = "first"):(fldT z f).lookup m=none:=(j5 a).trans ((j5 b).trans ((j5 c).trans ((j5 d).trans (j5 e))))
end
structure StrAt(C:Addr)(H:Hp)(a:Addr)(z:Ta)(f:Int)(L:List (Option Int))(gs:List Int)(PC:List (List Pc))(B:List Tb):Prop where
 ob:∃dx,H a=some (.ins C dx (fldT z f))
 hs:H z.s=some (.lst (gs.map V.int))
 hl:H z.l=some (.lst (L.map optV))
 hp:H z.p=some (.lst (z.pa.map V.ref))
 pa:PssAt H z.pa PC
 hb:H z.b=some (.lst (z.ba.map V.ref))
 ba:FrzAt H z.ba B
theorem StrAt.same{H H':Hp}(A:StrAt C H a z f L gs PC B)(s:Same H H'):StrAt C H' a z f L gs PC B:=
 ⟨A.ob.imp fun i h=>s _ _ h,s _ _ A.hs,s _ _ A.hl,s _ _ A.hp,All2.mono A.pa fun a e ⟨c,d,g⟩=>⟨c,s _ _ d,All2.mono g fun b q h=>s _ _ h⟩,s _ _ A.hb,All2.mono A.ba fun a k ⟨o,h⟩=>⟨o,s _ _ h⟩⟩
noncomputable def lvE(E:List (List (Int×Int)))(k:Int):List (Option Int):=E.map fun e=>e.lookup k
noncomputable def fPc(ps:List (Str×Fm))(gs:List Int)(L:List (Option Int)):List (List Pc):=ps.map fun p=>(pcsI gs p.2 (inP ps p.2)).filter fun q=>(L.getD q.1 none).isSome
inductive sp_initT(C:Addr)(vs:List V)(H:Hp)(Q:VK)(xk:XK):Prop
 | mk (a dx b pl pp:Addr) (las pas:List Addr) (ls:List (Str×Int)) (ps:List (Str×Fm)) (gs:List Int) (hs:List (List Int)) (x:Str) (f:Int) (k:Nat) (_:vs=[.ref a,.ref b,.str x]) (_:H a=some (.ins C dx [])) (_:BookAt H b pl pp las pas ls ps) (_:Sn ls ps gs hs) (_:ls[k]?=some (x,f)) (_:∀(z:Ta) (E:List (List (Int×Int))) (B:List Tb) (H':Hp),(∀c u,c≠a->H c=some u->H' c=some u)->E.length=ps.length->EndOk ls ps E->StrOk f (lvE E (k:Nat)) gs (fPc ps gs (lvE E (k:Nat)))->StrAt C H' a z f (lvE E (k:Nat)) gs (fPc ps gs (lvE E (k:Nat))) B->BegOk f (lvE E (k:Nat)) (fPc ps gs (lvE E (k:Nat))) B->Q .non H'):sp_initT C vs H Q xk
noncomputable def rzB(L:List (Option Int))(PC:List (List Pc))(i:Nat):Bool:=(L.getD i none).isSome&&(PC.getD i []).isEmpty
inductive sp_raises(C:Addr)(vs:List V)(H:Hp)(Q:VK)(xk:XK):Prop
 | mk (a:Addr) (z:Ta) (f:Int) (L:List (Option Int)) (gs:List Int) (PC:List (List Pc)) (B:List Tb) (i:Nat) (_:vs=[.ref a,.int (i:Nat)]) (_:StrAt C H a z f L gs PC B) (_:StrOk f L gs PC) (_:i<PC.length) (_:Q (.bl (rzB L PC i)) H):sp_raises C vs H Q xk
theorem j4F(h:1<=n)(e:xs.length=n)(a:xs[n-1]?=some v):atI xs (-1)=some v:=by
 have:xs=xs.take (n-1)++[v]:=by
  rw[<-take_snoc a,show n-1+1=xs.length by lia,v3]
 rw[this];exact xM _ _
theorem Beg.last{d:Hp}{H:Hp}(b:Beg d l as B H)(c:j<B.length):∃a,as[j]?=some a/\H a=some (.dK (B.getD j [])):=by
 obtain⟨a,e,f⟩:=b.at'.get (vz c);exact⟨a,e,by rw[vy,vz c];exact f⟩
theorem KB.none:KB f L (List.replicate n []):=by
 have e:∀i,(List.replicate n ([]:Tb)).getD i []=[]:=fun i=>by
  rw[vy,List.getElem?_replicate];split<;>rfl
 exact⟨fun i=>by rw[e];exact nodup_nil,fun i q a=>by rw[e]at a;exact nomatch a⟩
theorem Xo:(putB B j h).length=B.length:=length_set ..
theorem YB(h:(L.getD i none).isSome=true):L.getD i none=some (lef L i)/\L[i]?=some (some (lef L i)):=by
 unfold lef;rw[vy]at h|-;cases e:L[i]? with
 | none=>rw[e]at h;cases h
 | some o=>
  rw[e]at h;cases o with
  | none=>cases h
  | some v=>exact⟨rfl,rfl⟩
theorem j0x(a:h=f\/∃j,L.getD j none=some h):∀{r:List Pc},(∀q∈r,(L.getD q.1 none).isSome=true)->nowH L h r=f\/∃j,L.getD j none=some (nowH L h r)
 | [],_=>a
 | q::r,hq=>j0x (.inr ⟨q.1,(YB (hq q vq)).1⟩) fun c b=>hq c (vp _ b)
theorem zk{e:List (Int×Int)}{k v:Int}(h:e.lookup k=some v):(k,v)∈e:=by
 induction e with
 | nil=>cases h
 | cons q r ih=>
  obtain⟨a,b⟩:=q;rw[lookup_cons]at h;by_cases c:k=a
  ·subst c;rw[beq_self_eq_true]at h;cases h;exact vq
  ·rw[show(k==a)=false from beq_false_of_ne c]at h;exact vp _ (ih h)
theorem zm{e:List (Int×Int)}{k v:Int}(c:(e.map (·.1)).Pairwise (· < ·))(h:(k,v)∈e):e.lookup k=some v:=by
 induction e with
 | nil=>exact nomatch h
 | cons q r ih=>
  obtain⟨a,b⟩:=q;rw[v7,vU]at c;rw[lookup_cons];rcases mem_cons.mp h with z | z
  ·cases z;rw[beq_self_eq_true]
  ·have:a<k:=c.1 k (vK.mpr ⟨_,z,rfl⟩);rw[show(k==a)=false from beq_false_of_ne (by lia)];exact ih c.2 z
theorem j0t(e:List (Int×Int))(k:Int):(valV (e.map iiK) (Sum.inl k)).getD .non=optV (e.lookup k):=by
 induction e with
 | nil=>rfl
 | cons q r ih=>
  obtain⟨a,b⟩:=q;rw[lookup_cons];by_cases c:k=a
  ·subst c;rw[beq_self_eq_true];exact congrArg (Option.getD · V.non) (ql (p:=iiK (k,b)) rfl)
  ·rw[show(k==a)=false from beq_false_of_ne c,v7,qk (p:=iiK (a,b)) (fun z=>c (Sum.inl.inj z).symm)];exact ih
theorem kT(i:Nat):(lvE E k).getD i none=(E.getD i []).lookup k:=by
 unfold lvE;rw[vy,vy,vv];cases E[i]?<;>rfl
theorem kg(i:Nat):(fPc ps gs L).getD i []=(pcB ps gs i).filter fun q=>(L.getD q.1 none).isSome:=by
 unfold fPc pcB;rw[vy,vv];cases ps[i]?<;>rfl
theorem j4f(h:j∈is)(d:∀k x,f = .again k x->is.length<=1):∃q∈pcsI gs f is,q.1=j:=by
 unfold pcsI;split
 ·rename_i k x;cases is with
  | nil=>exact nomatch h
  | cons i r=>
   have:=d k x rfl;rw[vP]at this;have e:r=[]:=List.length_eq_zero_iff.mp (by lia);subst e;exact⟨_,vq,(vo.mp h).symm⟩
 ·have:∀(is:List Nat) (b:Int),j∈is->∃q∈rowPc gs is b,q.1=j:=by
   intro is
   induction is with
   | nil=>intro b h;exact nomatch h
   | cons i r ih=>
    intro b h;unfold rowPc;rcases mem_cons.mp h with rfl | h
    ·exact⟨_,vq,rfl⟩
    ·obtain⟨q,a,c⟩:=ih _ h;exact⟨q,vp _ a,c⟩
  exact this is 0 h
 ·exact⟨_,vK.mpr ⟨j,h,rfl⟩,rfl⟩
section
variable{ls:List (Str×Int)}{ps:List (Str×Fm)}{gs:List Int}{hs:List (List Int)}{E:List (List (Int×Int))}
theorem Sn.strand(N:Sn ls ps gs hs)(t:E.length=ps.length)(r:EndOk ls ps E){k:Nat}{x:Str}{f:Int}(I:ls[k]?=some (x,f)):StrOk f (lvE E (k:Nat)) gs (fPc ps gs (lvE E (k:Nat))):=by
 have g:(fPc ps gs (lvE E (k:Nat))).length=ps.length:=vt _;have J:(lvE E (k:Nat)).length=ps.length:=(vt _).trans t;have u:∀{i v},(lvE E (k:Nat)).getD i none=some v->i<ps.length:=fun {i v} h=>by
  rcases Nat.lt_or_ge i ps.length with z | z
  ·exact z
  ·rw[vy,vS (by lia)]at h;cases h
 refine⟨by rw[g];exact N.ne,by rw[g];exact N.s.w.p61,J.trans g.symm,N.s.gl.trans g.symm,N.l18 _ (vm I),fun i v h=>?_,fun i q c=>?_,fun i=>?_,fun i v h B=>?_⟩
 ·have o:=u h;rw[kT]at h;exact j2o N t r o _ (zk h)
 ·rw[kg]at c;obtain⟨s,C⟩:=vO.mp c;exact⟨kC N.s.w s,C,N.pcOk s⟩
 ·rw[kg];refine vV (length_filter_le ..) ?_;unfold pcB;split
  ·rename_i p a;exact Xn (N.i8 a)
  ·exact va _
 ·have o:=u h;have D:E[i]?=some (E.getD i []):=by rw[vy,vz (by lia)];rfl
  have a:=vz o;rw[kT]at h;rcases(((r i _ _ a D).2 _ _).mp (zk h))with⟨L,j,w,l,H,_⟩ | ⟨y,n,e,_⟩
  ·exfalso;have d:j∈inP ps ps[i].2:=by rw[l];simp
   have M:=N.s.w.inP_lt a d;have m:E[j]?=some (E.getD j []):=by rw[vy,vz (by lia)];rfl
   have K:=(r j _ _ (vz (by lia)) m).1;obtain⟨q,c,A⟩:=j4f (gs:=gs) (f:=ps[i].2) d (fun k x e=>by unfold inP;rw[e];exact vb _);have:q∈(fPc ps gs (lvE E (k:Nat))).getD i []:=by
    rw[kg];refine vO.mpr ⟨?_,?_⟩
    ·unfold pcB;rw[a];exact c
    ·rw[A,kT,zm K H];rfl
   rw[B]at this;exact nomatch this
  ·have c:ps[i]?=some (ps[i].1,.rise y v n):=by rw[a,<-e]
   have b:=N.r18 i _ y v n c;have:=(N.s.ln i _ a).2 n (by rw[e];rfl);rw[<-this];exact b.2.2
end
theorem BegOk.key{f:Int}{L:List (Option Int)}{gs:List Int}{PC:List (List Pc)}{B:List Tb}(O:BegOk f L PC B)(S:StrOk f L gs PC){i:Nat}{q:Key×V}(h:q∈B.getD i []):∃x,q.1=Sum.inl x/\0<=x/\x<=10^18/\Has B i x:=by
 obtain⟨x,e,z⟩:=O.kb.al i q h;refine⟨x,e,?_⟩;have a:Has B i x:=by
  unfold Has;rw[<-e];exact j4q (vK.mpr ⟨q,h,rfl⟩)
 rcases z with rfl | ⟨j,z⟩
 ·exact⟨S.f0.1,S.f0.2,a⟩
 ·exact⟨(S.lb j x z).1,(S.lb j x z).2,a⟩
theorem WA(g:Int->V):∀(ks:List Int) (acc:Tb) (h:Int),valV (mergeK acc (ks.map fun k=>ivK (k,g k))) (Sum.inl h)=if h∈ks then some (g h)else valV acc (Sum.inl h)
 | [],acc,h=>by rw[vc (fun z=>nomatch z)];rfl
 | k::ks,acc,h=>by
  show valV (mergeK (putK acc (Sum.inl k) (g k)) (ks.map fun k=>ivK (k,g k))) (Sum.inl h)=_;rw[WA g ks _ h];by_cases c:h∈ks
  ·rw[vd c,vd (vp _ c)]
  ·rw[vc c,yn];by_cases d:h=k
   ·subst d;rw[vd rfl,vd vq]
   ·rw[vc (fun z=>d (Sum.inl.inj z)),vc (fun z=>(mem_cons.mp z).elim d c)]
theorem notN(o:Option Int):(!decide (optV o=V.non))=o.isSome:=by
 cases o with
 | none=>rw[vG (show optV none=V.non from rfl)];rfl
 | some h=>rw[vH (show¬optV (some h)=V.non from fun z=>by cases z)];rfl
noncomputable def keyI:Key->Int
 | .inl x=>x
 | .inr _=>0
theorem j3T{c d:Type}{a:List c}{b:List d}(h:a.length=b.length):a.isEmpty=b.isEmpty:=by
 cases a with
 | nil=>cases b with
  | nil=>rfl
  | cons y s=>simp at h
 | cons x r=>cases b with
  | nil=>simp at h
  | cons y s=>rfl
theorem j3P{a:Type}{l:List a}{u:Nat}{y:a}(h:l[u]?=some y):l.drop u=y::l.drop (u+1):=by
 obtain⟨b,e⟩:=vx.mp h;rw[List.drop_eq_getElem_cons b,e]
section
variable{ls:List (Str×Int)}{ps:List (Str×Fm)}{E:List (List (Int×Int))}
theorem j4V(e:EndOk ls ps E)(g:E.length=ps.length){i:Nat}{p:Str×Fm}(a:ps[i]?=some p){k v:Int}:(lvE E k).getD i none=some v↔EndIs ls ps E p.2 k v:=by
 have f:=(vx.mp a).1;have c:E[i]?=some (E.getD i []):=by rw[vy,vz (by lia)];rfl
 obtain⟨d,b⟩:=e i p _ a c;rw[kT];exact⟨fun h=>(b k v).mp (zk h),fun h=>zm d ((b k v).mpr h)⟩
end
section
variable{F G:Int->Int}{m a b c:Int}{o p:Option Int}
end
section
variable(ls:List (Str×Int))(ps:List (Str×Fm))(gs:List Int)(L:List (Option Int))(k:Nat)
noncomputable def ap1(h:Int)(x:Nat×Int):Int:=
 if gs.getD x.1 0<=x.2 then(L.getD x.1 none).getD h
 else match ps[x.1]? with
  | some (_,.rise y v n)=>if ixOf (nmsOf ls) y=k then Rp.ramp h v n x.2 else h
  | _=>h
noncomputable def hgt(p:Nat)(h s:Int):Int:=(reach ps gs p s).foldl (ap1 ls ps gs L k) h
end
section
variable{ls:List (Str×Int)}{ps:List (Str×Fm)}{gs:List Int}{hs:List (List Int)}{E:List (List (Int×Int))}{k:Nat}
theorem j4B(N:Sn ls ps gs hs)(s:E.length=ps.length)(l:EndOk ls ps E){h:List Int}(a:h.length=ls.length)(r:k<ls.length){x:Nat×Int}(i:x.1<ps.length) :
  (appH ls ps gs E h x).length=ls.length/\(appH ls ps gs E h x).getD k 0=ap1 ls ps gs (lvE E (k:Nat)) k (h.getD k 0) x:=by
 have m:E[x.1]?=some (E.getD x.1 []):=by rw[vy,vz (by lia)];rfl
 obtain⟨j,t⟩:=l x.1 _ _ (vz i) m;have b:∀q∈E.getD x.1 [],0<=q.1:=fun q o=>(KK N.s.w (by lia) l x.1 q o).1
 have g:h[k]?=some (h.getD k 0):=by rw[vy,vz (by lia)];rfl
 unfold appH ap1;by_cases c:gs.getD x.1 0<=x.2
 ·rw[vd c,vd c];show(setE (E.getD x.1 []) h).length=_/\(setE (E.getD x.1 []) h).getD k 0=_;refine⟨(qj _ _).trans a,?_⟩;rw[kT,vy];cases e:(E.getD x.1 []).lookup (k:Int)with
  | none=>
   rw[Qu b (fun v p=>by rw[zm j p]at e;cases e),g];rfl
  | some v=>
   rw[zI j b (zk e) (by lia)];rfl
 ·rw[vc c,vc c];rw[vz i];cases hp:ps[x.1]with
  | mk y f=>
   cases f with
   | rise z v n=>
    show(h.set (ixOf (nmsOf ls) z) (Rp.ramp (h.getD (ixOf (nmsOf ls) z) 0) v n x.2)).length=_/\(h.set (ixOf (nmsOf ls) z) (Rp.ramp (h.getD (ixOf (nmsOf ls) z) 0) v n x.2)).getD k 0=if ixOf (nmsOf ls) z=k then _ else _
    refine⟨(length_set ..).trans a,?_⟩;by_cases d:ixOf (nmsOf ls) z=k
    ·rw[vd d,d,vy,List.getElem?_set_self (by lia)];rfl
    ·rw[vc d,vy,List.getElem?_set_ne d,<-vy]
   | hold n=>exact⟨a,rfl⟩
   | ring z n=>exact⟨a,rfl⟩
   | row z=>exact⟨a,rfl⟩
   | side z=>exact⟨a,rfl⟩
   | again z n=>exact⟨a,rfl⟩
theorem fold1(N:Sn ls ps gs hs)(b:E.length=ps.length)(c:EndOk ls ps E)(a:k<ls.length):∀{xs:List (Nat×Int)} {h:List Int},h.length=ls.length->(∀x∈xs,x.1<ps.length)->
  (xs.foldl (appH ls ps gs E) h).getD k 0=xs.foldl (ap1 ls ps gs (lvE E (k:Nat)) k) (h.getD k 0)
 | [],h,_,_=>rfl
 | x::xs,h,hl,hx=>by
  obtain⟨d,e⟩:=j4B N b c hl a (hx x vq);rw[v5,v5,fold1 N b c a d fun y f=>hx y (vp _ f),e]
theorem j25(N:Sn ls ps gs hs)(d:E.length=ps.length)(e:EndOk ls ps E)(a:ls[k]?=some (x,f))(t:Int):(standH ls ps gs E t).getD k 0=hgt ls ps gs (lvE E (k:Nat)) k (ps.length-1) f t:=by
 have c:=(vx.mp a).1;have g:=N.ne;unfold standH hgt;rw[fold1 N d e c (vt _) fun y b=>K5 N.s.w (by lia) b];congr 1;rw[vy,vv,a];rfl
structure Lm(ls:List (Str×Int))(ps:List (Str×Fm))(gs:List Int)(L:List (Option Int))(k:Nat):Prop where
 w:WfB ls ps
 g:∀i,i<ps.length->1<=gs.getD i 0/\gs.getD i 0<=10^60
 ln:∀(i:Nat) (p:Str×Fm),ps[i]?=some p->∀gg,LenIs p.2 ((inP ps p.2).map fun j=>gs.getD j 0) gg->gg=gs.getD i 0
 rs:∀(i:Nat) (y z:Str) (v n:Int),ps[i]?=some (y,.rise z v n)->gs.getD i 0=n/\L.getD i none=if ixOf (nmsOf ls) z=k then some v else none
 lf:∀(i:Nat) (p:Str×Fm),ps[i]?=some p->p.2.ns=[]->(∀z v n,p.2≠.rise z v n)->L.getD i none=none
 ed:∀(i:Nat) (p:Str×Fm),ps[i]?=some p->p.2.ns≠[]->∀h:Int,(L.getD i none).getD h=(inP ps p.2).foldl (fun h j=>(L.getD j none).getD h) h
 no:∀(i:Nat) (p:Str×Fm),ps[i]?=some p->L.getD i none=none->∀j∈inP ps p.2,L.getD j none=none
 sd:∀(i:Nat) (p:Str×Fm) (qs:List Str),ps[i]?=some p->p.2 = .side qs->∀pre j post,inP ps p.2=pre++j::post->(L.getD j none).isSome=true->(∀j'∈pre,L.getD j' none=none)/\∀j'∈post,L.getD j' none=none
 k1:∀(i:Nat) (y z:Str) (n:Int),ps[i]?=some (y,.again n z)->1<=n
 pk:∀(i:Nat) (q:Pc),q∈pcB ps gs i->PcOk gs q
end
section
variable{ls:List (Str×Int)}{ps:List (Str×Fm)}{gs:List Int}{L:List (Option Int)}{k:Nat}
theorem j0S(a:ps[i]?=some p)(h:p.2.ns=[]):pcB ps gs i=[]:=by
 unfold pcB;rw[a];show pcsI gs p.2 (p.2.ns.map _)=[]
 rw[h];unfold pcsI;split<;>rfl
theorem zi(p:Nat)(h:Int)(a:gs.getD p 0<=s):hgt ls ps gs L k p h s=(L.getD p none).getD h:=by
 unfold hgt;rw[JD (.inl a)];show ap1 ls ps gs L k h (p,s)=_;unfold ap1;rw[vd a]
theorem X8(M:Lm ls ps gs L k):∀(p:Nat),p<ps.length->L.getD p none=none->∀(s h:Int),hgt ls ps gs L k p h s=h:=by
 intro p
 induction p using Nat.strongRecOn with
 | ind p ih=>
  intro o g s h;have a:=vz o;by_cases c:gs.getD p 0<=s\/pcB ps gs p=[]
  ·rcases c with c | c
   ·rw[zi p h c,g];rfl
   ·by_cases j:gs.getD p 0<=s
    ·rw[zi p h j,g];rfl
    ·unfold hgt;rw[JD (.inr c)];show ap1 ls ps gs L k h (p,s)=h;unfold ap1;rw[vc j,a];cases b:ps[p]with
     | mk y f=>
      cases f with
      | rise z v n=>
       have:=(M.rs p y z v n (by rw[a,b])).2;rw[g]at this;show(if ixOf (nmsOf ls) z=k then _ else h)=h;rw[vc fun e=>by rw[vd e]at this;cases this]
      | hold n=>rfl
      | ring z n=>rfl
      | row z=>rfl
      | side z=>rfl
      | again z n=>rfl
  ·unfold hgt;rw[qD M.w c,Zo];have:∀(d:List (Nat×Int)) (h:Int),(∀x∈d,x.1<p/\L.getD x.1 none=none)->d.foldl (fun h x=>(reach ps gs x.1 x.2).foldl (ap1 ls ps gs L k) h) h=h:=by
    intro d
    induction d with
    | nil=>intro h _;rfl
    | cons x d ihx=>
     intro h i;obtain⟨l,m⟩:=i x vq;rw[v5];have:(reach ps gs x.1 x.2).foldl (ap1 ls ps gs L k) h=h:=ih x.1 l (by lia) m x.2 h;rw[this];exact ihx h fun y r=>i y (vp _ r)
   refine this _ h fun x i=>?_
   obtain⟨q,b,e⟩:=W6 i;have t:=kC M.w b;rw[e];refine⟨t,?_⟩;unfold pcB at b;rw[a]at b;exact M.no p _ a g q.1 (YC b)
end
section
variable{ls:List (Str×Int)}{ps:List (Str×Fm)}{gs:List Int}{L:List (Option Int)}{k:Nat}
theorem Ki(M:Lm ls ps gs L k)(c:¬(gs.getD p 0<=s\/pcB ps gs p=[])):hgt ls ps gs L k p h s=(wth gs s (pcB ps gs p)).foldl (fun h x=>hgt ls ps gs L k x.1 h x.2) h:=by
 unfold hgt;rw[qD M.w c,Zo]
noncomputable def RF(ls:List (Str×Int))(ps:List (Str×Fm))(gs:List Int)(L:List (Option Int))(k:Nat)(is:List Nat)(b h t:Int):Int:=(wth gs t (rowPc gs is b)).foldl (fun h x=>hgt ls ps gs L k x.1 h x.2) h
noncomputable def isL(L:List (Option Int))(q:Pc):Bool:=(L.getD q.1 none).isSome
end
section
variable{ls:List (Str×Int)}{ps:List (Str×Fm)}{gs:List Int}{L:List (Option Int)}{k:Nat}{J:Nat->Int->Option Int}{m:Int}
theorem km(M:Lm ls ps gs L k){f:Nat->Int}:∀(js:List Nat) (h:Int),(∀j∈js,j<ps.length/\L.getD j none=none)->js.foldl (fun h j=>hgt ls ps gs L k j h (f j)) h=h
 | [],_,_=>rfl
 | j::js,h,hj=>by
  obtain⟨a,b⟩:=hj j vq;rw[v5,X8 M j a b];exact km M js h fun i c=>hj i (vp _ c)
theorem getD_none:∀(js:List Nat) (h:Int),(∀j∈js,L.getD j none=none)->js.foldl (fun h j=>(L.getD j none).getD h) h=h
 | [],_,_=>rfl
 | j::js,h,hj=>by
  rw[v5,hj j vq];exact getD_none js h fun i a=>hj i (vp _ a)
theorem kh{a:List Pc}(h:∀q∈a,L.getD q.1 none=none):a.filter (isL L)=[]:=
 List.filter_eq_nil_iff.mpr fun q b=>by unfold isL;rw[h q b];exact vF
theorem KL:∀(l:List Int),l≠[]->∃x∈l,∀y∈l,y<=x
 | [],h=>uh rfl h
 | [x],_=>⟨x,vq,fun y a=>by rw[vo.mp a];exact vA _⟩
 | x::z::r,_=>by
  obtain⟨w,d,b⟩:=KL (z::r) (cons_ne_nil _ _);by_cases c:w<=x
  ·refine⟨x,vq,fun y a=>?_⟩;rcases mem_cons.mp a with rfl | a
   ·exact vA _
   ·have:=b y a;lia
  ·refine⟨w,vp _ d,fun y a=>?_⟩;rcases mem_cons.mp a with rfl | a
   ·lia
   ·exact b y a
end
section
variable{ls:List (Str×Int)}{ps:List (Str×Fm)}{gs:List Int}{L:List (Option Int)}{k:Nat}{J:Nat->Int->Option Int}{m:Int}
end
section
variable{ls:List (Str×Int)}{ps:List (Str×Fm)}{gs:List Int}{hs:List (List Int)}{E:List (List (Int×Int))}{k:Nat}
theorem Wn{L:List (Option Int)}:∀{is:List Nat},(∃j∈is,(L.getD j none).isSome=true)->∃b j a v,is=b++j::a/\L.getD j none=some v/\∀f∈a,L.getD f none=none
 | [],⟨j,d,_⟩=>nomatch d
 | i::r,h=>by
  by_cases c:∃j∈r,(L.getD j none).isSome=true
  ·obtain⟨b,j,a,v,e,l,m⟩:=Wn c;exact⟨i::b,j,a,v,by rw[e];rfl,l,m⟩
  ·obtain⟨j,d,k⟩:=h;rcases mem_cons.mp d with rfl | d
   ·obtain⟨v,n⟩:=Option.isSome_iff_exists.mp k;exact⟨[],j,r,v,rfl,n,fun f g=>by
     cases e:L.getD f none with
     | none=>rfl
     | some w=>exact uh ⟨f,g,by rw[e];rfl⟩ c⟩
   ·exact uh ⟨j,d,k⟩ c
theorem W3(j:Nat){a v:Int}(h:(lvE E a).getD j none=some v):(a,v)∈E.getD j []:=by
 rw[kT]at h;exact zk h
theorem Sn.lm(N:Sn ls ps gs hs)(S:E.length=ps.length)(Q:EndOk ls ps E):Lm ls ps gs (lvE E (k:Nat)) k:=by
 have s:∀{i:Nat} {p:Str×Fm},ps[i]?=some p->∀{v:Int},(lvE E (k:Nat)).getD i none=some v↔EndIs ls ps E p.2 (k:Nat) v:=fun g=>j4V Q S g
 have T:∀i,i<ps.length->((E.getD i []).map (·.1)).Pairwise (· < ·):=fun i K=>(Q i _ _ (vz K) (by rw[vy,vz (by lia)];rfl)).1
 have C:∀{J m b:List Nat} {j:Nat} {v:Int},J=m++j::b->(lvE E (k:Nat)).getD j none=some v->(∀d∈b,(lvE E (k:Nat)).getD d none=none)->(∀d∈J,d<ps.length)->LastIn E J (k:Nat) v:=fun {J m b j v} e Z h2 hl=>⟨m,j,b,e,W3 j Z,fun d f U M=>by
  have:=zm (T d (hl d (by rw[e];exact mem_append_right _ (vp _ f)))) M;rw[<-kT,h2 d f]at this;cases this⟩
 have B:∀{i:Nat} {p:Str×Fm},ps[i]?=some p->∀j∈inP ps p.2,j<ps.length:=fun {i p} g j D=>by
  have:=N.s.w.inP_lt g D;have:=(vx.mp g).1;lia
 have o:∀{i:Nat} {p:Str×Fm},ps[i]?=some p->(lvE E (k:Nat)).getD i none=none->∀j∈inP ps p.2,(lvE E (k:Nat)).getD j none=none:=fun {i p} g h j D=>by
  cases e:(lvE E (k:Nat)).getD j none with
  | none=>rfl
  | some w=>
   obtain⟨m,d,b,v,W,X,Y⟩:=Wn ⟨j,D,by rw[e];rfl⟩;have:=(s g).mpr (.inl (C W X Y (B g)));rw[h]at this;cases this
 refine⟨N.s.w,fun i K=>N.g K,fun i p g=>(N.s.ln i p g).2,fun i y z v n g=>⟨((N.s.ln i _ g).2 n rfl).symm,?_⟩,fun i p g I hr=>?_,fun i p g I h=>?_,fun i p g h=>o g h,fun i p qs g he m j b t js=>?_,fun i y z n g=>(N.a18 i y z n g).1,fun i q hq=>N.pcOk hq⟩
 ·have a:=fun U=>s g (v:=U)
  by_cases c:ixOf (nmsOf ls) z=k
  ·rw[vd c];exact(a v).mpr (.inr ⟨z,n,rfl,by rw[c]⟩)
  ·rw[vc c];cases e:(lvE E (k:Nat)).getD i none with
   | none=>rfl
   | some w=>
    rcases(a w).mp e with⟨m,j,b,r,_⟩ | ⟨x,P,r,R⟩
    ·cases m<;>exact nomatch r
    ·cases r;exact uh (by lia) c
 ·cases e:(lvE E (k:Nat)).getD i none with
  | none=>rfl
  | some w=>
   rcases(s g).mp e with⟨m,j,b,r,_⟩ | ⟨x,P,r,R⟩
   ·unfold inP at r;rw[I]at r;cases m<;>exact nomatch r
   ·exact uh r (hr x w P)
 ·cases e:(lvE E (k:Nat)).getD i none with
  | none=>rw[getD_none _ h (o g e)];rfl
  | some w=>
   rcases(s g).mp e with⟨m,j,b,r,D,A⟩ | ⟨x,P,r,R⟩
   ·have jl:=B g j (by rw[r];simp);have L:(lvE E (k:Nat)).getD j none=some w:=by rw[kT];exact zm (T j jl) D
    rw[r,foldl_append,v5,L,getD_none b _ fun d f=>?_]
    ·rfl
    ·cases eo:(lvE E (k:Nat)).getD d none with
     | none=>rfl
     | some u=>exact uh (W3 d eo) (A d f u)
   ·rw[r]at I;exact uh rfl I
 ·have s1:=(N.s.sd i p qs g he).2 (k:Nat);have O:∀d∈inP ps p.2,∀u,(lvE E (k:Nat)).getD d none=some u->((k:Nat):Int)∈hs.getD d []:=fun d f u hu=>j3U N S Q (B g d f) (W3 d hu)
  obtain⟨w,hw⟩:=Option.isSome_iff_exists.mp js;have mj:=O j (by rw[t];simp) w hw;rw[t,vj,v7,filter_append,v6,vd (vG mj),vn,vP]at s1;have H:∀(l:List Nat) (d:Nat),d∈l->((k:Nat):Int)∈hs.getD d []->1<=((l.map fun j=>hs.getD j []).filter fun ks=>decide (((k:Nat):Int)∈ks)).length:=fun l d f hm=>length_pos_of_mem (vO.mpr ⟨vK.mpr ⟨d,f,rfl⟩,vG hm⟩)
  refine⟨fun d f=>?_,fun d f=>?_⟩
  ·cases eo:(lvE E (k:Nat)).getD d none with
   | none=>rfl
   | some u=>
    have:=H m d f (O d (by rw[t];exact mem_append_left _ f) u eo);lia
  ·cases eo:(lvE E (k:Nat)).getD d none with
   | none=>rfl
   | some u=>
    have:=H b d f (O d (by rw[t];exact mem_append_right _ (vp _ f)) u eo);lia
end
section
variable(L:List (Option Int))(gs:List Int)(PC:List (List Pc))(m:Int)
end
section
variable{L:List (Option Int)}{gs:List Int}{PC:List (List Pc)}{m:Int}
end
section
variable{ls:List (Str×Int)}{ps:List (Str×Fm)}{gs:List Int}{hs:List (List Int)}{E:List (List (Int×Int))}{k:Nat}{m:Int}
end
noncomputable def mixB(c k:Int):Int:=(c%10^30+k*k+1)*314159265358979323846264338327%(10^30+57)
theorem YD(c k:Int):0<=mixB c k/\mixB c k<10^30+57:=⟨ve _ (by decide),vf _ (by decide)⟩
def Ku:Sp:=fun vs H Q _=>∃c k:Int,vs=[.int c,.int k]/\0<=k/\k<=10^20/\Q (.int (mixB c k)) H
noncomputable def tkB(x y m:Int):Int×Int×Int:=if 0<x then(x%m,x/m,y)else(mixB ((y+m)*314159265358979323846264338327%(10^30+57)) m/1000%m,x,mixB ((y+m)*314159265358979323846264338327%(10^30+57)) m)
theorem Jr(h:1<=m):0<=(tkB x y m).1/\(tkB x y m).1<m:=by
 unfold tkB;split<;>exact⟨ve _ (by lia),vf _ (by lia)⟩
inductive sp_takeB(vs:List V)(H:Hp)(Q:VK)(xk:XK):Prop
 | mk (p:Addr) (x y m:Int) (_:vs=[.ref p,.int m]) (_:H p=some (.lst [.int x,.int y])) (_:1<=m) (_:m<=10^20) (_:0<=y) (_:y<10^30+57) (_:∀H',Ex p H H'->H' p=some (.lst [.int (tkB x y m).2.1,.int (tkB x y m).2.2])->Q (.int (tkB x y m).1) H'):sp_takeB vs H Q xk
noncomputable def abB:Str:=Str.ofString "abcdefghijklnopqrstuvwxyz"
noncomputable def wdB(p k:Nat):Str:=Txt.slice "mm" none (some (p:Int))++(⟨#[abB.cps.toList.getD (k%25) 97]⟩:Str)++(⟨#[if k<25 then 110 else 111]⟩:Str)++Txt.slice "mm" (some (p:Int)) none
inductive sp_wordB(vs:List V)(H:Hp)(Q:VK)(xk:XK):Prop
 | mk (p k:Nat) (_:vs=[.int (p:Nat),.int (k:Nat)]) (_:p<3) (_:k<50) (_:Q (.str (wdB p k)) H):sp_wordB vs H Q xk
theorem xV:(Txt.slice x a b).length<=x.length:=j3O
noncomputable def knK(nm:List Str)(gs:List Int):List (Key×V):=(nm.zip gs).map fun p=>(Sum.inr p.1,.int p.2)
theorem zj(h:nm.length=gs.length):(knK nm gs).map (·.1)=nm.map Sum.inr:=by
 unfold knK;rw[v4];have e:((fun x:Key×V=>x.1)∘fun p:Str×Int=>((Sum.inr p.1:Key),V.int p.2))=(fun x:Str=>(Sum.inr x:Key))∘Prod.fst:=rfl;rw[e,<-v4,List.map_fst_zip (by lia)]
theorem Yz(c:nm.Nodup)(h:nm.length=gs.length)(b:j<nm.length):valV (knK nm gs) (Sum.inr (nm.getD j ⟨#[]⟩))=some (.int (gs.getD j 0)):=by
 refine j0s (j:=j) (by rw[zj h];exact pairwise_map.mpr (c.imp fun h e=>h (Sum.inr.inj e))) ?_;have a:j<gs.length:=by lia
 have e:(nm.zip gs)[j]?=some (nm[j],gs[j]):=List.getElem?_zip_eq_some.mpr ⟨vz b,vz a⟩;unfold knK;rw[vv,e,vy,vy,vz b,vz a];rfl
inductive sp_longB(vs:List V)(H:Hp)(Q:VK)(xk:XK):Prop
 | mk (fa d:Addr) (f:Fn) (nm:List Str) (gs:List Int) (L:List Str) (M:List (List Int)) (_:vs=[.ref fa,.ref d]) (_:FormAt H fa (toldF nm f)) (_:H d=some (.dK (knK nm gs))) (_:nm.Nodup) (_:nm.length=gs.length) (_:PreN L M nm.length f) (_:(∀j,j<nm.length->1<=gs.getD j 0/\gs.getD j 0<=10^60)) (_:∀(g:Int) (H':Hp),Same H H'->LenN gs f g->Q (.int g) H'):sp_longB vs H Q xk
def StrsAt(H:Hp)(as:List Addr)(Ms:List (List Str)):Prop:=All2 (fun a ks=>H a=some (.lst (ks.map V.str))) as Ms
noncomputable def rsB:Fn->List Nat
 | .row is=>is
 | .side is=>is
 | _=>[]
def MovS(Ms:List (List Str))(f:Fn)(ks:List Str):Prop:=ks.Nodup/\∀s,s∈ks↔(∃j∈f.js,s∈Ms.getD j [])\/∃h n,f = .rise s h n
theorem WX(n:Str):∀hs:List Str,inV (.str n) (hs.map V.str)=decide (n∈hs)
 | []=>by simp[inV]
 | h::r=>by
  have a:=WX n r;unfold inV at a|-;rw[v7,any_cons,a];have e:eqV (.str h) (.str n)=decide (h=n):=by
   show(h==n)=_;by_cases c:h=n
   ·subst c;simp
   ·rw[vH c];exact beq_eq_false_iff_ne.mpr c
  rw[e,Bool.eq_iff_iff];simp only[Bool.or_eq_true,decide_eq_true_eq,mem_cons];constructor
  ·rintro(x | x)
   ·exact .inl x.symm
   ·exact .inr x
  ·rintro(x | x)
   ·exact .inl x.symm
   ·exact .inr x
theorem flatB:∀hs:List Str,(hs.map V.str).all flatV=true
 | []=>rfl
 | h::r=>by rw[v7,all_cons,flatB r];rfl
theorem lidxB{xs:List Str}(d:xs.Nodup){j:Nat}(f:j<xs.length):(xs.map V.str)[j]?=some (.str (xs.getD j ⟨#[]⟩))/\eqV (.str (xs.getD j ⟨#[]⟩)) (.str (xs.getD j ⟨#[]⟩))=true/\∀(n:Nat) (z:V),n<j->(xs.map V.str)[n]?=some z->eqV z (.str (xs.getD j ⟨#[]⟩))=false:=by
 have h:xs[j]?=some (xs.getD j ⟨#[]⟩):=by rw[vy,vz f];rfl
 refine⟨by rw[vv,h];rfl,(by show(xs.getD j ⟨#[]⟩==xs.getD j ⟨#[]⟩)=true;exact beq_self_eq_true _),fun n z i c=>?_⟩;rw[vv]at c;obtain⟨w,g,rfl⟩:=vg.mp c;show(w==xs.getD j ⟨#[]⟩)=false;refine beq_eq_false_iff_ne.mpr fun e=>?_
 rw[<-e]at h;have a:=Jg d g;have b:=Jg d h;lia
noncomputable def plB(L ks:List Str):List Int:=((List.range L.length).filter fun i=>decide (L.getD i ⟨#[]⟩∈ks)).map fun i:Nat=>(i:Int)
theorem Zs:k∈plB L ks↔∃(i:Nat) (s:Str),L[i]?=some s/\s∈ks/\k=(i:Int):=by
 unfold plB;constructor
 ·intro h;obtain⟨i,d,rfl⟩:=vK.mp h;obtain⟨a,c⟩:=vO.mp d;have b:=v2.mp a;refine⟨i,L[i],vz b,?_,rfl⟩;have:=of_decide_eq_true c;rw[vy,vz b]at this;exact this
 ·rintro⟨i,s,a,c,rfl⟩;have b:=(vx.mp a).1;refine vK.mpr ⟨i,vO.mpr ⟨v2.mpr b,vG ?_⟩,rfl⟩;rw[vy,a];exact c
theorem j57:(plB L ks).Pairwise (· < ·):=by
 unfold plB;refine pairwise_map.mpr ?_;refine(List.Pairwise.filter _ (List.pairwise_lt_range (n:=L.length))).imp fun {a b} h=>?_
 lia
def InL(L:List Str)(Ms:List (List Str)):Prop:=∀ks∈Ms,ks.Nodup/\∀s∈ks,s∈L
theorem InL.at'(I:InL L Ms)(j:Nat):∀s∈Ms.getD j [],s∈L:=fun s a=>by
 rw[vy]at a;cases e:Ms[j]? with
 | none=>rw[e]at a;cases a
 | some ks=>rw[e]at a;exact(I ks (vm e)).2 s a
theorem j2F{a b:List Str}(d:a.Nodup)(h:∀x∈a,x∈b):a.length<=b.length:=by
 induction a generalizing b with
 | nil=>exact va _
 | cons x r ih=>
  rw[ur]at d;have f:=h x vq;have:=ih (b:=b.erase x) d.2 fun y g=>by
   have c:y≠x:=fun e=>d.1 (e▸g)
   exact(List.mem_erase_of_ne c).mpr (h y (vp _ g))
  rw[List.length_erase_of_mem f]at this;have:0<b.length:=length_pos_of_mem f;rw[vP];lia
theorem InL.len{L:List Str}{Ms:List (List Str)}(I:InL L Ms){ks:List Str}(h:ks∈Ms):ks.length<=L.length:=j2F (I ks h).1 (I ks h).2
theorem YI{L:List Str}{Ms:List (List Str)}(j:Nat):(Ms.map (plB L)).getD j []=plB L (Ms.getD j []):=by
 rw[vy,vy,vv];cases Ms[j]? with
 | none=>
  show[]=plB L [];refine(List.eq_nil_iff_forall_not_mem.mpr fun k a=>?_).symm;obtain⟨_,_,_,h,_⟩:=Zs.mp a;cases h
 | some x=>rfl
theorem j58(h:∀s∈ks,s∈L)(n:ks≠[]):plB L ks≠[]:=fun z=>by
 obtain⟨s,a⟩:=List.exists_mem_of_ne_nil ks n;obtain⟨i,b⟩:=List.mem_iff_getElem?.mp (h s a);have:=Zs.mpr ⟨i,s,b,a,rfl⟩;rw[z]at this;cases this
def ApartS(Ms:List (List Str))(is:List Nat):Prop:=(∀j∈is,Ms.getD j []≠[])/\is.Pairwise fun a b=>∀s∈Ms.getD a [],¬s∈Ms.getD b []
theorem ApartS.n(I:InL L Ms)(h:ApartS Ms is):ApartN (Ms.map (plB L)) is:=by
 refine⟨fun j p=>?_,h.2.imp fun {a b} d k g c=>?_⟩
 ·rw[YI];exact j58 (I.at' j) (h.1 j p)
 ·rw[YI]at g c;obtain⟨i,s,m,n,rfl⟩:=Zs.mp g;obtain⟨q,r,f,o,e⟩:=Zs.mp c;have l:i=q:=by lia
  subst l;rw[m]at f;cases f;exact d s n o
theorem MovS.n(h:MovS Ms f ks):MovN L (Ms.map (plB L)) f (plB L ks):=by
 refine⟨j57,fun k=>?_⟩;rw[Zs];constructor
 ·rintro⟨i,s,a,b,rfl⟩;rcases(h.2 s).mp b with⟨j,c,g⟩ | ⟨v,n,e⟩
  ·exact .inl ⟨j,c,by rw[YI];exact Zs.mpr ⟨i,s,a,g,rfl⟩⟩
  ·exact .inr ⟨s,v,n,i,e,a,rfl⟩
 ·rintro(⟨j,c,d⟩ | ⟨x,v,n,i,e,a,rfl⟩)
  ·rw[YI]at d;obtain⟨i,s,a,b,rfl⟩:=Zs.mp d;exact⟨i,s,a,(h.2 s).mpr (.inl ⟨j,c,b⟩),rfl⟩
  ·exact⟨i,x,a,(h.2 x).mpr (.inr ⟨v,n,e⟩),rfl⟩
theorem MovS.inL{L:List Str}{Ms:List (List Str)}{f:Fn}{ks:List Str}{M:List (List Int)}{n:Nat}(I:InL L Ms)(p:PreN L M n f)(h:MovS Ms f ks):ks.Nodup/\∀s∈ks,s∈L:=by
 refine⟨h.1,fun s c=>?_⟩;rcases(h.2 s).mp c with⟨j,_,b⟩ | ⟨v,n,e⟩
 ·exact I.at' j s b
 ·subst e;obtain⟨⟨i,a⟩,_⟩:=p;exact vm a
theorem DOk.addN{L:List Str}{fs:List Fn}{M:List (List Int)}{gs:List Int}{f:Fn}{ks:List Int}{g:Int}(D:DOk L fs M gs)(q:PreN L M fs.length f)(t:MovN L M f ks)(u:LenN gs f g)(v:1<=g/\g<=10^60):DOk L (fs++[f]) (M++[ks]) (gs++[g]):=by
 have r:=D.ml;have n:=D.gl;refine⟨by simp[r],by simp[n],fun i p d=>?_,fun i k=>?_⟩
 ·by_cases k:i<fs.length
  ·rw[vB k]at d;obtain⟨a,b,c⟩:=D.f i p d;have l:=a.js.2;rw[Qo (by lia),Qo (by lia)];exact⟨a.ext (by lia),b.ext fun j h=>by have:=l j h;lia,c.ext fun j h=>by have:=l j h;lia⟩
  ·rw[vC (by lia)]at d;have o:i=fs.length:=by
    have:=(vx.mp d).1;simp at this;lia
   subst o;rw[uu]at d;have e:p=f:=(vL d).symm;subst e;have l:=q.js.2;have s:(M++[ks]).getD fs.length []=ks:=by rw[<-r];exact zh
   have m:(gs++[g]).getD fs.length 0=g:=by rw[<-n];exact zh
   rw[s,m];exact⟨q.ext (by lia),t.ext fun j h=>by have:=l j h;lia,u.ext fun j h=>by have:=l j h;lia⟩
 ·rw[vn]at k;have k:i<fs.length+1:=k;by_cases c:i<fs.length
  ·rw[Qo (by lia)];exact D.g i c
  ·have e:i=fs.length:=by lia
   subst e;have m:(gs++[g]).getD fs.length 0=g:=by rw[<-n];exact zh
   rw[m];exact v
theorem j45(p:PreN L M n f)(l:LenN gs f g)(b:∀j,j<n->1<=gs.getD j 0):1<=g:=by
 cases f with
 | hold m=>obtain⟨c,o⟩:=p;have e:g=m:=l;lia
 | ring x m=>obtain⟨c,o,_⟩:=p;have e:g=m:=l;lia
 | rise x v m=>obtain⟨_,_,_,c,o⟩:=p;have e:g=m:=l;lia
 | row is=>
  obtain⟨c,o,d⟩:=p;have e:g=(is.map fun j=>gs.getD j 0).sum:=l;have q:∀a:List Nat,(∀j∈a,j<n)->0<=(a.map fun j=>gs.getD j 0).sum:=fun a=>by
   induction a with
   | nil=>exact fun _=>vA _
   | cons j a ih=>
    intro h;rw[v7,v8];have:=b j (h j vq);have:=ih fun i r=>h i (vp _ r)
    lia
  cases is with
  | nil=>exact uh rfl c
  | cons j a=>
   rw[e,v7,v8];have u:=b j (d j vq);have:=q a fun i r=>d i (vp _ r)
   lia
 | side is=>
  obtain⟨_,_,d,_⟩:=p;obtain⟨⟨j,t,e⟩,_⟩:=l;have:=b j (d j t);lia
 | again k j=>
  obtain⟨c,o,d⟩:=p;have e:g=k*gs.getD j 0:=l;have s:=b j d;have:=Int.mul_le_mul c s (by decide) (by lia);lia
theorem LenN.uniq(h:LenN gs f g)(h':LenN gs f g'):g=g':=by
 cases f with
 | side is=>
  obtain⟨⟨j,b,e⟩,m⟩:=h;obtain⟨⟨c,a,i⟩,d⟩:=h';have:=m c a;have:=d j b;lia
 | hold n=>exact Eq.trans h (Eq.symm h')
 | ring x n=>exact Eq.trans h (Eq.symm h')
 | rise x v n=>exact Eq.trans h (Eq.symm h')
 | row is=>exact Eq.trans h (Eq.symm h')
 | again k j=>exact Eq.trans h (Eq.symm h')
theorem eqvB(xs:List Str):PyData.eqv (.list (xs.map PyData.str)) (.list [])=decide (xs=[]):=by
 cases xs<;>simp[PyData.eqv,PyData.eqvAll]
theorem shpB{xs:List Str}(h:∀x∈xs,Ws.isW x=true):SeqAt.shaped (.list (xs.map PyData.str))=true:=(Shp.lst (n:=0) (wm h)).ok (by decide)
theorem inB(n:Str)(a:List Str):(if false=true then !inV (.str n) (a.map V.str)else inV (.str n) (a.map V.str))=decide (n∈a):=by rw[vc (by decide),WX]
theorem zx{nm:List Str}{j:Nat}(h:j<nm.length):atI (nm.map V.str) ((j:Nat):Int)=some (.str (nm.getD j ⟨#[]⟩)):=by
 refine L2.jO ?_;rw[vv,vy,vz h];rfl
structure NmB(nl ml:Addr)(mas:List Addr)(L nm:List Str)(Ms:List (List Str))(H:Hp):Prop where
 en:H nl=some (.lst (nm.map V.str))
 em:H ml=some (.lst (mas.map V.ref))
 am:StrsAt H mas Ms
 il:InL L Ms
 ml:Ms.length=nm.length
 n20:nm.length<=20
 l8:L.length<=8
 w:∀x∈nm,Ws.isW x=true
 lw:∀x∈L,Ws.isW x=true
theorem NmB.same{d c:Addr}{b:List Addr}{L nm:List Str}{Ms:List (List Str)}{H H':Hp}(N:NmB d c b L nm Ms H)(s:Same H H'):NmB d c b L nm Ms H':=
 ⟨s _ _ N.en,s _ _ N.em,N.am.mono fun a x h=>s _ _ h,N.il,N.ml,N.n20,N.l8,N.w,N.lw⟩
theorem NmB.mv{i h:Addr}{a:List Addr}{L nm:List Str}{Ms:List (List Str)}{H:Hp}(N:NmB i h a L nm Ms H){j:Nat}(f:j<nm.length):∃b,a[j]?=some b/\H b=some (.lst ((Ms.getD j []).map V.str))/\(Ms.getD j []).length<=8/\∀x∈Ms.getD j [],Ws.isW x=true:=by
 have e:Ms[j]?=some (Ms.getD j []):=by rw[vy,vz (by rw[N.ml];exact f)];rfl
 obtain⟨b,c,d⟩:=N.am.get e;have:=N.il.len (vm e);have:=N.l8;exact⟨b,c,d,by lia,fun x g=>N.lw x (N.il.at' j x g)⟩
def BdB(H:Hp)(bd:Addr)(b0 b1 b2 b3 b4:Int):Prop:=H bd=some (.lst [.int b0,.int b1,.int b2,.int b3,.int b4])/\1<=b0/\b0<=10^18/\1<=b1/\b1<=10^18/\1<=b2/\b2<=10^18+1/\1<=b3/\b3<=10^18/\1<=b4/\b4<=10^60
structure LmB(pl:Addr)(las:List Addr)(ls:List (Str×Int))(H:Hp):Prop where
 el:H pl=some (.lst (las.map V.ref))
 la:All2 (LimbAt H) las ls
 l1:1<=ls.length
theorem LmB.same{H H':Hp}(N:LmB pl las ls H)(s:Same H H'):LmB pl las ls H':=⟨s _ _ N.el,N.la.mono fun a x h=>s _ _ h,N.l1⟩
theorem j3e{H:Hp}(h:Q (.int (10^12)) H):rI CPow (fun i j=>.int (i^j.toNat)) (.int 10) (.int 12) H Q:=⟨10,12,rfl,rfl,⟨by decide,by decide,by decide⟩,h⟩
noncomputable def atB(n:Int)(len t:Nat):Nat:=(((len:Int)-1-(t:Int)*(1+n%3))%(len:Int)).toNat
noncomputable def nmS(n:Int)(len:Nat)(Ms:List (List Str))(ro:Bool):Nat->List Nat×List Str
 | 0=>([],[])
 | t+1=>if ro=true then(if(t:Int)<1+n/3%5 then((nmS n len Ms ro t).1++[atB n len t],(nmS n len Ms ro t).2)else nmS n len Ms ro t)
  else if Ms.getD (atB n len t) []≠[]/\((Ms.getD (atB n len t) []).filter fun s=>decide (s∈(nmS n len Ms ro t).2))=[]/\(nmS n len Ms ro t).1.length<4 then((nmS n len Ms ro t).1++[atB n len t],(nmS n len Ms ro t).2++Ms.getD (atB n len t) [])else nmS n len Ms ro t
section
variable{n:Int}{len:Nat}{Ms:List (List Str)}{ro:Bool}
theorem XV(h:1<=len):atB n len t<len:=by
 unfold atB;have a:=ve ((len:Int)-1-(t:Int)*(1+n%3)) (show(len:Int)≠0 by lia);have b:=vf ((len:Int)-1-(t:Int)*(1+n%3)) (show(0:Int)<(len:Int) by lia);lia
theorem j2S(t:Nat):nmS n len Ms ro (t+1)=if ro=true then(if(t:Int)<1+n/3%5 then((nmS n len Ms ro t).1++[atB n len t],(nmS n len Ms ro t).2)else nmS n len Ms ro t)
  else if Ms.getD (atB n len t) []≠[]/\((Ms.getD (atB n len t) []).filter fun s=>decide (s∈(nmS n len Ms ro t).2))=[]/\(nmS n len Ms ro t).1.length<4 then((nmS n len Ms ro t).1++[atB n len t],(nmS n len Ms ro t).2++Ms.getD (atB n len t) [])else nmS n len Ms ro t:=rfl
theorem j07(h:1<=len):∀(t:Nat) (j:Nat),j∈(nmS n len Ms ro t).1->j<len
 | 0,j,hj=>nomatch hj
 | t+1,j,hj=>by
  have a:=j07 h t j;unfold nmS at hj;split at hj
  ·split at hj
   ·rcases vh.mp hj with z | z
    ·exact a z
    ·rw[vo.mp z];exact XV h
   ·exact a hj
  ·split at hj
   ·rcases vh.mp hj with z | z
    ·exact a z
    ·rw[vo.mp z];exact XV h
   ·exact a hj
theorem j2T(b:∀j,(Ms.getD j []).length<=8):∀t:Nat,(nmS n len Ms ro t).2.length<=8*(nmS n len Ms ro t).1.length
 | 0=>vb _
 | t+1=>by
  have a:=j2T b t;have c:=b (atB n len t);unfold nmS;split
  ·split
   ·rw[vn];show(nmS n len Ms ro t).2.length<=8*(_+1);lia
   ·exact a
  ·split
   ·rw[vn,vn];show _<=8*(_+1);lia
   ·exact a
theorem Km:∀t:Nat,(nmS n len Ms ro t).1.length<=t/\(nmS n len Ms ro t).1.length<=5
 | 0=>⟨vb _,va _⟩
 | t+1=>by
  obtain⟨a,b⟩:=Km t;have d:=vf (n/3) (show(0:Int)<5 by decide);unfold nmS;split
  ·split
   ·rename_i c;rw[vn];exact⟨by show _+1<=_;lia,by show _+1<=5;lia⟩
   ·lia
  ·split
   ·rename_i c;rw[vn];have:=c.2.2;exact⟨by show _+1<=_;lia,by show _+1<=5;lia⟩
   ·lia
theorem j2R(a:ro=true):∀t:Nat,0<t->(nmS n len Ms ro t).1≠[]
 | 0,h=>uh h (by lia)
 | t+1,_=>by
  have b:=ve (n/3) (show(5:Int)≠0 by decide);unfold nmS;rw[vd a];split
  ·intro z;have:=congrArg List.length z;rw[vn]at this;simp at this
  ·rename_i c;exact j2R a t (by lia)
theorem j2Q(k:ro=false):∀t:Nat,ApartS Ms (nmS n len Ms ro t).1/\∀s,s∈(nmS n len Ms ro t).2↔∃j∈(nmS n len Ms ro t).1,s∈Ms.getD j []
 | 0=>⟨⟨(fun j h=>nomatch h),.nil⟩,fun s=>⟨(fun h=>nomatch h),fun⟨j,h,_⟩=>nomatch h⟩⟩
 | t+1=>by
  obtain⟨g,i⟩:=j2Q k t;unfold nmS;rw[vc (by rw[k];exact vF)];split
  ·rename_i c;obtain⟨l,m,_⟩:=c;refine⟨⟨fun j e=>?_,List.pairwise_append.mpr ⟨g.2,pairwise_singleton ..,fun a o b p s d f=>?_⟩⟩,fun s=>?_⟩
   ·rcases vh.mp e with z | z
    ·exact g.1 j z
    ·rw[vo.mp z];exact l
   ·rw[vo.mp p]at f;have:s∈(Ms.getD (atB n len t) []).filter fun s=>decide (s∈(nmS n len Ms ro t).2):=vO.mpr ⟨f,vG ((i s).mpr ⟨a,o,d⟩)⟩
    rw[m]at this;cases this
   ·rw[vh,i];constructor
    ·rintro(⟨j,e,d⟩ | d)
     ·exact⟨j,mem_append_left _ e,d⟩
     ·exact⟨_,mem_append_right _ vq,d⟩
    ·rintro⟨j,e,d⟩;rcases vh.mp e with z | z
     ·exact .inl ⟨j,z,d⟩
     ·rw[vo.mp z]at d;exact .inr d
  ·exact⟨g,i⟩
end
inductive sp_namedB(vs:List V)(H:Hp)(Q:VK)(xk:XK):Prop
 | mk (n:Int) (nl ml:Addr) (mas:List Addr) (L nm:List Str) (Ms:List (List Str)) (kd:Str) (_:vs=[.int n,.ref nl,.ref ml,.str kd]) (_:NmB nl ml mas L nm Ms H) (_:1<=nm.length) (_:0<=n) (_:n<=10^40) (_:(kd = "row"\/kd = "side")) (_:∀(b:Addr) (H':Hp),Same H H'->H' b=some (.tup (((nmS n nm.length Ms (decide (kd = "row")) nm.length).1.map fun j=>nm.getD j ⟨#[]⟩).map V.str))->Q (.ref b) H'):sp_namedB vs H Q xk
theorem JO(a:0<=y)(b:y<10^30+57):0<=(tkB x y m).2.2/\(tkB x y m).2.2<10^30+57:=by
 unfold tkB;split
 ·exact⟨a,b⟩
 ·exact YD _ _
def Off(p:Addr)(H0 H:Hp):Prop:=∀c u,H0 c=some u->c≠p/\H c=some u
theorem Off.ex{a H H':Hp}(o:Off p a H)(x:Ex p H H'):Off p a H':=fun c u h=>⟨(o c u h).1,x c u (o c u h).1 (o c u h).2⟩
theorem Off.same{a H:Hp}(o:Off p a H):Same a H:=fun c u h=>(o c u h).2
theorem j1e:∀p,p<3->(decide ((List.range 50).map (wdB p)).Nodup&&((List.range 50).map (wdB p)).all fun x=>Ws.isW x)=true:=by decide +kernel
theorem j1f(d:p<3)(hi:i<50)(c:j<50)(e:wdB p i=wdB p j):i=j:=by
 have h:=j1e p d;rw[Bool.and_eq_true,decide_eq_true_eq]at h;have a:((List.range 50).map (wdB p))[i]?=some (wdB p i):=by rw[vv,List.getElem?_range hi];rfl
 have b:((List.range 50).map (wdB p))[j]?=some (wdB p i):=by rw[vv,List.getElem?_range c,e];rfl
 have f:=Jg h.1 a;have g:=Jg h.1 b;lia
theorem j4A(a:p<3)(hi:i<50):Ws.isW (wdB p i)=true:=by
 have h:=j1e p a;rw[Bool.and_eq_true,all_eq_true]at h;exact h.2 _ (vK.mpr ⟨i,v2.mpr hi,rfl⟩)
noncomputable def lmB(p m:Nat):List Str:=(List.range m).map (wdB p)
theorem j2G(h:j<m):(lmB p m)[j]?=some (wdB p j):=by unfold lmB;rw[vv,List.getElem?_range h];rfl
theorem Xp:lmB p (m+1)=lmB p m++[wdB p m]:=by unfold lmB;rw[range_succ,vj];rfl
theorem j2H(c:p<3)(j:m<=9):(lmB p m).Nodup/\∀x∈lmB p m,Ws.isW x=true:=by
 unfold lmB;refine⟨pairwise_map.mpr (List.nodup_range.imp_of_mem fun {a b} d f n e=>n (j1f c (by have:=v2.mp d;lia) (by have:=v2.mp f;lia) e)),fun x h=>?_⟩
 ·obtain⟨i,g,rfl⟩:=vK.mp h;have:=v2.mp g;exact j4A c (by lia)
noncomputable def ixB(st c m k:Nat):Nat:=if k=c then k%m else st+k
noncomputable def nmB(p st c m:Nat):List Str:=(List.range 17).map fun k=>wdB p (ixB st c m k)
theorem j0W{p st c m:Nat}:(nmB p st c m).length=17:=by unfold nmB;rw[vt,length_range]
theorem j0V{p st c m k:Nat}(h:k<17):(nmB p st c m).getD k ⟨#[]⟩=wdB p (ixB st c m k):=by
 unfold nmB;rw[vy,vv,List.getElem?_range h];rfl
theorem j2P{p st c m:Nat}(f:p<3)(q:1<=m)(r:m<=st)(h:st<=9):(nmB p st c m).Nodup/\∀x∈nmB p st c m,Ws.isW x=true:=by
 have b:∀k,k<17->ixB st c m k<50:=fun k o=>by
  unfold ixB;have:=Nat.mod_lt k (show 0<m by lia);split<;>lia
 unfold nmB;refine⟨pairwise_map.mpr (List.nodup_range.imp_of_mem fun {x y} a d n e=>?_),fun x a=>?_⟩
 ·have a:=v2.mp a;have d:=v2.mp d;have:=j1f f (b x a) (b y d) e;unfold ixB at this;have j:=Nat.mod_lt x (show 0<m by lia);have l:=Nat.mod_lt y (show 0<m by lia);refine n ?_;split at this<;>split at this<;>lia
 ·obtain⟨i,g,rfl⟩:=vK.mp a;exact j4A f (b i (v2.mp g))
theorem xZ{names:List Str}{fs:List Fn}{f:Fn}:drawnPs names (fs++[f])=drawnPs names fs++[(names.getD fs.length ⟨#[]⟩,toldF names f)]:=by
 unfold drawnPs;rw[vn,length_singleton,range_succ,vj];congr 1
 ·refine map_congr_left fun j a=>?_
  rw[Qo (v2.mp a)]
 ·rw[v7,zh];rfl
theorem wv(h:PreN L M n f):toldF (names.take n) f=toldF names f:=by
 have g:∀j,j<n->(names.take n).getD j ⟨#[]⟩=names.getD j ⟨#[]⟩:=fun j a=>by
  rw[vy,vy,ut a]
 have b:=h.js.2;cases f with
 | row is=>exact congrArg Fm.row (map_congr_left fun j a=>g j (b j a))
 | side is=>exact congrArg Fm.side (map_congr_left fun j a=>g j (b j a))
 | again k j=>exact congrArg (Fm.again k) (g j (b j vq))
 | hold n=>rfl
 | ring x n=>rfl
 | rise x v n=>rfl
theorem j2D(h:nm.length=gs.length):knK (nm++[x]) (gs++[g])=knK nm gs++[(Sum.inr x,.int g)]:=by
 unfold knK;rw[List.zip_append h,vj];rfl
theorem j0P(h:nm.length=gs.length)(n:x∉nm):putK (knK nm gs) (Sum.inr x) (.int g)=knK (nm++[x]) (gs++[g]):=by
 rw[j2D h,ya];rw[zj h];intro z;obtain⟨y,a,e⟩:=vK.mp z;exact n (Sum.inr.inj e▸a)
theorem j0O(h:nm.length=gs.length):(knK nm gs).length=nm.length:=by
 unfold knK;rw[vt,length_zip];lia
structure BkB(pl nl ml d pp:Addr)(las pas mas:List Addr)(ls:List (Str×Int))(names:List Str)(fs:List Fn)(Ms:List (List Str))(gs:List Int)(b4:Int)(H:Hp):Prop where
 n:NmB nl ml mas (nmsOf ls) (names.take fs.length) Ms H
 l:LmB pl las ls H
 ed:H d=some (.dK (knK (names.take fs.length) gs))
 ep:H pp=some (.lst (pas.map V.ref))
 pa:All2 (PartAt H) pas (drawnPs names fs)
 dk:DOk (nmsOf ls) fs (Ms.map (plB (nmsOf ls))) gs
 gb:∀j,j<fs.length->gs.getD j 0<=b4
 fl:fs.length<=names.length
theorem BkB.same{fs:List Fn}{H H':Hp}(B:BkB pl nl ml d pp las pas mas ls names fs Ms gs b4 H)(s:Same H H'):BkB pl nl ml d pp las pas mas ls names fs Ms gs b4 H':=
 ⟨B.n.same s,B.l.same s,s _ _ B.ed,s _ _ B.ep,B.pa.mono fun a x h=>PartAt.same s h,B.dk,B.gb,B.fl⟩
structure SpB(pl nl ml pp bd:Addr)(mas:List Addr):Prop where
 ln:pl≠nl
 lm:pl≠ml
 lp:pl≠pp
 nm:nl≠ml
 np:nl≠pp
 mp:ml≠pp
 bn:bd≠nl
 bm:bd≠ml
 bp:bd≠pp
 ma:∀a∈mas,a≠nl/\a≠ml/\a≠pp
theorem SpB.add(S:SpB pl nl ml pp bd mas)(h:l≠nl/\l≠ml/\l≠pp):SpB pl nl ml pp bd (mas++[l]):=
 ⟨S.ln,S.lm,S.lp,S.nm,S.np,S.mp,S.bn,S.bm,S.bp,fun a b=>by
  rcases vh.mp b with z | z
  ·exact S.ma a z
  ·rw[vo.mp z];exact h⟩
theorem BkB.add{pl o n d p M fa l c:Addr}{r i b:List Addr}{ls:List (Str×Int)}{names:List Str}{fs:List Fn}{Ms:List (List Str)}{gs:List Int}{b4 g:Int}{f:Fn}{ks:List Str}{H H':Hp}(B:BkB pl o n d p r i b ls names fs Ms gs b4 H)(S:SpB pl o n p M b)
  (Y:FormAt H fa (toldF names f)) (m:PreN (nmsOf ls) (Ms.map (plB (nmsOf ls))) fs.length f) (K:MovS Ms f ks) (J:LenN gs f g) (R:g<=b4) (L:b4<=10^60) (fn:fs.length<names.length) (a0:fs.length<20) (nw:∀x∈names,Ws.isW x=true)
  (k:∀x u,x≠n->x≠o->x≠p->x≠d->H x=some u->H' x=some u) (t:H' n=some (.lst ((b++[l]).map V.ref))) (Q:H' l=some (.lst (ks.map V.str))) (v:H' o=some (.lst ((names.take (fs.length+1)).map V.str)))
  (w:H' p=some (.lst ((i++[c]).map V.ref))) (O:H' c=some (.tup [.str (names.getD fs.length ⟨#[]⟩),.ref fa])) (P:H' d=some (.dK (knK (names.take (fs.length+1)) (gs++[g])))) :
  BkB pl o n d p r (i++[c]) (b++[l]) ls names (fs++[f]) (Ms++[ks]) (gs++[g]) b4 H':=by
 have N:=B.n;have E:∀c q,H c=some (.tup q)->H' c=some (.tup q):=fun c q h=>k c _ (Jq h N.em fun z=>by cases z) (Jq h N.en fun z=>by cases z) (Jq h B.ep fun z=>by cases z) (Jq h B.ed fun z=>by cases z) h
 have I:∀{c q},c≠n->c≠o->c≠p->H c=some (.lst q)->H' c=some (.lst q):=fun U W X h=>k _ _ U W X (Jq h B.ed fun z=>by cases z) h
 have s:(fs++[f]).length=fs.length+1:=by rw[vn];rfl
 have D:=B.dk;have mi:=K.inL N.il m;have T:=j45 m J fun j A=>(D.g j A).1
 have gl:=D.gl;refine⟨⟨?_,t,?_,?_,?_,?_,N.l8,fun x hx=>nw x (mem_of_mem_take hx),N.lw⟩,⟨I S.lm S.ln S.lp B.l.el,B.l.la.mono fun a x h=>E _ _ h,B.l.l1⟩,?_,w,?_,?_,fun j A=>?_,by lia⟩
 ·rw[s];exact v
 ·refine All2.snoc ?_ Q;exact All2.monoM N.am fun a y ks h=>I (S.ma a y).2.1 (S.ma a y).1 (S.ma a y).2.2 h
 ·intro C Z;rcases vh.mp Z with z | z
  ·exact N.il C z
  ·rw[vo.mp z];exact mi
 ·have:=N.ml;rw[vi]at this|-;rw[vn,s];show _+1=_;lia
 ·rw[vi];lia
 ·rw[s];exact P
 ·rw[xZ];exact All2.snoc (B.pa.mono fun a x h=>PartAt.keep E h) ⟨fa,O,FormAt.keep E Y⟩
 ·rw[vj];exact D.addN m K.n J ⟨T,by lia⟩
 ·rw[s]at A;by_cases z:j<fs.length
  ·rw[Qo (by lia)];exact B.gb j z
  ·have e:j=gs.length:=by lia
   subst e;rw[zh];exact R
theorem BkB.book{fs:List Fn}{H:Hp}(B:BkB pl nl ml d pp las pas mas ls names fs Ms gs b4 H)(a:H b=some (.tup [.ref pl,.ref pp])):BookAt H b pl pp las pas ls (drawnPs names fs):=⟨a,B.l.el,B.l.la,B.ep,B.pa⟩
noncomputable def smB(f:Int->Int):Nat->Int
 | 0=>0
 | n+1=>smB f n+f (n:Int)
theorem qV{f g:Int->Int}:∀{n:Nat},(∀j:Nat,j<n->f j=g j)->smB f n=smB g n
 | 0,_=>rfl
 | n+1,h=>by
  show smB f n+f n=smB g n+g n;rw[qV (n:=n) fun j a=>h j (by lia),h n (by lia)]
theorem wo{f:Int->Int}(a:Nat):∀b:Nat,smB f (a+b)=smB f a+smB (fun j=>f ((a:Int)+j)) b
 | 0=>by show smB f a=smB f a+0;lia
 | b+1=>by
  show smB f (a+b)+f ((a+b:Nat):Int)=smB f a+(smB (fun j=>f ((a:Int)+j)) b+f ((a:Int)+(b:Int)));rw[wo a b,show((a+b:Nat):Int)=(a:Int)+(b:Int) by lia];lia
theorem YT{f:Int->Int}:∀{n:Nat},(∀j:Nat,j<n->f j=c)->smB f n=c*(n:Int)
 | 0,_=>by show(0:Int)=c*((0:Nat):Int);rw[show((0:Nat):Int)=0 from rfl,Int.mul_zero]
 | n+1,h=>by
  show smB f n+f n=c*((n+1:Nat):Int);rw[YT (n:=n) fun j a=>h j (by lia),h n (by lia),show((n+1:Nat):Int)=(n:Int)+1 from rfl,Int.mul_add,Int.mul_one]
theorem j3o{f:Int->Int}(a:1<=g):∀(q:Nat) {r:Nat},r<=g->smB (fun j=>f (j%(g:Int))) (q*g+r)=(q:Int)*smB f g+smB f r
 | 0,r,hr=>by
  rw[Nat.zero_mul,Nat.zero_add,show((0:Nat):Int)=0 from rfl,Int.zero_mul,uz];exact qV fun j b=>by rw[vZ (by lia) (by lia)]
 | q+1,r,hr=>by
  rw[show(q+1)*g+r=g+(q*g+r) by rw[Nat.add_mul,Nat.one_mul];lia,wo];have e:(fun j:Int=>(fun j:Int=>f (j%(g:Int))) ((g:Int)+j))=fun j=>f (j%(g:Int)):=by
   funext j;show f (((g:Int)+j)%(g:Int))=_;rw[Int.add_comm,Int.add_emod_right]
  rw[e,j3o a q hr,qV (n:=g) (g:=f) fun j b=>by show f ((j:Int)%(g:Int))=f j;rw[vZ (by lia) (by lia)],show((q+1:Nat):Int)=(q:Int)+1 from rfl,Int.add_mul,uw];lia
theorem j18{f:Int->Int}(d:1<=g)(e:0<=q)(h:0<=r)(i:r<=g):smB (fun j=>f (j%g)) (q*g+r).toNat=q*smB f g.toNat+smB f r.toNat:=by
 obtain⟨a,rfl⟩:∃a:Nat,g=(a:Int):=⟨g.toNat,by lia⟩
 obtain⟨b,rfl⟩:∃b:Nat,q=(b:Int):=⟨q.toNat,by lia⟩
 obtain⟨c,rfl⟩:∃c:Nat,r=(c:Int):=⟨r.toNat,by lia⟩
 have:=j3o (f:=f) (g:=a) (by lia) b (r:=c) (by lia);rw[show((b:Int)*(a:Int)+(c:Int)).toNat=b*a+c by rw[<-Int.natCast_mul,<-Int.natCast_add];exact Int.toNat_natCast _];exact this
theorem j3n{f:Int->Int}:∀{n:Nat},(∀j:Nat,j<n->0<=f j/\f j<=B)->0<=smB f n/\smB f n<=B*(n:Int)
 | 0,_=>⟨vA _,by rw[show((0:Nat):Int)=0 from rfl,Int.mul_zero];exact vA _⟩
 | n+1,h=>by
  have a:=j3n (n:=n) fun j c=>h j (by lia)
  have b:=h n (by lia);rw[show((n+1:Nat):Int)=(n:Int)+1 from rfl,Int.mul_add,Int.mul_one];show 0<=smB f n+f n/\smB f n+f n<=_;lia
section
variable(T:Nat->Int->Int->Int)(L:List (Option Int))(gs:List Int)(w:Int->Int)
noncomputable def hW:Int->List Pc->Int->Int
 | h,[],_=>h
 | h,q::r,s=>if s<q.2.2 then h else if s<q.2.2+q.2.1*gs.getD q.1 0 then T q.1 h ((s-q.2.2)%gs.getD q.1 0)else hW (lef L q.1) r s
noncomputable def Asc:Int->List Pc->Prop
 | _,[]=>True
 | now,q::r=>now<=q.2.2/\Asc (q.2.2+q.2.1*gs.getD q.1 0) r
noncomputable def whT(p:Nat)(h:Int):Int:=smB (fun j=>w (T p h j)) (gs.getD p 0).toNat
noncomputable def wlp(s:Int):Int->Int->Int->List Pr4->Int×Option (Nat×Int×Int)
 | told,now,h,[]=>(told+w h*(s-now),none)
 | told,now,h,y::r=>match y.2.2.2 with
  | some rest=>(told+(w h*(y.2.1-now)+y.2.2.1*whT T gs w y.1 h),some (y.1,h,rest))
  | none=>wlp s (told+(w h*(y.2.1-now)+y.2.2.1*whT T gs w y.1 h)) (y.2.1+y.2.2.1*gs.getD y.1 0) (lef L y.1) r
noncomputable def resT(x:Int×Option (Nat×Int×Int)):Int:=x.1+match x.2 with
 | some y=>smB (fun j=>w (T y.1 y.2.1 j)) y.2.2.toNat
 | none=>0
end
section
variable{T:Nat->Int->Int->Int}{L:List (Option Int)}{gs:List Int}{w:Int->Int}
theorem KC:∀{r:List Pc} {b:Int},Asc gs b r->(∀q∈r,PcOk gs q)->s<b->prg gs s r=[]
 | [],_,_,_,_=>rfl
 | q::r,b,h,ok,hs=>by
  obtain⟨_,d,_,f,_,_⟩:=ok q vq;have c:0<=q.2.1*gs.getD q.1 0:=vM (by lia) (by lia);unfold prg;rw[filterMap_cons];have e:prg1 gs s q=none:=by
   unfold prg1;rw[vc (by have:=h.1;lia)]
  rw[e];exact KC h.2 (fun x a=>ok x (vp _ a)) (by have:=h.1;lia)
theorem j1d:∀(PC:List Pc) (i a h:Int),(∀q∈PC,PcOk gs q)->Asc gs a PC->0<=a->a<=s->
  resT T w (wlp T L gs w s i a h (prg gs s PC))=i+smB (fun j=>w (hW T L gs h PC (a+j))) (s-a).toNat
 | [],i,a,h,_,_,n0,ns=>by
  show i+w h*(s-a)+0=_;rw[YT (c:=w h) fun j _=>rfl,show(((s-a).toNat:Nat):Int)=s-a by lia];lia
 | q::r,i,a,h,ok,asc,n0,ns=>by
  obtain⟨_,t,_,K,_,E,_⟩:=ok q vq;obtain⟨D,p⟩:=asc;by_cases c:q.2.2<=s
  ·have m:prg gs s (q::r)=(q.1,q.2.2,ov gs s q,if ov gs s q<q.2.1 then some (s-q.2.2-ov gs s q*gs.getD q.1 0)else none)::prg gs s r:=by
    unfold prg;rw[filterMap_cons];have e:prg1 gs s q=some (q.1,q.2.2,ov gs s q,if ov gs s q<q.2.1 then some (s-q.2.2-ov gs s q*gs.getD q.1 0)else none):=by
     unfold prg1;rw[vd c]
    rw[e]
   rw[m];have u:0<=(s-q.2.2)/gs.getD q.1 0:=Int.ediv_nonneg (by lia) (by lia);have H:=Int.mul_ediv_add_emod (s-q.2.2) (gs.getD q.1 0);have B:=ve (s-q.2.2) (show gs.getD q.1 0≠0 by lia);have J:=vf (s-q.2.2) (show 0<gs.getD q.1 0 by lia);have first:smB (fun j=>w (hW T L gs h (q::r) (a+j))) (q.2.2-a).toNat=w h*(q.2.2-a):=by
    rw[YT (c:=w h) fun j k=>by unfold hW;rw[vd (by lia)],show(((q.2.2-a).toNat:Nat):Int)=q.2.2-a by lia]
   unfold wlp;by_cases d:ov gs s q<q.2.1
   ·rw[vd d];have l:ov gs s q=(s-q.2.2)/gs.getD q.1 0:=by
     unfold ov at d|-;split at d
     ·lia
     ·rename_i z;rw[vc z]
    rw[l]at d|-;have M:s<q.2.2+q.2.1*gs.getD q.1 0:=by
     have:((s-q.2.2)/gs.getD q.1 0+1)*gs.getD q.1 0<=q.2.1*gs.getD q.1 0:=vT (by lia) (by lia);rw[Int.add_mul,uw,Int.mul_comm ((s-q.2.2)/gs.getD q.1 0)]at this;lia
    show i+(w h*(q.2.2-a)+(s-q.2.2)/gs.getD q.1 0*whT T gs w q.1 h)+smB (fun j=>w (T q.1 h j)) (s-q.2.2-(s-q.2.2)/gs.getD q.1 0*gs.getD q.1 0).toNat=_;rw[show(s-a).toNat=(q.2.2-a).toNat+(s-q.2.2).toNat by lia,wo,first];rw[qV (n:=(s-q.2.2).toNat) (g:=fun j=>(fun j=>w (T q.1 h j)) (j%gs.getD q.1 0)) fun j k=>by
     show w (hW T L gs h (q::r) (a+((((q.2.2-a).toNat:Nat):Int)+(j:Int))))=w (T q.1 h ((j:Int)%gs.getD q.1 0));unfold hW;rw[vc (by lia),vd (by lia),show a+((((q.2.2-a).toNat:Nat):Int)+(j:Int))-q.2.2=(j:Int) by lia]]
    have y:s-q.2.2=(s-q.2.2)/gs.getD q.1 0*gs.getD q.1 0+(s-q.2.2)%gs.getD q.1 0:=by rw[Int.mul_comm];lia
    have v:s-q.2.2-(s-q.2.2)/gs.getD q.1 0*gs.getD q.1 0=(s-q.2.2)%gs.getD q.1 0:=by lia
    rw[v];have:=j18 (f:=fun j=>w (T q.1 h j)) (g:=gs.getD q.1 0) (q:=(s-q.2.2)/gs.getD q.1 0) (r:=(s-q.2.2)%gs.getD q.1 0) t u B (by lia);rw[<-y]at this;rw[this];unfold whT;lia
   ·rw[vc d];have l:ov gs s q=q.2.1:=by
     unfold ov at d|-;split
     ·rfl
     ·rename_i z;rw[vc z]at d;lia
    have C:q.2.1<=(s-q.2.2)/gs.getD q.1 0:=by
     unfold ov at d;split at d
     ·lia
     ·lia
    have I:q.2.1*gs.getD q.1 0<=s-q.2.2:=(Int.le_ediv_iff_mul_le (by lia)).mp C;have o:0<=q.2.1*gs.getD q.1 0:=vM (by lia) (by lia);rw[l];show resT T w (wlp T L gs w s (i+(w h*(q.2.2-a)+q.2.1*whT T gs w q.1 h)) (q.2.2+q.2.1*gs.getD q.1 0) (lef L q.1) (prg gs s r))=_;rw[j1d r _ _ _ (fun x A=>ok x (vp _ A)) p (by lia) (by lia)];rw[show(s-a).toNat=(q.2.2-a).toNat+((q.2.1*gs.getD q.1 0).toNat+(s-(q.2.2+q.2.1*gs.getD q.1 0)).toNat) by lia,wo,first,wo];rw[qV (n:=(q.2.1*gs.getD q.1 0).toNat) (g:=fun j=>(fun j=>w (T q.1 h j)) (j%gs.getD q.1 0)) fun j k=>by
     show w (hW T L gs h (q::r) (a+((((q.2.2-a).toNat:Nat):Int)+(j:Int))))=w (T q.1 h ((j:Int)%gs.getD q.1 0));unfold hW;rw[vc (by lia),vd (by lia),show a+((((q.2.2-a).toNat:Nat):Int)+(j:Int))-q.2.2=(j:Int) by lia]]
    have:=j18 (f:=fun j=>w (T q.1 h j)) (g:=gs.getD q.1 0) (q:=q.2.1) (r:=0) t (by lia) (vA _) (by lia);rw[Int.add_zero]at this;rw[this];rw[qV (n:=(s-(q.2.2+q.2.1*gs.getD q.1 0)).toNat) (f:=fun j=>w (hW T L gs h (q::r) (a+((((q.2.2-a).toNat:Nat):Int)+((((q.2.1*gs.getD q.1 0).toNat:Nat):Int)+j))))) (g:=fun j=>w (hW T L gs (lef L q.1) r (q.2.2+q.2.1*gs.getD q.1 0+j))) fun j k=>by
     show w (hW T L gs h (q::r) (a+((((q.2.2-a).toNat:Nat):Int)+((((q.2.1*gs.getD q.1 0).toNat:Nat):Int)+(j:Int)))))=_;rw[hW,vc (by lia),vc (by lia),show a+((((q.2.2-a).toNat:Nat):Int)+((((q.2.1*gs.getD q.1 0).toNat:Nat):Int)+(j:Int)))=q.2.2+q.2.1*gs.getD q.1 0+(j:Int) by lia]]
    unfold whT;show _=i+(_+(q.2.1*_+smB (fun j=>w (T q.1 h j)) 0+_));have z:smB (fun j=>w (T q.1 h j)) 0=0:=rfl;rw[z];lia
  ·have o:0<=q.2.1*gs.getD q.1 0:=vM (by lia) (by lia);have m:prg gs s (q::r)=[]:=KC (b:=q.2.2) ⟨vA _,p⟩ ok (by lia);rw[m];show i+w h*(s-a)+0=_;rw[YT (c:=w h) fun j k=>by unfold hW;rw[vd (by lia)],show(((s-a).toNat:Nat):Int)=s-a by lia];lia
theorem WC:∀(PC:List Pc) (a b h:Int),(∀q∈PC,PcOk gs q/\q.2.2+q.2.1*gs.getD q.1 0<=s)->(wlp T L gs w s a b h (prg gs s PC)).2=none
 | [],_,_,_,_=>rfl
 | q::r,a,b,h,ok=>by
  obtain⟨⟨_,j,_,l,_,i,_⟩,k⟩:=ok q vq;have g:0<=q.2.1*gs.getD q.1 0:=vM (by lia) (by lia);have m:q.2.1<=(s-q.2.2)/gs.getD q.1 0:=(Int.le_ediv_iff_mul_le (by lia)).mpr (by lia);have c:ov gs s q=q.2.1:=by
   unfold ov;split
   ·rfl
   ·lia
  have d:prg gs s (q::r)=(q.1,q.2.2,q.2.1,none)::prg gs s r:=by
   unfold prg;rw[filterMap_cons];have e:prg1 gs s q=some (q.1,q.2.2,q.2.1,none):=by
    unfold prg1;rw[vd (by lia),c,vc (by lia)]
   rw[e]
  rw[d];unfold wlp;exact WC r _ _ _ fun x f=>ok x (vp _ f)
end
section
variable{ls:List (Str×Int)}{ps:List (Str×Fm)}{gs:List Int}{L:List (Option Int)}{k:Nat}
structure PcT(ls:List (Str×Int))(ps:List (Str×Fm))(gs:List Int)(L:List (Option Int))(k:Nat)(p:Nat)(PC:List Pc):Prop where
 h:∀(x s:Int),0<=s->hgt ls ps gs L k p x s=hW (hgt ls ps gs L k) L gs x PC s
 a:Asc gs 0 PC
 e:∀q∈PC,q.2.2+q.2.1*gs.getD q.1 0<=gs.getD p 0
theorem j0J(M:Lm ls ps gs L k)(l:ps[p]?=some (y,.side qs))(J:L.getD p none=some v):PcT ls ps gs L k p ((pcB ps gs p).filter (isL L)):=by
 have pl:=(vx.mp l).1;have m:pcB ps gs p=(inP ps (.side qs)).map fun j=>(j,1,0):=by unfold pcB;rw[l];rfl
 have g:∀j∈inP ps (.side qs),j<p:=fun j n=>M.w.inP_lt l n
 have P:(inP ps (.side qs))≠[]:=fun z=>by
  have:=M.ed p _ l;by_cases c:(Fm.side qs).ns=[]
  ·have:=M.lf p _ l c (fun _ _ _ e=>by cases e);rw[J]at this;cases this
  ·have:=this c (v+1);rw[J,z]at this;have:v=v+1:=this;lia
 have C:(Fm.side qs).ns≠[]:=fun z=>P (by unfold inP;rw[z];rfl)
 have R:=M.ed p _ l C;obtain⟨j,n,K⟩:∃j∈inP ps (.side qs),(L.getD j none).isSome=true:=by
  refine Classical.byContradiction fun z=>?_
  have T:∀j∈inP ps (.side qs),L.getD j none=none:=fun j n=>by
   cases e:L.getD j none with
   | none=>rfl
   | some x=>exact uh ⟨j,n,by rw[e];rfl⟩ z
  have:=R (v+1);rw[getD_none _ _ T,J]at this;have:v=v+1:=this;lia
 obtain⟨f,a,b⟩:=List.append_of_mem n;obtain⟨N,O⟩:=M.sd p _ qs l rfl f j a b K;have jp:=g j n;have B:∀i∈f,i<ps.length/\L.getD i none=none:=fun i d=>⟨by have:=g i (by rw[b];exact mem_append_left _ d);lia,N i d⟩
 have o:∀i∈a,i<ps.length/\L.getD i none=none:=fun i d=>⟨by have:=g i (by rw[b];exact mem_append_right _ (vp _ d));lia,O i d⟩
 have D:(pcB ps gs p).filter (isL L)=[(j,1,0)]:=by
  rw[m,b,vj,v7,filter_append,v6,vd (show isL L (j,1,0)=true from K)];rw[kh fun q A=>by obtain⟨i,d,rfl⟩:=vK.mp A;exact N i d,kh fun q A=>by obtain⟨i,d,rfl⟩:=vK.mp A;exact O i d];rfl
 have gj:=M.g j (by lia);have gp:=M.g p pl;have U:gs.getD j 0<=gs.getD p 0:=by
  have W:∃I,LenIs (.side qs) ((inP ps (.side qs)).map fun j=>gs.getD j 0) I:=by
   obtain⟨x,Y,Z⟩:=KL ((inP ps (.side qs)).map fun j=>gs.getD j 0) (fun z=>P (List.map_eq_nil_iff.mp z));exact⟨x,Y,Z⟩
  obtain⟨I,w⟩:=W;have:=M.ln p _ l I w;rw[<-this];exact w.2 _ (vK.mpr ⟨j,n,rfl⟩)
 have H:∀h,(L.getD p none).getD h=(L.getD j none).getD h:=fun h=>by
  rw[R h,show inP ps (Fm.side qs)=f++j::a from b,foldl_append,v5,getD_none f h N,getD_none a _ O]
 have r:∀h t,0<=t->t<gs.getD p 0->hgt ls ps gs L k p h t=hgt ls ps gs L k j h (if gs.getD j 0<=t then gs.getD j 0 else t):=fun h t t0 t1=>by
  rw[Ki M (fun z=>z.elim (fun z=>by lia) fun z=>by rw[m]at z;exact P (List.map_eq_nil_iff.mp z)),m,YS (fun i d=>(M.g i (by have:=g i d;lia)).1) t0,List.foldl_map];have E:(fun(h:Int) (i:Nat)=>hgt ls ps gs L k (if gs.getD i 0<=t then(i,gs.getD i 0)else(i,t)).1 h (if gs.getD i 0<=t then(i,gs.getD i 0)else(i,t)).2)=fun h i=>hgt ls ps gs L k i h (if gs.getD i 0<=t then gs.getD i 0 else t):=by
   funext h i;by_cases c:gs.getD i 0<=t
   ·rw[vd c,vd c]
   ·rw[vc c,vc c]
  rw[E,b,foldl_append,v5,km M f h B,km M a _ o]
 have S:∀h,(L.getD j none).getD h=lef L j:=fun h=>by
  obtain⟨u,X⟩:=Option.isSome_iff_exists.mp K;unfold lef;rw[X];rfl
 rw[D];refine⟨fun x s Q=>?_,⟨vA _,trivial⟩,fun q A=>?_⟩
 ·show _=if s<0 then x else if s<0+1*gs.getD j 0 then hgt ls ps gs L k j x ((s-0)%gs.getD j 0)else lef L j
  rw[vc (by lia)];by_cases c:s<gs.getD j 0
  ·rw[vd (by lia),Int.sub_zero,vZ Q c,r x s Q (by lia),vc (by lia)]
  ·rw[vc (by lia)];rcases Int.lt_or_le s (gs.getD p 0)with z | z
   ·rw[r x s Q z,vd (by lia),zi j x (vA _),S]
   ·rw[zi p x z,H,S]
 ·rw[vo.mp A];show 0+1*gs.getD j 0<=_;lia
theorem Xj(M:Lm ls ps gs L k)(i:ps[p]?=some (y,.again n z))(Q:L.getD p none=some v):PcT ls ps gs L k p ((pcB ps gs p).filter (isL L)):=by
 have Y:=(vx.mp i).1;obtain⟨j,a⟩:∃j,inP ps (.again n z)=[j]:=⟨_,rfl⟩
 have b:pcB ps gs p=(j,1,0)::(if 1<n then[(j,n-1,gs.getD j 0)]else[]):=by
  unfold pcB;rw[i];show pcsI gs (.again n z) (inP ps (.again n z))=_;rw[a];rfl
 have X:j<p:=M.w.inP_lt i (by show j∈inP ps (.again n z);rw[a];exact vq);have N:=M.k1 p y z n i;have P:=M.g j (by lia);have l:gs.getD p 0=n*gs.getD j 0:=by
  have:=M.ln p _ i (n*gs.getD j 0) (by show LenIs (.again n z) ((inP ps (.again n z)).map fun j=>gs.getD j 0) _;rw[a];exact⟨_,rfl,rfl⟩);exact this.symm
 have O:=M.ed p _ i (by show(Fm.again n z).ns≠[];exact cons_ne_nil _ _);have C:L.getD j none=some v:=by
  have I:=O v;have J:=O (v+1);rw[Q,show inP ps (Fm.again n z)=[j]from a]at I J;cases e:L.getD j none with
  | none=>rw[v5,e]at J;have:v=v+1:=J;lia
  | some w=>rw[v5,e]at I;have:v=w:=I;rw[this]
 have r:isL L (j,1,0)=true:=by unfold isL;show(L.getD j none).isSome=true;rw[C];rfl
 have g:isL L (j,n-1,gs.getD j 0)=true:=by unfold isL;show(L.getD j none).isSome=true;rw[C];rfl
 have K:(pcB ps gs p).filter (isL L)=(j,1,0)::(if 1<n then[(j,n-1,gs.getD j 0)]else[]):=by
  rw[b,v6,vd r];split
  ·rw[v6,vd g];rfl
  ·rfl
 have A:pcB ps gs p≠[]:=by rw[b];exact cons_ne_nil _ _
 have f:∀x:Int,hgt ls ps gs L k j x (gs.getD j 0)=v:=fun x=>by rw[zi j x (vA _),C];rfl
 have U:gs.getD j 0<=n*gs.getD j 0:=by
  have:=vT N (show 0<=gs.getD j 0 by lia);lia
 have at0:∀h t,0<=t->t<gs.getD j 0->hgt ls ps gs L k p h t=hgt ls ps gs L k j h t:=fun h t D E=>by
  have W:t/gs.getD j 0=0:=Int.ediv_eq_zero_of_lt D E;rw[Ki M (fun z=>z.elim (fun z=>by rw[l]at z;lia) A),b];rcases Ym (k:=n) P.1 N D (by lia)with⟨_,e⟩ | ⟨c,_⟩ | ⟨c,_⟩
  ·rw[e,vZ D E];rfl
  ·lia
  ·lia
 have H:∀h t,gs.getD j 0<=t->t<n*gs.getD j 0->hgt ls ps gs L k p h t=hgt ls ps gs L k j v (t%gs.getD j 0):=fun h t D E=>by
  have Z:1<=t/gs.getD j 0:=Int.le_ediv_of_mul_le (by lia) (by lia);have q2:t/gs.getD j 0<n:=Int.ediv_lt_of_lt_mul (by lia) E;rw[Ki M (fun z=>z.elim (fun z=>by rw[l]at z;lia) A),b];rcases Ym (k:=n) P.1 N (show 0<=t by lia) (by lia)with⟨c,_⟩ | ⟨_,_,zs,T,e⟩ | ⟨c,_⟩
  ·lia
  ·rw[e];rcases T with rfl | rfl
   ·show hgt ls ps gs L k j (hgt ls ps gs L k j h (gs.getD j 0)) _=_;rw[f]
   ·show hgt ls ps gs L k j (hgt ls ps gs L k j (hgt ls ps gs L k j h (gs.getD j 0)) (gs.getD j 0)) _=_;rw[f]
  ·lia
 have m:∀h s,n*gs.getD j 0<=s->hgt ls ps gs L k p h s=v:=fun h s S=>by
  rw[zi p h (by rw[l];exact S),Q];rfl
 have u:lef L j=v:=by unfold lef;rw[C];rfl
 have R:(n-1)*gs.getD j 0=n*gs.getD j 0-gs.getD j 0:=by rw[Int.sub_mul,uw]
 rw[K];by_cases c:1<n
 ·rw[vd c];refine⟨fun x s B=>?_,⟨vA _,by show 0+1*gs.getD j 0<=gs.getD j 0;lia,trivial⟩,fun q o=>?_⟩
  ·show _=if s<0 then x else if s<0+1*gs.getD j 0 then hgt ls ps gs L k j x ((s-0)%gs.getD j 0)else if s<gs.getD j 0 then lef L j else if s<gs.getD j 0+(n-1)*gs.getD j 0 then hgt ls ps gs L k j (lef L j) ((s-gs.getD j 0)%gs.getD j 0)else lef L j
   rw[vc (by lia)];by_cases d:s<gs.getD j 0
   ·rw[vd (by lia),Int.sub_zero,vZ B d,at0 x s B d]
   ·rw[vc (by lia),vc d,R,u];by_cases e:s<n*gs.getD j 0
    ·rw[vd (by lia),H x s (by lia) e];congr 1;rw[Int.sub_emod_right]
    ·rw[vc (by lia),m x s (by lia)]
  ·rcases mem_cons.mp o with rfl | o
   ·show 0+1*gs.getD j 0<=_;rw[l];lia
   ·rw[vo.mp o];show gs.getD j 0+(n-1)*gs.getD j 0<=_;rw[R,l];lia
 ·have:n=1:=by lia
  subst this;rw[vc c];rw[uw]at l;refine⟨fun x s B=>?_,⟨vA _,trivial⟩,fun q o=>?_⟩
  ·show _=if s<0 then x else if s<0+1*gs.getD j 0 then hgt ls ps gs L k j x ((s-0)%gs.getD j 0)else lef L j
   rw[vc (by lia)];by_cases d:s<gs.getD j 0
   ·rw[vd (by lia),Int.sub_zero,vZ B d,at0 x s B d]
   ·rw[vc (by lia),u,m x s (by lia)]
  ·rw[vo.mp o];show 0+1*gs.getD j 0<=_;lia
theorem j0i(M:Lm ls ps gs L k):∀(is:List Nat) (b:Int),(∀j∈is,j<ps.length)->
  (∀h s,b<=s->RF ls ps gs L k is b h s=hW (hgt ls ps gs L k) L gs h ((rowPc gs is b).filter (isL L)) s)/\Asc gs b ((rowPc gs is b).filter (isL L))/\(∀q∈(rowPc gs is b).filter (isL L),q.2.2+q.2.1*gs.getD q.1 0<=b+(is.map fun j=>gs.getD j 0).sum)/\0<=(is.map fun j=>gs.getD j 0).sum/\
  ∀h s,s<b->hW (hgt ls ps gs L k) L gs h ((rowPc gs is b).filter (isL L)) s=h
 | [],b,_=>⟨fun h s _=>rfl,trivial,(fun q a=>nomatch a),vA _,fun h s _=>rfl⟩
 | j::r,b,hj=>by
  have x:=hj j vq;have g:∀i∈j::r,1<=gs.getD i 0/\gs.getD i 0<=10^60:=fun i l=>M.g i (hj i l)
  have y:=g j vq;obtain⟨n,f,o,z,p⟩:=j0i M r (b+gs.getD j 0) fun i l=>hj i (vp _ l)
  have u:∀h t,b<=t->t<b+gs.getD j 0->RF ls ps gs L k (j::r) b h t=hgt ls ps gs L k j h (t-b):=fun h t w A=>by
   unfold RF;rw[zX g w,vc (by lia)];rfl
  have e:∀h t,b+gs.getD j 0<=t->RF ls ps gs L k (j::r) b h t=RF ls ps gs L k r (b+gs.getD j 0) ((L.getD j none).getD h) t:=fun h t w=>by
   unfold RF;rw[zX g (by lia),vd (by lia),v5];show List.foldl _ (hgt ls ps gs L k j h (gs.getD j 0)) _=_;rw[zi j h (vA _)]
  rw[v7,v8];rw[rowPc,v6];cases eo:L.getD j none with
  | none=>
   rw[vc (by unfold isL;show¬(L.getD j none).isSome=true;rw[eo];exact vF)];refine⟨fun h s d=>?_,?_,fun q a=>by have:=o q a;lia,by lia,fun h s d=>p h s (by lia)⟩
   ·rcases Int.lt_or_le s (b+gs.getD j 0)with c | c
    ·rw[u h s d c,X8 M j x eo,p h s c]
    ·rw[e h s c,eo];exact n h s c
   ·revert f
    cases(rowPc gs r (b+gs.getD j 0)).filter (isL L)with
    | nil=>exact fun _=>trivial
    | cons q r'=>exact fun f=>⟨by have:=f.1;lia,f.2⟩
  | some v=>
   have m:lef L j=v:=by unfold lef;rw[eo];rfl
   rw[vd (by unfold isL;show(L.getD j none).isSome=true;rw[eo];rfl)];refine⟨fun h s d=>?_,⟨vA _,?_⟩,fun q a=>?_,by lia,fun h s d=>?_⟩
   ·show _=if s<b then h else if s<b+1*gs.getD j 0 then hgt ls ps gs L k j h ((s-b)%gs.getD j 0)else hW (hgt ls ps gs L k) L gs (lef L j) _ s
    rw[vc (by lia)];rcases Int.lt_or_le s (b+gs.getD j 0)with c | c
    ·rw[vd (by lia),vZ (by lia) (by lia),u h s d c]
    ·rw[vc (by lia),e h s c,eo,m];exact n v s c
   ·show Asc gs (b+1*gs.getD j 0) _;rw[uw];exact f
   ·rcases mem_cons.mp a with rfl | a
    ·show b+1*gs.getD j 0<=_;lia
    ·have:=o q a;lia
   ·show(if s<b then h else _)=h;rw[vd d]
theorem j2y(M:Lm ls ps gs L k)(l:ps[p]?=some (y,.row qs))(I:L.getD p none=some v):PcT ls ps gs L k p ((pcB ps gs p).filter (isL L)):=by
 have R:=(vx.mp l).1;have g:pcB ps gs p=rowPc gs (inP ps (.row qs)) 0:=by unfold pcB;rw[l];rfl
 have o:∀j∈inP ps (.row qs),j<p:=fun j d=>M.w.inP_lt l d
 have f:(Fm.row qs).ns≠[]:=fun z=>by
  have:=M.lf p _ l z (fun _ _ _ e=>by cases e);rw[I]at this;cases this
 have A:=M.ed p _ l f;have J:gs.getD p 0=((inP ps (.row qs)).map fun j=>gs.getD j 0).sum:=(M.ln p _ l _ rfl).symm;obtain⟨B,C,D,N,O⟩:=j0i M (inP ps (.row qs)) 0 fun j d=>by have:=o j d;lia
 have u:pcB ps gs p≠[]:=by
  rw[g];intro z;cases e:inP ps (.row qs)with
  | nil=>exact f (List.map_eq_nil_iff.mp e)
  | cons a r=>rw[e,rowPc]at z;cases z
 have t:∀(m:List Nat) (b h s:Int),(∀j∈m,j<ps.length)->b+(m.map fun j=>gs.getD j 0).sum<=s->RF ls ps gs L k m b h s=m.foldl (fun h j=>(L.getD j none).getD h) h:=fun m=>by
  induction m with
  | nil=>intro b h s _ _;rfl
  | cons j r ih=>
   intro b h s d H;rw[v7,v8]at H;have w:∀i∈j::r,1<=gs.getD i 0/\gs.getD i 0<=10^60:=fun i n=>M.g i (d i n)
   have P:=w j vq;have Q:=(j0i M r 0 fun i n=>d i (vp _ n)).2.2.2.1;unfold RF;rw[zX w (by lia),vd (by lia),v5,v5];show List.foldl _ (hgt ls ps gs L k j h (gs.getD j 0)) _=_;rw[zi j h (vA _)];exact ih (b+gs.getD j 0) _ s (fun i n=>d i (vp _ n)) (by lia)
 rw[g];refine⟨fun x s K=>?_,C,fun q E=>by rw[J];have:=D q E;lia⟩;rw[<-B x s K];rcases Int.lt_or_le s (gs.getD p 0)with c | c
 ·rw[Ki M (fun z=>z.elim (fun z=>by lia) u),g];rfl
 ·rw[t _ 0 x s (fun j d=>by have:=o j d;lia) (by lia),zi p x c,A x]
theorem j5o(M:Lm ls ps gs L k)(g:p<ps.length)(d:rzB L (fPc ps gs L) p=false):PcT ls ps gs L k p ((fPc ps gs L).getD p []):=by
 rw[kg];unfold rzB at d;rw[kg]at d;have c:(fun q:Pc=>(L.getD q.1 none).isSome)=isL L:=rfl;rw[c]at d|-;have a:=vz g;cases hv:L.getD p none with
 | none=>
  have h:(pcB ps gs p).filter (isL L)=[]:=kh fun q b=>by
   unfold pcB at b;rw[a]at b;exact M.no p _ a hv q.1 (YC b)
  rw[h];exact⟨fun x s _=>X8 M p g hv s x,trivial,fun q b=>nomatch b⟩
 | some v=>
  cases b:ps[p]with
  | mk y f=>
   rw[b]at a;cases f with
   | row qs=>exact j2y M a hv
   | side qs=>exact j0J M a hv
   | again n z=>exact Xj M a hv
   | hold n=>have:=M.lf p _ a rfl (fun _ _ _ e=>by cases e);rw[hv]at this;cases this
   | ring z n=>have:=M.lf p _ a rfl (fun _ _ _ e=>by cases e);rw[hv]at this;cases this
   | rise z u n=>
    rw[hv,j0S (gs:=gs) a (rfl:(Fm.rise z u n).ns=[])]at d;cases d
theorem j5p(M:Lm ls ps gs L k)(t:p<ps.length)(r:rzB L (fPc ps gs L) p=true)(H:0<=s)(I:s<=gs.getD p 0):hgt ls ps gs L k p h s=Rp.ramp h (lef L p) (gs.getD p 0) s:=by
 have D:=r;unfold rzB at r;obtain⟨C,l⟩:=Bool.and_eq_true_iff.mp r;obtain⟨v,b⟩:=Option.isSome_iff_exists.mp C;have l:=List.isEmpty_iff.mp l;rw[kg]at l;have i:(fun q:Pc=>(L.getD q.1 none).isSome)=isL L:=rfl;rw[i]at l;have a:=vz t;have j:lef L p=v:=by unfold lef;rw[b];rfl
 have E:=(M.g p t).1;rcases Int.lt_or_le s (gs.getD p 0)with c | c
 ·cases hq:ps[p]with
  | mk y f=>
   rw[hq]at a;have g:∀P:PcT ls ps gs L k p ((pcB ps gs p).filter (isL L)),hgt ls ps gs L k p (v+1) (gs.getD p 0)=v+1:=fun P=>by
    rw[P.h _ _ (by lia),l];rfl
   have o:¬hgt ls ps gs L k p (v+1) (gs.getD p 0)=v+1:=by
    rw[zi p _ (vA _),b];show¬v=v+1;lia
   cases f with
   | row qs=>exact uh (g (j2y M a b)) o
   | side qs=>exact uh (g (j0J M a b)) o
   | again n z=>exact uh (g (Xj M a b)) o
   | hold n=>have:=M.lf p _ a rfl (fun _ _ _ e=>by cases e);rw[b]at this;cases this
   | ring z n=>have:=M.lf p _ a rfl (fun _ _ _ e=>by cases e);rw[b]at this;cases this
   | rise z u n=>
    obtain⟨x,m⟩:=M.rs p y z u n a;have B:=j0S (gs:=gs) a (rfl:(Fm.rise z u n).ns=[]);have w:ixOf (nmsOf ls) z=k:=by
     by_cases d:ixOf (nmsOf ls) z=k
     ·exact d
     ·rw[vc d,b]at m;cases m
    rw[vd w,b]at m;have A:=vL m;subst A;unfold hgt;rw[JD (.inr B)];show ap1 ls ps gs L k h (p,s)=_;unfold ap1;rw[vc (by show¬gs.getD p 0<=s;lia),a];show(if ixOf (nmsOf ls) z=k then Rp.ramp h v n s else h)=_;rw[vd w,j,x]
 ·have e:s=gs.getD p 0:=by lia
  rw[zi p h c,b,e,j,Rp.ends (by lia)];rfl
end
noncomputable def wA(o:Option Int)(a:Int):Int:=match o with
 | none=>a
 | some x=>if a=x then 1 else 0
theorem j5r(h:0<=a/\a<=10^18):0<=wA o a/\wA o a<=10^18:=by
 unfold wA;split
 ·exact h
 ·split<;>lia
theorem j16:∀m:Nat,Pr.rsum s g b (m:Int)=smB (fun j=>Rp.ramp s g b j) m
 | 0=>by
  unfold Pr.rsum;rw[show((0:Nat):Int)=0 from rfl,Int.mul_zero,Fs.Wi (vA _)];rfl
 | m+1=>by
  have a:=j16 (s:=s) (g:=g) (b:=b) m;unfold Pr.rsum at a|-;rw[show((m+1:Nat):Int)=(m:Int)+1 from rfl,Fs.j1r (by lia),Int.mul_add,Int.mul_one];show _=smB (fun j=>Rp.ramp s g b j) m+Rp.ramp s g b (m:Int);rw[<-a];unfold Rp.ramp;rw[Int.add_zero];lia
theorem xT(a:0<b):∀m:Nat,Rp.count s g b x (m:Int)=smB (fun j=>wA (some x) (Rp.ramp s g b j)) m
 | 0=>Rp.X5
 | m+1=>by
  have c:=xT (s:=s) (g:=g) (x:=x) a m;have d:=Rp.X4 (s:=s) (g:=g) (h:=x) (m:=(m:Int)) a (by lia);rw[show((m+1:Nat):Int)=(m:Int)+1 from rfl];show _=smB (fun j=>wA (some x) (Rp.ramp s g b j)) m+(if Rp.ramp s g b (m:Int)=x then 1 else 0);rw[<-c,<-d];lia
def AskOk(o:Option Int):Prop:=∀x,o=some x->-10^60<=x/\x<=10^60
inductive sp_weighed(vs:List V)(H:Hp)(Q:VK)(xk:XK):Prop
 | mk (o:Option Int) (h g b m:Int) (_:vs=[optV o,.int h,.int g,.int b,.int m]) (_:AskOk o) (_:0<=h) (_:h<=10^18) (_:0<=g) (_:g<=10^18) (_:1<=b) (_:b<=10^18) (_:0<=m) (_:m<=10^18+1) (_:∀H',Same H H'->Q (.int (smB (fun j=>wA o (Rp.ramp h g b j)) m.toNat)) H'):sp_weighed vs H Q xk
inductive sp_stayed(vs:List V)(H:Hp)(Q:VK)(xk:XK):Prop
 | mk (o:Option Int) (h m:Int) (_:vs=[optV o,.int h,.int m]) (_:0<=h) (_:h<=10^18) (_ : -10^100<=m) (_:m<=10^100) (_:Q (.int (wA o h*m)) H):sp_stayed vs H Q xk
section
variable{ls:List (Str×Int)}{ps:List (Str×Fm)}{gs:List Int}{hs:List (List Int)}{E:List (List (Int×Int))}{k:Nat}
theorem apI(N:Sn ls ps gs hs)(j:E.length=ps.length)(l:EndOk ls ps E)(i:x.1<ps.length)(m:0<=x.2)(a:0<=h/\h<=10^18):0<=ap1 ls ps gs (lvE E (k:Nat)) k h x/\ap1 ls ps gs (lvE E (k:Nat)) k h x<=10^18:=by
 unfold ap1;by_cases c:gs.getD x.1 0<=x.2
 ·rw[vd c];cases e:(lvE E (k:Nat)).getD x.1 none with
  | none=>exact a
  | some v=>exact j2o N j l i _ (W3 x.1 e)
 ·rw[vc c];have b:=vz i;cases e:ps[x.1]with
  | mk y f=>
   rw[e]at b;rw[b];cases f with
   | rise z v n=>
    show 0<=(if ixOf (nmsOf ls) z=k then Rp.ramp h v n x.2 else h)/\(if ixOf (nmsOf ls) z=k then Rp.ramp h v n x.2 else h)<=10^18;have r:=N.r18 x.1 y z v n b;have g:=((N.lm (k:=k) j l).rs x.1 y z v n b).1;by_cases d:ixOf (nmsOf ls) z=k
    ·rw[vd d];exact xz a ⟨r.1,r.2.1⟩ r.2.2.1 m (by lia)
    ·rw[vc d];exact a
   | hold n=>exact a
   | ring z n=>exact a
   | row z=>exact a
   | side z=>exact a
   | again z n=>exact a
theorem foI(N:Sn ls ps gs hs)(a:E.length=ps.length)(b:EndOk ls ps E):∀{xs:List (Nat×Int)} {h:Int},(∀x∈xs,x.1<ps.length/\0<=x.2)->0<=h/\h<=10^18->0<=xs.foldl (ap1 ls ps gs (lvE E (k:Nat)) k) h/\xs.foldl (ap1 ls ps gs (lvE E (k:Nat)) k) h<=10^18
 | [],_,_,hb=>hb
 | x::xs,h,hx,hb=>by
  rw[v5];exact foI N a b (fun y c=>hx y (vp _ c)) (apI N a b (hx x vq).1 (hx x vq).2 hb)
end
structure LtO(ls:List (Str×Int))(ps:List (Str×Fm))(gs:List Int)(hs:List (List Int))(E:List (List (Int×Int)))(k:Nat)(x:Str)(f:Int)(B:List Tb):Prop where
 n:Sn ls ps gs hs
 lE:E.length=ps.length
 oE:EndOk ls ps E
 hk:ls[k]?=some (x,f)
 so:StrOk f (lvE E (k:Nat)) gs (fPc ps gs (lvE E (k:Nat)))
 bo:BegOk f (lvE E (k:Nat)) (fPc ps gs (lvE E (k:Nat))) B
noncomputable abbrev hT(ls:List (Str×Int))(ps:List (Str×Fm))(gs:List Int)(E:List (List (Int×Int)))(k:Nat):Nat->Int->Int->Int:=hgt ls ps gs (lvE E (k:Nat)) k
section
variable{ls:List (Str×Int)}{ps:List (Str×Fm)}{gs:List Int}{hs:List (List Int)}{E:List (List (Int×Int))}{k:Nat}{x:Str}{f:Int}{B:List Tb}{o:Option Int}
theorem LtO.len(O:LtO ls ps gs hs E k x f B):(fPc ps gs (lvE E (k:Nat))).length=ps.length:=vt _
theorem LtO.tin(O:LtO ls ps gs hs E k x f B)(a:p<ps.length)(c:0<=h/\h<=10^18)(d:0<=s):0<=hT ls ps gs E k p h s/\hT ls ps gs E k p h s<=10^18:=
 foI O.n O.lE O.oE (fun y b=>⟨K5 O.n.s.w a b,Wv O.n a d b⟩) c
theorem LtO.has(O:LtO ls ps gs hs E k x f B)(a:Has B i h):0<=h/\h<=10^18:=by
 have g:∃q∈B.getD i [],q.1=Sum.inl h:=by
  unfold Has at a;rw[<-Qv,any_eq_true]at a;obtain⟨q,c,d⟩:=a;exact⟨q,c,of_decide_eq_true d⟩
 obtain⟨q,j,e⟩:=g;obtain⟨y,b,l,m,_⟩:=O.bo.key O.so j;rw[e]at b;cases b;exact⟨l,m⟩
theorem LtO.wh(O:LtO ls ps gs hs E k x f B)(a:p<ps.length)(c:0<=h/\h<=10^18):0<=whT (hT ls ps gs E k) gs (wA o) p h/\whT (hT ls ps gs E k) gs (wA o) p h<=10^78:=by
 have b:=j3n (f:=fun j=>wA o (hT ls ps gs E k p h j)) (B:=10^18) (n:=(gs.getD p 0).toNat) fun j _=>j5r (O.tin a c (by lia))
 have g:=O.n.g a;refine⟨b.1,Int.le_trans b.2 ?_⟩;rw[show(((gs.getD p 0).toNat:Nat):Int)=gs.getD p 0 by lia];lia
noncomputable def RunY(L:List (Option Int))(B:List Tb):Int->List Pr4->Prop
 | _,[]=>True
 | h,y::r=>Has B y.1 h/\RunY L B (lef L y.1) r
theorem j17:∀{PC:List Pc} {b h:Int},Asc gs b PC->(∀q∈PC,PcOk gs q)->Run L B h PC->RunY L B h (prg gs s PC)
 | [],_,_,_,_,_=>trivial
 | q::r,b,h,a,ok,run=>by
  by_cases c:q.2.2<=s
  ·have d:prg gs s (q::r)=(q.1,q.2.2,ov gs s q,if ov gs s q<q.2.1 then some (s-q.2.2-ov gs s q*gs.getD q.1 0)else none)::prg gs s r:=by
    unfold prg;rw[filterMap_cons];have e:prg1 gs s q=some (q.1,q.2.2,ov gs s q,if ov gs s q<q.2.1 then some (s-q.2.2-ov gs s q*gs.getD q.1 0)else none):=by
     unfold prg1;rw[vd c]
    rw[e]
   rw[d];exact⟨run.1,j17 a.2 (fun x f=>ok x (vp _ f)) run.2⟩
  ·rw[KC (gs:=gs) (s:=s) (r:=q::r) (b:=q.2.2) ⟨vA _,a.2⟩ ok (by lia)];trivial
theorem j4j(h:y∈prg gs s PC)(j:∀q∈PC,PcOk gs q):∃q∈PC,y.1=q.1/\y.2.1=q.2.2/\0<=y.2.1/\y.2.1<=s/\0<=y.2.2.1/\y.2.2.1<=10^18/\∀r,y.2.2.2=some r->0<=r/\r<gs.getD y.1 0:=by
 unfold prg at h;obtain⟨q,b,e⟩:=mem_filterMap.mp h;obtain⟨_,l,_,o,p,f,_⟩:=j q b;unfold prg1 at e;by_cases c:q.2.2<=s
 ·rw[vd c]at e;have e:=vL e;subst e;have k:0<=(s-q.2.2)/gs.getD q.1 0:=Int.ediv_nonneg (by lia) (by lia);refine⟨q,b,rfl,rfl,f,c,?_,?_,fun r a=>?_⟩
  ·show 0<=ov gs s q;unfold ov;split<;>lia
  ·show ov gs s q<=10^18;unfold ov;split<;>lia
  ·have a:(if ov gs s q<q.2.1 then some (s-q.2.2-ov gs s q*gs.getD q.1 0)else none)=some r:=a;by_cases d:ov gs s q<q.2.1
   ·rw[vd d]at a;have a:=vL a;have i:ov gs s q=(s-q.2.2)/gs.getD q.1 0:=by
     unfold ov at d|-;split at d
     ·lia
     ·rename_i z;rw[vc z]
    rw[i]at a;have g:=Int.mul_ediv_add_emod (s-q.2.2) (gs.getD q.1 0);have m:=ve (s-q.2.2) (show gs.getD q.1 0≠0 by lia);have n:=vf (s-q.2.2) (show 0<gs.getD q.1 0 by lia);rw[Int.mul_comm]at g;show 0<=r/\r<gs.getD q.1 0;lia
   ·rw[vc d]at a;cases a
 ·rw[vc c]at e;cases e
end
structure Tl where
 st:Addr
 t:Ta
 w:Addr
 wa:List Addr
noncomputable def fldL(z:Tl)(last:Int)(o:Option Int):List (Str×V):=putF "wholes" (.ref z.w) (putF "asked" (optV o) (putF "last" (.int last) (putF "strand" (.ref z.st) [])))
section
variable{z:Tl}{last:Int}{o:Option Int}
theorem kj:(fldL z last o).lookup ("wholes" : Str)=some (.ref z.w):=Qn
theorem KM:(fldL z last o).lookup ("asked" : Str)=some (optV o):=(j5 (by decide +kernel)).trans Qn
theorem j3W:(fldL z last o).lookup ("last" : Str)=some (.int last):=(j5 (by decide +kernel)).trans ((j5 (by decide +kernel)).trans Qn)
theorem qo:(fldL z last o).lookup ("strand" : Str)=some (.ref z.st):=(j5 (by decide +kernel)).trans ((j5 (by decide +kernel)).trans ((j5 (by decide +kernel)).trans Qn))
theorem Wd:(fldL z last o).lookup ("within" : Str)=none:=(j5 (by decide +kernel)).trans ((j5 (by decide +kernel)).trans ((j5 (by decide +kernel)).trans (j5 (by decide +kernel))))
theorem j2r:(fldL z last o).lookup ("ahead" : Str)=none:=(j5 (by decide +kernel)).trans ((j5 (by decide +kernel)).trans ((j5 (by decide +kernel)).trans (j5 (by decide +kernel))))
end
def WhAt(H:Hp)(wa:List Addr)(B:List Tb)(W:Nat->Int->Int)(n:Nat):Prop:=wa.length=n/\∀i a,wa[i]?=some a->∃kvs,H a=some (.dK kvs)/\∀h,Has B i h->valV kvs (Sum.inl h)=some (.int (W i h))
theorem WhAt.same{H H':Hp}{W:Nat->Int->Int}(h:WhAt H wa B W n)(s:Same H H'):WhAt H' wa B W n:=⟨h.1,fun i a e=>by
 obtain⟨b,c,d⟩:=h.2 i a e;exact⟨b,s _ _ c,d⟩⟩
structure LtA(C Cs:Addr)(H:Hp)(a:Addr)(z:Tl)(o:Option Int)(ls:List (Str×Int))(ps:List (Str×Fm))(gs:List Int)(E:List (List (Int×Int)))(k:Nat)(f:Int)(B:List Tb)(n:Nat):Prop where
 ob:∃dx,H a=some (.ins C dx (fldL z (gs.getD (ps.length-1) 0) o))
 st:StrAt Cs H z.st z.t f (lvE E (k:Nat)) gs (fPc ps gs (lvE E (k:Nat))) B
 w:H z.w=some (.lst (z.wa.map V.ref))
 wd:WhAt H z.wa B (whT (hT ls ps gs E k) gs (wA o)) n
theorem LtA.same{H H':Hp}(A:LtA C Cs H a z o ls ps gs E k f B n)(s:Same H H'):LtA C Cs H' a z o ls ps gs E k f B n:=
 ⟨A.ob.imp fun b h=>s _ _ h,A.st.same s,s _ _ A.w,A.wd.same s⟩
noncomputable def RstAt(H:Hp)(v:V):Option (Nat×Int×Int)->Prop
 | none=>v = .non
 | some y=>∃c,v = .ref c/\H c=some (.tup [.int (y.1:Nat),.int y.2.1,.int y.2.2])
inductive sp_withinL(C Cs:Addr)(vs:List V)(H:Hp)(Q:VK)(xk:XK):Prop
 | mk (a:Addr) (z:Tl) (o:Option Int) (ls:List (Str×Int)) (ps:List (Str×Fm)) (gs:List Int) (hs:List (List Int)) (E:List (List (Int×Int))) (k:Nat) (x:Str) (f:Int) (B:List Tb) (n i:Nat) (h s:Int) (_:vs=[.ref a,.int (i:Nat),.int h,.int s]) (_:LtA C Cs H a z o ls ps gs E k f B n) (_:LtO ls ps gs hs E k x f B) (_:AskOk o) (_:i<=n) (_:i<ps.length) (_:Has B i h) (_:0<=s) (_:s<=gs.getD i 0+1) (_:∀(r:Addr) (v:V) (told:Int) (y:Option (Nat×Int×Int)) (H':Hp),Same H H'->H' r=some (.tup [.int told,v])->RstAt H' v y->resT (hT ls ps gs E k) (wA o) (told,y)=smB (fun j=>wA o (hT ls ps gs E k i h j)) s.toNat->(∀u,y=some u->u.1<i/\Has B u.1 u.2.1/\0<=u.2.2/\u.2.2<=gs.getD u.1 0)->(s=gs.getD i 0->y=none)->Q (.ref r) H'):sp_withinL C Cs vs H Q xk
inductive sp_initL(C Cs:Addr)(vs:List V)(H:Hp)(Q:VK)(xk:XK):Prop
 | mk (a dx b pl pp:Addr) (las pas:List Addr) (ls:List (Str×Int)) (ps:List (Str×Fm)) (gs:List Int) (hs:List (List Int)) (x:Str) (f:Int) (k:Nat) (o:Option Int) (_:vs=[.ref a,.ref b,.str x,optV o]) (_:H a=some (.ins C dx [])) (_:BookAt H b pl pp las pas ls ps) (_:Sn ls ps gs hs) (_:ls[k]?=some (x,f)) (_:AskOk o) (_:∀(z:Tl) (E:List (List (Int×Int))) (B:List Tb) (H':Hp),(∀c u,c≠a->H c=some u->H' c=some u)->LtO ls ps gs hs E k x f B->LtA C Cs H' a z o ls ps gs E k f B ps.length->Q .non H'):sp_initL C Cs vs H Q xk
inductive sp_aheadL(C Cs:Addr)(vs:List V)(H:Hp)(Q:VK)(xk:XK):Prop
 | mk (a:Addr) (z:Tl) (o:Option Int) (ls:List (Str×Int)) (ps:List (Str×Fm)) (gs:List Int) (hs:List (List Int)) (E:List (List (Int×Int))) (k:Nat) (x:Str) (f:Int) (B:List Tb) (t:Int) (_:vs=[.ref a,.int t]) (_:LtA C Cs H a z o ls ps gs E k f B ps.length) (_:LtO ls ps gs hs E k x f B) (_:AskOk o) (_:0<=t) (_:t<=gs.getD (ps.length-1) 0+1) (_:∀H',Same H H'->Q (.int (smB (fun j=>wA o ((standH ls ps gs E j).getD k 0)) t.toNat)) H'):sp_aheadL C Cs vs H Q xk
theorem StrAt.less{H:Hp}(i:H a=some (.ins C dx []))(A:StrAt Cs H so z f L gs PC B) :
  ∃H0:Hp,(∀H',(∀c u,c≠a->H c=some u->H' c=some u)->Same H0 H')/\(∀{c u},H0 c=some u->c≠a)/\StrAt Cs H0 so z f L gs PC B:=by
 have r:∀{c:Addr} {d:List V},H c=some (.tup d)->(fun c=>if c=a then none else H c) c=some (.tup d):=fun {c d} h=>by
  show(if c=a then none else H c)=_;rw[vc (fun z=>by rw[z,i]at h;cases h)];exact h
 have g:∀{c:Addr} {d:List V},H c=some (.lst d)->(fun c=>if c=a then none else H c) c=some (.lst d):=fun {c d} h=>by
  show(if c=a then none else H c)=_;rw[vc (fun z=>by rw[z,i]at h;cases h)];exact h
 refine⟨fun c=>if c=a then none else H c,fun H' k c u h=>?_,fun {c u} h z=>?_,?_⟩
 ·have h:(if c=a then none else H c)=some u:=h;by_cases e:c=a
  ·rw[vd e]at h;cases h
  ·rw[vc e]at h;exact k c u e h
 ·have h:(if c=a then none else H c)=some u:=h;rw[vd z]at h;cases h
 ·refine⟨?_,g A.hs,g A.hl,g A.hp,All2.mono A.pa fun a e ⟨m,p,j⟩=>⟨m,g p,All2.mono j fun b q h=>r h⟩,g A.hb,All2.mono A.ba fun c k ⟨o,h⟩=>⟨o,by
   show(if c=a then none else H c)=_;rw[vc (fun z=>by rw[z,i]at h;cases h)];exact h⟩⟩
  obtain⟨n,h⟩:=A.ob;refine⟨n,?_⟩;show(if so=a then none else H so)=_;rw[vc (fun e=>?_)]
  ·exact h
  ·rw[e,i]at h;have:=congrArg (fun o:Option HO=>match o with | some (.ins _ _ fs)=>fs.length | _=>0) h;have j:(0:Nat)=(fldT z f).length:=this;have l:=@Xh z f;rw[List.length_eq_zero_iff.mp j.symm]at l;cases l
section
variable(ls:List (Str×Int))(ps:List (Str×Fm))(gs:List Int)(E:List (List (Int×Int)))(k:Nat)(o:Option Int)
noncomputable def tlN(t:Int):Int:=smB (fun j=>wA o ((standH ls ps gs E j).getD k 0)) t.toNat
end
section
variable{ls:List (Str×Int)}{ps:List (Str×Fm)}{gs:List Int}{hs:List (List Int)}{E E':List (List (Int×Int))}{k:Nat}{x:Str}{f:Int}{B:List Tb}{o:Option Int}
end
inductive sp_sumL(vs:List V)(H:Hp)(Q:VK)(xk:XK):Prop
 | mk (b pl pp:Addr) (las pas:List Addr) (ls:List (Str×Int)) (ps:List (Str×Fm)) (gs:List Int) (hs:List (List Int)) (x:Str) (f:Int) (k:Nat) (t:Int) (_:vs=[.ref b,.str x,.int t]) (_:BookAt H b pl pp las pas ls ps) (_:Sn ls ps gs hs) (_:ls[k]?=some (x,f)) (_:0<=t) (_:t<=gs.getD (ps.length-1) 0+1) (_:∀(E:List (List (Int×Int))) (H':Hp),Same H H'->E.length=ps.length->EndOk ls ps E->Q (.int (tlN ls ps gs E k none t)) H'):sp_sumL vs H Q xk
def Agr(S:List Int)(h h':List Int):Prop:=h.length=h'.length/\∀i:Nat,(i:Int)∈S->h[i]?=h'[i]?
def hB(h:List Int):Prop:=∀x∈h,0<=x/\x<=10^18
theorem hB.getD(b:hB h)(i:Nat):0<=h.getD i 0/\h.getD i 0<=10^18:=by
 rw[vy];cases e:h[i]? with
 | none=>exact⟨vA _,(by decide)⟩
 | some x=>exact b x (vm e)
theorem hB.set(b:hB h)(a:0<=v/\v<=10^18):hB (h.set i v):=fun x c=>by
 rcases List.mem_or_eq_of_mem_set c with z | z
 ·exact b x z
 ·rw[z];exact a
theorem hB.setE:∀{es:List (Int×Int)} {h:List Int},hB h->(∀q∈es,0<=q.2/\q.2<=10^18)->hB (setE es h)
 | [],_,b,_=>b
 | q::r,h,b,e=>by
  rw[yA];exact hB.setE (b.set (e q vq)) fun x a=>e x (vp _ a)
section
variable{L:List Str}{fs:List Fn}{M:List (List Int)}{gs:List Int}{names:List Str}{n:Nat}{E:List (List (Int×Int))}
theorem K6(D:DOk L fs M gs)(h:L.Nodup)(g:fs[i]?=some (.rise y v m)):((ixOf L y:Nat):Int)∈M.getD i []/\0<=v/\v<=10^18/\1<=m/\gs.getD i 0=m:=by
 obtain⟨⟨⟨k,a⟩,b,c,d,_⟩,e,f⟩:=D.f i _ g;exact⟨(e.2 _).mpr (.inr ⟨y,v,m,k,rfl,a,by rw[Jg h a]⟩),b,c,d,f⟩
theorem EN.val(D:DOk L fs M gs)(e:EN L fs n E)(s:n<=fs.length):∀{i:Nat},i<n->∀q∈E.getD i [],0<=q.2/\q.2<=10^18:=by
 intro i
 induction i using Nat.strongRecOn with
 | ind i ih=>
  intro k q o;obtain⟨f,b⟩:∃f,fs[i]?=some f:=⟨_,vz (by lia)⟩
  obtain⟨a,_,_⟩:=D.f i f b;rcases((e i f k b).2 q.1 q.2).mp o with⟨p,j,c,g,h,_⟩ | ⟨x,m,d,r⟩
  ·have l:j∈f.js:=by rw[g];simp
   have:=a.js.2 j l;exact ih j this (by lia) _ h
  ·subst d;exact⟨a.2.1,a.2.2.1⟩
theorem XU:(apN L fs gs E h x).length=h.length:=by
 unfold apN;split
 ·exact qj _ _
 ·split
  ·exact length_set ..
  ·rfl
theorem j4E(D:DOk L fs M gs)(a:L.Nodup)(e:EN L fs n E)(b:n<=fs.length){h:List Int}{x:Nat×Int}(c:x.1<n){i:Nat}(hi:¬(i:Int)∈M.getD x.1 []):(apN L fs gs E h x)[i]?=h[i]?:=by
 unfold apN;split
 ·exact Qu (e.pos D a b c) fun v d=>hi (e.mov D a b c _ d)
 ·split
  ·rename_i y v m hf;refine List.getElem?_set_ne fun z=>hi ?_
   rw[<-z];exact(K6 D a hf).1
  ·rfl
theorem j4C(D:DOk L fs M gs)(g:L.Nodup)(e:EN L fs n E)(l:n<=fs.length)(d:x.1<n)(s:∀k∈M.getD x.1 [],k∈S)(a:Agr S h h'):Agr S (apN L fs gs E h x) (apN L fs gs E h' x):=by
 refine⟨by rw[XU,XU];exact a.1,fun i p=>?_⟩;have q:=a.1;unfold apN;split
 ·by_cases c:i<h.length
  case neg=>rw[vS (by rw[qj];lia),vS (by rw[qj];lia)]
  obtain⟨f,j⟩:∃f,fs[x.1]?=some f:=⟨_,vz (by lia)⟩
  by_cases o:∃v,((i:Int),v)∈E.getD x.1 []
  ·obtain⟨v,b⟩:=o;rw[zI (e x.1 f d j).1 (e.pos D g l d) b c,zI (e x.1 f d j).1 (e.pos D g l d) b (by lia)]
  ·rw[Qu (e.pos D g l d) fun v b=>o ⟨v,b⟩,Qu (e.pos D g l d) fun v b=>o ⟨v,b⟩];exact a.2 i p
 ·split
  ·rename_i y v m j;have r:=a.2 (ixOf L y) (s _ (K6 D g j).1);rw[vy,vy,r];by_cases c:ixOf L y=i
   ·subst c;rw[List.getElem?_set,List.getElem?_set,vd rfl,vd rfl,q]
   ·rw[List.getElem?_set_ne c,List.getElem?_set_ne c];exact a.2 i p
  ·exact a.2 i p
theorem j4D(D:DOk L fs M gs)(g:L.Nodup)(e:EN L fs n E)(a:n<=fs.length)(d:x.1<n)(k:0<=x.2)(b:hB h):hB (apN L fs gs E h x):=by
 unfold apN;split
 ·exact b.setE (e.val D a d)
 ·rename_i c;split
  ·rename_i y v m hf;obtain⟨_,i,j,f,l⟩:=K6 D g hf;exact b.set (xz (b.getD _) ⟨i,j⟩ f k (by lia))
  ·exact b
theorem kE(D:DOk L fs M gs)(e:fs.length<=names.length)(r:names.Nodup)(l:L.Nodup)(u:L.length<=8)(g:fs.length<=61):∀{j:Nat} {t:Int} {x:Nat×Int},j<fs.length->x∈reach (drawnPs names fs) gs j t->x.1<=j/\∀k∈M.getD x.1 [],k∈M.getD j []:=by
 have m:nmsOf (L.map fun x=>(x,(0:Int)))=L:=by
  unfold nmsOf;rw[v4];exact map_id _
 have W:WfB (L.map fun x=>(x,(0:Int))) (drawnPs names fs):=DOk.wf (by rw[m];exact D) e r (by rw[m];exact l) (by rw[vt];exact u) g;intro j
 induction j using Nat.strongRecOn with
 | ind j ih=>
  intro t x w d;by_cases c:gs.getD j 0<=t\/pcB (drawnPs names fs) gs j=[]
  ·rw[JD c]at d;rw[vo.mp d];exact⟨vb _,fun k h=>h⟩
  ·rw[qD W c]at d;obtain⟨y,p,d⟩:=mem_flatMap.mp d;obtain⟨f,n⟩:∃f,fs[j]?=some f:=⟨_,vz (by lia)⟩
   have v:=yp W p;obtain⟨q,o,s⟩:=W6 p;rw[zc D e r n]at o;have i:y.1∈f.js:=by rw[s];exact YC o
   obtain⟨a,b⟩:=ih y.1 v (by lia) d;exact⟨by lia,fun k h=>((D.f j f n).2.1.2 k).mpr (.inl ⟨y.1,i,b k h⟩)⟩
theorem reach_pos'(D:DOk L fs M gs)(b:fs.length<=names.length)(i:names.Nodup)(c:L.Nodup)(h:L.length<=8)(a:fs.length<=61)(e:j<fs.length)(k:0<=t)(g:x∈reach (drawnPs names fs) gs j t):0<=x.2:=by
 have d:nmsOf (L.map fun x=>(x,(0:Int)))=L:=by
  unfold nmsOf;rw[v4];exact map_id _
 have N:Sn (L.map fun x=>(x,(0:Int))) (drawnPs names fs) gs M:=DOk.sn (by rw[d];exact D) b i (by rw[d];exact c) (by rw[vt];exact h) a (by lia) fun q f=>by
  obtain⟨x,_,rfl⟩:=vK.mp f;exact⟨(by show(0:Int)<=0;decide),(by show(0:Int)<=10^18;decide)⟩
 exact Wv N (by rw[Jo];exact e) k g
theorem kD:(plN L names fs gs E j t h).length=h.length:=by
 unfold plN;generalize reach (drawnPs names fs) gs j t=xs
 induction xs generalizing h with
 | nil=>rfl
 | cons x r ih=>rw[v5,ih,XU]
theorem Xf(D:DOk L fs M gs)(c:L.Nodup)(e:EN L fs n E)(d:n<=fs.length){i:Nat}:∀{xs:List (Nat×Int)} {h:List Int},(∀x∈xs,x.1<n/\¬(i:Int)∈M.getD x.1 [])->(xs.foldl (apN L fs gs E) h)[i]?=h[i]?
 | [],_,_=>rfl
 | x::r,h,hx=>by
  rw[v5,Xf D c e d fun y f=>hx y (vp _ f)];obtain⟨a,b⟩:=hx x vq;exact j4E D c e d a b
theorem Xc(D:DOk L fs M gs)(b:L.Nodup)(e:EN L fs n E)(c:n<=fs.length):∀{xs:List (Nat×Int)} {h h':List Int},(∀x∈xs,x.1<n/\∀k∈M.getD x.1 [],k∈S)->Agr S h h'->Agr S (xs.foldl (apN L fs gs E) h) (xs.foldl (apN L fs gs E) h')
 | [],_,_,_,a=>a
 | x::r,h,h',hx,a=>by
  rw[v5,v5];obtain⟨p,q⟩:=hx x vq;exact Xc D b e c (fun y d=>hx y (vp _ d)) (j4C D b e c p q a)
theorem Xd(D:DOk L fs M gs)(a:L.Nodup)(e:EN L fs n E)(c:n<=fs.length):∀{xs:List (Nat×Int)} {h:List Int},(∀x∈xs,x.1<n/\0<=x.2)->hB h->hB (xs.foldl (apN L fs gs E) h)
 | [],_,_,b=>b
 | x::r,h,hx,b=>by
  rw[v5];obtain⟨p,q⟩:=hx x vq;exact Xd D a e c (fun y d=>hx y (vp _ d)) (j4D D a e c p q b)
theorem j0f(D:DOk L fs M gs)(f:fs.length<=names.length)(m:names.Nodup)(c:L.Nodup)(l:L.length<=8)(d:fs.length<=61)(e:EN L fs n E)(g:n<=fs.length){j:Nat}{t:Int}{h:List Int}(o:j<n){i:Nat}(hi:¬(i:Int)∈M.getD j []):(plN L names fs gs E j t h)[i]?=h[i]?:=
 Xf D c e g fun x k=>by
  obtain⟨a,b⟩:=kE D f m c l d (by lia) k;exact⟨by lia,fun z=>hi (b _ z)⟩
theorem j59(D:DOk L fs M gs)(f:fs.length<=names.length)(l:names.Nodup)(c:L.Nodup)(k:L.length<=8)(d:fs.length<=61)(e:EN L fs n E)(g:n<=fs.length)(m:j<n)(a:Agr (M.getD j []) h h'):Agr (M.getD j []) (plN L names fs gs E j t h) (plN L names fs gs E j t h'):=
 Xc D c e g (fun x i=>by
  obtain⟨a,b⟩:=kE D f l c k d (by lia) i;exact⟨by lia,b⟩) a
theorem j5a(D:DOk L fs M gs)(f:fs.length<=names.length)(k:names.Nodup)(c:L.Nodup)(i:L.length<=8)(d:fs.length<=61)(e:EN L fs n E)(l:n<=fs.length)(o:j<n)(m:0<=t)(b:hB h):hB (plN L names fs gs E j t h):=
 Xd D c e l (fun x g=>by
  obtain⟨a,_⟩:=kE D f k c i d (by lia) g;exact⟨by lia,reach_pos' D f k c i d (by lia) m g⟩) b
theorem XL(D:DOk L fs M gs)(b:fs.length<=names.length)(l:names.Nodup)(c:L.Nodup)(j:L.length<=8)(a:fs.length<=61)(e:EN L fs n E)(f:n<=fs.length){S:List Int}:∀{xs:List (Nat×Int)} {h:List Int},(∀x∈xs,x.1<n/\∀k∈M.getD x.1 [],¬k∈S)->Agr S (xs.foldl (fun h x=>plN L names fs gs E x.1 x.2 h) h) h
 | [],_,_=>⟨rfl,fun _ _=>rfl⟩
 | x::r,h,hx=>by
  rw[v5];obtain⟨p,q⟩:=hx x vq;have g:=XL D b l c j a e f (S:=S) (xs:=r) (h:=plN L names fs gs E x.1 x.2 h) fun y m=>hx y (vp _ m)
  refine⟨by rw[g.1,kD],fun i d=>?_⟩;rw[g.2 i d];exact j0f D b l c j a e f p fun z=>q _ z d
end
noncomputable def lastS(gs:List Int)(most:Int)(n:Nat):Nat->List Nat×Int
 | 0=>([],0)
 | t+1=>if((lastS gs most n t).1.length:Int)<5/\(lastS gs most n t).2+gs.getD (n-1-t) 0<=most then((lastS gs most n t).1++[n-1-t],(lastS gs most n t).2+gs.getD (n-1-t) 0)else lastS gs most n t
theorem j02(t:Nat):lastS gs most n (t+1)=if((lastS gs most n t).1.length:Int)<5/\(lastS gs most n t).2+gs.getD (n-1-t) 0<=most then((lastS gs most n t).1++[n-1-t],(lastS gs most n t).2+gs.getD (n-1-t) 0)else lastS gs most n t:=rfl
noncomputable def lastF(gs:List Int)(most:Int)(n:Nat):List Nat:=(lastS gs most n n).1
noncomputable def addW(a:List Str)(s:Str):List Str:=if s∈a then a else a++[s]
noncomputable def addS(Ms:List (List Str))(a:List Str)(j:Nat):List Str:=(Ms.getD j []).foldl addW a
noncomputable def movF(Ms:List (List Str)):Fn->List Str
 | .rise x _ _=>[x]
 | f=>f.js.foldl (addS Ms) []
noncomputable def lenF(gs:List Int):Fn->Int
 | .hold n=>n
 | .ring _ n=>n
 | .rise _ _ n=>n
 | .row is=>(is.map fun j=>gs.getD j 0).sum
 | .side is=>(is.map fun j=>gs.getD j 0).foldl (fun a b=>if a<b then b else a) 0
 | .again k j=>k*gs.getD j 0
theorem Xq:∀(l:List Int) (a:Int),(a<=l.foldl (fun a b=>if a<b then b else a) a)/\(∀x∈l,x<=l.foldl (fun a b=>if a<b then b else a) a)/\(l.foldl (fun a b=>if a<b then b else a) a=a\/l.foldl (fun a b=>if a<b then b else a) a∈l)
 | [],a=>⟨vA _,(fun x h=>nomatch h),.inl rfl⟩
 | b::l,a=>by
  obtain⟨f,g,d⟩:=Xq l (if a<b then b else a);rw[v5];refine⟨?_,fun x e=>?_,?_⟩
  ·split at f<;>split<;>lia
  ·rcases mem_cons.mp e with rfl | e
   ·split at f<;>split<;>lia
   ·exact g x e
  ·rcases d with d | d
   ·rw[d];by_cases c:a<b
    ·rw[vd c];exact .inr vq
    ·rw[vc c];exact .inl rfl
   ·exact .inr (vp _ d)
theorem LenN.fn(p:PreN L M n f)(b:∀j,j<n->1<=gs.getD j 0)(h:LenN gs f g):g=lenF gs f:=by
 cases f with
 | side is=>
  obtain⟨⟨j,l,e⟩,m⟩:=h;obtain⟨_,_,s,_⟩:=p;obtain⟨t,r,c⟩:=Xq (is.map fun j=>gs.getD j 0) 0;have a:=r _ (vK.mpr ⟨j,l,rfl⟩);show g=(is.map fun j=>gs.getD j 0).foldl (fun a b=>if a<b then b else a) 0;rcases c with c | c
  ·have:=b j (s j l);rw[c]at a;have q:gs.getD j 0<=0:=a;lia
  ·obtain⟨o,d,i⟩:=vK.mp c;have u:=m o d;have i:gs.getD o 0=_:=i;have q:gs.getD j 0<=_:=a;lia
 | hold n=>exact h
 | ring x n=>exact h
 | rise x v n=>exact h
 | row is=>exact h
 | again k j=>exact h
inductive sp_lastG(vs:List V)(H:Hp)(Q:VK)(xk:XK):Prop
 | mk (nl d:Addr) (nm:List Str) (gs:List Int) (most:Int) (_:vs=[.ref nl,.ref d,.int most]) (_:H nl=some (.lst (nm.map V.str))) (_:H d=some (.dK (knK nm gs))) (_:nm.Nodup) (_:nm.length=gs.length) (_:1<=nm.length) (_:nm.length<=20) (_:(∀j,j<nm.length->1<=gs.getD j 0/\gs.getD j 0<=most)) (_:∀(b:Addr) (H':Hp),Same H H'->H' b=some (.tup (((lastF gs most nm.length).map fun j=>nm.getD j ⟨#[]⟩).map V.str))->lastF gs most nm.length≠[]->(lastF gs most nm.length).length<=5->(∀j∈lastF gs most nm.length,j<nm.length)->Q (.ref b) H'):sp_lastG vs H Q xk
inductive sp_movesG(vs:List V)(H:Hp)(Q:VK)(xk:XK):Prop
 | mk (fa nl ml:Addr) (mas:List Addr) (f:Fn) (nm:List Str) (Ms:List (List Str)) (L:List Str) (M:List (List Int)) (_:vs=[.ref fa,.ref nl,.ref ml]) (_:FormAt H fa (toldF nm f)) (_:H nl=some (.lst (nm.map V.str))) (_:H ml=some (.lst (mas.map V.ref))) (_:StrsAt H mas Ms) (_:nm.Nodup) (_:Ms.length=nm.length) (_:nm.length<=20) (_:PreN L M nm.length f) (_:(∀ks∈Ms,ks.length<=8)) (_:∀(l:Addr) (H':Hp),Same H H'->H l=none->H' l=some (.lst ((movF Ms f).map V.str))->MovS Ms f (movF Ms f)->(movF Ms f).length<=80->Q (.ref l) H'):sp_movesG vs H Q xk
noncomputable def wdF(xs:List Str)(k:Int):Str:=xs.getD k.toNat ⟨#[]⟩
theorem j3E(h:∀x∈xs,Ws.isW x=true)(b:0<=k)(c:k<(xs.length:Int)):atI (xs.map V.str) k=some (.str (wdF xs k))/\Ws.isW (wdF xs k)=true:=by
 obtain⟨j,rfl⟩:∃j:Nat,k=(j:Int):=⟨k.toNat,by lia⟩
 have a:j<xs.length:=by lia
 have e:wdF xs (j:Int)=xs[j]:=by unfold wdF;rw[Int.toNat_natCast,vy,vz a];rfl
 rw[e];exact⟨L2.jO (by rw[vv,vz a];rfl),h _ (getElem_mem a)⟩
theorem at01F(a:1<=b0/\b0<=10^18)(b:1<=b1/\b1<=10^18)(c:0<=i)(d:i<2):atI [V.int b0,V.int b1,V.int b2,V.int b3,V.int b4] i=some (V.int (if i=0 then b0 else b1))/\1<=(if i=0 then b0 else b1)/\(if i=0 then b0 else b1)<=10^18:=by
 have:i=0\/i=1:=by lia
 rcases this with rfl | rfl
 ·exact⟨rfl,a⟩
 ·exact⟨rfl,b⟩
noncomputable def kkF(n:Int)(nm:List Str):Int:=if nm=[]/\4<n%8 then n/16%5 else n%8
noncomputable def beF(n b0 b1:Int):Int:=1+n/10^12%(if n/8%2=0 then b0 else b1)
noncomputable def formF(n:Int)(nm:List Str)(Ms:List (List Str))(ls:List (Str×Int))(b0 b1 b2 b3:Int):Fn:=
 if kkF n nm<3 then .rise (ls.getD (n/100%(ls.length:Int)).toNat (⟨#[]⟩,0)).1 (n/100/10%b2) (beF n b0 b1)
 else if kkF n nm=4 then .ring (wdF (([("ding" : Str),"dong"]:List Str)++nm.take 1++[("din" : Str)]) (n/100%3)) (beF n b0 b1)
 else if kkF n nm=5 then .row (nmS (n/100) nm.length Ms true nm.length).1
 else if kkF n nm=6/\1<(nmS (n/100) nm.length Ms false nm.length).1.length then .side (nmS (n/100) nm.length Ms false nm.length).1
 else if kkF n nm=7 then .again (1+n/10^12%b3) ((nm.length:Int)-1-n/100%(if(nm.length:Int)<3 then(nm.length:Int)else 3)).toNat
 else .hold (beF n b0 b1)
inductive sp_formG(vs:List V)(H:Hp)(Q:VK)(xk:XK):Prop
 | mk (n:Int) (nl ml pl bd:Addr) (mas las:List Addr) (ls:List (Str×Int)) (nm:List Str) (Ms:List (List Str)) (b0 b1 b2 b3 b4:Int) (_:vs=[.int n,.ref nl,.ref ml,.ref pl,.ref bd]) (_:NmB nl ml mas (nmsOf ls) nm Ms H) (_:LmB pl las ls H) (_:BdB H bd b0 b1 b2 b3 b4) (_:0<=n) (_:n<=10^40) (_:∀(a:Addr) (H':Hp),Same H H'->FormAt H' a (toldF nm (formF n nm Ms ls b0 b1 b2 b3))->PreN (nmsOf ls) (Ms.map (plB (nmsOf ls))) nm.length (formF n nm Ms ls b0 b1 b2 b3)->Q (.ref a) H'):sp_formG vs H Q xk
noncomputable def rowT(n:Int):Nat->Int->Int->List Nat×Int×Int
 | 0,x,y=>([],x,y)
 | t+1,x,y=>((rowT n t x y).1++[(tkB (rowT n t x y).2.1 (rowT n t x y).2.2 n).1.toNat],(tkB (rowT n t x y).2.1 (rowT n t x y).2.2 n).2)
noncomputable def sidT(n:Int)(Ms:List (List Str)):Nat->Int->Int->List Nat×List Str×Int×Int
 | 0,x,y=>([],[],x,y)
 | t+1,x,y=>if Ms.getD (tkB (sidT n Ms t x y).2.2.1 (sidT n Ms t x y).2.2.2 n).1.toNat []≠[]/\((Ms.getD (tkB (sidT n Ms t x y).2.2.1 (sidT n Ms t x y).2.2.2 n).1.toNat []).filter fun s=>decide (s∈(sidT n Ms t x y).2.1))=[]then
   ((sidT n Ms t x y).1++[(tkB (sidT n Ms t x y).2.2.1 (sidT n Ms t x y).2.2.2 n).1.toNat],(sidT n Ms t x y).2.1++Ms.getD (tkB (sidT n Ms t x y).2.2.1 (sidT n Ms t x y).2.2.2 n).1.toNat [],(tkB (sidT n Ms t x y).2.2.1 (sidT n Ms t x y).2.2.2 n).2)
  else((sidT n Ms t x y).1,(sidT n Ms t x y).2.1,(tkB (sidT n Ms t x y).2.2.1 (sidT n Ms t x y).2.2.2 n).2)
noncomputable def namF(x y kd:Int)(n:Nat)(Ms:List (List Str))(b0 b3:Int):Fn:=
 if kd=7 then .again (1+(tkB x y b3).1) (tkB (tkB x y b3).2.1 (tkB x y b3).2.2 (n:Int)).1.toNat
 else if kd=5 then .row (rowT (n:Int) (1+(tkB x y 5).1).toNat (tkB x y 5).2.1 (tkB x y 5).2.2).1
 else if(sidT (n:Int) Ms (2+(tkB x y 3).1).toNat (tkB x y 3).2.1 (tkB x y 3).2.2).1.length<2 then .hold (1+(tkB (sidT (n:Int) Ms (2+(tkB x y 3).1).toNat (tkB x y 3).2.1 (tkB x y 3).2.2).2.2.1 (sidT (n:Int) Ms (2+(tkB x y 3).1).toNat (tkB x y 3).2.1 (tkB x y 3).2.2).2.2.2 b0).1)
 else .side (sidT (n:Int) Ms (2+(tkB x y 3).1).toNat (tkB x y 3).2.1 (tkB x y 3).2.2).1
inductive sp_namingG(vs:List V)(H:Hp)(Q:VK)(xk:XK):Prop
 | mk (p nl ml bd:Addr) (x y kd:Int) (H0:Hp) (mas:List Addr) (L nm:List Str) (Ms:List (List Str)) (b0 b1 b2 b3 b4:Int) (_:vs=[.ref p,.int kd,.ref nl,.ref ml,.ref bd]) (_:H p=some (.lst [.int x,.int y])) (_:0<=y) (_:y<10^30+57) (_:Off p H0 H) (_:NmB nl ml mas L nm Ms H0) (_:1<=nm.length) (_:BdB H0 bd b0 b1 b2 b3 b4) (_:∀(a:Addr) (H':Hp),Ex p H H'->FormAt H' a (toldF nm (namF x y kd nm.length Ms b0 b3))->PreN L (Ms.map (plB L)) nm.length (namF x y kd nm.length Ms b0 b3)->Q (.ref a) H'):sp_namingG vs H Q xk
noncomputable def frmT(x y:Int)(nm:List Str)(Ms:List (List Str))(ls:List (Str×Int))(b0 b1 b2 b3:Int):Fn:=
 let T:=tkB x y 8
 let T2:=tkB T.2.1 T.2.2 2
 let T3:=tkB T2.2.1 T2.2.2 (if T2.1=0 then b0 else b1)
 let T4:=tkB T3.2.1 T3.2.2 (ls.length:Int)
 let T5:=tkB T4.2.1 T4.2.2 b2
 let T6:=tkB T3.2.1 T3.2.2 ((([("ding" : Str),"dong","din"]:List Str)++nm.take 1).length:Nat)
 if 4<T.1/\nm≠[]then namF T.2.1 T.2.2 T.1 nm.length Ms b0 b3
 else if T.1<3 then .rise (ls.getD T4.1.toNat (⟨#[]⟩,0)).1 T5.1 (1+T3.1)
 else if T.1=4 then .ring (wdF (([("ding" : Str),"dong","din"]:List Str)++nm.take 1) T6.1) (1+T3.1)
 else .hold (1+T3.1)
inductive sp_formTG(vs:List V)(H:Hp)(Q:VK)(xk:XK):Prop
 | mk (p nl ml pl bd:Addr) (x y:Int) (H0:Hp) (mas las:List Addr) (ls:List (Str×Int)) (nm:List Str) (Ms:List (List Str)) (b0 b1 b2 b3 b4:Int) (_:vs=[.ref p,.ref nl,.ref ml,.ref pl,.ref bd]) (_:H p=some (.lst [.int x,.int y])) (_:0<=y) (_:y<10^30+57) (_:Off p H0 H) (_:NmB nl ml mas (nmsOf ls) nm Ms H0) (_:LmB pl las ls H0) (_:BdB H0 bd b0 b1 b2 b3 b4) (_:∀(a:Addr) (H':Hp),Ex p H H'->FormAt H' a (toldF nm (frmT x y nm Ms ls b0 b1 b2 b3))->PreN (nmsOf ls) (Ms.map (plB (nmsOf ls))) nm.length (frmT x y nm Ms ls b0 b1 b2 b3)->Q (.ref a) H'):sp_formTG vs H Q xk
theorem j47(a:∀b c d,f≠.rise b c d):movF Ms f=f.js.foldl (addS Ms) []:=by
 cases f with
 | rise x h n=>exact uh rfl (a x h n)
 | hold n=>rfl
 | ring x n=>rfl
 | row is=>rfl
 | side is=>rfl
 | again k j=>rfl
theorem j1S:rowT n (t+1) x y=((rowT n t x y).1++[(tkB (rowT n t x y).2.1 (rowT n t x y).2.2 n).1.toNat],(tkB (rowT n t x y).2.1 (rowT n t x y).2.2 n).2):=rfl
theorem j21:sidT n Ms (t+1) x y=if Ms.getD (tkB (sidT n Ms t x y).2.2.1 (sidT n Ms t x y).2.2.2 n).1.toNat []≠[]/\((Ms.getD (tkB (sidT n Ms t x y).2.2.1 (sidT n Ms t x y).2.2.2 n).1.toNat []).filter fun s=>decide (s∈(sidT n Ms t x y).2.1))=[]then
   ((sidT n Ms t x y).1++[(tkB (sidT n Ms t x y).2.2.1 (sidT n Ms t x y).2.2.2 n).1.toNat],(sidT n Ms t x y).2.1++Ms.getD (tkB (sidT n Ms t x y).2.2.1 (sidT n Ms t x y).2.2.2 n).1.toNat [],(tkB (sidT n Ms t x y).2.2.1 (sidT n Ms t x y).2.2.2 n).2)
  else((sidT n Ms t x y).1,(sidT n Ms t x y).2.1,(tkB (sidT n Ms t x y).2.2.1 (sidT n Ms t x y).2.2.2 n).2):=rfl
noncomputable abbrev BS:=List Fn×List (List Str)×List Int
noncomputable def cutF(b4:Int)(gs:List Int)(f:Fn):Fn:=if b4<lenF gs f then .hold 1 else f
noncomputable def putS(S:BS)(f:Fn):BS:=(S.1++[f],S.2.1++[movF S.2.1 f],S.2.2++[lenF S.2.2 f])
noncomputable def lstF(e:Bool)(b4:Int)(gs:List Int)(i:Nat)(f:Fn):Fn:=if e=true then .row (lastF gs b4 i)else f
noncomputable def numN(ns:List Int)(i:Nat):Int:=mixB (mixB (Pr.cell ns (1+(0+(i:Int)))) (1+(0+(i:Int)))) (91+(0+(i:Int)))
noncomputable def stN(ns:List Int)(many:Nat)(hd:Int)(ls:List (Str×Int))(names:List Str)(b0 b1 b2 b3 b4:Int):Nat->BS
 | 0=>([],[],[])
 | i+1=>putS (stN ns many hd ls names b0 b1 b2 b3 b4 i) (cutF b4 (stN ns many hd ls names b0 b1 b2 b3 b4 i).2.2 (lstF (decide (i=many/\hd/12%2=0)) b4 (stN ns many hd ls names b0 b1 b2 b3 b4 i).2.2 i
   (formF (numN ns i) (names.take i) (stN ns many hd ls names b0 b1 b2 b3 b4 i).2.1 ls b0 b1 b2 b3)))
theorem j3q(i:Nat):stN ns many hd ls names b0 b1 b2 b3 b4 (i+1)=putS (stN ns many hd ls names b0 b1 b2 b3 b4 i) (cutF b4 (stN ns many hd ls names b0 b1 b2 b3 b4 i).2.2 (lstF (decide (i=many/\hd/12%2=0)) b4 (stN ns many hd ls names b0 b1 b2 b3 b4 i).2.2 i
   (formF (numN ns i) (names.take i) (stN ns many hd ls names b0 b1 b2 b3 b4 i).2.1 ls b0 b1 b2 b3))):=rfl
noncomputable def ccN(hd:Int)(many:Nat):Nat:=if hd/24%2=0 then(hd/48%((many:Int)+1)).toNat else 100
theorem j3L(a:many<=16)(h:i<=many):i=ccN hd many↔((i:Int)=hd/48%((many:Int)+1)/\hd/24%2=0):=by
 have b:=ve (hd/48) (show((many:Int)+1)≠0 by lia);have d:=vf (hd/48) (show(0:Int)<(many:Int)+1 by lia);unfold ccN;by_cases c:hd/24%2=0
 ·rw[vd c];lia
 ·rw[vc c];lia
noncomputable def hdN(ns:List Int):Int:=mixB (mixB (Pr.cell ns 0) 0) 90
noncomputable def abI(x:Int):Int:=if x<0 then -x else x
noncomputable def celT(ns:List Int)(i:Nat):Int:=abI (Pr.cell ns (1+(0+(i:Int))))
noncomputable def stT(ns:List Int)(many:Nat)(en:Int)(ls:List (Str×Int))(names:List Str)(b0 b1 b2 b3 b4:Int):Nat->BS
 | 0=>([],[],[])
 | i+1=>putS (stT ns many en ls names b0 b1 b2 b3 b4 i) (cutF b4 (stT ns many en ls names b0 b1 b2 b3 b4 i).2.2 (lstF (decide (i=many/\en=1)) b4 (stT ns many en ls names b0 b1 b2 b3 b4 i).2.2 i
   (frmT (if celT ns i<10^18 then 0 else celT ns i) (mixB (celT ns i) (1+(0+(i:Int)))) (names.take i) (stT ns many en ls names b0 b1 b2 b3 b4 i).2.1 ls b0 b1 b2 b3)))
theorem j3r(i:Nat):stT ns many en ls names b0 b1 b2 b3 b4 (i+1)=putS (stT ns many en ls names b0 b1 b2 b3 b4 i) (cutF b4 (stT ns many en ls names b0 b1 b2 b3 b4 i).2.2 (lstF (decide (i=many/\en=1)) b4 (stT ns many en ls names b0 b1 b2 b3 b4 i).2.2 i
   (frmT (if celT ns i<10^18 then 0 else celT ns i) (mixB (celT ns i) (1+(0+(i:Int)))) (names.take i) (stT ns many en ls names b0 b1 b2 b3 b4 i).2.1 ls b0 b1 b2 b3))):=rfl
noncomputable def lsT(p:Nat)(b2:Int):Nat->Int->Int->List (Str×Int)×Int×Int
 | 0,x,y=>([],x,y)
 | k+1,x,y=>((lsT p b2 k x y).1++[(wdB p k,(tkB (lsT p b2 k x y).2.1 (lsT p b2 k x y).2.2 b2).1)],(tkB (lsT p b2 k x y).2.1 (lsT p b2 k x y).2.2 b2).2)
theorem j2I:lsT p b2 (k+1) x y=((lsT p b2 k x y).1++[(wdB p k,(tkB (lsT p b2 k x y).2.1 (lsT p b2 k x y).2.2 b2).1)],(tkB (lsT p b2 k x y).2.1 (lsT p b2 k x y).2.2 b2).2):=rfl
noncomputable def t1T(ns:List Int):Int×Int×Int:=tkB (abI (Pr.cell ns 0)/2) 7 3
noncomputable def t2T(ns:List Int)(lm:Int):Int×Int×Int:=tkB (t1T ns).2.1 (t1T ns).2.2 lm
noncomputable def lT(ns:List Int)(lm b2:Int):List (Str×Int)×Int×Int:=lsT (t1T ns).1.toNat b2 (1+(t2T ns lm).1).toNat (t2T ns lm).2.1 (t2T ns lm).2.2
noncomputable def t3T(ns:List Int)(lm b2:Int)(many:Nat):Int×Int×Int:=tkB (lT ns lm b2).2.1 (lT ns lm b2).2.2 (2*(many:Int)+2)
noncomputable def t4T(ns:List Int)(lm b2:Int)(many:Nat):Int×Int×Int:=tkB (t3T ns lm b2 many).2.1 (t3T ns lm b2 many).2.2 2
def YU(F:List Int->Nat->Int->Int->Int->Int->Int->List (Str×Int)×List Str×List Fn)(K:Frg):Sp:=fun vs H Q _=>∃(a bd:Addr) (ns:List Int) (many:Nat) (b0 b1 b2 b3 b4:Int),vs=[.ref a,.int (many:Nat),.ref bd]/\SqL K H a (ns.map V.int)/\ns.length<=63/\2<=many/\many<=16/\BdB H bd b0 b1 b2 b3 b4/\
 ∀(r b pl pp:Addr) (las pas:List Addr) (names:List Str) (ls:List (Str×Int)) (fs:List Fn) (M:List (List Int)) (gs:List Int) (H':Hp),Same H H'->H' r=some (.tup [.ref b,.int (gs.getD (fs.length-1) 0)])->BookAt H' b pl pp las pas ls (drawnPs names fs)->DOk (nmsOf ls) fs M gs->Sn ls (drawnPs names fs) gs M->
  fs.length=many+1->names.length=17->names.Nodup->(∀x∈names,Ws.isW x=true)->1<=ls.length->ls.length<=8->(nmsOf ls).Nodup->(∀x∈nmsOf ls,Ws.isW x=true)->pl≠pp->(∀j,j<fs.length->gs.getD j 0<=b4)->F ns many b0 b1 b2 b3 b4=(ls,names,fs)->Q (.ref r) H'
end Rm
namespace L2
open PySem PySem.Spec PySem.W PyProof.Rows
noncomputable def swK(p:Str×V):Key×V:=(Sum.inr p.1,p.2)
theorem pairsW:∀{as:List Addr} {kvs:List (Str×V)},as.length=kvs.length->(∀(i:Nat) (a:Addr) (q:Str×V),as[i]?=some a->kvs[i]?=some q->∃t u,RelV q.2 u/\IsTup h a #[.str q.1 t,u])->
  ∃ps:List (Key×Value),KV (kvs.map swK) ps/\ps.length=kvs.length/\∀(j:Nat) (kv:Key×Value),ps[j]?=some kv->∃a key,as[j]?=some a/\IsTup h a #[key,kv.2]/\keyIs kv.1 key=true
 | [],[],_,_=>⟨[],.nil,rfl,fun j kv e=>by simp at e⟩
 | [],_::_,l,_=>by simp at l
 | _::_,[],l,_=>by simp at l
 | a::as,q::kvs,l,f=>by
  obtain⟨ps,o,p,r⟩:=pairsW (as:=as) (kvs:=kvs) (by simpa using l) fun i a q m n=>f (i+1) a q (by simpa using m) (by simpa using n)
  obtain⟨t,u,v,e⟩:=f 0 a q rfl rfl;refine⟨(Sum.inr q.1,u)::ps,.cons ⟨rfl,v⟩ o,by rw[vP,p,vP],fun j kv c=>?_⟩;cases j with
  | zero=>simp at c;subst c;exact⟨a,_,rfl,e,Wl _ _⟩
  | succ j=>obtain⟨b,s,d,g,k⟩:=r j kv (by simpa using c);exact⟨b,s,by simpa using d,g,k⟩
section
variable{X:Cx}
theorem KG(K:X.calm=true):CallR X (.type "dict") (fun xs H Q=>∃(p:Addr) (as:List Addr) (kvs:List (Str×V)),xs=[.ref p]/\H p=some (.lst (as.map V.ref))/\as.length=kvs.length/\
  (∀(i:Nat) (a:Addr) (q:Str×V),as[i]?=some a->kvs[i]?=some q->H a=some (.tup [.str q.1,q.2]))/\∀d,H d=none->Q (.ref d) (upd H d (.dK (mergeK [] (kvs.map swK))))):=by
 intro O s σ H xs us Q I r h;obtain⟨p,as,kvs,rfl,ep,B,ht,q⟩:=h;obtain⟨u,rfl,ru⟩:=vals1 r;cases ru;obtain⟨z,D,n,rv,lv,e⟩:=I.lstM ep;have Z:=zZ rv;subst Z;rw[vt]at z;have L:p<s.heap.objs.size:=vI e;obtain⟨ps,kp,P,pt⟩:=pairsW (h:=s.heap) B fun i a q W Y=>by
  obtain⟨_,D,r',t'⟩:=I.hok a _ (ht i a q W Y);cases r' with
  | cons ra rr=>
   cases rr with
   | cons rb rr=>
    cases rr;obtain⟨t1,rfl⟩:=ra;exact⟨t1,_,rb,t'⟩
 refine callType_codes (Q₁:=fun t g=>t = .ref s.heap.objs.size/\g={s with heap:=s.heap.push {cls:=.type "dict",data:=.dict #[]}}) PySem.F.kt_called_dict (PySem.F.kt_typeCall_dict_1 (.ref p)) PySem.F.entry_dict_init (kt_code_dict_new (.ref p) ⟨rfl,rfl⟩) ?_;rintro t g ⟨rfl,rfl⟩;have c:(s.heap.push {cls:=.type "dict",data:=.dict #[]}).DictOf (mixKind X.prog X.w) s.heap.objs.size []:=Heap.DictOf.new s.heap;have v:∀b o,s.heap.get? b=some o->(s.heap.push {cls:=.type "dict",data:=.dict #[]}).get? b=some o:=fun b o e=>vJ _ e
 generalize s.heap.push {cls:=.type "dict",data:=.dict #[]}=h0 at c v;refine⟨c.typeIs (s:={s with heap:=h0}),PySem.F.args_dict_init_2 _ _,?_⟩;unfold Builtin.«dict.__init__»;refine um ?_;unfold Builtin.Dict.selfAndRest;refine um (wpAny_notOrdered_dict (c.typeIs (s:={s with heap:=h0})) ?_);show wpAny (model X.prog X.w) _ (pure (s.heap.objs.size,[Value.ref p])) _ _ _;refine uk ?_;show wpAny (model X.prog X.w) _ (Builtin.Dict.updateFrom "dict.__init__" s.heap.objs.size (.ref p) [] .none) _ _ _;unfold Builtin.Dict.updateFrom;refine um (wpAny_typeOf (T:="list") ⟨_,v _ _ e,rfl⟩ ?_);rw[vd (by decide)];refine um (noKeys (s:={s with heap:=h0}) (v _ _ e) rfl rfl rfl (I.ok.hd K) fun m tk M=>?_);rw[vd (show(none:Option Value).isNone=true from rfl)];have f:∀b o,s.heap.get? b=some o->m.get? b=some o:=fun b o e=>M b o (v b o e)
 have k:m.DictOf (mixKind X.prog X.w) s.heap.objs.size []:=c.keep M;have w:s.heap.objs.size<m.objs.size:=by obtain⟨_,_,_,hg,_⟩:=k;exact vI hg
 have lp:p<m.objs.size:=vY L w;refine um (wpAny_rule ?_);refine um (wpAny_pyIter_list (l:=p) (items:=(as.map Value.ref).toArray) ⟨_,f _ _ e,rfl,n,rfl⟩ ?_);refine uk ⟨plainId_quiet zd _,?_⟩;refine dul (knd:=mixKind X.prog X.w) (A:=X.A.in1) (d:=s.heap.objs.size) (it:=m.objs.size) (l:=p) (items:=as.map Value.ref) (res:=.none) (I.ok.hd K) (vE w) (vN L) (vN lp) ps 0 [] _
  ⟨_,Heap.get?_push_size _ rfl,rfl,rfl⟩ ⟨_,vJ _ (f _ _ e),rfl,n,rfl⟩ (by rw[vt,B,P,Nat.zero_add]) (fun j kv ej=>?_) (k.push _) (by rw[length_nil,P,<-B,Nat.zero_add];exact z) fun h2 E k2 x=>?_
 ·obtain⟨a,ky,R,⟨o,J,S⟩,U⟩:=pt j kv ej;have N:a<s.heap.objs.size:=vI J;exact⟨a,ky,by rw[Nat.zero_add,vv,R];rfl,⟨o,vJ _ (f _ _ J),S⟩,U,vE N,vE (vY N w)⟩
 ·refine⟨rfl,.ref s.heap.objs.size,upd H s.heap.objs.size (.dK (mergeK [] (kvs.map swK))),I.laid (t':=E) (fun b o y=>k2 b o (vE (vI y)) (vE (vY (vI y) w)) (vJ _ (f _ _ y))) (vb _) ?_,rfl,q _ (I.hok.fresh (vb _))⟩;have hm:=qS (kvs.map swK) [];rw[length_nil,vt]at hm;have C:(s.heap.objs.size==sysModules)=false:=by
   rw[beq_eq_false_iff_ne];exact vN I.big
  exact ke (by lia) C (kp.merge .nil) x
end
section
variable{X:Cx}
theorem KE:CallR X (.type "dict") (fun xs H Q=>∃(p:Addr) (kvs:List (Key×V)),xs=[.ref p]/\(H p=some (.dK kvs)\/∃o,H p=some (.frz o (.dK kvs)))/\∀d,H d=none->Q (.ref d) (upd H d (.dK kvs))):=by
 intro f s w H xs t Q I r h;obtain⟨p,kvs,rfl,j,q⟩:=h;obtain⟨u,rfl,m⟩:=vals1 r;cases m;obtain⟨z,k,v,g,i⟩:=Wa I.hok j;refine kt_call_dict (knd:=mixKind X.prog X.w) k i (by rw[<-g.length];exact z) fun n a l=>?_
 have c:(s.heap.objs.size==sysModules)=false:=by
  rw[beq_eq_false_iff_ne];exact vN I.big
 refine⟨.ref s.heap.objs.size,upd H s.heap.objs.size (.dK kvs),I.laid (t':=s.toks) (fun b o e=>(l.2 b (vE (vI e))).trans (vJ _ e)) (vb _) (ke z c g a),rfl,q _ (I.hok.fresh (vb _))⟩
end
open PySem PySem.Spec PyProof.Rows
section
variable{X:Cx}{tg:Expr}
def iBoth(K:Frg)(tl:TE):TI:=fun σ H R=>tl σ H fun x H1=>∃a,x = .ref a/\((∃xs,SqL K H1 a xs)/\R (Itl K a) H1\/(∃xs,SqT K H1 a xs)/\R (Itt K a) H1)
theorem XE{K:Frg}{b:TE}{c:St}{H:Hp}{R:It->Hp->Prop}(h:b c H fun x H1=>∃a,x = .ref a/\((∃xs,SqL K H1 a xs)/\R (Itl K a) H1\/(∃xs,SqT K H1 a xs)/\R (Itt K a) H1)):iBoth K b c H R:=h
theorem j4i(n:PE X l tl):PI X tg l (iBoth X.K tl):=by
 intro g s y H R I h;refine thn (n g s y H _ I h) fun v c ⟨x,k,d,m,t⟩=>?_
 obtain⟨a,e,⟨⟨w,j⟩,q⟩ | ⟨⟨w,j⟩,q⟩⟩:=t
 ·subst e;cases m;obtain⟨f,u,p,r⟩:=d.list j;refine wpAny_pyIter_list p.isList ?_;refine⟨c.heap.objs.size,[c.heap.objs.size],_,_,k,rfl,d.kept (t':=c.toks) fun b o e=>vJ _ e,Wy a _,⟨_,Heap.get?_push_size _ rfl,rfl,rfl⟩,fun b i=>?_,q⟩;have e:b=c.heap.objs.size:=by simpa using i
  subst e;exact d.fpOk (vb _) (d.hok.fresh (vb _))
 ·subst e;cases m;obtain⟨f,u,p,r⟩:=d.tuple j;refine wpAny_pyIter_tuple (show c.heap.IsTuple a f.toArray from p) ?_;refine⟨c.heap.objs.size,[c.heap.objs.size],_,_,k,rfl,d.kept (t':=c.toks) fun b o e=>vJ _ e,wx a _,⟨_,Heap.get?_push_size _ rfl,rfl,rfl⟩,fun b i=>?_,q⟩;have e:b=c.heap.objs.size:=by simpa using i
  subst e;exact d.fpOk (vb _) (d.hok.fresh (vb _))
end
end L2
namespace Rm
open PySem PySem.Spec PyProof.Rows L2
theorem Wq:∀{kvs:List (Key×V)} {acc:List (Key×V)} {i:Nat} {k:Key} {v:V},(kvs.map (·.1)).Nodup->kvs[i]?=some (k,v)->valV (mergeK acc kvs) k=some v
 | [],_,_,_,_,_,h=>by simp at h
 | q::r,acc,0,k,v,nd,h=>by
  have h:q=(k,v):=vL h;subst h;rw[v7,ur]at nd;have:∀(r:List (Key×V)) (acc:List (Key×V)),k∉r.map (·.1)->valV (mergeK acc r) k=valV acc k:=fun r=>by
   induction r with
   | nil=>intro acc _;rfl
   | cons p r ih=>
    intro acc h;rw[v7,mem_cons,not_or]at h;show valV (mergeK (putK acc p.1 p.2) r) k=_;rw[ih _ h.2,yn,vc h.1]
  show valV (mergeK (putK acc k v) r) k=_;rw[this r _ nd.1,yn,vd rfl]
 | q::r,acc,i+1,k,v,nd,h=>by
  rw[v7,ur]at nd;exact Wq (kvs:=r) (acc:=putK acc q.1 q.2) nd.2 (by simpa using h)
structure DbK(H:Hp)(b pl pp:Addr)(las pas:List Addr)(ls:List (Str×Int))(names:List Str)(fs:List Fn)(M:List (List Int))(gs:List Int):Prop where
 bk:BookAt H b pl pp las pas ls (drawnPs names fs)
 d:DOk (nmsOf ls) fs M gs
 nd:names.Nodup
 fn:fs.length<=names.length
 f20:fs.length<=20
 f1:1<=fs.length
theorem DbK.forms{H:Hp}{fs:List Fn}(B:DbK H b pl pp las pas ls names fs M gs):∃g:Nat->Addr,∀(i:Nat) (f:Fn),fs[i]?=some f->(∀a,pas[i]?=some a->H a=some (.tup [.str (names.getD i ⟨#[]⟩),.ref (g i)]))/\FormAt H (g i) (toldF names f):=by
 have:∀i:Nat,∃d:Addr,∀f:Fn,fs[i]?=some f->(∀a,pas[i]?=some a->H a=some (.tup [.str (names.getD i ⟨#[]⟩),.ref d]))/\FormAt H d (toldF names f):=fun i=>by
  cases e:fs[i]? with
  | none=>exact⟨b,fun f h=>by cases h⟩
  | some f=>
   obtain⟨a,m,d,k,l⟩:=B.bk.pa.get (qg (names:=names) e);refine⟨d,fun o j=>?_⟩;cases j;exact⟨fun n c=>by rw[m]at c;cases c;exact k,l⟩
 exact Classical.axiomOfChoice this
noncomputable def fmK(names:List Str)(g:Nat->Addr)(n:Nat):List (Str×V):=(List.range n).map fun i=>(names.getD i ⟨#[]⟩,.ref (g i))
theorem j2s{g:Nat->Addr}(h:i<n):(fmK names g n)[i]?=some (names.getD i ⟨#[]⟩,.ref (g i)):=by
 unfold fmK;rw[vv,List.getElem?_range h];rfl
theorem j3X{g:Nat->Addr}(c:names.Nodup)(f:n<=names.length)(h:j<n):valV (mergeK [] ((fmK names g n).map swK)) (Sum.inr (names.getD j ⟨#[]⟩))=some (.ref (g j)):=by
 refine Wq (i:=j) ?_ (by rw[vv,j2s h];rfl);rw[v4];unfold fmK;rw[v4];refine pairwise_map.mpr (List.nodup_range.imp_of_mem fun {x y} a b d e=>d ?_);have a:=v2.mp a;have b:=v2.mp b;exact getD_inj c (by lia) (by lia) (Sum.inr.inj e)
theorem j0h:∀{l:List (Int×Int)} {k v a:Int},(l.map (·.1)).Pairwise (· < ·)->(k,v)∈l->(k,a)∈l->v=a
 | [],_,_,_,_,m,_=>nomatch m
 | q::r,k,v,a,p,m,m'=>by
  rw[v7,vU]at p;rcases mem_cons.mp m with e | n<;>rcases mem_cons.mp m' with e' | n'
  ·rw[<-e]at e';cases e';rfl
  ·rw[<-e]at p;exact uh (p.1 _ (vK.mpr ⟨_,n',rfl⟩)) (Int.lt_irrefl _)
  ·rw[<-e']at p;exact uh (p.1 _ (vK.mpr ⟨_,n,rfl⟩)) (Int.lt_irrefl _)
  ·exact j0h p.2 n n'
theorem j1z(r:∀j∈is,((E.getD j []).map (·.1)).Pairwise (· < ·))(a:LastIn E is k v)(b:LastIn E is k v'):v=v':=by
 obtain⟨t,j,n,e,g,q⟩:=a;obtain⟨o,s,i,l,d,h⟩:=b;rw[e]at l;have m:=r j (by rw[e];simp);rcases List.append_eq_append_iff.mp l with⟨f,p,c⟩ | ⟨f,p,c⟩
 ·cases f with
  | nil=>
   rw[nil_append]at c;injection c with e3 e4;subst e3;exact j0h m g d
  | cons x f=>
   rw[cons_append]at c;injection c with e3 e4;exact uh d (q s (by rw[e4];simp) v')
 ·cases f with
  | nil=>
   rw[nil_append]at c;injection c with e3 e4;subst e3;exact j0h m g d
  | cons x f=>
   rw[cons_append]at c;injection c with e3 e4;exact uh g (h j (by rw[e4];simp) v)
section
variable{L:List Str}{fs:List Fn}{M:List (List Int)}{gs:List Int}{names:List Str}{E:List (List (Int×Int))}
open Classical in
theorem EN.ex(D:DOk L fs M gs)(p:L.Nodup):∀n,n<=fs.length->∃E:List (List (Int×Int)),E.length=n/\EN L fs n E
 | 0,_=>⟨[],rfl,fun i f h=>uh h (Nat.not_lt_zero _)⟩
 | n+1,hn=>by
  obtain⟨E,S,e⟩:=EN.ex D p n (by lia);obtain⟨f,Q⟩:∃f,fs[n]?=some f:=⟨_,vz (by lia)⟩
  obtain⟨l,_,_⟩:=D.f n f Q;have C:=l.js.2;have T:∀k v,(LastIn E f.js k v\/∃x m,f = .rise x v m/\k=(ixOf L x:Nat))->0<=k/\k<L.length:=by
   rintro k v (h | ⟨x,m,rfl,rfl⟩)
   ·obtain⟨j,d,s,H⟩:=Kl.mp ⟨v,h⟩;exact D.bnd j (by have:=C j d;lia) k (e.mov D p (by lia) (C j d) (k,s) H)
   ·obtain⟨⟨i,t⟩,_⟩:=l;rw[Jg p t];have:=(vx.mp t).1;lia
  have un:∀k v s,(LastIn E f.js k v\/∃x m,f = .rise x v m/\k=(ixOf L x:Nat))->(LastIn E f.js k s\/∃x m,f = .rise x s m/\k=(ixOf L x:Nat))->v=s:=by
   rintro k v s (h | ⟨x,m,O,rfl⟩) (B | ⟨x',m',o,B⟩)
   ·refine j1z (fun j d=>?_) h B;obtain⟨g,q⟩:∃g,fs[j]?=some g:=⟨_,vz (by have:=C j d;lia)⟩
    exact(e j g (C j d) q).1
   ·rw[o]at h;obtain⟨l,j,w,z,_⟩:=h;simp[Fn.js]at z
   ·rw[O]at B;obtain⟨l,j,w,z,_⟩:=B;simp[Fn.js]at z
   ·rw[O]at o;cases o;rfl
  generalize X:(fun k v=>(LastIn E f.js k v\/∃x m,f = .rise x v m/\k=(ixOf L x:Nat)))=P;have A:∀k v,(LastIn E f.js k v\/∃x m,f = .rise x v m/\k=(ixOf L x:Nat))↔P k v:=fun k v=>by rw[<-X]
  generalize R:((List.range L.length).filterMap fun i:Nat=>if h:∃v,P (i:Int) v then some ((i:Int),Classical.choose h)else none)=r;have Z:∀k v,(k,v)∈r↔P k v:=fun k v=>by
   rw[<-R,mem_filterMap];constructor
   ·rintro⟨i,t,z⟩;split at z
    case isTrue h=>
     have z:=vL z;injection z with z1 z2;rw[<-z1,<-z2];exact Classical.choose_spec h
    case isFalse h=>cases z
   ·intro h;obtain⟨b0,b1⟩:=T k v ((A k v).mpr h);refine⟨k.toNat,v2.mpr (by lia),?_⟩;have U:((k.toNat:Nat):Int)=k:=by lia
    rw[U,dif_pos ⟨v,h⟩];have c:=Classical.choose_spec (⟨v,h⟩:∃v,P k v);rw[un k _ v ((A k _).mpr c) ((A k v).mpr h)]
  have pr:(r.map (·.1)).Pairwise (· < ·):=by
   rw[<-R,pairwise_map,List.pairwise_filterMap];refine List.pairwise_lt_range.imp fun {a b} Y x I y J=>?_
   split at I
   case isFalse=>cases I
   split at J
   case isFalse=>cases J
   rw[<-vL I,<-vL J];show(a:Int)<(b:Int);lia
  have u:∀i,i<n->(E++[r]).getD i []=E.getD i []:=fun i t=>by rw[vy,vy,vB (by lia)]
  have K:(E++[r]).getD n []=r:=by rw[vy,vC (by lia),S,uu];rfl
  refine⟨E++[r],by rw[vn,S];rfl,fun i g t q=>?_⟩;have W:=(D.f i g q).1.js.2;have ex:∀j∈g.js,(E++[r]).getD j []=E.getD j []:=fun j d=>u j (by have:=W j d;lia)
  have N:∀k v,(LastIn E g.js k v\/∃x m,g = .rise x v m/\k=(ixOf L x:Nat))↔(LastIn (E++[r]) g.js k v\/∃x m,g = .rise x v m/\k=(ixOf L x:Nat)):=fun k v=>
   or_congr_left ⟨zU fun j d=>(ex j d).symm,zU ex⟩
  rcases Nat.lt_or_ge i n with c | c
  ·rw[u i c];obtain⟨a,b⟩:=e i g c q;exact⟨a,fun k v=>(b k v).trans (N k v)⟩
  ·have:i=n:=by lia
   subst this;rw[Q]at q;cases q;rw[K];exact⟨pr,fun k v=>(Z k v).trans ((A k v).symm.trans (N k v))⟩
end
structure BkR(L names:List Str)(fs:List Fn)(M:List (List Int))(gs:List Int)(E:List (List (Int×Int))):Prop where
 D:DOk L fs M gs
 hnm:fs.length<=names.length
 nd:names.Nodup
 lnd:L.Nodup
 l8:L.length<=8
 f17:fs.length<=17
 g90:∀j,j<fs.length->gs.getD j 0<=90
 e:EN L fs fs.length E
 w:∀j t,j<fs.length->0<=t->(rgN names fs gs j t).length<=5000
section
variable{L:List Str}{fs:List Fn}{M:List (List Int)}{gs:List Int}{names:List Str}{E:List (List (Int×Int))}
noncomputable def runR(L names:List Str)(fs:List Fn)(gs:List Int)(E:List (List (Int×Int)))(j:Nat)(h:List Int):List (List Int×List Str):=(List.range (gs.getD j 0).toNat).map fun b:Nat=>(plN L names fs gs E j (b:Int) h,rgN names fs gs j (b:Int))
theorem JE:(runR L names fs gs E j h).length=(gs.getD j 0).toNat:=by unfold runR;rw[vt,length_range]
theorem zF{j b:Nat}{h:List Int}(a:(b:Int)<gs.getD j 0):(runR L names fs gs E j h)[b]?=some (plN L names fs gs E j (b:Int) h,rgN names fs gs j (b:Int)):=by
 unfold runR;rw[vv,List.getElem?_range (by lia)];rfl
theorem W2(B:BkR L names fs M gs E)(c:fs[j]?=some f)(b:f.js=[])(d:∀is,f≠.row is/\f≠.side is)(t:Int)(h:List Int):plN L names fs gs E j t h=apN L fs gs E h (j,t)/\rgN names fs gs j t=ringX (drawnPs names fs) (j,t):=by
 have a:pcB (drawnPs names fs) gs j=[]:=by
  rw[zc B.D B.hnm B.nd c,b];cases f<;>rfl
 unfold plN rgN;rw[JD (.inr a)];exact⟨rfl,by simp⟩
theorem j1T(B:BkR L names fs M gs E)(a:fs[j]?=some (.hold n))(h:List Int):runR L names fs gs E j h=List.replicate n.toNat (h,[])/\setE (E.getD j []) h=h:=by
 have f:=(vx.mp a).1;have g:gs.getD j 0=n:=(B.D.f j _ a).2.2;have e:E.getD j []=[]:=by
  refine List.eq_nil_iff_forall_not_mem.mpr fun q k=>?_
  rcases((B.e j _ f a).2 q.1 q.2).mp k with⟨p,i,d,z,_⟩ | ⟨x,m,z,_⟩
  ·simp[Fn.js]at z
  ·cases z
 refine⟨?_,by rw[e];rfl⟩;refine ext_getElem? fun b=>?_
 rcases Nat.lt_or_ge b n.toNat with c | c
 case inr=>rw[vS (by rw[JE,g];exact c),vS (by rw[length_replicate];exact c)]
 obtain⟨l,o⟩:=W2 B a rfl (fun r=>⟨(fun z=>nomatch z),(fun z=>nomatch z)⟩) (b:Int) h;rw[zF (by lia),l,o,List.getElem?_replicate,vd c];unfold apN ringX;rw[vc (by show¬gs.getD j 0<=(b:Int);lia),a,qg a];rfl
theorem j1U(B:BkR L names fs M gs E)(a:fs[j]?=some (.ring x n))(h:List Int):runR L names fs gs E j h=(List.replicate n.toNat (h,[])).set 0 (h,[x])/\setE (E.getD j []) h=h:=by
 have f:=(vx.mp a).1;have g:gs.getD j 0=n:=(B.D.f j _ a).2.2;have e:E.getD j []=[]:=by
  refine List.eq_nil_iff_forall_not_mem.mpr fun q k=>?_
  rcases((B.e j _ f a).2 q.1 q.2).mp k with⟨p,i,d,z,_⟩ | ⟨x,m,z,_⟩
  ·simp[Fn.js]at z
  ·cases z
 refine⟨?_,by rw[e];rfl⟩;refine ext_getElem? fun b=>?_
 rcases Nat.lt_or_ge b n.toNat with c | c
 case inr=>rw[vS (by rw[JE,g];exact c),vS (by rw[length_set,length_replicate];exact c)]
 obtain⟨l,o⟩:=W2 B a rfl (fun r=>⟨(fun z=>nomatch z),(fun z=>nomatch z)⟩) (b:Int) h;rw[zF (by lia),l,o];unfold apN ringX;rw[vc (by show¬gs.getD j 0<=(b:Int);lia),a,qg a];show some (h,if(b:Int)=0 then[x]else[])=_;by_cases z:b=0
 ·subst z;rw[List.getElem?_set_self (by rw[length_replicate];exact c)];rfl
 ·rw[List.getElem?_set_ne (fun q=>z q.symm),List.getElem?_replicate,vd c,vc (by lia)]
noncomputable def riseR(L:List Str)(x:Str)(v n:Int)(h:List Int)(m:Nat):List (List Int×List Str):=(List.range m).map fun b:Nat=>(h.set (ixOf L x) (Rp.ramp (h.getD (ixOf L x) 0) v n (b:Int)),[])
theorem j1V(B:BkR L names fs M gs E)(a:fs[j]?=some (.rise x v n))(h:List Int):runR L names fs gs E j h=riseR L x v n h n.toNat/\setE (E.getD j []) h=h.set (ixOf L x) v:=by
 have t:=(vx.mp a).1;have g:gs.getD j 0=n:=(B.D.f j _ a).2.2;obtain⟨e,k⟩:=B.e j _ t a;have o:E.getD j []=[(((ixOf L x:Nat):Int),v)]:=by
  have f:(((ixOf L x:Nat):Int),v)∈E.getD j []:=(k _ _).mpr (.inr ⟨x,n,rfl,rfl⟩);have d:∀q∈E.getD j [],q=(((ixOf L x:Nat):Int),v):=fun q u=>by
   rcases(k q.1 q.2).mp u with⟨A,i,l,z,_⟩ | ⟨H,m,z,C⟩
   ·simp[Fn.js]at z
   ·cases z;exact Prod.ext C rfl
  generalize E.getD j []=es at f d e
  match es with
  | []=>cases f
  | [q]=>rw[d q vq]
  | q::q'::r=>
   have p:=d q vq;have s:=d q' (vp _ vq);subst p;subst s;rw[v7,vU]at e;exact uh (e.1 _ (by rw[v7];exact vq)) (Int.lt_irrefl _)
 refine⟨?_,by rw[o];rfl⟩;refine ext_getElem? fun b=>?_
 rcases Nat.lt_or_ge b n.toNat with c | c
 case inr=>rw[vS (by rw[JE,g];exact c),vS (by unfold riseR;rw[vt,length_range];exact c)]
 obtain⟨w,y⟩:=W2 B a rfl (fun D=>⟨(fun z=>nomatch z),(fun z=>nomatch z)⟩) (b:Int) h;rw[zF (by lia),w,y];unfold apN ringX riseR;rw[vc (by show¬gs.getD j 0<=(b:Int);lia),a,qg a,vv,List.getElem?_range c];rfl
noncomputable def seqR(L names:List Str)(fs:List Fn)(gs:List Int)(E:List (List (Int×Int))):List Nat->List Int->List (List Int×List Str)
 | [],_=>[]
 | j::r,h=>runR L names fs gs E j h++seqR L names fs gs E r (setE (E.getD j []) h)
theorem wc:∀{is:List Nat} {h:List Int},seqR L names fs gs E (is++[j]) h=seqR L names fs gs E is h++runR L names fs gs E j (is.foldl (fun h j=>setE (E.getD j []) h) h)
 | [],h=>by
  show runR L names fs gs E j h++[]=[]++_;rw[append_nil,nil_append];rfl
 | i::r,h=>by
  show runR L names fs gs E i h++seqR L names fs gs E (r++[j]) _=(runR L names fs gs E i h++seqR L names fs gs E r _)++_;rw[wc,List.append_assoc];rfl
theorem xF:∀{is:List Nat} {h:List Int},(∀j∈is,0<=gs.getD j 0)->((seqR L names fs gs E is h).length:Int)=(is.map fun j=>gs.getD j 0).sum
 | [],h,_=>rfl
 | i::r,h,p=>by
  show((runR L names fs gs E i h++seqR L names fs gs E r _).length:Int)=_;have:=p i vq;have b:=xF (is:=r) (h:=setE (E.getD i []) h) fun j a=>p j (vp _ a)
  rw[vn,JE,v7,v8];lia
theorem j0n:∀{is:List Nat} {h:List Int} {t:Nat},(∀j∈is,0<=gs.getD j 0)->(t:Int)<(is.map fun j=>gs.getD j 0).sum->
  ∃(i j u:Nat),is[i]?=some j/\((is.take i).map fun j=>gs.getD j 0).sum+u=t/\(u:Int)<gs.getD j 0/\(seqR L names fs gs E is h)[t]?=some (plN L names fs gs E j u ((is.take i).foldl (fun h j=>setE (E.getD j []) h) h),rgN names fs gs j u)
 | [],h,t,_,z=>by
  have:(t:Int)<0:=z;lia
 | j::r,h,t,p,z=>by
  have g:=p j vq;rw[v7,v8]at z;show∃(i a u:Nat),_/\_/\_/\(runR L names fs gs E j h++seqR L names fs gs E r _)[t]?=_;rcases Int.lt_or_le (t:Int) (gs.getD j 0)with c | c
  ·refine⟨0,j,t,rfl,?_,c,?_⟩
   ·rw[List.take_zero];show(0:Int)+t=t;lia
   ·rw[vB (by rw[JE];lia),zF c];rfl
  ·obtain⟨i,a,u,b,l,d,e⟩:=j0n (is:=r) (h:=setE (E.getD j []) h) (t:=t-(gs.getD j 0).toNat) (fun k f=>p k (vp _ f)) (by lia);refine⟨i+1,a,u,b,?_,d,?_⟩
   ·rw[List.take_succ_cons,v7,v8];lia
   ·rw[vC (by rw[JE];lia),JE,e];rfl
theorem j3f(B:BkR L names fs M gs E)(e:fs[k]?=some (.row is))(h:List Int):runR L names fs gs E k h=seqR L names fs gs E is h/\setE (E.getD k []) h=is.foldl (fun h j=>setE (E.getD j []) h) h:=by
 have f:=(vx.mp e).1;obtain⟨n,_,g⟩:=B.D.f k _ e;have g:gs.getD k 0=(is.map fun j=>gs.getD j 0).sum:=g;have A:∀j∈is,j<k:=n.js.2;have d:∀j∈is,1<=gs.getD j 0/\gs.getD j 0<=10^60:=fun j a=>B.D.g j (by have:=A j a;lia)
 have l:fs.length<=61:=by have:=B.f17;lia
 refine⟨?_,B.e.all B.D B.lnd (vb _) f e (fun x v m z=>nomatch z) h⟩;have H:=xF (L:=L) (names:=names) (fs:=fs) (gs:=gs) (E:=E) (is:=is) (h:=h) fun j a=>by have:=d j a;lia
 refine ext_getElem? fun b=>?_
 rcases Nat.lt_or_ge b (gs.getD k 0).toNat with c | c
 case inr=>rw[vS (by rw[JE];exact c),vS (by lia)]
 obtain⟨i,j,u,p,C,D,y⟩:=j0n (L:=L) (names:=names) (fs:=fs) (gs:=gs) (E:=E) (is:=is) (h:=h) (t:=b) (fun j a=>by have:=d j a;lia) (by lia);obtain⟨r,s⟩:=WR B.D B.hnm B.nd B.lnd B.l8 l B.e (vb _) f e trivial (t:=(b:Int)) (by lia) (by lia) h;have q:=(vx.mp p).1;have o:is.drop i=j::is.drop (i+1):=by
  rw[List.drop_eq_getElem_cons q];congr 1;exact vL ((vz q).symm.trans p)
 have w:wsN names fs gs k (b:Int)=((is.take i).map fun j=>(j,gs.getD j 0))++[(j,(u:Int))]:=by
  unfold wsN;rw[zc B.D B.hnm B.nd e];show wth gs _ (rowPc gs is 0)=_;rw[kF (is:=is) (i:=i) d (by lia),o,zX (fun k f=>d k (by rw[<-o]at f;exact List.mem_of_mem_drop f)) (by lia),vc (by lia)];congr 3;lia
 rw[zF (by lia),y,r,s,w,foldl_append,List.flatMap_append,kq,Kh fun j a=>(d j (mem_of_mem_take a)).1];simp
theorem KN(B:BkR L names fs M gs E)(a:j<fs.length)(h:List Int):∀n:Nat,(List.replicate (n+1) j).foldl (fun h j=>setE (E.getD j []) h) h=setE (E.getD j []) h
 | 0=>rfl
 | n+1=>by
  obtain⟨f,b⟩:∃f,fs[j]?=some f:=⟨_,vz a⟩
  rw[List.replicate_succ',foldl_append,KN B a h n];exact we (B.e j f a b).1 (B.e.pos B.D B.lnd (vb _) a) h
theorem Kv:∀n:Nat,((List.replicate n j).map fun j=>gs.getD j 0).sum=(n:Int)*gs.getD j 0
 | 0=>by simp
 | n+1=>by
  rw[replicate_succ,v7,v8,Kv n,Int.natCast_add,Int.add_mul];lia
theorem j0j(B:BkR L names fs M gs E)(d:fs[k]?=some (.again m j))(h:List Int):runR L names fs gs E k h=seqR L names fs gs E (List.replicate m.toNat j) h/\setE (E.getD k []) h=(List.replicate m.toNat j).foldl (fun h j=>setE (E.getD j []) h) h:=by
 have p:=(vx.mp d).1;obtain⟨q,_,g⟩:=B.D.f k _ d;have g:gs.getD k 0=m*gs.getD j 0:=g;obtain⟨X,_,jk⟩:=q;have a:j<fs.length:=by lia
 have D:=B.D.g j a;have e:fs.length<=61:=by have:=B.f17;lia
 obtain⟨n,U⟩:∃n:Nat,m.toNat=n+1:=⟨m.toNat-1,by lia⟩
 have N:m=((n+1:Nat):Int):=by lia
 rw[U];refine⟨?_,?_⟩
 rotate_left
 ·rw[B.e.all B.D B.lnd (vb _) p d (fun x v m z=>nomatch z) h,KN B a];rfl
 have s:∀i∈List.replicate (n+1) j,0<=gs.getD i 0:=fun i T=>by rw[(List.mem_replicate.mp T).2];lia
 have Y:=xF (L:=L) (names:=names) (fs:=fs) (gs:=gs) (E:=E) (is:=List.replicate (n+1) j) (h:=h) s;rw[Kv,<-N]at Y;refine ext_getElem? fun b=>?_
 rcases Nat.lt_or_ge b (gs.getD k 0).toNat with c | c
 case inr=>rw[vS (by rw[JE];exact c),vS (by lia)]
 have k0:=B.D.g k p;obtain⟨i,j',u,S,l,H,I⟩:=j0n (L:=L) (names:=names) (fs:=fs) (gs:=gs) (E:=E) (is:=List.replicate (n+1) j) (h:=h) (t:=b) s (by rw[Kv,<-N];lia);obtain⟨W,A⟩:=vx.mp S;rw[List.getElem_replicate]at A;subst A;rw[length_replicate]at W;rw[List.take_replicate,Nat.min_eq_left (by lia),Kv]at l;rw[List.take_replicate,Nat.min_eq_left (by lia)]at I;obtain⟨P,Q⟩:=WR B.D B.hnm B.nd B.lnd B.l8 e B.e (vb _) p d trivial (t:=(b:Int)) (by lia) (by lia) h;have Z:(b:Int)/gs.getD j 0=i:=by
  rw[<-l,Int.add_comm,Int.add_mul_ediv_right _ _ (by lia),Int.ediv_eq_zero_of_lt (by lia) H,uz]
 have C:(b:Int)%gs.getD j 0=u:=by
  rw[<-l,Int.add_comm,Int.add_mul_emod_self_right,vZ (by lia) H]
 have R:wsN names fs gs k (b:Int)=wth gs b ((j,1,0)::(if 1<m then[(j,m-1,gs.getD j 0)]else[])):=by
  unfold wsN;rw[zc B.D B.hnm B.nd d];rfl
 have O:rgN names fs gs j (gs.getD j 0)=[]:=yz D.1;obtain⟨f,o⟩:∃f,fs[j]?=some f:=⟨_,vz a⟩
 have r:=we (B.e j f a o).1 (B.e.pos B.D B.lnd (vb _) a) h;rw[zF (by lia),I,P,Q,R];rcases Ym D.1 X (t:=(b:Int)) (by lia) (by lia)with⟨z,w⟩ | ⟨z1,z2,y,J,w⟩ | ⟨z,y,J,w⟩
 ·rw[w,C];have:i=0:=by lia
  subst this;simp
 ·rw[w,C];obtain⟨K,rfl⟩:∃K,i=K+1:=⟨i-1,by lia⟩
  rw[KN B a];rcases J with rfl | rfl
  ·show some (plN L names fs gs E j u (plN L names fs gs E j (gs.getD j 0) h),rgN names fs gs j (gs.getD j 0)++(rgN names fs gs j u++[]))=_;rw[O,Qr,append_nil,nil_append]
  ·show some (plN L names fs gs E j u (plN L names fs gs E j (gs.getD j 0) (plN L names fs gs E j (gs.getD j 0) h)),rgN names fs gs j (gs.getD j 0)++(rgN names fs gs j (gs.getD j 0)++(rgN names fs gs j u++[])))=_;rw[O,Qr,Qr,r,append_nil,nil_append,nil_append]
 ·lia
theorem j4W(B:BkR L names fs M gs E){j:Nat}(f:j<fs.length){t:Int}{h F:List Int}(a:Agr (M.getD j []) F h)(e:h.length=L.length){i:Nat}(hi:i<L.length) :
  (plN L names fs gs E j t F)[i]?=some (if(plN L names fs gs E j t h).getD i 0≠h.getD i 0 then(plN L names fs gs E j t h).getD i 0 else F.getD i 0):=by
 have b:fs.length<=61:=by have:=B.f17;lia
 have g:=a.1;have d:∀{l:List Int},l.length=L.length->l[i]?=some (l.getD i 0):=fun {l} e=>by rw[vy,vz (by lia)];rfl
 by_cases c:(i:Int)∈M.getD j []
 ·rw[(j59 B.D B.hnm B.nd B.lnd B.l8 b B.e (vb _) f a).2 i c,d (by rw[kD,e])];split
  ·rfl
  ·rename_i z;have z:=Decidable.not_not.mp z;rw[z];have:=a.2 i c;rw[d (by lia),d e]at this;exact this.symm
 ·rw[j0f B.D B.hnm B.nd B.lnd B.l8 b B.e (vb _) f c,d (by lia)];have:(plN L names fs gs E j t h)[i]?=h[i]?:=j0f B.D B.hnm B.nd B.lnd B.l8 b B.e (vb _) f c;rw[d (by rw[kD,e]),d e]at this;rw[vc (by rw[vL this];exact fun z=>z rfl)]
theorem Wg:∀{xs:List (Nat×Int)} {h:List Int},(xs.foldl (fun h x=>plN L names fs gs E x.1 x.2 h) h).length=h.length
 | [],_=>rfl
 | x::r,h=>by rw[v5,Wg,kD]
noncomputable def cutT(gs:List Int)(t:Int)(j:Nat):Nat×Int:=if gs.getD j 0<=t then(j,gs.getD j 0)else(j,t)
theorem j1W(B:BkR L names fs M gs E)(a:fs[k]?=some (.side is))(h:List Int)(e:0<=t)(o:t<=gs.getD k 0) :
  plN L names fs gs E k t h=(is.map (cutT gs t)).foldl (fun h x=>plN L names fs gs E x.1 x.2 h) h/\rgN names fs gs k t=(is.map (cutT gs t)).flatMap fun x=>rgN names fs gs x.1 x.2:=by
 have m:=(vx.mp a).1;obtain⟨d,_,g⟩:=B.D.f k _ a;have n:∀j∈is,j<k:=d.js.2;have i:∀j∈is,1<=gs.getD j 0:=fun j l=>(B.D.g j (by have:=n j l;lia)).1
 have b:fs.length<=61:=by have:=B.f17;lia
 have c:=WR B.D B.hnm B.nd B.lnd B.l8 b B.e (vb _) m a trivial e o h;have f:wsN names fs gs k t=is.map (cutT gs t):=by
  unfold wsN;rw[zc B.D B.hnm B.nd a];show wth gs _ (is.map fun j=>(j,1,0))=_;rw[YS i e];rfl
 rw[f]at c;exact c
theorem j22(B:BkR L names fs M gs E){k:Nat}{is:List Nat}(n:fs[k]?=some (.side is)){h:List Int}{t:Int}{i j:Nat}(s:is[i]?=some j):Agr (M.getD j []) (((is.take i).map (cutT gs t)).foldl (fun h x=>plN L names fs gs E x.1 x.2 h) h) h:=by
 have z:=(vx.mp n).1;obtain⟨l,_,g⟩:=B.D.f k _ n;obtain⟨_,_,y,_,o⟩:=l;have d:fs.length<=61:=by have:=B.f17;lia
 have e:∀b,(cutT gs t b).1=b:=fun b=>by unfold cutT;split<;>rfl
 refine XL B.D B.hnm B.nd B.lnd B.l8 d B.e (vb _) fun x v=>?_
 obtain⟨b,c,rfl⟩:=vK.mp v;rw[e b];refine⟨by have:=y b (mem_of_mem_take c);lia,fun q u f=>?_⟩;obtain⟨a,r,m⟩:=mem_iff_getElem.mp c;rw[vi]at r;rw[getElem_take]at m;obtain⟨w,p⟩:=vx.mp s;have:=pairwise_iff_getElem.mp o a i (by lia) w (by lia);rw[m,p]at this;exact this q u f
end
theorem j0Q{F:List Int}(f:L.Nodup)(o:L.length=F.length)(d:L[i]?=some x)(v:Int):putK (knK L F) (Sum.inr x) (.int v)=knK L (F.set i v):=by
 obtain⟨s,l⟩:=vx.mp d;have r:=zj o;have g:((knK L F).any fun kv=>decide (kv.1=(Sum.inr x:Key)))=true:=by
  rw[any_eq_true];have m:(Sum.inr x:Key)∈(knK L F).map (·.1):=by rw[r];exact vK.mpr ⟨x,vm d,rfl⟩
  obtain⟨q,p,e⟩:=vK.mp m;exact⟨q,p,vG e⟩
 unfold putK;rw[vd g];refine ext_getElem? fun k=>?_
 unfold knK;rw[v4,vv,vv];by_cases b:k<L.length
 case neg=>rw[vS (by rw[length_zip];lia),vS (by rw[length_zip,length_set];lia)];rfl
 have n:k<F.length:=by lia
 have a:k<(F.set i v).length:=by rw[length_set];lia
 have h:(L.zip F)[k]?=some (L[k],F[k]):=List.getElem?_zip_eq_some.mpr ⟨vz b,vz n⟩;have j:(L.zip (F.set i v))[k]?=some (L[k],(F.set i v)[k]):=List.getElem?_zip_eq_some.mpr ⟨vz b,vz a⟩;rw[h,j];show some (if(Sum.inr L[k]:Key)=Sum.inr x then((Sum.inr L[k]:Key),V.int v)else((Sum.inr L[k]:Key),V.int F[k]))=some ((Sum.inr L[k]:Key),V.int (F.set i v)[k]);rw[List.getElem_set];by_cases c:i=k
 ·subst c;rw[vd (by rw[l]),vd rfl]
 ·rw[vc,vc c];intro z;have z:L[k]=x:=Sum.inr.inj z;exact c ((Jg f d).symm.trans (Jg f (by rw[vz b,z])))
theorem KR:∀{kvs acc:List (Key×V)},((acc++kvs).map (·.1)).Nodup->mergeK acc kvs=acc++kvs
 | [],acc,_=>(append_nil _).symm
 | q::r,acc,h=>by
  show mergeK (putK acc q.1 q.2) r=_;rw[ya,KR]
  ·rw[List.append_assoc];rfl
  ·rw[List.append_assoc];exact h
  ·intro m;rw[vj,v7]at h;exact(nodup_append.mp h).2.2 _ m _ vq rfl
theorem j2m(a:(nmsOf ls).Nodup):mergeK [] ((ls.map fun q=>(q.1,V.int q.2)).map swK)=knK (nmsOf ls) (ls.map (·.2)):=by
 have e:(ls.map fun q=>(q.1,V.int q.2)).map swK=knK (nmsOf ls) (ls.map (·.2)):=by
  unfold knK nmsOf;rw[v4,List.zip_map',v4];rfl
 rw[e,KR,nil_append];rw[nil_append,zj (by unfold nmsOf;rw[vt,vt])];exact pairwise_map.mpr (a.imp fun h e=>h (Sum.inr.inj e))
theorem WI(h:1<=n)(e:xs.length=n)(a:xs[n-1]?=some v):atI xs (-1)=some v:=by
 have:xs=xs.take (n-1)++[v]:=by
  rw[<-take_snoc a,show n-1+1=xs.length by lia,v3]
 rw[this];exact xM _ _
theorem j1q(x:V)(n:Nat):(List.replicate n [x]).flatten=List.replicate n x:=by
 induction n with
 | zero=>rfl
 | succ n ih=>rw[replicate_succ,flatten_cons,ih];rfl
theorem xU(h:xs.length=n+1):cutV xs none (some (-1))=xs.take n:=by
 have e:HT.sIx xs.length xs.length (some (-1))=n:=by
  show(if(-1:Int)<0 then((-1:Int)+(xs.length:Int)).toNat else min (-1:Int).toNat xs.length)=n;rw[vd (by decide)];lia
 unfold cutV;rw[show HT.sIx xs.length 0 none=0 from rfl,e,List.drop_zero,Nat.sub_zero]
def HtA(H:Hp)(L:List Str)(a:Addr)(h:List Int):Prop:=h.length=L.length/\hB h/\∃o,H a=some (.frz o (.dK (knK L h)))
def RwA(H:Hp)(L:List Str)(a:Addr)(x:List Int×List Str):Prop:=∃d w,H a=some (.tup [.ref d,.ref w])/\HtA H L d x.1/\H w=some (.lst (x.2.map V.str))
def RunA(H:Hp)(L:List Str)(r:Addr)(rows:List (List Int×List Str))(h:List Int):Prop:=∃rl hd ras,H r=some (.tup [.ref rl,.ref hd])/\H rl=some (.lst (ras.map V.ref))/\All2 (RwA H L) ras rows/\HtA H L hd h
section
variable{H H' H0:Hp}{L:List Str}{a:Addr}{h:List Int}{rl:Addr}{ds ras:List Addr}{rows:List (List Int×List Str)}
theorem HtA.same(s:Same H H')(x:HtA H L a h):HtA H' L a h:=⟨x.1,x.2.1,x.2.2.imp fun o e=>s _ _ e⟩
theorem RwA.same(s:Same H H')(r:RwA H L a x):RwA H' L a x:=by
 obtain⟨d,w,b,c,e⟩:=r;exact⟨d,w,s _ _ b,c.same s,s _ _ e⟩
theorem RunA.same(s:Same H H')(r:RunA H L a rows h):RunA H' L a rows h:=by
 obtain⟨i,g,b,c,d,e,f⟩:=r;exact⟨i,g,b,s _ _ c,s _ _ d,e.mono fun a x=>RwA.same s,f.same s⟩
theorem HtA.get(x:HtA H L a h)(d:L.Nodup)(b:L[i]?=some y):DGet H a (.str y) (some (.int (h.getD i 0))):=by
 obtain⟨l,_,o,e⟩:=x;obtain⟨c,f⟩:=vx.mp b;have z:L.getD i ⟨#[]⟩=y:=by rw[vy,b];rfl
 have v:=Yz d l.symm c;rw[z]at v;exact .inl ⟨_,Sum.inr y,.inr ⟨o,e⟩,rfl,v.symm⟩
structure RwO(H0:Hp)(L:List Str)(rl:Addr)(H:Hp)(ds ras:List Addr)(rows:List (List Int×List Str)):Prop where
 s:Same H0 H
 nr:H0 rl=none
 e:H rl=some (.lst (ras.map V.ref))
 l1:ras.length=rows.length
 l2:ds.length=rows.length
 a:∀(i:Nat) (d c:Addr) (x:List Int×List Str),ds[i]?=some d->ras[i]?=some c->rows[i]?=some x->∃w,w≠rl/\H c=some (.tup [.ref d,.ref w])/\H d=some (.dK (knK L x.1))/\x.1.length=L.length/\hB x.1/\H w=some (.lst (x.2.map V.str))
 nd:ds.Nodup
 nw:∀d∈ds,H0 d=none
theorem RwO.nil(s:Same H0 H)(n:H0 rl=none)(e:H rl=some (.lst [])):RwO H0 L rl H [] [] []:=⟨s,n,e,rfl,rfl,fun i d c x h=>by simp at h,nodup_nil,fun d h=>nomatch h⟩
theorem RwO.opn(R:RwO H0 L rl H ds ras rows)(hd:d∈ds):∃kvs,H d=some (.dK kvs):=by
 obtain⟨i,a,e⟩:=mem_iff_getElem.mp hd;have b:=R.l1;have c:=R.l2;obtain⟨w,_,_,z,_⟩:=R.a i d _ _ (by rw[vz a,e]) (vz (by lia)) (vz (by lia));exact⟨_,z⟩
theorem RwO.push(R:RwO H0 L rl H ds ras rows)(s:Same H H')(hd:H d=none)(I:H' d=some (.dK (knK L h)))(M:h.length=L.length)(a:hB h)(hw:H w=none)(J:H' w=some (.lst (W.map V.str)))(l:H' c=some (.tup [.ref d,.ref w])) :
  RwO H0 L rl (upd H' rl (.lst ((ras++[c]).map V.ref))) (ds++[d]) (ras++[c]) (rows++[(h,W)]):=by
 have K:=s _ _ R.e;have B:w≠rl:=fun z=>by rw[z,R.e]at hw;cases hw
 have up:∀{b u},H' b=some u->b≠rl->upd H' rl (.lst ((ras++[c]).map V.ref)) b=some u:=fun a n=>(jh n).trans a
 have E:d≠rl:=fun z=>by rw[z,R.e]at hd;cases hd
 have D:c≠rl:=fun z=>by rw[z,K]at l;cases l
 have t:=R.l1;have v:=R.l2;refine⟨fun b u a=>up (s _ _ (R.s _ _ a)) (fun z=>by rw[z,R.nr]at a;cases a),R.nr,jG,?_,?_,fun i j C x f g e=>?_,?_,fun j m=>?_⟩
 ·rw[vn,vn,t];rfl
 ·rw[vn,vn,v];rfl
 ·rcases Nat.lt_or_ge i rows.length with k | k
  ·rw[vB (by lia)]at f g e;obtain⟨T,A,p,q,P,Q,S⟩:=R.a i j C x f g e;refine⟨T,A,up (s _ _ p) fun z=>?_,up (s _ _ q) fun z=>?_,P,Q,up (s _ _ S) A⟩
   ·rw[z,R.e]at p;cases p
   ·rw[z,R.e]at q;cases q
  ·have o:i=rows.length:=by
    have:=(vx.mp e).1;rw[vn]at this;have:i<rows.length+1:=this;lia
   rw[vC (by lia),o,v,uu]at f;rw[vC (by lia),o,t,uu]at g;rw[vC (by lia),o,uu]at e;cases f;cases g;cases e;exact⟨w,B,up l D,up I E,M,a,up J B⟩
 ·refine nodup_append.mpr ⟨R.nd,ur.mpr ⟨(fun z=>nomatch z),nodup_nil⟩,fun x r y N z=>?_⟩;rw[vo.mp N]at z;rw[z]at r;obtain⟨O,k⟩:=R.opn r;rw[hd]at k;cases k
 ·rcases vh.mp m with k | k
  ·exact R.nw j k
  ·rw[vo.mp k];exact none_of R.s hd
theorem RwO.run(R:RwO H0 L rl H ds ras rows)(s:Same H H'){f:Hp}{l p j:Addr}{n:Nat}{x:List Int×List Str}(A:H' l=some (.lst ((ras.take n).map V.ref)))(B:H' p=some (.tup [.ref l,.ref j]))(hd:ds[n]?=some j)(C:rows[n]?=some x)(m:Frz ds H' f):Same H0 f/\RunA f L p (rows.take n) x.1:=by
 have I:=R.l1;have M:=R.l2;have a:∀{c u},H' c=some u->(∀k,u≠.dK k)->f c=some u:=fun {c u} e D=>(m.1 c fun z=>by
  obtain⟨E,k⟩:=R.opn z;rw[s _ _ k]at e;cases e;exact D _ rfl).trans e
 have o:∀(i:Nat) (d:Addr) (x:List Int×List Str),ds[i]?=some d->rows[i]?=some x->HtA f L d x.1:=fun i d x b g=>by
  have q:=(vx.mp b).1;obtain⟨w,_,_,r,t,v,_⟩:=R.a i d _ x b (vz (by lia)) g;exact⟨t,v,m.2 d (vm b) _ (s _ _ r)⟩
 refine⟨fun c u e=>(m.1 c fun z=>?_).trans (s _ _ (R.s _ _ e)),l,j,ras.take n,a B (fun k z=>nomatch z),a A (fun k z=>nomatch z),⟨?_,fun i c y b g=>?_⟩,o n j x hd C⟩
 ·rw[R.nw c z]at e;cases e
 ·rw[vi,vi,I]
 ·have q:=(vx.mp b).1;rw[vi]at q;rw[ut (by lia)]at b g;obtain⟨d,h⟩:∃d,ds[i]?=some d:=⟨_,vz (by lia)⟩
  obtain⟨w,_,J,r,t,v,K⟩:=R.a i d c y h b g;exact⟨d,w,a (s _ _ J) (fun k z=>nomatch z),o i d y h g,a (s _ _ K) (fun k z=>nomatch z)⟩
end
noncomputable def sideR(L names:List Str)(fs:List Fn)(gs:List Int)(E:List (List (Int×Int)))(k:Nat)(h:List Int)(m:Nat):List (List Int×List Str):=(List.range m).map fun t:Nat=>(plN L names fs gs E k (t:Int) h,rgN names fs gs k (t:Int))
theorem j3N(h:t<gs.getD j 0):cutT gs t j=(j,t):=by unfold cutT;rw[vc (by lia)]
theorem j3M(h:gs.getD j 0<=t):cutT gs t j=(j,gs.getD j 0):=by unfold cutT;rw[vd h]
theorem j2q{a b:List Int}{L:List Str}(e:a.length=L.length)(f:b.length=L.length)(h:∀q,q<L.length->a.getD q 0=b.getD q 0):a=b:=by
 refine ext_getElem (by lia) fun q c d=>?_
 have:=h q (by lia);rw[vy,vy,vz c,vz d]at this;exact this
inductive sp_climbR(vs:List V)(H:Hp)(Q:VK)(xk:XK):Prop
 | mk (fa hd:Addr) (L:List Str) (x:Str) (v n:Int) (h:List Int) (_:vs=[.ref fa,.ref hd]) (_:H fa=some (.tup [.str "raise",.str x,.int v,.int n])) (_:HtA H L hd h) (_:L.Nodup) (_:(∃i:Nat,L[i]?=some x)) (_:L.length<=8) (_:0<=v) (_:v<=10^18) (_:1<=n) (_:n<=90) (_:∀(r:Addr) (H':Hp),Same H H'->RunA H' L r (riseR L x v n h n.toNat) (h.set (ixOf L x) v)->Q (.ref r) H'):sp_climbR vs H Q xk
inductive sp_runR(m:Nat)(vs:List V)(H:Hp)(Q:VK)(xk:XK):Prop
 | mk (b pl pp hd:Addr) (las pas:List Addr) (ls:List (Str×Int)) (names:List Str) (fs:List Fn) (M:List (List Int)) (gs:List Int) (E:List (List (Int×Int))) (h:List Int) (j:Nat) (_:vs=[.ref b,.str (names.getD j ⟨#[]⟩),.ref hd]) (_:BookAt H b pl pp las pas ls (drawnPs names fs)) (_:BkR (nmsOf ls) names fs M gs E) (_:j<fs.length) (_:j<m) (_:HtA H (nmsOf ls) hd h) (_:∀(r:Addr) (H':Hp),Same H H'->RunA H' (nmsOf ls) r (runR (nmsOf ls) names fs gs E j h) (setE (E.getD j []) h)->Q (.ref r) H'):sp_runR m vs H Q xk
theorem j0X{H:Hp}:¬sp_runR 0 vs H Q E:=fun z=>by
 rcases z with⟨_,_,_,_,_,_,_,_,_,_,_,_,_,_,_,_,_,_,h,_⟩
 exact uh h (Nat.not_lt_zero _)
inductive sp_besideR(m:Nat)(vs:List V)(H:Hp)(Q:VK)(xk:XK):Prop
 | mk (b pl pp hd nb:Addr) (las pas:List Addr) (ls:List (Str×Int)) (names:List Str) (fs:List Fn) (M:List (List Int)) (gs:List Int) (E:List (List (Int×Int))) (h:List Int) (k:Nat) (is:List Nat) (_:vs=[.ref b,.ref nb,.ref hd]) (_:BookAt H b pl pp las pas ls (drawnPs names fs)) (_:BkR (nmsOf ls) names fs M gs E) (_:fs[k]?=some (.side is)) (_:H nb=some (.tup (is.map fun j=>.str (names.getD j ⟨#[]⟩)))) (_:(∀j∈is,j<m)) (_:HtA H (nmsOf ls) hd h) (_:∀(r:Addr) (H':Hp),Same H H'->RunA H' (nmsOf ls) r (runR (nmsOf ls) names fs gs E k h) (setE (E.getD k []) h)->Q (.ref r) H'):sp_besideR m vs H Q xk
inductive sp_toldR(vs:List V)(H:Hp)(Q:VK)(xk:XK):Prop
 | mk (b pl pp:Addr) (las pas:List Addr) (ls:List (Str×Int)) (names:List Str) (fs:List Fn) (M:List (List Int)) (gs:List Int) (E:List (List (Int×Int))) (_:vs=[.ref b]) (_:BookAt H b pl pp las pas ls (drawnPs names fs)) (_:BkR (nmsOf ls) names fs M gs E) (_:1<=fs.length) (_:hB (ls.map (·.2))) (_:∀(l:Addr) (ras:List Addr) (H':Hp),Same H H'->H' l=some (.lst (ras.map V.ref))->All2 (RwA H' (nmsOf ls)) ras (runR (nmsOf ls) names fs gs E (fs.length-1) (ls.map (·.2))++[(setE (E.getD (fs.length-1) []) (ls.map (·.2)),[])])->Q (.ref l) H'):sp_toldR vs H Q xk
theorem K2{pc:Nat->List Pc}:∀(n i:Nat) (t:Int),(reachL pc gs n i t).length<=nodesL pc gs n i t
 | 0,i,t=>vb _
 | n+1,i,t=>by
  unfold reachL nodesL;split
  ·exact vb _
  ·rw[List.length_flatMap];have:∀l:List (Nat×Int),(l.map fun x=>(reachL pc gs n x.1 x.2).length).sum<=(l.map fun x=>nodesL pc gs n x.1 x.2).sum:=fun l=>by
    induction l with
    | nil=>exact vb _
    | cons x r ih=>
     have:=K2 (pc:=pc) (gs:=gs) n x.1 x.2;rw[v7,v7,v8,v8];lia
   have:=this (wth gs t (pc i));lia
theorem j1R:(ringX ps x).length<=1:=by
 unfold ringX;split
 ·split
  ·exact vb _
  ·exact va _
 ·exact va _
theorem j5c{fs:List Fn}(N:Sn ls (drawnPs names fs) gs M)(j:Nat)(t:Int)(f:j<fs.length)(g:0<=t):(rgN names fs gs j t).length<=5000:=by
 have d:∀i,i<(drawnPs names fs).length->(M.getD i []).length<=8:=fun i e=>j49 N.s.w N.hl N.m (Xk N.s N.hl e)
 have a:=N.nodes d (i:=j) (t:=t) (by rw[Jo];exact f) g;have b:=K2 (pc:=pcB (drawnPs names fs) gs) (gs:=gs) (j+1) j t;have c:∀l:List (Nat×Int),(l.flatMap (ringX (drawnPs names fs))).length<=l.length:=fun l=>by
  induction l with
  | nil=>exact vb _
  | cons x r ih=>
   rw[flatMap_cons,vn,vP];have:=j1R (ps:=drawnPs names fs) (x:=x);lia
 have c:=c (reach (drawnPs names fs) gs j t);unfold rgN;have b:(reach (drawnPs names fs) gs j t).length<=Rm.nodes (drawnPs names fs) gs j t:=b;lia
noncomputable def lsN8(hd b2:Int)(m:Nat):List (Str×Int):=(List.range m).map fun k:Nat=>(wdB (hd%3).toNat k,mixB hd (200+(0+(k:Int)))%b2)
theorem j1C{hd b2:Int}{m:Nat}:lsN8 hd b2 (m+1)=lsN8 hd b2 m++[(wdB (hd%3).toNat m,mixB hd (200+(0+(m:Int)))%b2)]:=by unfold lsN8;rw[range_succ,vj];rfl
noncomputable def bkN8(ns:List Int)(many:Nat)(b0 b1 b2 b3 b4:Int):List (Str×Int)×List Str×List Fn:=
 (lsN8 (hdN ns) b2 (1+hdN ns/3%8).toNat,nmB (hdN ns%3).toNat 9 (ccN (hdN ns) many) (1+hdN ns/3%8).toNat,(stN ns many (hdN ns) (lsN8 (hdN ns) b2 (1+hdN ns/3%8).toNat) (nmB (hdN ns%3).toNat 9 (ccN (hdN ns) many) (1+hdN ns/3%8).toNat) b0 b1 b2 b3 b4 (many+1)).1)
noncomputable def bkT8(ns:List Int)(many:Nat)(b0 b1 b2 b3 b4:Int):List (Str×Int)×List Str×List Fn:=
 ((lT ns 8 b2).1,nmB (t1T ns).1.toNat 9 (t3T ns 8 b2 many).1.toNat (lT ns 8 b2).1.length,(stT ns many (t4T ns 8 b2 many).1 (lT ns 8 b2).1 (nmB (t1T ns).1.toNat 9 (t3T ns 8 b2 many).1.toNat (lT ns 8 b2).1.length) b0 b1 b2 b3 b4 (many+1)).1)
noncomputable def bkF8(ns:List Int)(many:Nat)(b0 b1 b2 b3 b4:Int):List (Str×Int)×List Str×List Fn:=if 10^18<=abI (Pr.cell ns 0)then bkT8 ns many b0 b1 b2 b3 b4 else bkN8 ns many b0 b1 b2 b3 b4
section
variable{ls:List (Str×Int)}{names:List Str}{fs:List Fn}{M:List (List Int)}{gs:List Int}{E E':List (List (Int×Int))}
theorem j3s(X:BkR (nmsOf ls) names fs M gs E)(f:1<=fs.length)(d:E'.length=(drawnPs names fs).length)(e:EndOk ls (drawnPs names fs) E')(t:Int):standH ls (drawnPs names fs) gs E' t=plN (nmsOf ls) names fs gs E (fs.length-1) t (ls.map (·.2)):=by
 have b:fs.length<=61:=by have:=X.f17;lia
 have a:fs.take (fs.length-1+1)=fs:=by rw[show fs.length-1+1=fs.length by lia,v3]
 have c:gs.take (fs.length-1+1)=gs:=by rw[show fs.length-1+1=gs.length by have:=X.D.gl;lia,v3]
 have h:=j26 (ls':=ls) (E':=E') (j:=fs.length-1) (t:=t) X.D X.hnm X.nd X.lnd X.l8 b rfl (n:=fs.length) (by lia) (vb _) X.e (by rw[a];exact d) (by rw[a];exact e);rw[a,c]at h;exact h
noncomputable def smP(L names:List Str)(fs:List Fn)(gs:List Int)(E:List (List (Int×Int)))(h:List Int)(k:Nat)(o:Option Int)(n:Nat):Int:=smB (fun j=>wA o ((plN L names fs gs E (fs.length-1) j h).getD k 0)) n
theorem j3m:smP L names fs gs E h k o (n+1)=smP L names fs gs E h k o n+wA o ((plN L names fs gs E (fs.length-1) (n:Int) h).getD k 0):=rfl
theorem j3x(X:BkR (nmsOf ls) names fs M gs E)(a:1<=fs.length)(b:E'.length=(drawnPs names fs).length)(c:EndOk ls (drawnPs names fs) E'):tlN ls (drawnPs names fs) gs E' k o t=smP (nmsOf ls) names fs gs E (ls.map (·.2)) k o t.toNat:=by
 unfold tlN smP;exact qV fun j _=>by rw[j3s X a b c]
theorem j1o{ls:List (Str×Int)}{names:List Str}{fs:List Fn}{M:List (List Int)}{gs:List Int}(D:DOk (nmsOf ls) fs M gs)(s:∀x∈nmsOf ls,Ws.isW x=true)(t:∀x∈names,Ws.isW x=true)(u:fs.length<=names.length):∀p∈drawnPs names fs,FmWs p.2:=by
 have g:∀{j:Nat},j<fs.length->Ws.isW (names.getD j ⟨#[]⟩)=true:=fun h=>t _ (getD_in (by lia))
 intro p r;obtain⟨i,q⟩:=List.mem_iff_getElem?.mp r;obtain⟨f,n,rfl⟩:=Qg q;have w:=(vx.mp n).1;have a:=(D.f i f n).1;cases f with
 | hold m=>exact⟨by have:=a.1;lia,a.2⟩
 | ring x m=>exact⟨a.2.2,by have:=a.1;lia,a.2.1⟩
 | rise x v m=>
  obtain⟨⟨j,d⟩,l,b,c,o⟩:=a;exact⟨s x (vm d),l,b,by lia,o⟩
 | row is=>
  obtain⟨_,b,c⟩:=a;refine⟨by rw[vt];exact b,fun x e=>?_⟩;obtain⟨j,d,rfl⟩:=vK.mp e;exact g (by have:=c j d;lia)
 | side is=>
  obtain⟨_,b,c,_⟩:=a;refine⟨by rw[vt];exact b,fun x e=>?_⟩;obtain⟨j,d,rfl⟩:=vK.mp e;exact g (by have:=c j d;lia)
 | again k j=>
  obtain⟨l,b,c⟩:=a;exact⟨by lia,b,g (by lia)⟩
end
end Rm
namespace L2
inductive IvA2(a0 a1:Prop):Prop | mk:a0->a1->IvA2 a0 a1
inductive IvA3(a0 a1 a2:Prop):Prop | mk:a0->a1->a2->IvA3 a0 a1 a2
inductive IvA4(a0 a1 a2 a3:Prop):Prop | mk:a0->a1->a2->a3->IvA4 a0 a1 a2 a3
inductive IvA5(a0 a1 a2 a3 a4:Prop):Prop | mk:a0->a1->a2->a3->a4->IvA5 a0 a1 a2 a3 a4
inductive IvA6(a0 a1 a2 a3 a4 a5:Prop):Prop | mk:a0->a1->a2->a3->a4->a5->IvA6 a0 a1 a2 a3 a4 a5
inductive IvA7(a0 a1 a2 a3 a4 a5 a6:Prop):Prop | mk:a0->a1->a2->a3->a4->a5->a6->IvA7 a0 a1 a2 a3 a4 a5 a6
inductive IvA9(a0 a1 a2 a3 a4 a5 a6 a7 a8:Prop):Prop | mk:a0->a1->a2->a3->a4->a5->a6->a7->a8->IvA9 a0 a1 a2 a3 a4 a5 a6 a7 a8
inductive IvA10(a0 a1 a2 a3 a4 a5 a6 a7 a8 a9:Prop):Prop | mk:a0->a1->a2->a3->a4->a5->a6->a7->a8->a9->IvA10 a0 a1 a2 a3 a4 a5 a6 a7 a8 a9
inductive IvA14(a0 a1 a2 a3 a4 a5 a6 a7 a8 a9 a10 a11 a12 a13:Prop):Prop | mk:a0->a1->a2->a3->a4->a5->a6->a7->a8->a9->a10->a11->a12->a13->IvA14 a0 a1 a2 a3 a4 a5 a6 a7 a8 a9 a10 a11 a12 a13
inductive IvE1{α0:Type}(p:α0->Prop):Prop | mk (x0) (h:p x0):IvE1 p
inductive IvE2{α0 α1:Type}(p:α0->α1->Prop):Prop | mk (x0 x1) (h:p x0 x1):IvE2 p
inductive IvE3{α0 α1 α2:Type}(p:α0->α1->α2->Prop):Prop | mk (x0 x1 x2) (h:p x0 x1 x2):IvE3 p
inductive IvE4{α0 α1 α2 α3:Type}(p:α0->α1->α2->α3->Prop):Prop | mk (x0 x1 x2 x3) (h:p x0 x1 x2 x3):IvE4 p
inductive IvE5{α0 α1 α2 α3 α4:Type}(p:α0->α1->α2->α3->α4->Prop):Prop | mk (x0 x1 x2 x3 x4) (h:p x0 x1 x2 x3 x4):IvE5 p
inductive IvE6{α0 α1 α2 α3 α4 α5:Type}(p:α0->α1->α2->α3->α4->α5->Prop):Prop | mk (x0 x1 x2 x3 x4 x5) (h:p x0 x1 x2 x3 x4 x5):IvE6 p
inductive IvE7{α0 α1 α2 α3 α4 α5 α6:Type}(p:α0->α1->α2->α3->α4->α5->α6->Prop):Prop | mk (x0 x1 x2 x3 x4 x5 x6) (h:p x0 x1 x2 x3 x4 x5 x6):IvE7 p
inductive IvE8{α0 α1 α2 α3 α4 α5 α6 α7:Type}(p:α0->α1->α2->α3->α4->α5->α6->α7->Prop):Prop | mk (x0 x1 x2 x3 x4 x5 x6 x7) (h:p x0 x1 x2 x3 x4 x5 x6 x7):IvE8 p
inductive IvE9{α0 α1 α2 α3 α4 α5 α6 α7 α8:Type}(p:α0->α1->α2->α3->α4->α5->α6->α7->α8->Prop):Prop | mk (x0 x1 x2 x3 x4 x5 x6 x7 x8) (h:p x0 x1 x2 x3 x4 x5 x6 x7 x8):IvE9 p
inductive IvE10{α0 α1 α2 α3 α4 α5 α6 α7 α8 α9:Type}(p:α0->α1->α2->α3->α4->α5->α6->α7->α8->α9->Prop):Prop | mk (x0 x1 x2 x3 x4 x5 x6 x7 x8 x9) (h:p x0 x1 x2 x3 x4 x5 x6 x7 x8 x9):IvE10 p
end L2
theorem L2.fsc(a:sc.kind = .function:=by rfl)(b:sc.isCoroutine=false:=by rfl)(c:sc.isGenerator=false:=by rfl)(d:N.Nodup:=by decide +kernel)(e:N.take P.length=P:=by rfl)(f:∀x∈P,sc.names.lookup x=some .local\/sc.names.lookup x=some .cell:=by decide +kernel)(g:∀y∈sc.names,y.2≠.free:=by decide +kernel):L2.FnScope N P sc:=⟨a,b,c,d,e,f,g⟩
structure PySem.W.Fast:Prop where
  (tw15287101204935337423 tw11860639007526101734 tw18166075165742965099 tw11576849528419080971 tw14152637353741715297 tw1755463759176794033 tw12349603574979045617 tw11837473873590700730 tw7626318806011630740 tw9516388018771757002 tw6324992407244538712 tw5329069663245292848 tw12500094476796542407 tw4186012726163919947 tw12113256706845564641 tw8582822163021062221 tw8709164598656051156 tw343587993428451572 tw16358347589308276400 tw14965897256843092691 tw4542342545313579417 tw15565198946218916518 tw46041608330375294 tw15680661912420206662 tw5115878875717170013 tw17601865725478409704 tw14719219042525265903 tw1962093799731152898 tw18159227869888711540 tw17005829296545694426 tw5418080855138575042 tw6569762917241631135 tw14805656610160735014 tw1686572926224644363 tw4645489190079250682 tw17021974103494307435 tw16598684146338025061 tw8127774703094384306 tw15345523792848639931 tw12795733980218016206 tw4977158719202903535 tw12737129748819953804 tw3387498242659670916 tw3795610411145221221 tw13763006757952495630 tw16245176947578583521 tw9534774085271957273 tw12679630862225195643 tw5364082879515133377 tw5735879029299433083 tw8821210503961162877 tw7236128583991035181 tw2761951491745274233 tw10766260241765431204 tw13038091374951996098 tw4667502609644676060 tw7374413392357181352 tw10761258876828818906 tw8534259572984102770 tw9718223622280066828 tw10271223144119173595 tw10559392447992696154 tw13304748698953295895 tw2772628350015911839 tw13975493654334948835 tw6715499071557327707 tw17535973329873722343 tw12718346281815313783 tw10354614948771078079 tw8728019990941373506 tw13549959166214025703 tw12746122086613959468 tw1616233490433021097 tw14344551418957404039 tw14419877730659436189 tw11055723391686552525 tw7740262900448360199 tw16086013675317861554 tw3820945131560723780 tw852049997250987791 tw11137985940394989578 tw3355979764393237049 tw2936414418347209477 tw15141314629546721192 tw4328849244719381862 tw5215581810648824770 tw9830672324451810971 tw10622234136042356165 tw13470752541046282338 tw4596523856878961094 tw11372244217846710791 tw13206019941003289298 tw5152167601407499892 tw11643568240878756177 tw17152883110733598635 tw12396296659414044789 tw4870611533996339085 tw15513223341710232662 tw11976067107525645610 tw656209003749276633 tw8802488472402946555 tw11308506786915502627 tw11035020538653145698 tw11202042536274860422 tw17858441904627725846 tw13760413157073053902 tw9450236123350171339 tw15813161202106760669 tw1455756947982654311 tw1383904409608598118 tw5200232388793284092 tw8882718760153462099 tw14980794641653613836 tw6917020765378446083 tw14602428489089293253 tw1638792733422431259 tw4973994115937150306 tw4167284420964547011 tw15837696212023414908 tw14619169448860969638 tw9716762110908327899 tw11609942533110448899 tw4519481065987515305 tw11155157202824127722 tw6159157205839854253 tw13224675090108080359 tw12749570270134987378 tw14483814920062400266 tw16523484613072472465 tw5499375180468178760 tw15308638506543631487 tw14843000749923693110 tw13618783956633578651 tw2595910459336838771 tw14424783873572879979 tw12383149495821172431 tw414407794510140101 tw1508824705819309280 tw5068712925385216658 tw17887882979198632490 tw16233454484722573264 tw17679323259463850988 tw4369494222849126647 tw3275728952719126803 tw7681395665852023570 tw15803189575218968085 tw12028387178514413572 tw15790078516669375245 tw18361395895835787933 tw3208585785839401516 tw18138478866293287382 tw1063737790473577293 tw7051368429380766337 tw6645866761205070855 tw6467487486822460321 tw14021117006632627316 tw17713634102619560246 tw6358683278595956387 tw2540380307950181626 tw12026730386495908923 tw15846765857262146253 tw964004126106506699 tw12965150041544485694 tw1473355970033194685 tw16623565121907655059 tw1610473371143696313 tw625777316709091992 tw4727426808805251341 tw7728336381346484608 tw1660923569249828135 tw14086832455654899976 tw15368521388286103901 tw10311710688581567783 tw4207226201750094449 tw810896984335372721 tw1419280219025815817 tw9075736068759881997 tw14415130187221524065 tw6800404209984373882 tw2142926217810787056 tw7871361482264411499 tw2569082297787034408 tw598448309943225556 tw13595662350566473800 tw5198017192447208550 tw16430625074766040323 tw3326389353550062181 tw6812963420108131761 tw10246812902811338237 tw12778109616253536711 tw8568312361044875174 tw15120192350747079361 tw12756863785258926536 tw16849781819699412423 tw4042773013450670176 tw12496014077381872600 tw15444193046126711331 tw13529015416025250978 tw11114812475467476678 tw1102599517005240405 tw16191969452336083314 tw16990820876030107152 tw11717090378444000568 tw5914194452096401425 tw12382683889412790579 tw187463689092700130 tw9135724345671482875 tw16164538421141451756 tw2971482247646342441 tw14861740402041861386 tw7156693772460920231 tw12369978086580040774 tw15981691666598561028 tw383366774980144029 tw4486981566035241988 tw1434537936618307908 tw4649430539629625287 tw5007049097661267080 tw16237442678319006602 tw5476388917426523741 tw1830588611379465299 tw3663174222600278842 tw1939649498186359790 tw7374490465012842488 tw13310810877333756441 tw10292269256788584921 tw3657771103184236057 tw16754228988149465476 tw1878009224298095052 tw17224228700108649742 tw6029573203918129675 tw4437273590588984976 tw7691672461782482313 tw8651735657494466154 tw18044442434236934888:True)
namespace L2
open PySem PySem.Spec PyProof.Rows
structure Dfn(K:Frg)(mg:Str->Option Value)(x:Str)(st:Stmt)(f:Addr)(d:FuncData)(ps:List Str):Prop where
  F:Fun K x x st f d
  m:mg x=some (.ref f)
  B:Binds K d ps []
theorem ju{X:Cx}{x:Str}{st:Stmt}{f:Addr}{g:FuncData}{ps:List Str}{j k:Nat}{sp:Sp}{e:Expr}{a:List Expr}{p b:Pos}{t:TA}(D:Dfn X.K X.mg x st f g ps)(F:FnOk X.prog X.w X.K X.mg X.base CX0 j f g ps sp)(n:Room k X.A)(h:PA X (e::a) t)(m:j<=k:=by decide)(l:Gl X x:=by rfl)(c:(x==("__debug__" : Str))=false:=by decide)(i:starEach (e::a) X.env=(false,eval e X.env)::starEach a X.env:=by rfl)(d:(backTo b (starEach a X.env)).any (·.1)=false:=by rfl):PE X (.Call (.Name x p) (e::a) [] b) (tCall sp [] E0 t):=YG (F.mono m) n l D.m D.F.kp D.B .nil pass0 h c i d
end L2
local macro_rules | `(tactic| specialize $e) => do
  let i:=fun(k:String)=>Lean.mkIdent (Lean.Name.mkSimple k)
  `(tactic| (refine $e (fun $(i "vs") $(i "H") $(i "Q") $(i "E") $(i "h")=>?_) (fun $(i "cdv") $(i "A") $(i "outer") $(i "s") $(i "H") $(i "vs") $(i "Q") $(i "E") $(i "hr") $(i "h")=>?_);focus (cases $(i "h"):ident;subst_vars;rfl)))
theorem Rm.iteE0{b:Bool}{A B:Prop}(h:B)(e:b=false:=by decide +kernel):if b=true then A else B:=Rm.iteB0 e h
theorem Rm.iteE1{b:Bool}{A B:Prop}(h:A)(e:b=true:=by decide +kernel):if b=true then A else B:=Rm.iteB1 e h
namespace K22
open PySem L2 Rm
noncomputable def top(i:Nat):Stmt:=PySem.Challenge.pw_camplay_k22_heights_summed.main.body.getD i (.Pass ⟨0,0,0,0⟩)
noncomputable abbrev ZC:Stmt:=top 8
theorem QJ:FnScope ["named","numbers","number","one"] ["named"] (defScope ZC):=fsc
noncomputable abbrev y6:Stmt:=top 9
theorem XI:FnScope ["form"] ["form"] (defScope y6):=fsc
noncomputable abbrev Kr:Stmt:=top 11
theorem ym:FnScope ["book","numbers","found","name","form"] ["book"] (defScope Kr):=fsc
noncomputable abbrev j0k:Stmt:=top 12
theorem zH:FnScope ["book","limbs","found","part","inside","form","left","other"] ["book"] (defScope j0k):=fsc
noncomputable abbrev Ks:Stmt:=top 13
theorem K8:FnScope ["book","found","left"] ["book"] (defScope Ks):=fsc
noncomputable abbrev zb:Stmt:=top 14
theorem zQ:FnScope ["row","moves","limbs","number","limb"] ["row","moves","limbs"] (defScope zb):=fsc
noncomputable abbrev yj:Stmt:=top 15
theorem xD:FnScope ["form","inside"] ["form","inside"] (defScope yj):=fsc
noncomputable abbrev zY:Stmt:=top 16
theorem Qe:FnScope ["book","moves","found","row","inside","form","length"] ["book"] (defScope zY):=fsc
noncomputable abbrev yi:Stmt:=top 18
theorem Jw:FnScope ["many","top","plus","bottom","total","slope","reach"] ["many","top","plus","bottom"] (defScope yi):=fsc
noncomputable abbrev y9:Stmt:=top 20
theorem XJ:FnScope ["start","goal","beats","many"] ["start","goal","beats","many"] (defScope y9):=fsc
noncomputable abbrev kG:Stmt:=top 21
theorem j0l:FnScope ["start","goal","beats","height"] ["start","goal","beats","height"] (defScope kG):=fsc
noncomputable abbrev kH:Stmt:=top 22
theorem ZF:FnScope ["start","goal","beats","height","many","beyond","first","behind"] ["start","goal","beats","height","many"] (defScope kH):=fsc
noncomputable abbrev ZD:Stmt:=top 23
theorem yH:FnScope ["start","goal","beats","height","many","found"] ["start","goal","beats","height","many"] (defScope ZD):=fsc
noncomputable abbrev yk:Stmt:=top 25
theorem qc:FnScope ["form","inside","sizes","part","later","found","begin"] ["form","inside","sizes"] (defScope yk):=fsc
noncomputable abbrev zG:Stmt:=top 26
theorem xE:FnScope ["book","sizes"] ["book","sizes"] (defScope zG):=fsc
noncomputable abbrev y8:Stmt:=top 27
theorem qE:FnScope ["pieces","sizes","gone","found","part","turns","begin","over","rest"] ["pieces","sizes","gone"] (defScope y8):=fsc
noncomputable abbrev Qa:Stmt:=top 28
theorem j7:FnScope ["pieces","left","first","found","part","height","now","other","turns","begin"] ["pieces","left","first"] (defScope Qa):=fsc
noncomputable abbrev JM:Stmt:=(inClass (top 29) 0)
theorem qb:FnScope ["self","book","name","limb","left","inside"] ["self","book","name"] (defScope JM):=fsc
noncomputable abbrev QY:Stmt:=(inClass (top 29) 1)
theorem kJ:FnScope ["self","part"] ["self","part"] (defScope QY):=fsc
noncomputable abbrev kI:Stmt:=top 31
theorem j0m:FnScope ["asked","start","goal","beats","many"] ["asked","start","goal","beats","many"] (defScope kI):=fsc
noncomputable abbrev K7:Stmt:=top 32
theorem j1X:FnScope ["asked","height","many"] ["asked","height","many"] (defScope K7):=fsc
noncomputable abbrev JL:Stmt:=(inClass (top 33) 0)
theorem JF:FnScope ["self","book","limb","asked","part","begun","size"] ["self","book","limb","asked"] (defScope JL):=fsc
noncomputable abbrev Qd:Stmt:=(inClass (top 33) 1)
theorem jP:FnScope ["self","part","height","gone","told","now","other","begin","over","rest"] ["self","part","height","gone"] (defScope Qd):=fsc
noncomputable abbrev Qs:Stmt:=(inClass (top 33) 2)
theorem Jl:FnScope ["self","beat","told","playing","found"] ["self","beat"] (defScope Qs):=fsc
noncomputable abbrev yZ:Stmt:=top 34
theorem XH:FnScope ["tally","beat"] ["tally","beat"] (defScope yZ):=fsc
noncomputable abbrev ZB:Stmt:=top 35
theorem wM:FnScope ["book","limb","beat"] ["book","limb","beat"] (defScope ZB):=fsc
noncomputable abbrev zo:Stmt:=top 37
theorem Ke:FnScope ["_law_script","_law_k"] ["_law_script","_law_k"] (defScope zo):=fsc
noncomputable abbrev Zx:Stmt:=top 38
theorem wK:FnScope ["_law_cell","_law_k"] ["_law_cell","_law_k"] (defScope Zx):=fsc
noncomputable abbrev ZA:Stmt:=top 39
theorem wL:FnScope ["_law_found"] ["_law_found"] (defScope ZA):=fsc
noncomputable abbrev yh:Stmt:=top 40
theorem xC:FnScope ["_law_place","_law_k"] ["_law_place","_law_k"] (defScope yh):=fsc
noncomputable abbrev za:Stmt:=top 41
theorem JQ:FnScope ["_law_number","_law_names","_law_movers","_law_kind","_law_some","_law_used","_law_j","_law_at","_law_twice"] ["_law_number","_law_names","_law_movers","_law_kind"] (defScope za):=fsc
noncomputable abbrev yd:Stmt:=top 42
theorem qO:FnScope ["_law_number","_law_names","_law_movers","_law_limbs","_law_bounds","_law_kind","_law_more","_law_beats","_law_at"] ["_law_number","_law_names","_law_movers","_law_limbs","_law_bounds"] (defScope yd):=fsc
noncomputable abbrev QU:Stmt:=top 43
theorem xB:FnScope ["_law_form_here","_law_known"] ["_law_form_here","_law_known"] (defScope QU):=fsc
noncomputable abbrev Zy:Stmt:=top 44
theorem JP:FnScope ["_law_form_here","_law_names","_law_movers","_law_inner","_law_found","_law_name","_law_one"] ["_law_form_here","_law_names","_law_movers"] (defScope Zy):=fsc
noncomputable abbrev ye:Stmt:=top 45
theorem Qt:FnScope ["_law_names","_law_known","_law_most","_law_some","_law_total","_law_name"] ["_law_names","_law_known","_law_most"] (defScope ye):=fsc
noncomputable abbrev yf:Stmt:=top 46
theorem YQ:FnScope ["_law_pool","_law_many","_law_found"] ["_law_pool","_law_many"] (defScope yf):=fsc
noncomputable abbrev qU:Stmt:=top 47
theorem Jf:FnScope ["_law_pool","_law_kind","_law_names","_law_movers","_law_bounds","_law_times","_law_many","_law_some","_law_used","_law_j","_law_at","_law_twice"] ["_law_pool","_law_kind","_law_names","_law_movers","_law_bounds"] (defScope qU):=fsc
noncomputable abbrev QE:Stmt:=top 48
theorem JN:FnScope ["_law_pool","_law_names","_law_movers","_law_limbs","_law_bounds","_law_kind","_law_beats","_law_limb","_law_some"] ["_law_pool","_law_names","_law_movers","_law_limbs","_law_bounds"] (defScope QE):=fsc
noncomputable abbrev QD:Stmt:=top 49
theorem jC:FnScope ["_law_script","_law_many","_law_bounds","_law_pool","_law_place","_law_limbs","_law_k","_law_called","_law_ended","_law_names","_law_movers","_law_known","_law_parts","_law_cell","_law_own","_law_form_here","_law_name"] ["_law_script","_law_many","_law_bounds"] (defScope QD):=fsc
noncomputable abbrev yc:Stmt:=top 50
theorem jT:FnScope ["_law_script","_law_many","_law_bounds","_law_head","_law_limbs","_law_k","_law_height","_law_names","_law_movers","_law_known","_law_parts","_law_number","_law_form_here","_law_name"] ["_law_script","_law_many","_law_bounds"] (defScope yc):=fsc
noncomputable abbrev qT:Stmt:=top 51
theorem jZ:FnScope ["_law_book_here","_law_names","_law_heights","_law_runs","_law_rows","_law_j","_law_now","_law_words","_law_some","_law_behind","_law_there","_law_limb"] ["_law_book_here","_law_names","_law_heights"] (defScope qT):=fsc
noncomputable abbrev zp:Stmt:=top 52
theorem qi:FnScope ["_law_form_here","_law_heights","_law_rows","_law_start","_law_j","_law_now"] ["_law_form_here","_law_heights"] (defScope zp):=fsc
noncomputable abbrev Zz:Stmt:=top 53
theorem Jn:FnScope ["_law_book_here","_law_name","_law_heights","_law_form_here","_law_rows","_law_inner","_law_one","_law_more"] ["_law_book_here","_law_name","_law_heights"] (defScope Zz):=fsc
noncomputable abbrev yg:Stmt:=top 54
theorem ZE:FnScope ["_law_book_here","_law_rows","_law_heights"] ["_law_book_here"] (defScope yg):=fsc
noncomputable abbrev j3i:Stmt:=top 55
theorem zR:FnScope ["_law_script","_law_many","_law_book_here","_law_beats","_law_limb","_law_rows","_law_due","_law_beat","_law_found"] ["_law_script"] (defScope j3i):=fsc
set_option genInjectivity false in
set_option genSizeOf false in
structure Ad where
 qH:Addr
 qJ:FuncData
 Zg:Addr
 Zl:FuncData
 Yk:Addr
 Yt:FuncData
 WF:Addr
 WS:FuncData
 WG:Addr
 WT:FuncData
 Q5:Addr
 Q8:FuncData
 zu:Addr
 zB:FuncData
 Y1:Addr
 Y9:FuncData
 zt:Addr
 zA:FuncData
 yP:Addr
 yT:FuncData
 yu:Addr
 yw:FuncData
 Y2:Addr
 ka:FuncData
 Zi:Addr
 Zn:FuncData
 zw:Addr
 zC:FuncData
 ZX:Addr
 Z1:FuncData
 Zh:Addr
 Zm:FuncData
 qX:Addr
 qZ:FuncData
 JH:Addr
 qu:FuncData
 qe:Addr
 qf:FuncData
 Y3:Addr
 kc:FuncData
 Yl:Addr
 Yu:FuncData
 Jm:Addr
 JI:FuncData
 JB:Addr
 JC:FuncData
 qr:Addr
 qt:FuncData
 yO:Addr
 yS:FuncData
 Zf:Addr
 Zk:FuncData
 JS:Addr
 JV:FuncData
 qG:Addr
 qI:FuncData
 Q4:Addr
 Q7:FuncData
 QP:Addr
 QT:FuncData
 Q3:Addr
 Q6:FuncData
 ZV:Addr
 ZZ:FuncData
 QN:Addr
 QR:FuncData
 Ql:Addr
 Qm:FuncData
 QM:Addr
 QQ:FuncData
 QO:Addr
 QS:FuncData
 zL:Addr
 zN:FuncData
 Qz:Addr
 QB:FuncData
 Qy:Addr
 QA:FuncData
 ZU:Addr
 ZY:FuncData
 zK:Addr
 zM:FuncData
 qx:Addr
 qz:FuncData
 qy:Addr
 qA:FuncData
 ZW:Addr
 Z0:FuncData
 j2d:Addr
 j0B:FuncData
 jU:Addr
 jM:Addr
 qP:Addr
structure Txt(K:Frg)(mg:Str->Option Value)(t:Ad):Prop where
 Q1:Dfn K mg "numbers_of" ZC t.qH t.qJ ["named"]
 Kx:Dfn K mg "names_in" y6 t.Zg t.Zl ["form"]
 Kf:Dfn K mg "inner" Kr t.Yk t.Yt ["book"]
 XS:Dfn K mg "ends" j0k t.WF t.WS ["book"]
 j0v:Dfn K mg "moved" Ks t.WG t.WT ["book"]
 Ye:Dfn K mg "check_side" zb t.Q5 t.Q8 ["row","moves","limbs"]
 kO:Dfn K mg "length_of" yj t.zu t.zB ["form","inside"]
 wO:Dfn K mg "lengths" zY t.Y1 t.Y9 ["book"]
 kN:Dfn K mg "floor_sum" yi t.zt t.zA ["many","top","plus","bottom"]
 Kz:Dfn K mg "ramp_sum" y9 t.yP t.yT ["start","goal","beats","many"]
 YW:Dfn K mg "reached" kG t.yu t.yw ["start","goal","beats","height"]
 wP:Dfn K mg "stretch" kH t.Y2 t.ka ["start","goal","beats","height","many"]
 Yg:Dfn K mg "ramp_count" ZD t.Zi t.Zn ["start","goal","beats","height","many"]
 kP:Dfn K mg "pieces_in" yk t.zw t.zC ["form","inside","sizes"]
 kQ:Dfn K mg "pieces_of" zG t.ZX t.Z1 ["book","sizes"]
 Ky:Dfn K mg "progress" y8 t.Zh t.Zm ["pieces","sizes","gone"]
 ZH:Dfn K mg "heights_begun" Qa t.qX t.qZ ["pieces","left","first"]
 Yi:Fun K "__init__" "Strand.__init__" JM t.JH t.qu
 j06:Meth K t.jU "__init__" t.JH
 Yb:Binds K t.qu ["self","book","name"] []
 Ka:Fun K "raises" "Strand.raises" QY t.qe t.qf
 kz:Meth K t.jU "raises" t.qe
 kZ:Binds K t.qf ["self","part"] []
 wQ:Dfn K mg "weighed" kI t.Y3 t.kc ["asked","start","goal","beats","many"]
 KA:Dfn K mg "stayed" K7 t.Yl t.Yu ["asked","height","many"]
 ZN:Fun K "__init__" "LimbTally.__init__" JL t.Jm t.JI
 xK:Meth K t.jM "__init__" t.Jm
 ZK:Binds K t.JI ["self","book","limb","asked"] []
 yJ:Fun K "within" "LimbTally.within" Qd t.JB t.JC
 QZ:Meth K t.jM "within" t.JB
 ze:Binds K t.JC ["self","part","height","gone"] []
 Yh:Fun K "ahead" "LimbTally.ahead" Qs t.qr t.qt
 yU:Meth K t.jM "ahead" t.qr
 Ya:Binds K t.qt ["self","beat"] []
 Kw:Dfn K mg "ahead_of" yZ t.yO t.yS ["tally","beat"]
 Yf:Dfn K mg "height_sum" ZB t.Zf t.Zk ["book","limb","beat"]
 Jz:Dfn K mg "_law_cell_at" zo t.JS t.JV ["_law_script","_law_k"]
 JG:Dfn K mg "_law_mixed" Zx t.qG t.qI ["_law_cell","_law_k"]
 Yd:Dfn K mg "_law_whole" ZA t.Q4 t.Q7 ["_law_found"]
 QL:Dfn K mg "_law_word" yh t.QP t.QT ["_law_place","_law_k"]
 Q0:Dfn K mg "_law_named" za t.Q3 t.Q6 ["_law_number","_law_names","_law_movers","_law_kind"]
 kL:Dfn K mg "_law_form" yd t.ZV t.ZZ ["_law_number","_law_names","_law_movers","_law_limbs","_law_bounds"]
 QK:Dfn K mg "_law_long" QU t.QN t.QR ["_law_form_here","_law_known"]
 Za:Dfn K mg "_law_moves" Zy t.Ql t.Qm ["_law_form_here","_law_names","_law_movers"]
 ZM:Dfn K mg "_law_last" ye t.QM t.QQ ["_law_names","_law_known","_law_most"]
 jR:Dfn K mg "_law_take" yf t.QO t.QS ["_law_pool","_law_many"]
 yE:Dfn K mg "_law_naming" qU t.zL t.zN ["_law_pool","_law_kind","_law_names","_law_movers","_law_bounds"]
 zT:Dfn K mg "_law_form_told" QE t.Qz t.QB ["_law_pool","_law_names","_law_movers","_law_limbs","_law_bounds"]
 zS:Dfn K mg "_law_book_told" QD t.Qy t.QA ["_law_script","_law_many","_law_bounds"]
 ZL:Dfn K mg "_law_book" yc t.ZU t.ZY ["_law_script","_law_many","_law_bounds"]
 QF:Dfn K mg "_law_beside" qT t.zK t.zM ["_law_book_here","_law_names","_law_heights"]
 Qh:Dfn K mg "_law_climbed" zp t.qx t.qz ["_law_form_here","_law_heights"]
 J2:Dfn K mg "_law_run" Zz t.qy t.qA ["_law_book_here","_law_name","_law_heights"]
 kM:Dfn K mg "_law_told" yg t.ZW t.Z0 ["_law_book_here"]
 j2a:Dfn K mg "law" j3i t.j2d t.j0B ["_law_script"]
 jX:Cls K t.jU
 j2c:Mk K t.jU t.JH
 j1D:mg "Strand"= some (.ref t.jU)
 qB:NoAttr K t.jU "first"
 Je:NoAttr K t.jU "sizes"
 qp:NoAttr K t.jU "left"
 Js:NoAttr K t.jU "pieces"
 Qp:NoAttr K t.jU "begun"
 jF:Cls K t.jM
 xL:Mk K t.jM t.Jm
 W7:mg "LimbTally"= some (.ref t.jM)
 jH:NoAttr K t.jM "strand"
 qM:NoAttr K t.jM "last"
 Jp:NoAttr K t.jM "asked"
 Jk:NoAttr K t.jM "wholes"
 j2f:mg "abs"= none
 j4H:mg "bool"= none
 yQ:mg "dict"= none
 zy:mg "enumerate"= none
 j5j:mg "int"= none
 Yo:mg "isinstance"= none
 JT:mg "len"= none
 j2g:mg "list"= none
 wR:mg "max"= none
 j0y:mg "min"= none
 qY:mg "range"= none
 XW:mg "reversed"= none
 j2h:mg "sorted"= none
 j4s:mg "sum"= none
 Kg:mg "tuple"= none
 j4t:mg "zip"= none
 WN:mg "MOST_NAMES"= some (.ref t.qP)
 qL:TabK K t.qP [("row",.flat (.int 8)),("side",.flat (.int 4))]
section
variable{P:Program}{w:World}{K:Frg}{mg:Str->Option Value}{base:Heap}{t:Ad}
theorem wI(T:Txt K mg t):FnOk P w K mg base CX0 1 t.qH t.qJ ["named"] (sp_numbers_of):=by
 specialize T.Q1.F.ok QJ;obtain⟨l,L,xs,rfl,x,R,O,U,B,q⟩:=h;refine⟨_,(jb (jr (i:=1) QJ.nd rfl (.inl rfl) Z7)
  (jb (Jd PassesOwn.never rfl (Kp (by rfl) T.zy (ja (pv 0) jc)) (Qc rfl (jL (jw (i:=2) QJ.nd rfl (.inl rfl)) (jL (jw (i:=3) QJ.nd rfl (.inl rfl)) J3)))
   (jg (zE (J1 hr) (pv 1) (jo jz (pv 3) jd) (pv 2) rfl)))
  (jg (jB (pv 1))))),?_⟩
 refine jE (σ':=[some _,none,none,none]) rfl ?_
 try dsimp only[cxOf,Cx.nox]
 have Y:(200:Nat)<sizeLine:=by decide
 walk_at"g";walk_at"f d hd H1 s1 t1";exists⟨l,_,rfl,SqL.of (s1 _ _ x),?_⟩;refine Yv (xs:=L.map V.ref) (fun i p c=>IvE2 fun(m n:Option V)=>IvA2 (p=[some (.ref l),some (.ref d),m,n]) (Same H c/\c d=some (.dK (numK (xs.take i))))) ⟨_,_,rfl,s1,t1⟩ ?_ ?_ ?_
 ·rintro i p c _ ⟨m,n,rfl,g,f⟩;exact SqL.of (g _ _ x)
 ·rintro i v p c P J D ⟨m,n,rfl,g,f⟩ I W;rw[vv]at D;obtain⟨a,s,rfl⟩:=vg.mp D;have X:=(vx.mp s).1;have A:xs[i]?=some xs[i]:=vz (by lia);obtain⟨r,N⟩:=O i a _ s A;have E:=g.trans I;have o:(xs.take i).length=i:=by rw[vi];lia
  refine QC (SqT.of W) ?_;exists ixTm (SqT.of (E _ _ N)) rfl ?_;refine⟨d,_,rfl,DPut.k (k:=Sum.inr xs[i]) (I _ _ f) (by rw[j2V,o];lia),?_⟩;have Q:(Sum.inr xs[i]:Key)∉(numK (xs.take i)).map (·.1):=fun z=>by
   rw[Wu]at z;obtain⟨y,S,e⟩:=vK.mp z;have M:y=xs[i]:=Sum.inr.inj e;subst M;obtain⟨j,C,e⟩:=mem_iff_getElem.mp S;rw[getElem_take]at e;rw[o]at C;exact uh e (pairwise_iff_getElem.mp U j i (by lia) (by lia) C)
  refine⟨_,_,rfl,fun b u h=>(jh (je h hd)).trans (E _ _ h),?_⟩;rw[jG,Rm.ya Q,take_snoc A,j1H,o]
 rintro σ' c ⟨m,n,rfl,g,f⟩;rw[vt,R,v3]at f;walk_at"g";exact q d c g hd f
theorem Xw(T:Txt K mg t):FnOk P w K mg base CX0 1 t.Zg t.Zl ["form"] (sp_names_in):=by
 specialize T.Kx.F.ok XI;obtain⟨a,f,rfl,d,q⟩:=h;refine⟨_,(jb (j3 (jt j51 (jo jz (pv 0) jd) (j4g (v:=.ref t.qP) (by rfl) T.WN rfl) (by with_unfolding_all rfl))
   (jg (jB (jo jz (pv 0) jd)))
   jA)
  (jg (jB (zW (jt Jc (jo jz (pv 0) jd) jJ (nomark _)) (zn j5e (pv 0) (Zu jd) Zt) (jN jc))))),?_⟩
 refine jE (σ':=[some _]) rfl ?_
 try dsimp only[cxOf,Cx.nox]
 have e:(200:Nat)<sizeLine:=by decide
 cases f with
 | hold n=>
  have c:H a=some (.tup _):=d;exists ixTm (SqT.of c) rfl ?_;exists⟨_,_,_,rfl,rfl,T.qL,?_⟩;exists iteE0 ?_;exists ixTm (SqT.of c) rfl ?_;exists iteE0 ?_;exists⟨va _,?_⟩;walk_at"f b hb H1 s1 t1";exact q b H1 s1 t1
 | ring x n=>
  have c:H a=some (.tup _):=d;exists ixTm (SqT.of c) rfl ?_;exists⟨_,_,_,rfl,rfl,T.qL,?_⟩;exists iteE0 ?_;exists ixTm (SqT.of c) rfl ?_;exists iteE0 ?_;exists⟨va _,?_⟩;walk_at"f b hb H1 s1 t1";exact q b H1 s1 t1
 | rise x v n=>
  have c:H a=some (.tup _):=d;exists ixTm (SqT.of c) rfl ?_;exists⟨_,_,_,rfl,rfl,T.qL,?_⟩;exists iteE0 ?_;exists ixTm (SqT.of c) rfl ?_;exists iteE0 ?_;exists⟨va _,?_⟩;walk_at"f b hb H1 s1 t1";exact q b H1 s1 t1
 | row ps=>
  obtain⟨b,c,hb⟩:=d;exists ixTm (SqT.of c) rfl ?_;exists⟨_,_,_,rfl,rfl,T.qL,?_⟩;exists iteE1 ?_;exists ixTm (SqT.of c) rfl ?_;exact q b H (Same.refl _) hb
 | side ps=>
  obtain⟨b,c,hb⟩:=d;exists ixTm (SqT.of c) rfl ?_;exists⟨_,_,_,rfl,rfl,T.qL,?_⟩;exists iteE1 ?_;exists ixTm (SqT.of c) rfl ?_;exact q b H (Same.refl _) hb
 | again k x=>
  have c:H a=some (.tup _):=d;exists ixTm (SqT.of c) rfl ?_;exists⟨_,_,_,rfl,rfl,T.qL,?_⟩;exists iteE0 ?_;exists ixTm (SqT.of c) rfl ?_;exists iteE1 ?_;exists⟨a,_,rfl,SqT.of c,(by show¬(HT.sIx 3 0 (some 2)=0/\HT.sIx 3 3 none=3);decide),?_⟩;walk_at"f b hb H1 s1 t1";exact q b H1 s1 t1
theorem j2W(T:Txt K mg t)(Ju:FnOk P w K mg base CX0 1 t.qH t.qJ ["named"] (sp_numbers_of))(yL:FnOk P w K mg base CX0 1 t.Zg t.Zl ["form"] (sp_names_in)):FnOk P w K mg base CX0 2 t.Yk t.Yt ["book"] (sp_inner):=by
 specialize T.Kf.F.ok ym;obtain⟨b,pl,pp,a0,D,ls,o,rfl,B,W,q⟩:=h;refine⟨_,(jb (jr (i:=1) ym.nd rfl (.inr rfl) (ju T.Q1 Ju hr (ja (jo jz (pv 0) jd) jc)))
  (jb (jr (i:=2) ym.nd rfl (.inl rfl) (jK jc))
  (jb (Jd PassesOwn.never rfl (Jh (jo jz (pv 0) jd)) (Qc rfl (jL (jw (i:=3) ym.nd rfl (.inl rfl)) (jL (jw (i:=4) ym.nd rfl (.inl rfl)) J3)))
   (jg (Jb (qh PySem.F.plainAttrs_list PySem.F.slot_list_append PySem.F.type_list_append jV (pv 2) (ja (qN (ow:=["other"]) (ci:=[1]) rfl (CompScope.of (defScope Kr) ["book","numbers","found","name","form"] rfl rfl (by decide +kernel)) (JR (by decide)) (xv (ju T.Kx yL hr (ja (pv 4) jc))) (fun _ _ _ _ _=>⟨(jw (i:=0) (JU ["book","numbers","found","name","form"] rfl (by decide +kernel)) rfl (.inl rfl)),Qq,(JK (J1 hr) (pv 1) (pv 0))⟩)) jc)))))
  (jg (jB (pv 2)))))),?_⟩
 refine jE (σ':=[some _,none,none,none,none]) rfl ?_
 try dsimp only[cxOf,Cx.nox]
 have sz:(200:Nat)<sizeLine:=by decide
 have a1:=W.p61;have pa:=B.pa.1;exists ixTm (SqT.of B.t) rfl ?_;exists⟨pp,D,nmsOf o,rfl,B.p,by rw[nmsOf,vt];exact pa,fun i a x ea R=>?_,W.pn,by rw[nmsOf,vt];lia,fun d H1 E hd ed=>?_⟩
 ·unfold nmsOf at R;rw[vv]at R;obtain⟨p,ep,rfl⟩:=vg.mp R;obtain⟨fb,hb,_⟩:=B.pa.2 i a p ea ep;exact⟨_,hb⟩
 exists⟨va _,?_⟩;walk_at"f l hl H2 s2 t2";have nl:=none_of E hl;have I:=E.trans s2;exists ixTm (SqT.of (I _ _ B.t)) rfl ?_;refine⟨pp,rfl,⟨_,SqL.of (I _ _ B.p)⟩,?_⟩;refine JW (xs:=D.map V.ref) (fun i σ f=>IvE3 fun(m:List Addr) (M N:Option V)=>IvA4 (σ=[some (.ref b),some (.ref d),some (.ref l),M,N]) (Same H1 f) (f l=some (.lst (m.map V.ref))) ((∀a∈m,H a=none/\a≠l)/\ListsAt f m ((o.take i).map fun p=>(inP o p.2).map fun j:Nat=>(j:Int))))
  ⟨[],_,_,rfl,s2,t2,(fun a h=>nomatch h),.nil⟩ ?_ ?_ ?_
 ·rintro i σ f _ ⟨m,M,N,rfl,s,v,C,z⟩;exact SqL.of ((E.trans s) _ _ B.p)
 ·rintro i x σ f L ⟨m,M,N,rfl,s,v,C,z⟩;obtain⟨a,p,rfl,X,fb,U,hf⟩:=B.pa.at_ref L;have hi:=(vx.mp X).1;have Z:=E.trans s;obtain⟨wn,w8⟩:=W.f i p X;have Y:=z.1;rw[vt,vi]at Y;refine QC (SqT.of (Z _ _ U)) ?_;exists⟨.inl ⟨rfl,_,SqL.of v⟩,?_⟩;exists⟨fb,p.2,rfl,FormAt.same Z hf,fun c J O hc=>?_⟩;refine⟨c,rfl,⟨_,SqT.of hc⟩,?_⟩;refine Yr (xs:=p.2.ns.map V.str) (fun j Q f=>Q=((p.2.ns.take j).map fun x=>(ixOf (nmsOf o) x:Int)).map V.int/\J=f) ⟨rfl,rfl⟩ ?_ ?_ ?_
  ·rintro j Q f _ ⟨rfl,rfl⟩;exact SqT.of hc
  ·rintro j x Q f L ⟨rfl,rfl⟩;rw[vv]at L;obtain⟨y,S,rfl⟩:=vg.mp L;have hj:=(vx.mp S).1;obtain⟨k,hk,ek⟩:=wn y (vm S);refine qa (σ':=[none,some _]) rfl ?_;exists iteT ?_;walk_at"g";have g:DGet J d (.str y) (some (.int (k:Nat))):=by
    have g:=DGet.k (k:=Sum.inr y) ((s.trans O) _ _ ed);rw[KW W.pn ek]at g;exact g
   refine⟨d,_,rfl,g,?_⟩;refine⟨by rw[vt,vt,vi];lia,?_,rfl⟩;rw[take_snoc S,vj,vj,<-Jg W.pn ek];rfl
  rintro Q f ⟨rfl,rfl⟩;rw[show(p.2.ns.map V.str).length=p.2.ns.length from vt _,v3];refine⟨by rw[vt,vt];lia,?_⟩;walk_at"f 4 t";have r:=O.trans s4;exists⟨l,_,_,rfl,rfl,r _ _ v,by rw[vt];lia,?_⟩;have A:p4≠l:=(je (O _ _ v) hp4).symm;have n4:H p4=none:=none_of (Z.trans O) hp4;refine⟨m++[p4],_,_,rfl,fun c u h=>(jh (je h hl)).trans ((s.trans r) _ _ h),?_,fun c n=>?_,?_⟩
  ·rw[jG,vj];rfl
  ·rcases vh.mp n with e | e
   ·exact C c e
   ·rw[vo.mp e];exact⟨n4,A⟩
  ·rw[take_snoc X,vj];refine All2.snoc (All2.monoM z fun c n ks h=>(jh (C c n).2).trans (r _ _ h)) ?_;have eq:List.map (fun j:Nat=>(j:Int)) (inP o p.2)=p.2.ns.map fun x=>(ixOf (nmsOf o) x:Int):=by
    unfold inP;rw[v4];rfl
   show upd H4 l _ p4=some (.lst (List.map V.int (List.map (fun j:Nat=>(j:Int)) (inP o p.2))));rw[jh A,t4,eq]
 rintro σ' J ⟨m,M,N,rfl,s,v,C,z⟩;rw[vt,pa,v3]at z;walk_at"g";exact q l m J (E.trans s) nl v (fun a ha=>(C a ha).1) z
theorem j4e(T:Txt K mg t)(Ju:FnOk P w K mg base CX0 1 t.qH t.qJ ["named"] (sp_numbers_of))(Q2:FnOk P w K mg base CX0 2 t.Yk t.Yt ["book"] (sp_inner)):FnOk P w K mg base CX0 3 t.WF t.WS ["book"] (sp_ends):=by
 specialize T.XS.F.ok zH;obtain⟨b,pl,pp,an,au,ls,ps,rfl,B,W,q⟩:=h;refine⟨_,(jb (jr (i:=1) zH.nd rfl (.inl rfl) (ju T.Q1 Ju hr (ja (jo jz (pv 0) jd) jc)))
  (jb (jr (i:=2) zH.nd rfl (.inl rfl) (jK jc))
  (jb (Jd PassesOwn.never rfl (j33 (by rfl) T.j4t (ja (jo jz (pv 0) jd) (ja (ju T.Kf Q2 hr (ja (pv 0) jc)) jc))) (Qc rfl (jL (jw (i:=3) zH.nd rfl (.inl rfl)) (jL (jw (i:=4) zH.nd rfl (.inl rfl)) J3)))
   (jb (jr (i:=5) zH.nd rfl (.inl rfl) (jo jz (pv 3) jd))
   (jb (jr (i:=6) zH.nd rfl (.inl rfl) Z7)
   (jb (qC (jt Jc (jo jz (pv 5) jd) jJ (nomark _))
    (jg (zE (J1 hr) (pv 6) (JK (J1 hr) (pv 1) (jo jz (pv 5) jd)) (jo jz (pv 5) jd) rfl))
    jA)
   (jb (Jd PassesOwn.never rfl (Jh (pv 4)) (jw (i:=7) zH.nd rfl (.inl rfl))
    (jg (Jb (qh PySem.F.plainAttrs_dict PySem.F.slot_dict_update PySem.F.type_dict_update j1G (pv 6) (ja (Jy (KF rfl) (by rfl) T.yQ Zj (ja (jo jv (pv 2) (pv 7)) jc)) jc)))))
   (jg (Jb (qh PySem.F.plainAttrs_list PySem.F.slot_list_append PySem.F.type_list_append jV (pv 2) (ja (jD (WP rfl) (by rfl) T.j2h j1k (ja (j53 PySem.F.plainAttrs_dict PySem.F.slot_dict_items PySem.F.type_dict_items j2N (pv 6)) jc)) jc)))))))))
  (jg (jB (pv 2)))))),?_⟩
 refine jE (σ':=[some _,none,none,none,none,none,none,none]) rfl ?_
 try dsimp only[cxOf,Cx.nox]
 have sz:(200:Nat)<sizeLine:=by decide
 have aK:=W.p61;have l8:=W.l8;have pa:=B.pa.1;have la:=B.la.1;exists ixTm (SqT.of B.t) rfl ?_;exists⟨pl,an,nmsOf ls,rfl,B.l,by rw[nmsOf,vt];exact la,fun i a x ea ex=>?_,W.ln,by rw[nmsOf,vt];lia,fun d H1 s1 hd ed=>?_⟩
 ·unfold nmsOf at ex;rw[vv]at ex;obtain⟨p,ep,rfl⟩:=vg.mp ex;exact⟨_,B.la.2 i a p ea ep⟩
 exists⟨va _,?_⟩;walk_at"f l hl H2 s2 t2";have nl:=none_of s1 hl;have ac:=s1.trans s2;have aD:d≠l:=je ed hl;exists ixTm (SqT.of (ac _ _ B.t)) rfl ?_;exists⟨b,pl,pp,an,au,ls,ps,rfl,B.same ac,W,fun li am H3 s3 al af aF lia=>?_⟩;walk_at"g";have C:=ac.trans s3;have ao:=lia.1;rw[vt]at ao;have aG:li≠l:=fun z=>by rw[z,t2]at al;cases al
 refine⟨pp,li,_,_,rfl,SqL.of (C _ _ B.p),SqL.of af,?_⟩;have a9:∀{c u},H c=some u->c≠l:=fun h=>je h nl
 have t3:H3 l=some (.lst []):=s3 _ _ t2;refine j40 (xs:=au.map V.ref) (ys:=am.map V.ref) (fun i σ H'=>IvE7 fun(U:List Addr) (E:List (List (Int×Int))) (o3 o4 o5 o6 O:Option V)=>IvA6 (σ=[some (.ref b),some (.ref d),some (.ref l),o3,o4,o5,o6,O]) (∀c u,c≠l->H3 c=some u->H' c=some u) (H' l=some (.lst (U.map V.ref))) (∀a∈U,H a=none/\a≠l) (E.length=i) (EndsAt H' U E/\EndOk ls ps E))
  (by rw[vt,vt];lia) ⟨[],[],_,_,_,_,_,rfl,fun c u _ h=>h,t3,(fun a h=>nomatch h),rfl,.nil,fun i p e _ h=>by simp at h⟩ ?_ ?_ ?_
 ·rintro i σ H' _ ⟨U,E,o3,o4,o5,o6,O,rfl,sm,e1,na,lE,aE,oE⟩;exact⟨SqL.of (sm _ _ (a9 B.p) (C _ _ B.p)),SqL.of (sm _ _ aG af)⟩
 ·rintro i u v σ H' P S hu hv ⟨U,E,o3,o4,o5,o6,O,rfl,sm,e1,na,lE,aE,oE⟩ sP tP;obtain⟨a,p,rfl,hp,fb,ag,hf⟩:=B.pa.at_ref hu;obtain⟨ia,is,rfl,ak,ay⟩:=lia.at_ref hv;rw[vv,hp]at ak;cases ak;have hi:=(vx.mp hp).1;have aA:ia∈am:=by
   rw[vv]at hv;obtain⟨a',ea,e'⟩:=vg.mp hv;injection e' with e';subst e';exact vm ea
  have aq:ia≠l:=fun z=>by have:=aF ia aA;rw[z,t2]at this;cases this
  have y:∀c u,c≠l->H3 c=some u->S c=some u:=fun c u X h=>sP _ _ (sm _ _ X h)
  have ah:S a=_:=y _ _ (a9 ag) (C _ _ ag);have Y:S ia=_:=y _ _ aq ay;have aw:S d=_:=y _ _ aD (s3 _ _ (s2 _ _ ed));have I:=sP _ _ e1;have a3:FormAt S fb p.2:=by
   have J:=FormAt.same C hf;generalize p.2=f at J;have np:∀{c:Addr} {xs:List V},H3 c=some (.tup xs)->c≠l:=fun h=>Jq h t3 (fun z=>by cases z)
   cases f with
   | row ps=>obtain⟨c,s,M⟩:=J;exact⟨c,y _ _ (np s) s,y _ _ (np M) M⟩
   | side ps=>obtain⟨c,s,M⟩:=J;exact⟨c,y _ _ (np s) s,y _ _ (np M) M⟩
   | hold n=>exact y _ _ (np J) J
   | ring x n=>exact y _ _ (np J) J
   | rise x g n=>exact y _ _ (np J) J
   | again x n=>exact y _ _ (np J) J
  have w8:=(W.f i p hp).2;have wr:=fun x h n (e:p.2 = .rise x h n)=>W.r i p.1 x h n (by rw[hp,<-e])
  have aB:=fun j=>W.inP_lt (j:=j) hp
  have ad:=KK W (by lia) oE;have ae:∀(j:Nat) (e:List (Int×Int)),E[j]?=some e->e.length<=8:=fun j e h=>Xb W (by lia) oE h
  refine QC (SqT.of tP) ?_;exists ixTm (SqT.of ah) rfl ?_;walk_at"g";walk_at"f dl hdl H5 s5 t5";exists⟨fun σ' H6=>σ'=[some (.ref b),some (.ref d),some (.ref l),some (.ref a),some (.ref ia),some (.ref fb),some (.ref dl),O]/\Same S H6/\H6 dl=some (.dK ((kv0 ls p.2).map iiK)),?_,?_⟩
  rotate_left
  ·by_cases a6:∃x h n,p.2 = .rise x h n
   ·obtain⟨x,h,n,e⟩:=a6;rw[e]at a3;have a4:H5 fb=some (.tup [.str "raise",.str x,.int h,.int n]):=s5 _ _ a3;obtain⟨j,N⟩:=wr x h n e;exists ixTm (SqT.of a4) rfl ?_;exists iteE1 ?_;exists ixTm (SqT.of a4) rfl ?_;exists ixTm (SqT.of a4) rfl ?_;have g:DGet H5 d (.str x) (some (.int (j:Nat))):=by
     have g:=DGet.k (k:=Sum.inr x) (s5 _ _ aw);rw[KW W.ln N]at g;exact g
    refine⟨d,_,rfl,g,?_⟩;refine⟨dl,_,rfl,DPut.k (k:=Sum.inl (j:Int)) t5 (by show 0<sizeLine;lia),?_⟩;refine⟨rfl,fun c u h=>(jh (je h hdl)).trans (s5 _ _ h),?_⟩;rw[jG,e];show _=some (HO.dK [iiK ((ixOf (nmsOf ls) x:Nat),h)]);rw[Jg W.ln N];rfl
   ·obtain⟨k,xs,hk,dk⟩:=j2B a3 fun x v n e=>a6 ⟨x,v,n,e⟩
    exists ixTm (SqT.of (s5 _ _ hk)) (at0) ?_;exists iteB0 dk ?_;exists⟨rfl,s5,?_⟩;rw[j44 fun x v n e=>a6 ⟨x,v,n,e⟩];exact t5
  rintro σ' H6 ⟨rfl,s6,t6⟩;walk_at"g";have ai:=s6 _ _ Y;have a8:∀{c u},S c=some u->c≠dl:=fun h=>je h hdl
  refine⟨ia,rfl,⟨_,SqL.of ai⟩,?_⟩;refine JW (xs:=((inP ps p.2).map fun j:Nat=>(j:Int)).map V.int) (fun t σ H7=>IvE2 fun(m:List (Int×Int)) (O:Option V)=>IvA5 (σ=[some (.ref b),some (.ref d),some (.ref l),some (.ref a),some (.ref ia),some (.ref fb),some (.ref dl),O]) (Same S H7) (H7 dl=some (.dK (m.map iiK))) ((m.map (·.1)).Nodup) (∀k v,(k,v)∈m↔LastIn E ((inP ps p.2).take t) k v\/(k,v)∈kv0 ls p.2))
   ⟨_,_,rfl,s6,t6,j4T _,fun k v=>⟨.inr,fun h=>h.elim (fun⟨ab,j,a1,e,_⟩=>by cases ab<;>simp at e) id⟩⟩ ?_ ?_ ?_
  ·rintro t σ H7 _ ⟨m,O,rfl,D,t7,A,m7⟩;exact SqL.of (D _ _ Y)
  ·rintro t x σ H7 hx ⟨m,O,rfl,D,t7,A,m7⟩;rw[vv,vv]at hx;obtain⟨jj,az,rfl⟩:=vg.mp hx;obtain⟨j,N,rfl⟩:=vg.mp az;have aI:=aB j (vm N);have e0:kv0 ls p.2=[]:=by
    rcases j4S (ps:=ps) (ls:=ls) p.2 with z | z
    ·rw[z]at N;simp at N
    ·exact z
   rw[e0]at m7;have hE:E[j]?=some (E.getD j []):=by rw[vy,vz (by lia)];rfl
   obtain⟨aj,ax,bs,a2,Q⟩:=aE.get hE;have ap:((E.getD j []).map (·.1)).Nodup:=((oE j _ _ (vz (by lia)) hE).1).imp fun h=>Int.ne_of_lt h
   have e8:=ae j _ hE;have k8:m.length<=8:=by
    have z:=yx (n:=ls.length) A fun k hk=>by
     obtain⟨L,a5,rfl⟩:=vK.mp hk;rcases(m7 L.1 L.2).mp a5 with⟨ab,Z,a1,_,o,_⟩ | o
     ·exact ad Z _ o
     ·exact nomatch o
    rw[vt]at z;lia
   exists⟨.inr (.inr (.inl ⟨rfl,.inl ⟨_,t7⟩⟩)),?_⟩;exists ixLm (SqL.of (D _ _ I)) (WJ (i:=(j:Int)) (by lia) ax) ?_;exists⟨aj,bs,E.getD j [],rfl,D _ _ (sP _ _ a2),Q.1,fun Z c L s M=>D _ _ (sP _ _ (Q.2 Z c L s M)),?_⟩;walk_at"f d2 hd2 H8 s8 t8";walk_at"g";rw[show([]:List (Key×V))=([]:List (Int×Int)).map iiK from rfl,Zq,KQ ap]at t8;have n2:dl≠d2:=je t7 hd2;refine⟨dl,d2,_,_,rfl,rfl,s8 _ _ t7,t8,n2,by rw[vt,vt];lia,?_⟩;rw[Zq];obtain⟨mn,mm⟩:=Wp A ap;refine⟨mergeI m (E.getD j []),_,rfl,fun c u h=>(jh (a8 h)).trans (s8 _ _ (D _ _ h)),jG,mn,fun k v=>?_⟩;rw[mm,m7,e0,take_snoc N,j1y];constructor
   ·rintro(h | ⟨s,h | h⟩)
    ·exact .inl (.inl h)
    ·exact .inl (.inr ⟨s,h⟩)
    ·exact nomatch h
   ·rintro((h | ⟨s,h⟩) | h)
    ·exact .inl h
    ·exact .inr ⟨s,.inl h⟩
    ·exact nomatch h
  rintro σ' H7 ⟨m,aJ,rfl,D,t7,A,m7⟩;rw[vt,vt,v3]at m7;have k8:m.length<=8:=by
   have z:=yx (n:=ls.length) A fun k hk=>by
    obtain⟨L,a5,rfl⟩:=vK.mp hk;rcases(m7 L.1 L.2).mp a5 with⟨ab,Z,a1,_,o,_⟩ | o
    ·exact ad Z _ o
    ·obtain⟨x,n,e,ek⟩:=W5.mp o;obtain⟨j,N⟩:=wr x _ n e;have h3:=j0M (vm N);have h4:(nmsOf ls).length=ls.length:=vt _;rw[ek];lia
   rw[vt]at z;lia
  exists⟨.inl ⟨rfl,_,SqL.of (D _ _ I)⟩,?_⟩;exists⟨.inr (.inr (.inl ⟨rfl,.inl ⟨_,t7⟩⟩)),dl,_,rfl,rfl,t7,?_⟩;walk_at"f vw hvw H8 s8 t8";exists⟨vw,dl,m,rfl,t8,s8 _ _ t7,by lia,fun r cs ms H9 s9 a7 e9 n9 a0 pw aC av=>?_⟩;walk_at"g";have aH:=aE.1;refine⟨l,_,_,rfl,rfl,s9 _ _ (s8 _ _ (D _ _ I)),by rw[vt];lia,?_⟩;have R:=D.trans (s8.trans s9);have aa:r≠l:=(je (s8 _ _ (D _ _ I)) a7).symm;have nr:H r=none:=by
   cases z:H r with
   | none=>rfl
   | some u=>rw[s8 _ _ (D _ _ (y _ _ aa (C _ _ z)))]at a7;cases a7
  have ar:∀{c:Addr} {xs:List V},H9 c=some (.tup xs)->c≠l:=fun h=>Jq h (R _ _ I) (fun z=>by cases z)
  refine⟨U++[r],E++[ms],_,_,_,_,_,rfl,fun c u X h=>(jh X).trans (R _ _ (y _ _ X h)),?_,fun c X=>?_,by rw[vn,lE];rfl,?_,?_⟩
  ·rw[jG,vj];rfl
  ·rcases vh.mp X with z | z
   ·exact na c z
   ·rw[vo.mp z];exact⟨nr,aa⟩
  ·refine All2.snoc (All2.monoM aE fun c X e h=>?_) ?_
   ·obtain⟨bs,a2,Q⟩:=h;refine⟨bs,(jh (na c X).2).trans (R _ _ (sP _ _ a2)),All2.mono Q fun c' L h'=>?_⟩;have h9:=R _ _ (sP _ _ h');exact(jh (ar h9)).trans h9
   ·exact⟨cs,(jh aa).trans e9,aC,fun Z c L s M=>(jh (ar (av Z c L s M))).trans (av Z c L s M)⟩
  ·refine EndOk.snoc W oE (p:=p) (by rw[lE];exact hp) ?_ fun k v=>?_
   ·exact j24 (a0.map _) A pw
   ·rw[a0.mem_iff,m7];exact⟨fun h=>h.imp id W5.mp,fun h=>h.imp id W5.mpr⟩
 rintro σ' H' ⟨U,E,o3,o4,o5,o6,O,rfl,sm,e1,na,lE,aE,oE⟩;rw[vt]at lE;walk_at"g";exact q l U E H' (fun c u h=>sm _ _ (a9 h) (C _ _ h)) nl e1 (fun a ha=>(na a ha).1) (by lia) aE oE
theorem j2X(T:Txt K mg t)(YX:FnOk P w K mg base CX0 3 t.WF t.WS ["book"] (sp_ends)):FnOk P w K mg base CX0 4 t.WG t.WT ["book"] (sp_moved):=by
 specialize T.j0v.F.ok K8;obtain⟨b,pl,pp,U,a0,ls,ps,rfl,B,W,q⟩:=h;refine⟨_,(jb (jr (i:=1) K8.nd rfl (.inl rfl) (jK jc))
  (jb (Jd PassesOwn.never rfl (Jh (ju T.XS YX hr (ja (pv 0) jc))) (jw (i:=2) K8.nd rfl (.inl rfl))
   (jg (Jb (qh PySem.F.plainAttrs_list PySem.F.slot_list_append PySem.F.type_list_append jV (pv 1) (ja (qN (ow:=["limb","height"]) (ci:=[]) rfl (CompScope.of (defScope Ks) ["book","found","left"] rfl rfl (by decide +kernel)) (j0I (by decide) (by decide)) (Jh (pv 2)) (fun _ _ _ _ _=>⟨(Qc rfl (jL (jw (i:=0) (JU ["book","found","left"] rfl (by decide +kernel)) rfl (.inl rfl)) (jL (jw (i:=1) (JU ["book","found","left"] rfl (by decide +kernel)) rfl (.inl rfl)) J3))),Qq,(pv 0)⟩)) jc)))))
  (jg (jB (pv 1))))),?_⟩
 refine jE (σ':=[some _,none,none]) rfl ?_
 try dsimp only[cxOf,Cx.nox]
 have sz:(200:Nat)<sizeLine:=by decide
 have a3:=W.p61;exists⟨va _,?_⟩;walk_at"f l hl H1 s1 t1";exists⟨b,pl,pp,U,a0,ls,ps,rfl,B.same s1,W,fun e as E H2 s2 he ee ne lE aE oE=>?_⟩;have H:=aE.1;have a1:=s1.trans s2;have l2:H2 l=some (.lst []):=s2 _ _ t1;have Z:l≠e:=fun z=>by rw[z,he]at t1;cases t1
 refine⟨e,rfl,⟨_,SqL.of ee⟩,?_⟩;refine JW (xs:=as.map V.ref) (fun i σ n=>IvE2 fun(g:List Addr) (C:Option V)=>IvA4 (σ=[some (.ref b),some (.ref l),C]) (∀c u,c≠l->H2 c=some u->n c=some u) (n l=some (.lst (g.map V.ref))) ((∀c∈g,H1 c=none/\c≠l)/\ListsAt n g ((E.take i).map fun e=>e.map (·.1))))
  ⟨[],_,rfl,fun c u _ h=>h,l2,(fun c h=>nomatch h),.nil⟩ ?_ ?_ ?_
 ·rintro i σ n _ ⟨g,C,rfl,m,p,y,r⟩;exact SqL.of (m _ _ Z.symm ee)
 ·rintro i x σ n Q ⟨g,C,rfl,m,p,y,r⟩;obtain⟨a,L,rfl,f,I,N,A⟩:=aE.at_ref Q;have hi:=(vx.mp f).1;have S:=r.1;rw[vt,vi]at S;have am:a∈as:=by
   rw[vv]at Q;obtain⟨a',ea,J⟩:=vg.mp Q;injection J with J;subst J;exact vm ea
  have X:a≠l:=fun z=>by have:=ne a am;rw[z,t1]at this;cases this
  have s:n a=some (.lst (I.map V.ref)):=m _ _ X N;have a2:=(oE i _ L (vz (by lia)) f).1;have M:=Xb W (by lia) oE f;exists⟨.inl ⟨rfl,_,SqL.of p⟩,?_⟩;exists⟨a,rfl,⟨_,SqL.of s⟩,?_⟩;refine qm (xs:=I.map V.ref) (fun j D d=>D=((L.take j).map (·.1)).map V.int/\n=d) ⟨rfl,rfl⟩ ?_ ?_ ?_
  ·rintro j D d _ ⟨rfl,rfl⟩;exact SqL.of s
  ·rintro j x D d R ⟨rfl,rfl⟩;obtain⟨c,kv,rfl,v,O⟩:=A.at_ref R;have hj:=(vx.mp v).1;have Y:c≠l:=fun z=>by rw[z,l2]at O;cases O
   refine qa (σ':=[none,none]) rfl ?_;refine QC (SqT.of (m _ _ Y O)) ?_;exists iteT ?_;exists⟨by rw[vt,vt,vi];lia,?_,rfl⟩;rw[take_snoc v,vj,vj];rfl
  rintro D d ⟨rfl,rfl⟩;rw[show(I.map V.ref).length=L.length by rw[vt];exact A.1,v3];refine⟨by rw[vt,vt];lia,?_⟩;walk_at"f 4 t";exists⟨l,_,_,rfl,rfl,s4 _ _ p,by rw[vt];lia,?_⟩;have o:p4≠l:=(je p hp4).symm;have n4:H1 p4=none:=by
   cases z:H1 p4 with
   | none=>rfl
   | some u=>rw[m _ _ o (s2 _ _ z)]at hp4;cases hp4
  refine⟨g++[p4],_,rfl,fun c u k h=>(jh k).trans (s4 _ _ (m _ _ k h)),?_,fun c k=>?_,?_⟩
  ·rw[jG,vj];rfl
  ·rcases vh.mp k with z | z
   ·exact y c z
   ·rw[vo.mp z];exact⟨n4,o⟩
  ·rw[take_snoc f,vj];exact All2.snoc (All2.monoM r fun c k ks h=>(jh (y c k).2).trans (s4 _ _ h)) ((jh o).trans t4)
 rintro σ' H3 ⟨g,C,rfl,m,p,y,r⟩;rw[vt,H,v3]at r;exists q l g (E.map fun e=>e.map (·.1)) H3 (fun c u h=>m _ _ (je h hl) (a1 _ _ h)) hl p (fun c k=>none_of s1 (y c k).1) (by rw[vt];exact lE) r (j2M lE oE)
theorem wG(T:Txt K mg t):FnOk P w K mg base CX0 1 t.Q5 t.Q8 ["row","moves","limbs"] (sp_check_side):=by
 specialize T.Ye.F.ok zQ;obtain⟨r,l,J,I,C,M,rfl,z,B,U,N,g,D,q⟩:=h;refine⟨_,(jb (j3 (jt (j50 hr.units) (jK jc) (pv 1) (by with_unfolding_all rfl))
   (jg YJ)
   jA)
  (jg (Jd PassesOwn.never rfl (Kp (by rfl) T.zy (ja (pv 2) jc)) (Qc rfl (jL (jw (i:=3) zQ.nd rfl (.inr rfl)) (jL (jw (i:=4) zQ.nd rfl (.inl rfl)) J3)))
   (jg (j3 (jt ZI (jD jW (by rfl) T.JT Jj (ja (qN (ow:=["move"]) (ci:=[3]) rfl (CompScope.of (defScope zb) ["row","moves","limbs","number","limb"] rfl rfl (by decide +kernel)) (JR (by decide)) (Jh (pv 1)) (fun _ _ _ _ _=>⟨(jw (i:=0) (JU ["row","moves","limbs","number","limb"] rfl (by decide +kernel)) rfl (.inl rfl)),(xu (jt (yY (K:=K) rfl) (pv 1) (pv 0) (by with_unfolding_all rfl))),j0Y⟩)) jc)) jd (nomark _))
    (jg YJ)
    jA))))),?_⟩
 refine jE (σ':=[some _,some _,some _,none,none]) rfl ?_
 try dsimp only[cxOf,Cx.nox]
 have sz:(200:Nat)<sizeLine:=by decide
 have m:=B.1;exists⟨va _,?_⟩;walk_at"f 0 t";exists⟨p0,l,I,M,rfl,rfl,t0,s0 _ _ z,m,fun i b e O Q=>s0 _ _ (B.2 i b e O Q),?_⟩;exists iteB0 (any_empty U) ?_;exists⟨J,_,rfl,SqL.of (s0 _ _ g),?_⟩;refine Yv (xs:=C.map V.ref) (fun i E f=>IvE2 fun(p s:Option V)=>E=[some (.int r),some (.ref l),some (.ref J),p,s]/\Same H f) ⟨_,_,rfl,s0⟩ ?_ ?_ ?_
 ·rintro i E f _ ⟨p,s,rfl,n⟩;exact SqL.of (n _ _ g)
 ·rintro i v E f P L Y ⟨p,s,rfl,n⟩ W X;have u:=n.trans W;refine QC (SqT.of X) ?_;exists⟨l,rfl,⟨_,SqL.of (u _ _ z)⟩,?_⟩;refine qm (xs:=I.map V.ref) (fun j y c=>y.length=((M.take j).filter fun e=>decide ((i:Int)∈e)).length/\L=c) ⟨rfl,rfl⟩ ?_ ?_ ?_
  ·rintro j y c _ ⟨_,rfl⟩;exact SqL.of (u _ _ z)
  ·rintro j x y c A ⟨o,rfl⟩;obtain⟨a,e,rfl,k,R⟩:=B.at_ref A;refine qa (σ':=[none,some _]) rfl ?_;exists⟨a,_,rfl,.inl (SqL.of (u _ _ R)),rfl,flats e,?_⟩;rw[inI];walk_at"g";have S:((M.take j).filter fun e=>decide ((i:Int)∈e)).length<=8:=vV (length_filter_le _ _) (vV (List.length_take_le' _ _) N);refine iteD (fun d=>?_) (fun d=>?_)
   ·exists⟨by lia,?_,rfl⟩;rw[take_snoc k,filter_append,v6,vd (vG d),vn,vn,o];rfl
   ·refine⟨?_,rfl⟩;rw[take_snoc k,filter_append,v6,vc (by simpa using d),vn,o];rfl
  rintro y c ⟨o,rfl⟩;rw[vt,m,v3]at o;have Z:=D (i:Int);refine⟨by lia,?_⟩;walk_at"f 2 t";exists⟨_,_,rfl,.inl ⟨_,SqL.of t2,rfl⟩,?_⟩;exists iteD (fun d=>?_) (fun d=>?_)
  ·exfalso;lia
  ·walk_at"g";exact⟨_,_,rfl,u.trans s2⟩
 rintro σ' f ⟨p,s,rfl,n⟩;exact q f n
theorem xj(T:Txt K mg t):FnOk P w K mg base CX0 1 t.zu t.zB ["form","inside"] (sp_length_of):=by
 specialize T.kO.F.ok xD;obtain⟨a,l,f,j,rfl,d,i,e,q⟩:=h;refine⟨_,(jb (j3 (jt Jc (jo jz (pv 0) jd) jJ (nomark _))
   (jg (jB (jD (wX rfl) (by rfl) T.j4s j2i (ja (pv 1) jc))))
   jA)
  (jb (j3 (jt Jc (jo jz (pv 0) jd) jJ (nomark _))
   (jg (jB (jD (Y6 rfl) (by rfl) T.wR Y4 (ja (pv 1) jc))))
   jA)
  (jb (j3 (jt Jc (jo jz (pv 0) jd) jJ (nomark _))
   (jg (jB (jq Jv (jo jz (pv 0) jd) (jo jv (pv 1) jd))))
   jA)
  (jg (jB (jo jz (pv 0) (Z8 zq jd))))))),?_⟩
 refine jE (σ':=[some _,some _]) rfl ?_
 try dsimp only[cxOf,Cx.nox]
 have z:(200:Nat)<sizeLine:=by decide
 cases f with
 | hold n=>
  have c:H a=some (.tup _):=d;exists ixTm (SqT.of c) rfl ?_;exists iteE0 ?_;exists ixTm (SqT.of c) rfl ?_;exists iteE0 ?_;exists ixTm (SqT.of c) rfl ?_;exists iteE0 ?_;exists ixTm (SqT.of c) rfl ?_;exact q _ rfl
 | ring x n=>
  have c:H a=some (.tup _):=d;exists ixTm (SqT.of c) rfl ?_;exists iteE0 ?_;exists ixTm (SqT.of c) rfl ?_;exists iteE0 ?_;exists ixTm (SqT.of c) rfl ?_;exists iteE0 ?_;exists ixTm (SqT.of c) rfl ?_;exact q _ rfl
 | rise x v n=>
  have c:H a=some (.tup _):=d;exists ixTm (SqT.of c) rfl ?_;exists iteE0 ?_;exists ixTm (SqT.of c) rfl ?_;exists iteE0 ?_;exists ixTm (SqT.of c) rfl ?_;exists iteE0 ?_;exists ixTm (SqT.of c) rfl ?_;exact q _ rfl
 | row ps=>
  obtain⟨b,c,p⟩:=d;exists ixTm (SqT.of c) rfl ?_;exists iteE1 ?_;exists⟨l,j,rfl,SqL.of i,?_⟩;exact q _ rfl
 | side ps=>
  obtain⟨b,c,p⟩:=d;exists ixTm (SqT.of c) rfl ?_;exists iteE0 ?_;exists ixTm (SqT.of c) rfl ?_;exists iteE1 ?_;exists⟨l,j,rfl,SqL.of i,length_pos_iff.mpr e,fun g m o=>?_⟩;exact q g ⟨m,o⟩
 | again k x=>
  have c:H a=some (.tup _):=d;obtain⟨y,r,rfl,s,u,A,B⟩:=e;exists ixTm (SqT.of c) rfl ?_;exists iteE0 ?_;exists ixTm (SqT.of c) rfl ?_;exists iteE0 ?_;exists ixTm (SqT.of c) rfl ?_;exists iteE1 ?_;exists ixTm (SqT.of c) rfl ?_;exists ixLm (SqL.of i) (at0) ?_;walk_at"g";exact q _ ⟨y,rfl,rfl⟩
theorem j09(T:Txt K mg t)(Q2:FnOk P w K mg base CX0 2 t.Yk t.Yt ["book"] (sp_inner))(WE:FnOk P w K mg base CX0 4 t.WG t.WT ["book"] (sp_moved))(Zc:FnOk P w K mg base CX0 1 t.Q5 t.Q8 ["row","moves","limbs"] (sp_check_side))(ZR:FnOk P w K mg base CX0 1 t.zu t.zB ["form","inside"] (sp_length_of)):FnOk P w K mg base CX0 5 t.Y1 t.Y9 ["book"] (sp_lengths):=by
 specialize T.wO.F.ok Qe;obtain⟨b,pl,pp,X,a6,ls,C,gs,hs,rfl,B,S,q⟩:=h;refine⟨_,(jb (jr (i:=1) Qe.nd rfl (.inr rfl) (ju T.j0v WE hr (ja (pv 0) jc)))
  (jb (jr (i:=2) Qe.nd rfl (.inr rfl) (jK jc))
  (jb (Jd PassesOwn.never rfl (Kp (by rfl) T.zy (ja (ju T.Kf Q2 hr (ja (pv 0) jc)) jc)) (Qc rfl (jL (jw (i:=3) Qe.nd rfl (.inl rfl)) (jL (jw (i:=4) Qe.nd rfl (.inl rfl)) J3)))
   (jb (jr (i:=5) Qe.nd rfl (.inl rfl) (jo jz (jo jv (jo jz (pv 0) jd) (pv 3)) jd))
   (jb (qC (jt Jc (jo jz (pv 5) jd) jJ (nomark _))
    (jg (Jb (ju T.Ye Zc hr (ja (pv 3) (ja (qN (ow:=["part"]) (ci:=[1]) rfl (CompScope.of (defScope zY) ["book","moves","found","row","inside","form","length"] rfl rfl (by decide +kernel)) (JR (by decide)) (Jh (pv 4)) (fun _ _ _ _ _=>⟨(jw (i:=0) (JU ["book","moves","found","row","inside","form","length"] rfl (by decide +kernel)) rfl (.inl rfl)),Qq,(jo (Yy (K:=K) rfl) (pv 1) (pv 0))⟩)) (ja (jo jz (pv 0) jd) jc))))))
    jA)
   (jb (jr (i:=6) Qe.nd rfl (.inl rfl) (ju T.kO ZR hr (ja (pv 5) (ja (qN (ow:=["part"]) (ci:=[2]) rfl (CompScope.of (defScope zY) ["book","moves","found","row","inside","form","length"] rfl rfl (by decide +kernel)) (JR (by decide)) (Jh (pv 4)) (fun _ _ _ _ _=>⟨(jw (i:=0) (JU ["book","moves","found","row","inside","form","length"] rfl (by decide +kernel)) rfl (.inl rfl)),Qq,(jo (Yy (K:=K) rfl) (pv 1) (pv 0))⟩)) jc))))
   (jb (j3 (jt ZI (pv 6) (jq Z6 jd jd) (nomark _))
    (jg YJ)
    jA)
   (jg (Jb (qh PySem.F.plainAttrs_list PySem.F.slot_list_append PySem.F.type_list_append jV (pv 2) (ja (pv 6) jc)))))))))
  (jg (jB (pv 2)))))),?_⟩
 refine jE (σ':=[some _,none,none,none,none,none,none]) rfl ?_
 try dsimp only[cxOf,Cx.nox]
 have sz:(200:Nat)<sizeLine:=by decide
 have W:=S.w;have pa:=B.pa.1;have gl:=S.gl;have av:=W.p61;exists⟨b,pl,pp,X,a6,_,_,rfl,B,W,fun lm aa M H1 s1 aq ad au Ml aM oM=>?_⟩;have mg:=S.mv M Ml oM;have ao:=aM.1;exists⟨va _,?_⟩;walk_at"f l hl H2 s2 t2";have nl:=none_of s1 hl;have a7:=s1.trans s2;exists⟨b,pl,pp,X,a6,_,_,rfl,B.same a7,W,fun li a2 H3 s3 a1 a0 ak lia=>?_⟩;walk_at"g";have a8:=a7.trans s3;have an:=s2.trans s3;have I:=lia.1;rw[vt]at I;have al:li≠l:=fun z=>by rw[z,t2]at a1;cases a1
 have t3:H3 l=some (.lst []):=s3 _ _ t2;have a5:∀{c u},H c=some u->c≠l:=fun h=>je h nl
 have am:∀{c u},H1 c=some u->c≠l:=fun h=>je h hl
 refine⟨li,_,rfl,SqL.of a0,?_⟩;refine Yv (xs:=a2.map V.ref) (fun i σ r=>IvE4 fun(o3 o4 o5 o6:Option V)=>IvA2 (σ=[some (.ref b),some (.ref lm),some (.ref l),o3,o4,o5,o6]) ((∀c u,c≠l->H3 c=some u->r c=some u)/\r l=some (.lst ((gs.take i).map V.int))))
  ⟨_,_,_,_,rfl,fun c u _ h=>h,t3⟩ ?_ ?_ ?_
 ·rintro i σ r _ ⟨o3,o4,o5,o6,rfl,sm,e1⟩;exact SqL.of (sm _ _ al a0)
 ·rintro i v σ r P y hv ⟨o3,o4,o5,o6,rfl,sm,e1⟩ sP tP;obtain⟨R,ar,rfl,N,ag⟩:=lia.at_ref hv;have hi:i<C.length:=by
   have:=(vx.mp N).1;rw[vt]at this;exact this
  obtain⟨p,hp⟩:∃p,C[i]?=some p:=⟨_,vz hi⟩
  rw[vv,hp]at N;cases N;obtain⟨a,ea,fb,ae,hf⟩:=B.pa.get hp;have ai:R∈a2:=by
   rw[vv]at hv;obtain⟨a',ac,e'⟩:=vg.mp hv;injection e' with e';subst e';exact vm ac
  have a4:R≠l:=fun z=>by have:=ak R ai;rw[z,t2]at this;cases this
  have k4:∀c u,c≠l->H3 c=some u->y c=some u:=fun c u E h=>sP _ _ (sm _ _ E h)
  have s:∀c u,H c=some u->y c=some u:=fun c u h=>k4 _ _ (a5 h) (a8 _ _ h)
  have a3:∀c u,H1 c=some u->y c=some u:=fun c u h=>k4 _ _ (am h) (an _ _ h)
  have o:y R=some (.lst (((inP C p.2).map fun j:Nat=>(j:Int)).map V.int)):=k4 _ _ a4 ag;have ab:=sP _ _ e1;have m:FormAt y fb p.2:=FormAt.same s hf;have U:=fun j=>W.inP_lt (j:=j) hp
  have w8:(inP C p.2).length<=8:=by unfold inP;rw[vt];exact(W.f i p hp).2
  obtain⟨lp,aj⟩:=S.ln i p hp;have as:=S.gb i hi;refine QC (SqT.of tP) ?_;exists ixTm (SqT.of (s _ _ B.t)) rfl ?_;exists ixLm (SqL.of (s _ _ B.p)) (WJ (i:=(i:Int)) (by lia) ea) ?_;exists ixTm (SqT.of (s _ _ ae)) rfl ?_;exists⟨fun σ' H5=>σ'=[some (.ref b),some (.ref lm),some (.ref l),some (.int i),some (.ref R),some (.ref fb),o6]/\Same y H5,?_,?_⟩
  rotate_left
  ·by_cases Q:∃qs,p.2 = .side qs
   ·obtain⟨qs,e⟩:=Q;have ap:=S.sd i p qs hp e;generalize inP C p.2=is at o U ap w8;rw[e]at m;obtain⟨nb,af,_⟩:=m;exists ixTm (SqT.of af) rfl ?_;exists iteE1 ?_;exists⟨R,rfl,⟨_,SqL.of o⟩,?_⟩;have a9:∀j∈is,∃c,aa[j]?=some c/\y c=some (.lst ((hs.getD j []).map V.int)):=fun j A=>by
     have jl:=U j A;obtain⟨c,E,h1⟩:=aM.get (i:=j) (x:=M.getD j []) (by rw[vy,vz (by lia)];rfl);rw[mg j (by lia)]at h1;exact⟨c,E,a3 _ _ h1⟩
    refine qm (xs:=(is.map fun j:Nat=>(j:Int)).map V.int) (fun t D r=>IvE1 fun(J:List Addr)=>IvA2 (D=J.map V.ref) (ListsAt y J ((is.take t).map fun j=>hs.getD j [])/\y=r)) ⟨[],rfl,.nil,rfl⟩ ?_ ?_ ?_
    ·rintro t D r _ ⟨J,rfl,Y,rfl⟩;exact SqL.of o
    ·rintro t x D r hx ⟨J,rfl,Y,rfl⟩;rw[vv,vv]at hx;obtain⟨jj,O,rfl⟩:=vg.mp hx;obtain⟨j,A,rfl⟩:=vg.mp O;obtain⟨c,E,h1⟩:=a9 j (vm A);have Z:=Y.1;rw[vt,vi]at Z;refine qa (σ':=[none,some _]) rfl ?_;exists iteT ?_;exists ixLm (SqL.of (a3 _ _ ad)) (WJ (i:=(j:Int)) (by lia) E) ?_;refine⟨by rw[vt];lia,J++[c],by rw[vj];rfl,?_,rfl⟩;rw[take_snoc A,vj];exact All2.snoc Y h1
    rintro D r ⟨J,rfl,Y,rfl⟩;rw[vt,vt,v3]at Y;have Z:=Y.1;rw[vt]at Z;refine⟨by rw[vt];lia,?_⟩;walk_at"f 5 t";exists ixTm (SqT.of (s5 _ _ (s _ _ B.t))) rfl ?_;exists⟨_,p5,pl,J,X,(is.map fun j=>hs.getD j []),rfl,t5,All2.mono Y fun c ks h=>s5 _ _ h,fun ks ah=>?_,by rw[vt];lia,s5 _ _ (s _ _ B.l),ap.2,fun H6 s6=>?_⟩
    ·obtain⟨j,A,rfl⟩:=vK.mp ah;exact ap.1 j A
    walk_at"g";exact⟨rfl,s5.trans s6⟩
   ·have kd:∃k xs,y fb=some (.tup (.str k::xs))/\decide (k=("side" : Str))=false:=by
     generalize p.2=f at m Q;cases f with
     | side qs=>exact uh ⟨qs,rfl⟩ Q
     | hold n=>exact⟨_,_,m,by decide +kernel⟩
     | ring x n=>exact⟨_,_,m,by decide +kernel⟩
     | rise x v n=>exact⟨_,_,m,by decide +kernel⟩
     | row qs=>obtain⟨_,h1,_⟩:=m;exact⟨_,_,h1,by decide +kernel⟩
     | again k x=>exact⟨_,_,m,by decide +kernel⟩
    obtain⟨k,xs,hk,dk⟩:=kd;exists ixTm (SqT.of hk) (at0) ?_;exists iteB0 dk ?_;walk_at"g";exact⟨rfl,Same.refl _⟩
  rintro σ' H5 ⟨rfl,s5⟩;exists⟨R,rfl,⟨_,SqL.of (s5 _ _ o)⟩,?_⟩;have L:=s5 _ _ ab;refine qm (xs:=((inP C p.2).map fun j:Nat=>(j:Int)).map V.int) (fun t D r=>D=(((inP C p.2).take t).map fun j=>gs.getD j 0).map V.int/\H5=r) ⟨rfl,rfl⟩ ?_ ?_ ?_
  ·rintro t D r _ ⟨rfl,rfl⟩;exact SqL.of (s5 _ _ o)
  ·rintro t x D r hx ⟨rfl,rfl⟩;rw[vv,vv]at hx;obtain⟨jj,O,rfl⟩:=vg.mp hx;obtain⟨j,A,rfl⟩:=vg.mp O;have jl:=U j (vm A);refine qa (σ':=[none,some _]) rfl ?_;exists iteT ?_;exists ixLm (SqL.of L) (j5n (by lia) jl) ?_;refine⟨by rw[vt,vt,vi];lia,?_,rfl⟩;rw[take_snoc A,vj,vj];rfl
  rintro D r ⟨rfl,rfl⟩;rw[show(((inP C p.2).map fun j:Nat=>(j:Int)).map V.int).length=(inP C p.2).length by rw[vt,vt],v3];refine⟨by rw[vt,vt];lia,?_⟩;walk_at"f 6 t";exists⟨fb,p6,p.2,_,rfl,FormAt.same (s5.trans s6) m,t6,lp,fun g hg=>?_⟩;have eg:=aj g hg;subst eg;exists iteD (fun d=>?_) (fun d=>?_)
  ·exfalso;lia
  exists⟨.inl ⟨rfl,_,SqL.of (s6 _ _ L)⟩,?_⟩;exists⟨l,_,_,rfl,rfl,s6 _ _ L,by rw[vt,vi];lia,?_⟩;refine⟨_,_,_,_,rfl,fun c u E h=>(jh E).trans (s6 _ _ (s5 _ _ (k4 _ _ E h))),?_⟩;rw[jG,j43 (by lia),vj];rfl
 rintro σ' r ⟨o3,o4,o5,o6,rfl,sm,e1⟩;rw[vt,I,<-gl,v3]at e1;walk_at"g";exact q l r (fun c u h=>sm _ _ (a5 h) (a8 _ _ h)) nl e1
theorem xm(T:Txt K mg t):FnOk P w K mg base CX0 1 t.zw t.zC ["form","inside","sizes"] (sp_pieces_in):=by
 specialize T.kP.F.ok qc;obtain⟨a,l,s0,f,g,A,rfl,o,el,es,i8,hj,a2,q⟩:=h;refine⟨_,(jb (j3 (jt Jc (jo jz (pv 0) jd) jJ (nomark _))
   (jb (jr (i:=3) qc.nd rfl (.inl rfl) (jo jv (pv 1) jd))
   (jb (jr (i:=4) qc.nd rfl (.inl rfl) (zW (jt ZI (jo jz (pv 0) jd) jd (nomark _)) (jK (ja (jN (ja (pv 3) (ja (jq Jt (jo jz (pv 0) jd) jd) (ja (jo jv (pv 2) (pv 3)) jc)))) jc)) (jK jc)))
   (jg (jB (jq Zr (jK (ja (jN (ja (pv 3) (ja jd (ja jd jc)))) jc)) (pv 4))))))
   jA)
  (jb (jr (i:=5) qc.nd rfl (.inl rfl) (jK jc))
  (jb (jr (i:=6) qc.nd rfl (.inl rfl) jd)
  (jb (Jd PassesOwn.never rfl (Jh (pv 1)) (jw (i:=3) qc.nd rfl (.inl rfl))
   (jb (Jb (qh PySem.F.plainAttrs_list PySem.F.slot_list_append PySem.F.type_list_append jV (pv 5) (ja (jN (ja (pv 3) (ja jd (ja (pv 6) jc)))) jc)))
   (jg (j3 (jt Jc (jo jz (pv 0) jd) jJ (nomark _))
    (jg (xw (i:=6) qc.nd rfl (.inl rfl) (jo jv (pv 2) (pv 3)) WY))
    jA))))
  (jg (jB (pv 5))))))),?_⟩
 refine jE (σ':=[some _,some _,some _,none,none,none,none]) rfl ?_
 try dsimp only[cxOf,Cx.nox]
 have sz:(10000:Nat)<sizeLine:=by decide
 have Q:∀j,j<A.length->A[j]?=some (A.getD j 0):=fun j h=>by
  rw[vy,vz h];rfl
 by_cases ha:∃k x,f = .again k x
 ·obtain⟨k,x,rfl⟩:=ha;have o:H a=some (.tup [.str "again",.int k,.str x]):=o;obtain⟨j,r,rfl⟩:=List.exists_cons_of_ne_nil (a2 k x rfl);have lj:=hj j vq;exists ixTm (SqT.of o) rfl ?_;exists iteE1 ?_;exists ixLm (SqL.of el) (at0) ?_;exists ixTm (SqT.of o) rfl ?_;exists iteD (fun c=>?_) (fun c=>?_)
  ·exists ixTm (SqT.of o) rfl ?_;exists ixLm (SqL.of es) (jO (j:=j) (by rw[vv,Q j lj];rfl)) ?_;exists⟨ue,?_⟩;walk_at"f 1 t";exists⟨ug,?_⟩;walk_at"f 2 t";exists⟨ue,?_⟩;walk_at"f 3 t";exists⟨ug,?_⟩;walk_at"f 4 t";exists⟨p4,p2,_,_,rfl,rfl,t4,s4 _ _ (s3 _ _ t2),uf,?_⟩;walk_at"f 5 t";have N:=s1.trans (s2.trans (s3.trans (s4.trans s5)));refine q p5 [p3,p1] _ N (none_of (s1.trans (s2.trans (s3.trans s4))) hp5) t5 ?_;show PcsAt H5 _ ((j,1,0)::(if 1<k then[(j,k-1,A.getD j 0)]else[]));rw[vd c];exact .cons (s5 _ _ (s4 _ _ t3)) (.cons (s5 _ _ (s4 _ _ (s3 _ _ (s2 _ _ t1)))) .nil)
  ·exists⟨va _,?_⟩;walk_at"f 2 t";exists⟨ue,?_⟩;walk_at"f 3 t";exists⟨ug,?_⟩;walk_at"f 4 t";exists⟨p4,p2,_,_,rfl,rfl,t4,s4 _ _ (s3 _ _ t2),ug,?_⟩;walk_at"f 5 t";have N:=s2.trans (s3.trans (s4.trans s5));refine q p5 [p3] _ N (none_of (s2.trans (s3.trans s4)) hp5) t5 ?_;show PcsAt H5 _ ((j,1,0)::(if 1<k then[(j,k-1,A.getD j 0)]else[]));rw[vc c];exact .cons (s5 _ _ (s4 _ _ t3)) .nil
 have a3:∃S xs,H a=some (.tup (.str S::xs))/\decide (S=("again" : Str))=false/\((decide (S=("row" : Str))=true/\∃xs,f = .row xs)\/(decide (S=("row" : Str))=false/\∀g,pcsI A f g=g.map fun j=>(j,1,0))):=by
  cases f with
  | hold n=>exact⟨_,_,o,by decide +kernel,.inr ⟨by decide +kernel,fun _=>rfl⟩⟩
  | ring x n=>exact⟨_,_,o,by decide +kernel,.inr ⟨by decide +kernel,fun _=>rfl⟩⟩
  | rise x v n=>exact⟨_,_,o,by decide +kernel,.inr ⟨by decide +kernel,fun _=>rfl⟩⟩
  | row ps=>obtain⟨b,C,_⟩:=o;exact⟨_,_,C,by decide +kernel,.inl ⟨by decide +kernel,_,rfl⟩⟩
  | side ps=>obtain⟨b,C,_⟩:=o;exact⟨_,_,C,by decide +kernel,.inr ⟨by decide +kernel,fun _=>rfl⟩⟩
  | again k x=>exact uh ⟨k,x,rfl⟩ ha
 obtain⟨S,xs,X,dk,s⟩:=a3;exists ixTm (SqT.of X) (at0) ?_;exists iteB0 dk ?_;exists⟨va _,?_⟩;walk_at"f p hp H1 s1 t1";walk_at"g";have np:∀{c u},H c=some u->c≠p:=fun h=>je h hp
 refine⟨l,rfl,⟨_,SqL.of (s1 _ _ el)⟩,?_⟩;refine JW (xs:=(g.map fun j:Nat=>(j:Int)).map V.int) (fun i σ E=>IvE4 fun(o3:Option V) (B:Int) (d:List Addr) (y:List Pc)=>IvA6 (σ=[some (.ref a),some (.ref l),some (.ref s0),o3,none,some (.ref p),some (.int B)]) (Same H E) (E p=some (.lst (d.map V.ref))) (d.length=i) (PcsAt E d y) (((∃xs,f = .row xs)->rowPc A g 0=y++rowPc A (g.drop i) B)/\(¬(∃xs,f = .row xs)->B=0/\y=(g.take i).map fun j=>(j,1,0))))
  ⟨_,0,[],[],rfl,s1,t1,rfl,.nil,fun _=>rfl,fun _=>⟨rfl,rfl⟩⟩ ?_ ?_ ?_
 ·rintro i σ E _ ⟨o3,B,d,y,rfl,U,I,Z,Y,C,R⟩;exact SqL.of (U _ _ el)
 ·rintro i v σ E hv ⟨o3,B,d,y,rfl,U,I,Z,Y,C,R⟩;rw[vv,vv]at hv;obtain⟨jj,a1,rfl⟩:=vg.mp hv;obtain⟨j,D,rfl⟩:=vg.mp a1;have il:=(vx.mp D).1;have ed:g.drop i=j::g.drop (i+1):=by
   obtain⟨h,rfl⟩:=vx.mp D;exact List.drop_eq_getElem_cons h
  have lj:=hj j (vm D);exists⟨.inl ⟨rfl,_,SqL.of I⟩,?_⟩;exists⟨ue,?_⟩;walk_at"f 2 t";exists⟨p,_,_,rfl,rfl,s2 _ _ I,by rw[vt];lia,?_⟩;have n2:p2≠p:=fun z=>by rw[z,s2 _ _ I]at t2;cases t2
  have s3:Same H (upd H2 p (.lst (d.map V.ref++[.ref p2]))):=fun c u h=>(jh (np h)).trans (s2 _ _ (U _ _ h))
  have e3:upd H2 p (.lst (d.map V.ref++[.ref p2])) p=some (.lst ((d++[p2]).map V.ref)):=by rw[jG,vj];rfl
  have L:PcsAt (upd H2 p (.lst (d.map V.ref++[.ref p2]))) (d++[p2]) (y++[(j,1,B)]):=by
   refine All2.snoc (All2.mono Y fun c x h=>?_) ((jh n2).trans t2);exact(jh (fun z=>by rw[z,I]at h;cases h)).trans (s2 _ _ h)
  generalize upd H2 p (.lst (d.map V.ref++[.ref p2]))=H3 at s3 e3 L|-;exists ixTm (SqT.of (s3 _ _ X)) (at0) ?_;walk_at"g";rcases s with⟨W,m,O⟩ | ⟨W,J⟩
  ·refine iteB1 W ?_;exists ixLm (SqL.of (s3 _ _ es)) (jO (j:=j) (by rw[vv,Q j lj];rfl)) ?_;exists⟨_,_,d++[p2],y++[(j,1,B)],rfl,s3,e3,by rw[vn,Z];rfl,L,fun h=>?_,fun h=>uh ⟨m,O⟩ h⟩;rw[C h,ed,List.append_assoc];rfl
  ·refine iteB0 W ?_;exists⟨_,_,d++[p2],y++[(j,1,B)],rfl,s3,e3,by rw[vn,Z];rfl,L,fun h=>?_,fun h=>?_⟩
   ·obtain⟨m,O⟩:=h;subst O;have:=J [0,0];obtain⟨bb,a0,_⟩:=o;rw[a0]at X;cases X;exact uh W (by decide +kernel)
   ·obtain⟨b0,eq⟩:=R h;refine⟨b0,?_⟩;rw[take_snoc D,vj,eq,b0];rfl
 rintro σ' E ⟨o3,B,d,y,rfl,U,I,Z,Y,C,R⟩;rw[show((g.map fun j:Nat=>(j:Int)).map V.int).length=g.length by rw[vt,vt]]at C R;exists q p d E U hp I ?_;have e:pcsI A f g=y:=by
  by_cases M:∃xs,f = .row xs
  ·obtain⟨m,rfl⟩:=M;show rowPc A g 0=y;rw[C ⟨m,rfl⟩,List.drop_length];exact append_nil _
  ·rcases s with⟨_,m,O⟩ | ⟨_,J⟩
   ·exact uh ⟨m,O⟩ M
   ·rw[J,(R M).2,v3]
 rw[e];exact Y
theorem xp(T:Txt K mg t)(Q2:FnOk P w K mg base CX0 2 t.Yk t.Yt ["book"] (sp_inner))(ZS:FnOk P w K mg base CX0 1 t.zw t.zC ["form","inside","sizes"] (sp_pieces_in)):FnOk P w K mg base CX0 3 t.ZX t.Z1 ["book","sizes"] (sp_pieces_of):=by
 specialize T.kQ.F.ok xE;obtain⟨b,pl,pp,s0,X,y,ls,A,gs,rfl,B,W,es,gl,q⟩:=h;refine⟨_,(jg (jB (qN (ow:=["part","inside"]) (ci:=[1]) rfl (CompScope.of (defScope zG) ["book","sizes"] rfl rfl (by decide +kernel)) (j0I (by decide) (by decide)) (j33 (by rfl) T.j4t (ja (jo jz (pv 0) jd) (ja (ju T.Kf Q2 hr (ja (pv 0) jc)) jc))) (fun _ _ _ _ _=>⟨(Qc rfl (jL (jw (i:=0) (JU ["book","sizes"] rfl (by decide +kernel)) rfl (.inl rfl)) (jL (jw (i:=1) (JU ["book","sizes"] rfl (by decide +kernel)) rfl (.inl rfl)) J3))),Qq,(ju T.kP ZS hr (ja (jo (Kk (K:=K) rfl) (pv 0) jd) (ja (pv 1) (ja (pv 2) jc))))⟩)))),?_⟩;refine jE (σ':=[some _,some _]) rfl ?_
 try dsimp only[cxOf,Cx.nox]
 have sz:(10000:Nat)<sizeLine:=by decide
 have a3:=W.p61;have pa:=B.pa.1;exists ixTm (SqT.of B.t) rfl ?_;exists⟨b,pl,pp,X,y,ls,A,rfl,B,W,fun li U H3 C a0 n a2 lia=>?_⟩;walk_at"g";have s:=lia.1;rw[vt]at s;refine⟨pp,li,_,_,rfl,SqL.of (C _ _ B.p),SqL.of n,?_⟩;refine j2j (xs:=y.map V.ref) (zs:=U.map V.ref) (fun i I m=>IvE1 fun(d:List Addr)=>IvA4 (I=d.map V.ref) (d.length=i) (Same H3 m) ((∀a∈d,H a=none)/\PssAt m d ((A.take i).map fun p=>pcsI gs p.2 (inP A p.2)))) (by rw[vt,vt];lia) ⟨[],rfl,rfl,Same.refl _,(fun a h=>nomatch h),.nil⟩ ?_ ?_ ?_
 ·rintro i I m _ ⟨d,rfl,D,g,E,l⟩;exact⟨SqL.of (g _ _ (C _ _ B.p)),SqL.of (g _ _ n)⟩
 ·rintro i u v I m T0 H4 hu hv ⟨d,rfl,D,g,E,l⟩ Z tP;have hi:=(vx.mp hu).1;rw[vt]at hi;obtain⟨a,p,rfl,r,fb,O,hf⟩:=B.pa.at_ref hu;obtain⟨ia,is,rfl,o,Q⟩:=lia.at_ref hv;rw[vv,r]at o;cases o;have a1:=(vx.mp r).1;have s4:=g.trans Z;have f:=C.trans s4;have i8:(inP A p.2).length<=8:=by unfold inP;rw[vt];exact(W.f i p r).2
  refine qa (σ':=[none,none,some _]) rfl ?_;refine QC (SqT.of tP) ?_;exists iteT ?_;exists ixTm (SqT.of (f _ _ O)) rfl ?_;exists⟨fb,ia,s0,p.2,inP A p.2,gs,rfl,FormAt.same f hf,s4 _ _ Q,f _ _ es,i8,fun j hj=>by have:=W.inP_lt r hj;lia,fun k x e=>by rw[e];exact cons_ne_nil _ _,fun p5 J H5 Y R e5 S=>?_⟩;refine⟨by rw[vt];lia,d++[p5],by rw[vj];rfl,by rw[vn,D];rfl,s4.trans Y,fun c hc=>(vh.mp hc).elim (E c) fun z=>by rw[vo.mp z];exact none_of f R,?_⟩;rw[take_snoc r,vj];refine All2.snoc (All2.mono l fun c x h=>?_) ⟨J,e5,S⟩;obtain⟨L,M,N⟩:=h;exact⟨L,Y _ _ (Z _ _ M),All2.mono N fun c x h=>Y _ _ (Z _ _ h)⟩
 rintro I m ⟨d,rfl,D,g,E,l⟩;rw[vt]at D l;refine⟨by rw[vt];lia,?_⟩;walk_at"f 4 t";refine q _ d _ (C.trans (g.trans s4)) (none_of (C.trans g) hp4) t4 ?_ E;rw[pa,v3]at l;refine All2.mono l fun c x h=>?_
 obtain⟨L,M,N⟩:=h;exact⟨L,s4 _ _ M,All2.mono N fun c x h=>s4 _ _ h⟩
theorem kB(T:Txt K mg t):FnOk P w K mg base CX0 1 t.qX t.qZ ["pieces","left","first"] (sp_begunH):=by
 specialize T.ZH.F.ok j7;obtain⟨pp,pl,pa,f,L,gs,g,rfl,ep,a6,el,K0,q⟩:=h;refine⟨_,(jb (YL (i:=3) (ow:=["inside"]) (ci:=[]) rfl (CompScope.of (defScope Qa) ["pieces","left","first","found","part","height","now","other","turns","begin"] rfl rfl (by decide +kernel)) (JR (by decide)) j7.nd rfl (.inl rfl) (Jh (pv 0)) (fun _ _ _ _ _=>⟨(jw (i:=0) (JU ["pieces","left","first","found","part","height","now","other","turns","begin"] rfl (by decide +kernel)) rfl (.inl rfl)),Qq,Z7⟩))
  (jb (zE (J1 hr) (jo jv (pv 3) (Z8 zq jd)) (pv 2) j0Y rfl)
  (jb (Jd PassesOwn.never rfl (j1L (by rfl) T.qY (ja (jq Jt (jD jW (by rfl) T.JT Jj (ja (pv 0) jc)) jd) (ja (Z8 zq jd) (ja (Z8 zq jd) jc)))) (jw (i:=4) j7.nd rfl (.inl rfl))
   (jg (Jd PassesOwn.never rfl (Jh (Jy (XZ rfl) (by rfl) T.j2g j0z (ja (jo jv (pv 3) (pv 4)) jc))) (jw (i:=5) j7.nd rfl (.inl rfl))
    (jb (jr (i:=6) j7.nd rfl (.inl rfl) (pv 5))
    (jg (Jd PassesOwn.never rfl (Jh (jo jv (pv 0) (pv 4))) (Qc rfl (jL (jw (i:=7) j7.nd rfl (.inl rfl)) (jL (jw (i:=8) j7.nd rfl (.inl rfl)) (jL (jw (i:=9) j7.nd rfl (.inl rfl)) J3))))
     (jb (zE (J1 hr) (jo jv (pv 3) (pv 7)) (pv 6) j0Y rfl)
     (jg (jr (i:=6) j7.nd rfl (.inl rfl) (jo jv (pv 1) (pv 7)))))))))))
  (jg (jB (xt (pv 3))))))),?_⟩
 refine jE (σ':=[some _,some _,some _,none,none,none,none,none,none,none]) rfl ?_
 try dsimp only[cxOf,Cx.nox]
 have sz:(10000:Nat)<sizeLine:=by decide
 have n1:=K0.n1;have ag:=K0.n61;have lL:=K0.lL;have af:=a6.1;exists⟨pp,rfl,⟨_,SqL.of ep⟩,?_⟩;refine qm (xs:=pa.map V.ref) (fun i ys A=>IvE1 fun(m:List Addr)=>IvA5 (ys=m.map V.ref) (m.length=i) (Same H A) m.Nodup (∀a∈m,H a=none/\A a=some (.dK []))) ⟨[],rfl,rfl,Same.refl _,nodup_nil,fun a h=>nomatch h⟩ ?_ ?_ ?_
 ·rintro i ys A _ ⟨m,rfl,hl,sm,nd,W⟩;exact SqL.of (sm _ _ ep)
 ·rintro i v ys A hv ⟨m,rfl,hl,sm,nd,W⟩;have hi:=(vx.mp hv).1;rw[vt]at hi;refine qa (σ':=[none]) rfl ?_;exists iteT ?_;walk_at"g";walk_at"f d hd H1 s1 t1";refine⟨by rw[vt];lia,m++[d],by rw[vj];rfl,by rw[vn,hl];rfl,sm.trans s1,?_,fun a Q=>?_⟩
  ·refine nodup_append.mpr ⟨nd,ur.mpr ⟨(fun z=>nomatch z),nodup_nil⟩,fun x hx y hy z=>?_⟩;rw[vo.mp hy]at z;rw[z]at hx;rw[(W d hx).2]at hd;cases hd
  ·rcases vh.mp Q with Q | Q
   ·exact⟨(W a Q).1,s1 _ _ (W a Q).2⟩
   ·rw[vo.mp Q];exact⟨none_of sm hd,t1⟩
 rintro ys A ⟨m,rfl,hl,sm,nd,W⟩;rw[vt]at hl;refine⟨by rw[vt];lia,?_⟩;walk_at"f l hl2 H2 s2 t2";have nl:=none_of sm hl2;have b0:Beg H l m (List.replicate m.length []) H2:=⟨sm.trans s2,t2,⟨by rw[length_replicate],fun i a x E O=>by
  obtain⟨_,e⟩:=vx.mp O;rw[List.getElem_replicate]at e;subst e;exact s2 _ _ (W a (vm E)).2⟩,nd,fun a h=>(W a h).1,nl⟩
 clear s2 t2 hl2 W;have al:=hl.trans af;walk_at"g";obtain⟨a0,a3,a2⟩:=b0.last (j:=g.length-1) (by rw[length_replicate];lia);refine ixLm (SqL.of b0.el) (j4F (n:=g.length) n1 (by rw[vt];lia) (by rw[vv,a3];rfl)) ?_;exists⟨a0,_,rfl,DPut.k (k:=Sum.inl f) a2 (vD ((KB.none (f:=f) (L:=L)).len _) (by lia)),?_⟩;have b1:=b0.put a3 f;have h0:g.length-1<(List.replicate m.length ([]:Tb)).length:=by rw[length_replicate];lia
 have k1:KB f L (putB (List.replicate m.length []) (g.length-1) f):=KB.none.put h0 (.inl rfl);have t1:Has (putB (List.replicate m.length []) (g.length-1) f) (g.length-1) f:=XC h0;have l1:(putB (List.replicate m.length []) (g.length-1) f).length=g.length:=by rw[Xo,length_replicate,al]
 generalize upd H2 a0 _=H3 at b1|-;generalize putB (List.replicate m.length []) (g.length-1) f=B1 at b1 k1 t1 l1;clear b0 a2 h0;exists⟨_,_,rfl,.inl ⟨_,SqL.of (b1.sm _ _ ep),rfl⟩,?_⟩;rw[vt];exists⟨_,_,rfl,⟨by lia,by lia,by lia,by lia⟩,?_⟩;refine j2u (fun i N A=>IvE7 fun(o4 X Y I J M:Option V) (B:List Tb)=>IvA6 (N=[some (.ref pp),some (.ref pl),some (.int f),some (.ref l),o4,X,Y,I,J,M]) (Beg H l m B A) (KB f L B) (B.length=g.length) (Has B (g.length-1) f) (∀p,p<g.length->g.length<=p+i->∀h,Has B p h->Run L B h (g.getD p [])))
  ⟨_,_,_,_,_,_,B1,rfl,b1,k1,l1,t1,fun p hp hi=>uh hi (by lia)⟩ ?_ ?_
 ·rintro i N A hi ⟨o4,X,Y,I,J,M,B,rfl,b,kb,lB,tp,cl⟩;obtain⟨p,hp⟩:∃p:Nat,(pa.length:Int)-1-(i:Int)=(p:Int):=⟨g.length-1-i,by lia⟩
  have pn:p+i+1=g.length:=by lia
  rw[hp];obtain⟨ap,ab,aa⟩:=b.last (j:=p) (by lia);obtain⟨pc,ac,bs,a4,a8⟩:=a6.get (i:=p) (x:=g.getD p []) (by rw[vy,vz (by lia)];rfl);exists ixLm (SqL.of b.el) (jO (j:=p) (by rw[vv,ab];rfl)) ?_;exists⟨ap,_,rfl,aa,?_⟩;walk_at"f kl hkl H4 s4 t4";have ad:∀{j a},m[j]?=some a->kl≠a:=fun {j a} Q z=>by
   obtain⟨S,e⟩:=vx.mp Q;obtain⟨a',E,O⟩:=b.last (j:=j) (by rw[lB];lia);rw[Q]at E;cases E;rw[<-z,hkl]at O;cases O
  exists⟨kl,rfl,⟨_,SqL.of t4⟩,?_⟩;refine JW (xs:=(B.getD p []).map fun q=>kV q.1) (fun t N A=>IvE6 fun(X Y I J M:Option V) (r:List Tb)=>IvA9 (N=[some (.ref pp),some (.ref pl),some (.int f),some (.ref l),some (.int (p:Nat)),X,Y,I,J,M]) (Beg H l m r A) (A kl=some (.lst ((B.getD p []).map fun q=>kV q.1))) (KB f L r) (r.length=g.length) (Has r (g.length-1) f) ((∀p,p<g.length->g.length<=p+i->∀h,Has r p h->Run L r h (g.getD p []))) (r.getD p []=B.getD p []) (∀j q h,j<t->(B.getD p [])[j]?=some q->q.1=Sum.inl h->Run L r h (g.getD p [])))
   ⟨_,_,_,_,_,B,rfl,b.more s4,t4,kb,lB,tp,cl,rfl,fun j q h z=>uh z (Nat.not_lt_zero _)⟩ ?_ ?_ ?_
  ·rintro t N H5 _ ⟨X,Y,I,J,M,B5,rfl,b5,e5,_⟩;exact SqL.of e5
  ·rintro t x N H5 hx ⟨X,Y,I,J,M,B5,rfl,b5,e5,k5,l5,t5,c5,p5,r5⟩;rw[vv]at hx;obtain⟨q0,a7,rfl⟩:=vg.mp hx;obtain⟨h,eh,ah⟩:=kb.al p q0 (vm a7);rw[eh];show gName 5 (.int h) _ _ _;exists ixLm (SqL.of (b5.sm _ _ ep)) (jO (j:=p) (by rw[vv,ac];rfl)) ?_;exists⟨pc,rfl,⟨_,SqL.of (b5.sm _ _ a4)⟩,?_⟩;refine JW (xs:=bs.map V.ref) (fun u N A=>IvE4 fun(I J M:Option V) (r:List Tb)=>IvA9 (N=[some (.ref pp),some (.ref pl),some (.int f),some (.ref l),some (.int (p:Nat)),some (.int h),some (.int (nowH L h ((g.getD p []).take u))),I,J,M]) (Beg H l m r A) (A kl=some (.lst ((B.getD p []).map fun q=>kV q.1))) (KB f L r) (r.length=g.length) (Has r (g.length-1) f) ((∀p,p<g.length->g.length<=p+i->∀h,Has r p h->Run L r h (g.getD p []))) (r.getD p []=B.getD p []) ((∀j q h,j<t->(B.getD p [])[j]?=some q->q.1=Sum.inl h->Run L r h (g.getD p []))/\Run L r h ((g.getD p []).take u)))
    ⟨_,_,_,B5,rfl,b5,e5,k5,l5,t5,c5,p5,r5,trivial⟩ ?_ ?_ ?_
   ·rintro u N H6 _ ⟨I,J,M,B6,rfl,U,_⟩;exact SqL.of (U.sm _ _ a4)
   ·rintro u v N H6 hv ⟨I,J,M,B6,rfl,U,e6,k6,l6,t6,c6,p6,r6,u6⟩;obtain⟨c,y,rfl,hy,hc⟩:=a8.at_ref hv;obtain⟨yl,ys,yo⟩:=K0.pc p y (vm hy);have yB:y.1<B6.length:=by lia
    obtain⟨aj,Z,a9⟩:=U.last yB;have D:=j1N (h:=nowH L h ((g.getD p []).take u)) yB;refine j3d (SqT.of (U.sm _ _ hc)) ?_;exists ixLm (SqL.of U.el) (jO (j:=y.1) (by rw[vv,Z];rfl)) ?_;exists⟨aj,_,rfl,DPut.k (k:=Sum.inl (nowH L h ((g.getD p []).take u))) a9 (vD (k6.len _) (by lia)),?_⟩;have b7:=U.put Z (nowH L h ((g.getD p []).take u));have e7:=(jh (o:=.dK (putK (B6.getD y.1 []) (Sum.inl (nowH L h ((g.getD p []).take u))) (.bl true))) (ad Z)).trans e6;generalize upd H6 aj _=H7 at b7 e7|-;exists ixLm (SqL.of (b7.sm _ _ el)) (jO (j:=y.1) (by rw[vv,(YB ys).2];rfl)) ?_;refine⟨some (.int (y.1:Nat)),some (.int y.2.1),some (.int y.2.2),_,?_,b7,e7,k6.put yB (j0x ah fun q' R=>(K0.pc p q' (mem_of_mem_take R)).2.1),Xo.trans l6,D _ _ t6,fun p' a1 a5 R s=>?_,(YM (by lia)).trans p6,fun j q' R S C s=>(r6 j q' R S C s).mono D,?_⟩
    ·rw[take_snoc hy,Wt];rfl
    ·refine(c6 p' a1 a5 R ?_).mono D;unfold Has at s|-;rw[YM (by lia)]at s;exact s
    ·rw[take_snoc hy];exact(u6.mono D).snoc (XC yB)
   ·rintro N H6 ⟨I,J,M,B6,rfl,U,e6,k6,l6,t6,c6,p6,r6,u6⟩;rw[vt,a8.1,v3]at u6;refine⟨_,_,_,_,_,B6,rfl,U,e6,k6,l6,t6,c6,p6,fun j q' R S C s=>?_⟩;rcases Nat.lt_or_ge j t with z | z
    ·exact r6 j q' R z C s
    ·have:j=t:=by lia
     subst this;rw[a7]at C;cases C;rw[eh]at s;cases s;exact u6
  rintro N H5 ⟨X,Y,I,J,M,B5,rfl,b5,e5,k5,l5,t5,c5,p5,r5⟩;rw[vt]at r5;refine⟨_,_,_,_,_,_,B5,rfl,b5,k5,l5,t5,fun p' a1 a5 R s=>?_⟩;rcases Nat.lt_or_ge p p' with z | z
  ·exact c5 p' a1 (by lia) R s
  ·have:p'=p:=by lia
   subst this;unfold Has at s;rw[p5]at s;obtain⟨v,hv⟩:=Option.isSome_iff_exists.mp s;obtain⟨q',C,e'⟩:=vK.mp (j1b hv);obtain⟨j,S,ej⟩:=mem_iff_getElem.mp C;exact r5 j q' R S (by rw[vz S,ej]) e'
 rintro N A ⟨o4,X,Y,I,J,M,B,rfl,b,kb,lB,tp,cl⟩;exists xA ?_;exists⟨m,b.nd,fun a Q=>?_,fun H8 fr=>?_⟩
 ·obtain⟨j,S,e⟩:=mem_iff_getElem.mp Q;obtain⟨a',E,O⟩:=b.last (j:=j) (by lia);rw[vz S,e]at E;cases E;exact⟨_,O⟩
 have ae:l∉m:=fun z=>by
  obtain⟨j,S,e⟩:=mem_iff_getElem.mp z;obtain⟨a',E,O⟩:=b.last (j:=j) (by lia);rw[vz S,e]at E;cases E;rw[b.el]at O;cases O
 refine q l m B H8 (fun c u hc=>(fr.1 c fun z=>?_).trans (b.sm _ _ hc)) nl ((fr.1 l ae).trans b.el) ⟨b.at'.1,fun i a x E O=>fr.2 a (vm E) x (b.at'.2 i a x E O)⟩ ⟨lB,kb,tp,fun p hp h s=>cl p hp (by lia) h s⟩;rw[b.nw c z]at hc;cases hc
theorem yW(T:Txt K mg t)(Ju:FnOk P w K mg base CX0 1 t.qH t.qJ ["named"] (sp_numbers_of))(YX:FnOk P w K mg base CX0 3 t.WF t.WS ["book"] (sp_ends))(YY:FnOk P w K mg base CX0 5 t.Y1 t.Y9 ["book"] (sp_lengths))(ZT:FnOk P w K mg base CX0 3 t.ZX t.Z1 ["book","sizes"] (sp_pieces_of))(QW:FnOk P w K mg base CX0 1 t.qX t.qZ ["pieces","left","first"] (sp_begunH)):FnOk P w K mg base CX0 6 t.JH t.qu ["self","book","name"] (sp_initT t.jU):=by
 specialize T.Yi.ok qb;obtain⟨a,M,b,pl,pp,a2,al,ls,s,O,hs,x,f,k,rfl,ha,B,N,hk,q⟩:=h;refine⟨_,(jb (jr (i:=3) qb.nd rfl (.inr rfl) (JK (J1 hr) (ju T.Q1 Ju hr (ja (jo jz (pv 1) jd) jc)) (pv 2)))
  (jb (jr (i:=4) qb.nd rfl (.inr rfl) (qN (ow:=["pairs"]) (ci:=[3]) rfl (CompScope.of (defScope JM) ["self","book","name","limb","left","inside"] rfl rfl (by decide +kernel)) (JR (by decide)) (Jh (ju T.XS YX hr (ja (pv 1) jc))) (fun _ _ _ _ _=>⟨(jw (i:=0) (JU ["self","book","name","limb","left","inside"] rfl (by decide +kernel)) rfl (.inl rfl)),Qq,(j31 (J1 hr) (Jy (KF rfl) (by rfl) T.yQ Zj (ja (pv 0) jc)) (pv 1) ⟨rfl,rfl,rfl,rfl⟩)⟩)))
  (jb (Zv (pv 0) (jo jz (jo jv (jo jz (pv 1) jd) (pv 3)) jd) rfl)
  (jb (Zv (pv 0) (ju T.wO YY hr (ja (pv 1) jc)) rfl)
  (jb (Zv (pv 0) (pv 4) rfl)
  (jb (Zv (pv 0) (jK jc) rfl)
  (jb (Jd PassesOwn.never rfl (Jh (ju T.kQ ZT hr (ja (pv 1) (ja (j6 (pv 0) rfl) jc)))) (jw (i:=5) qb.nd rfl (.inl rfl))
   (jg (Jb (qh PySem.F.plainAttrs_list PySem.F.slot_list_append PySem.F.type_list_append jV (j6 (pv 0) rfl) (ja (qN (ow:=["piece"]) (ci:=[4]) rfl (CompScope.of (defScope JM) ["self","book","name","limb","left","inside"] rfl rfl (by decide +kernel)) (JR (by decide)) (Jh (pv 5)) (fun _ _ _ _ _=>⟨(jw (i:=0) (JU ["self","book","name","limb","left","inside"] rfl (by decide +kernel)) rfl (.inl rfl)),(xu (jt Kn (jo (Yy (K:=K) rfl) (pv 1) (jo (Kk (K:=K) rfl) (pv 0) jd)) zP (nomark _))),(pv 0)⟩)) jc)))))
  (jg (Zv (pv 0) (ju T.ZH QW hr (ja (j6 (pv 0) rfl) (ja (pv 4) (ja (j6 (pv 0) rfl) jc)))) rfl))))))))),?_⟩
 refine jE (σ':=[some _,some _,some _,none,none,none]) rfl ?_
 try dsimp only[cxOf,Cx.nox]
 have sz:(200:Nat)<sizeLine:=by decide
 have W:=N.s.w;have gl:=N.s.gl;have l8:=W.l8;have aW:=W.p61;have la:=B.la.1;have aX:=B.pa.1;have kl:=(vx.mp hk).1;have hj:(nmsOf ls)[k]?=some x:=by unfold nmsOf;rw[vv,hk];rfl
 obtain⟨H0,ac,n0,B0⟩:=B.less ha;have z0:Same H0 H:=ac H fun c u _ h=>h
 exists ixTm (SqT.of B.t) rfl ?_;exists⟨pl,a2,nmsOf ls,rfl,B.l,by rw[nmsOf,vt];exact la,fun i a x ea ex=>?_,W.ln,by rw[nmsOf,vt];lia,fun d H1 s1 hd ed=>?_⟩
 ·unfold nmsOf at ex;rw[vv]at ex;obtain⟨p,ep,rfl⟩:=vg.mp ex;exact⟨_,B.la.2 i a p ea ep⟩
 walk_at"g";have g:DGet H1 d (.str x) (some (.int (k:Nat))):=by
  have g:=DGet.k (k:=Sum.inr x) ed;rw[KW W.ln hj]at g;exact g
 refine⟨d,_,rfl,g,?_⟩;exists⟨b,pl,pp,a2,al,ls,s,rfl,B.same s1,W,fun l2 as E H2 s2 aU e2 na lE aE oE=>?_⟩;exists⟨l2,rfl,⟨_,SqL.of e2⟩,?_⟩;have aR:=aE.1;have ai:(lvE E (k:Nat)).length=s.length:=(vt _).trans lE;refine qm (xs:=as.map V.ref) (fun i ys U=>ys=((lvE E (k:Nat)).take i).map optV/\Same H2 U) ⟨rfl,Same.refl _⟩ ?_ ?_ ?_
 ·rintro i ys U _ ⟨rfl,sm⟩;exact SqL.of (sm _ _ e2)
 ·rintro i v ys U hv ⟨rfl,sm⟩;obtain⟨ae,e,rfl,he,bs,a0,aA⟩:=aE.at_ref hv;have hi:=(vx.mp he).1;have oi:=(oE i _ _ (vz (by lia)) he).1;refine qa (σ':=[none,some (.int (k:Nat))]) rfl ?_;exists iteT ?_;refine j3c ?_;exists⟨ae,bs,e,rfl,sm _ _ a0,aA.1,fun i' c q' h1 h2=>sm _ _ (aA.2 i' c q' h1 h2),?_⟩;walk_at"f d2 hd2 H3 s3 t3";rw[show([]:List (Key×V))=([]:List (Int×Int)).map iiK from rfl,Zq,KQ (oi.imp fun h=>Int.ne_of_lt h)]at t3;refine⟨d2,rfl,.inl ⟨_,.inl t3⟩,?_⟩;exists⟨_,DGet.k (k:=Sum.inl (k:Int)) t3,?_⟩;rw[j0t];refine⟨by rw[vt,vi,ai];lia,?_,sm.trans s3⟩;rw[take_snoc (show(lvE E (k:Nat))[i]?=some (e.lookup (k:Int)) by unfold lvE;rw[vv,he];rfl),vj];rfl
 rintro ys U ⟨rfl,sm⟩;rw[show(as.map V.ref).length=(lvE E (k:Nat)).length by rw[vt,ai];lia,v3];refine⟨by rw[vt,ai];lia,?_⟩;walk_at"f 3 t";have D:Same H H3:=s1.trans (s2.trans (sm.trans s3));obtain⟨lk,aI,ek⟩:=B.la.get hk;have J:p3≠a:=fun z=>by rw[z,sm _ _ (s2 _ _ (s1 _ _ ha))]at hp3;cases hp3
 exists ixTm (SqT.of (D _ _ B.t)) rfl ?_;exists ixLm (SqL.of (D _ _ B.l)) (jO (j:=k) (by rw[vv,aI];rfl)) ?_;exists ixTm (SqT.of (D _ _ ek)) rfl ?_;exists⟨a,_,M,[],rfl,D _ _ ha,T.jX,T.qB,(by show 0<1000;decide),?_⟩;generalize e4:upd H3 a _=H4;have k4:∀c u,c≠a->H3 c=some u->H4 c=some u:=fun c u n h=>e4▸(jh n).trans h
 have a4:=qQ e4;clear e4;have z4:Same H0 H4:=ac H4 fun c u n h=>k4 _ _ n (D _ _ h)
 exists⟨b,pl,pp,a2,al,ls,s,O,hs,rfl,B0.same z4,N.s,fun l5 H5 s5 aq e5=>?_⟩;exists⟨a,_,M,_,rfl,s5 _ _ a4,T.jX,T.Je,few (JJ _ _ _) (by decide),?_⟩;have n5:l5≠a:=fun z=>by rw[z,a4]at aq;cases aq
 generalize e6:upd H5 a _=H6;have k6:∀c u,c≠a->H5 c=some u->H6 c=some u:=fun c u n h=>e6▸(jh n).trans h
 have a6:=qQ e6;clear e6;have z6:Same H0 H6:=fun c u h=>k6 _ _ (n0 h) (s5 _ _ (z4 _ _ h))
 exists⟨a,_,M,_,rfl,a6,T.jX,T.qp,vD (JJ _ _ _) (vD (Nat.succ_le_succ (JJ _ _ _)) (by decide)),?_⟩;generalize e7:upd H6 a _=H7;have k7:∀c u,c≠a->H6 c=some u->H7 c=some u:=fun c u n h=>e7▸(jh n).trans h
 have a7:=qQ e7;clear e7;exists⟨va _,?_⟩;walk_at"f 8 t";have n8:p8≠a:=fun z=>by rw[z,a7]at hp8;cases hp8
 exists⟨a,_,M,_,rfl,s8 _ _ a7,T.jX,T.Js,few3,?_⟩;generalize e9:upd H8 a _=H9;have k9:∀c u,c≠a->H8 c=some u->H9 c=some u:=fun c u n h=>e9▸(jh n).trans h
 have a9:=qQ e9;clear e9;have w5:∀c u,c≠a->H5 c=some u->H9 c=some u:=fun c u n h=>k9 _ _ n (s8 _ _ (k7 _ _ n (k6 _ _ n h)))
 have w3:∀c u,c≠a->H3 c=some u->H9 c=some u:=fun c u n h=>w5 _ _ n (s5 _ _ (k4 _ _ n h))
 have z9:Same H0 H9:=fun c u h=>w5 _ _ (n0 h) (s5 _ _ (z4 _ _ h))
 have aj:∀{c u},H7 c=some u->c≠p8:=fun h=>je h hp8
 exists⟨a,_,M,_,_,rfl,a9,T.jX,T.Je,(j5 (by decide +kernel)).trans ((j5 (by decide +kernel)).trans Qn),?_⟩;exists⟨b,pl,pp,l5,a2,al,ls,s,O,rfl,B0.same z9,W,w5 _ _ n5 e5,gl,fun ar a5 Y a3 aa an a8 av=>?_⟩;have aB:Y p8=some (.lst []):=a3 _ _ (k9 _ _ n8 t8);have am:=a3 _ _ a9;have ay:Y p3=_:=a3 _ _ (w3 _ _ J t3);have Q:p3≠p8:=aj (k7 _ _ J (k6 _ _ J (s5 _ _ (k4 _ _ J t3))));have ax:ar≠p8:=fun z=>by rw[z,k9 _ _ n8 t8]at aa;cases aa
 have af:=a8.1;rw[vt]at af;exists⟨ar,rfl,⟨_,SqL.of an⟩,?_⟩;refine JW (xs:=a5.map V.ref) (fun i σ U=>IvE2 fun(o5:Option V) (R:List Addr)=>IvA4 (σ=[some (.ref a),some (.ref b),some (.str x),some (.int (k:Nat)),some (.ref p3),o5]) (∀c u,c≠p8->Y c=some u->U c=some u) (U p8=some (.lst (R.map V.ref))) ((∀c∈R,c≠p8)/\PssAt U R ((fPc s O (lvE E (k:Nat))).take i)))
  ⟨_,[],rfl,fun c u _ h=>h,aB,(fun c h=>nomatch h),.nil⟩ ?_ ?_ ?_
 ·rintro i σ U _ ⟨o5,R,rfl,r,e8,n8,C⟩;exact SqL.of (r _ _ ax an)
 ·rintro i v σ Z hv ⟨o5,R,rfl,r,e8,ak,C⟩;obtain⟨c0,qs,rfl,ah,bs,a0,ao⟩:=a8.at_ref hv;have aD:c0∈a5:=by
   rw[vv]at hv;obtain⟨a',ea,e'⟩:=vg.mp hv;injection e' with e';subst e';exact vm ea
  have aw:c0≠p8:=fun z=>by have:=av c0 aD;rw[z,k9 _ _ n8 t8]at this;cases this
  have aO:∀{c:Addr} {xs:List V},Y c=some (.tup xs)->c≠p8:=fun h=>Jq h aB (fun z=>by cases z)
  have hi:i<s.length:=by
   have:=(vx.mp ah).1;rw[vt]at this;exact this
  rw[vv,vz hi]at ah;have ag:qs=pcsI O s[i].2 (inP s s[i].2):=(vL ah).symm;have q8:qs.length<=8:=ag▸Xn (N.i8 (vz hi));have aQ:∀y∈qs,y.1<s.length:=fun y hy=>by
   have:y∈pcB s O i:=by unfold pcB;rw[vz hi];rw[ag]at hy;exact hy
   have:=kC W this;lia
  have aH:=ao.1;have az:=C.1;rw[vi]at az;have aS:(fPc s O (lvE E (k:Nat))).length=s.length:=vt _;have aG:(fPc s O (lvE E (k:Nat)))[i]?=some (qs.filter fun q=>((lvE E (k:Nat)).getD q.1 none).isSome):=by
   unfold fPc;rw[vv,vz hi,ag];rfl
  exists⟨a,_,M,_,_,rfl,r _ _ (Ne.symm n8) am,T.jX,T.Js,Qn,.inl ⟨rfl,_,SqL.of e8⟩,?_⟩;exists⟨c0,rfl,⟨_,SqL.of (r _ _ aw a0)⟩,?_⟩;refine qm (xs:=bs.map V.ref) (fun j ys X=>IvE1 fun(fb:List Addr)=>IvA3 (ys=fb.map V.ref) (fb.length<=j) (PcsAt Z fb ((qs.take j).filter fun q=>((lvE E (k:Nat)).getD q.1 none).isSome)/\Z=X)) ⟨[],rfl,vb _,.nil,rfl⟩ ?_ ?_ ?_
  ·rintro j ys X _ ⟨fb,rfl,fl,hf,rfl⟩;exact SqL.of (r _ _ aw a0)
  ·rintro j v ys X aJ ⟨fb,rfl,fl,hf,rfl⟩;obtain⟨c,y,rfl,hy,hc⟩:=ao.at_ref aJ;have aT:=(vx.mp hy).1;have ap:Z c=_:=r _ _ (aO hc) hc;have yl:=aQ y (vm hy);have ey:(lvE E (k:Nat))[y.1]?=some ((lvE E (k:Nat)).getD y.1 none):=by rw[vy,vz (by lia)];rfl
   refine qa (σ':=[none,some (.ref p3)]) rfl ?_;exists ixTm (SqT.of ap) rfl ?_;exists ixLm (SqL.of (r _ _ Q ay)) (jO (j:=y.1) (by rw[vv,ey];rfl)) ?_;exists⟨rfl,?_⟩;refine⟨_,rfl,?_⟩;rw[notN];have ef:(qs.take (j+1)).filter (fun q=>((lvE E (k:Nat)).getD q.1 none).isSome)=((qs.take j).filter fun q=>((lvE E (k:Nat)).getD q.1 none).isSome)++(if((lvE E (k:Nat)).getD y.1 none).isSome=true then[y]else[]):=by
    rw[take_snoc hy,filter_append];congr 1;rw[v6,filter_nil]
   cases eo:(lvE E (k:Nat)).getD y.1 none with
   | none=>
    rw[eo]at ef;refine iteF ?_;refine⟨fb,rfl,by lia,?_,rfl⟩;rw[ef];exact(append_nil _).symm▸hf
   | some h=>
    rw[eo]at ef;refine iteT ?_;exists⟨by rw[vt];lia,fb++[c],by rw[vj];rfl,by rw[vn,length_singleton];lia,?_,rfl⟩;rw[ef];exact All2.snoc hf ap
  rintro ys X ⟨fb,rfl,fl,hf,rfl⟩;rw[vt]at fl hf;rw[aH,v3]at hf;refine⟨by rw[vt];lia,?_⟩;walk_at"f 12 t";exists⟨p8,_,_,rfl,rfl,s12 _ _ e8,by rw[vt];lia,?_⟩;have au:p12≠p8:=(je e8 hp12).symm;have ad:∀{c:Addr} {xs:List V},H12 c=some (.tup xs)->c≠p8:=fun h=>Jq h (s12 _ _ e8) (fun z=>by cases z)
  refine⟨some (.ref c0),R++[p12],rfl,fun c u hc h=>(jh hc).trans (s12 _ _ (r _ _ hc h)),?_,fun c hc=>(vh.mp hc).elim (ak c) fun z=>by rw[vo.mp z];exact au,?_⟩
  ·rw[jG,vj];rfl
  ·rw[take_snoc aG];refine All2.snoc (All2.monoM C fun c hc e h=>?_) ⟨fb,(jh au).trans t12,All2.mono hf fun b q h=>(jh (ad (s12 _ _ h))).trans (s12 _ _ h)⟩;obtain⟨aC,h1,h2⟩:=h;exact⟨aC,(jh (ak c hc)).trans (s12 _ _ h1),All2.mono h2 fun b q h=>(jh (ad (s12 _ _ h))).trans (s12 _ _ h)⟩
 rintro σ Z ⟨o5,R,rfl,r,e8,ak,C⟩;rw[vt,af,show(fPc s O (lvE E (k:Nat))).take s.length=fPc s O (lvE E (k:Nat))from by rw[<-show(fPc s O (lvE E (k:Nat))).length=s.length from vt _,v3]]at C;have S:=N.strand lE oE hk;have A:=r _ _ (Ne.symm n8) am;exists⟨a,_,M,_,_,rfl,A,T.jX,T.Js,Qn,?_⟩;exists⟨a,_,M,_,_,rfl,A,T.jX,T.qB,(j5 (by decide +kernel)).trans ((j5 (by decide +kernel)).trans ((j5 (by decide +kernel)).trans Qn)),?_⟩;exists⟨p8,p3,R,f,lvE E (k:Nat),O,_,rfl,e8,C,r _ _ Q ay,S,fun a1 ba Bt I l ab aF fz ok=>?_⟩;exists⟨a,_,M,_,rfl,l _ _ A,T.jX,T.Qp,few4,?_⟩;have aK:a1≠a:=fun z=>by rw[z,A]at ab;cases ab
 have L:∀c u,c≠a->I c=some u->upd I a (.ins t.jU M (fldT ⟨l5,p3,p8,a1,R,ba⟩ f)) c=some u:=fun c u n h=>(jh n).trans h
 have u9:∀c u,c≠a->c≠p8->H9 c=some u->upd I a (.ins t.jU M (fldT ⟨l5,p3,p8,a1,R,ba⟩ f)) c=some u:=fun c u n m h=>L _ _ n (l _ _ (r _ _ m (a3 _ _ h)))
 have aN:∀{c:Addr} {xs:List V},I c=some (.lst xs)->c≠a:=fun h=>Jq h (l _ _ A) (fun z=>by cases z)
 have aP:∀{c:Addr} {xs:List V},I c=some (.tup xs)->c≠a:=fun h=>Jq h (l _ _ A) (fun z=>by cases z)
 have aM:∀{c:Addr} {o:Obj} {u:HO},I c=some (.frz o u)->c≠a:=fun h=>Jq h (l _ _ A) (fun z=>by cases z)
 have aL:l5≠p8:=aj (k7 _ _ n5 (k6 _ _ n5 e5));have h7:∀c u,c≠a->H c=some u->H7 c=some u:=fun c u n h=>k7 _ _ n (k6 _ _ n (s5 _ _ (k4 _ _ n (D _ _ h))))
 refine q ⟨l5,p3,p8,a1,R,ba⟩ E Bt _ (fun c u n h=>u9 _ _ n (aj (h7 _ _ n h)) (w3 _ _ n (D _ _ h))) lE oE S ⟨⟨M,jG⟩,u9 _ _ n5 aL (w5 _ _ n5 e5),u9 _ _ J Q (w3 _ _ J t3),L _ _ n8 (l _ _ e8),?_,L _ _ aK aF,All2.mono fz fun c aV ⟨o,h⟩=>⟨o,L _ _ (aM h) h⟩⟩ ok;exact All2.mono C fun c e ⟨bs,h1,h2⟩=>⟨bs,L _ _ (aN (l _ _ h1)) (l _ _ h1),All2.mono h2 fun b q h=>L _ _ (aP (l _ _ h)) (l _ _ h)⟩
theorem Xx(T:Txt K mg t):FnOk P w K mg base CX0 1 t.Zh t.Zm ["pieces","sizes","gone"] (sp_progress):=by
 specialize T.Ky.F.ok qE;obtain⟨l,s0,b,Z,N,a,rfl,Q,S,R,q8,ok,t1,t2,q⟩:=h;refine⟨_,(jb (jr (i:=3) qE.nd rfl (.inl rfl) (jK jc))
  (jb (Jd PassesOwn.never rfl (Jh (pv 0)) (Qc rfl (jL (jw (i:=4) qE.nd rfl (.inl rfl)) (jL (jw (i:=5) qE.nd rfl (.inl rfl)) (jL (jw (i:=6) qE.nd rfl (.inl rfl)) J3))))
   (jg (j3 (jt Xz (pv 6) (pv 2) (nomark _))
    (jb (jr (i:=7) qE.nd rfl (.inl rfl) (jD (yv rfl) (by rfl) T.j0y WM (ja (jq j2 (jq Jt (pv 2) (pv 6)) (jo jv (pv 1) (pv 4))) (ja (pv 5) jc))))
    (jb (jr (i:=8) qE.nd rfl (.inl rfl) (zW (jt Z5 (pv 7) (pv 5) (nomark _)) (jq Jt (jq Jt (pv 2) (pv 6)) (jq Jv (pv 7) (jo jv (pv 1) (pv 4)))) zP))
    (jg (Jb (qh PySem.F.plainAttrs_list PySem.F.slot_list_append PySem.F.type_list_append jV (pv 3) (ja (jN (ja (pv 4) (ja (pv 6) (ja (pv 7) (ja (pv 8) jc))))) jc))))))
    jA)))
  (jg (jB (pv 3))))),?_⟩
 refine jE (σ':=[some _,some _,some _,none,none,none,none,none,none]) rfl ?_
 try dsimp only[cxOf,Cx.nox]
 have sz:(10000:Nat)<sizeLine:=by decide
 have s:∀j,j<a.length->a[j]?=some (a.getD j 0):=fun j h=>by
  rw[vy,vz h];rfl
 have Y:=S.1;exists⟨va _,?_⟩;walk_at"f p hp H1 s1 e1";have W:∀{c u},H c=some u->c≠p:=fun h=>je h hp
 exists⟨l,rfl,⟨_,SqL.of (s1 _ _ Q)⟩,?_⟩;refine JW (xs:=Z.map V.ref) (fun i O m=>IvE6 fun(C D E I J:Option V) (d:List Addr)=>IvA4 (O=[some (.ref l),some (.ref s0),some (.int b),some (.ref p),C,D,E,I,J]) (Same H m) (m p=some (.lst (d.map V.ref))) (d.length<=i/\PrgAt m d (prg a b (N.take i))))
  ⟨_,_,_,_,_,[],rfl,s1,e1,vb _,.nil⟩ ?_ ?_ ?_
 ·rintro i O m _ ⟨C,D,E,I,J,d,rfl,k,e,U,n⟩;exact SqL.of (k _ _ Q)
 ·rintro i v O m hv ⟨C,D,E,I,J,d,rfl,k,e,U,n⟩;obtain⟨c,x,rfl,M,hc⟩:=S.at_ref hv;have hi:=(vx.mp M).1;have A:=ok x (vm M);have B:=A;obtain⟨X,g1,g2,n1,n2,b1,b2⟩:=B;have g:prg a b (N.take (i+1))=prg a b (N.take i)++(prg1 a b x).toList:=by
   rw[take_snoc M];unfold prg;rw[List.filterMap_append];congr 1
  refine j3d (SqT.of (k _ _ hc)) ?_;exists iteD (fun r=>?_) (fun r=>?_)
  ·have a1:=j2Z A r;exists ixLm (SqL.of (k _ _ R)) (jO (j:=x.1) (by rw[vv,s _ X];rfl)) ?_;walk_at"g";have eo:(if x.2.1<(b-x.2.2)/a.getD x.1 0 then x.2.1 else(b-x.2.2)/a.getD x.1 0)=ov a b x:=rfl;have a0:(if(b-x.2.2)/a.getD x.1 0>x.2.1 then x.2.1 else(b-x.2.2)/a.getD x.1 0)=ov a b x:=rfl;refine⟨_,_,rfl,?_⟩;rw[eo];exists iteD (fun L=>?_) (fun L=>?_)
   ·exists ixLm (SqL.of (k _ _ R)) (jO (j:=x.1) (by rw[vv,s _ X];rfl)) ?_;exists⟨.inl ⟨rfl,_,SqL.of e⟩,?_⟩;exists⟨ud,?_⟩;walk_at"f 2 e";exists⟨p,_,_,rfl,rfl,s2 _ _ e,by rw[vt];lia,?_⟩;have o:p2≠p:=fun z=>by rw[z,s2 _ _ e]at e2;cases e2
    refine⟨_,_,_,_,_,d++[p2],rfl,fun c u h=>(jh (W h)).trans (s2 _ _ (k _ _ h)),by rw[jG,vj];rfl,by rw[vn];show d.length+1<=_;lia,?_⟩;have f:prg1 a b x=some (x.1,x.2.2,ov a b x,some (b-x.2.2-ov a b x*a.getD x.1 0)):=by
     unfold prg1;rw[vd r,vd L]
    rw[g,f];refine All2.snoc (All2.mono n fun c y h=>?_) ((jh o).trans e2);exact(jh (fun z=>by rw[z,e]at h;cases h)).trans (s2 _ _ h)
   ·exists⟨.inl ⟨rfl,_,SqL.of e⟩,?_⟩;exists⟨ud,?_⟩;walk_at"f 2 e";exists⟨p,_,_,rfl,rfl,s2 _ _ e,by rw[vt];lia,?_⟩;have o:p2≠p:=fun z=>by rw[z,s2 _ _ e]at e2;cases e2
    refine⟨_,_,_,_,_,d++[p2],rfl,fun c u h=>(jh (W h)).trans (s2 _ _ (k _ _ h)),by rw[jG,vj];rfl,by rw[vn];show d.length+1<=_;lia,?_⟩;have f:prg1 a b x=some (x.1,x.2.2,ov a b x,none):=by
     unfold prg1;rw[vd r,vc L]
    rw[g,f];refine All2.snoc (All2.mono n fun c y h=>?_) ((jh o).trans e2);exact(jh (fun z=>by rw[z,e]at h;cases h)).trans (s2 _ _ h)
  ·exists⟨_,_,_,_,_,d,rfl,k,e,by lia,?_⟩;have f:prg1 a b x=none:=by
    unfold prg1;rw[vc r]
   rw[g,f];show PrgAt m d (_++[]);rw[append_nil];exact n
 rintro σ' m ⟨C,D,E,I,J,d,rfl,k,e,U,n⟩;rw[vt,Y,v3]at n;walk_at"g";exact q p d m k hp e n
theorem kA(T:Txt K mg t):FnOk P w K mg base CX0 1 t.qe t.qf ["self","part"] (sp_raises t.jU):=by
 specialize T.Ka.ok kJ;obtain⟨a,z,f,L,r,c,B,i,rfl,A,S,s,q⟩:=h;refine⟨_,(jg (jB (j30 (j10 Kn (jo jv (j6 (pv 0) rfl) (pv 1)) zP (nomark _)) (j32 (j4h (jo jv (j6 (pv 0) rfl) (pv 1))))))),?_⟩;refine jE (σ':=[some _,some _]) rfl ?_
 try dsimp only[cxOf,Cx.nox]
 obtain⟨k,l⟩:=A.ob;have u:=S.lL;have o:=A.pa.1;have m:L[i]?=some (L.getD i none):=by rw[vy,vz (by lia)];rfl
 have n:c[i]?=some (c.getD i []):=by rw[vy,vz (by lia)];rfl
 obtain⟨x,e,p,d,g⟩:=A.pa.get n;exists⟨a,_,k,_,_,rfl,l,T.jX,T.qp,WW,?_⟩;exists ixLm (SqL.of A.hl) (jO (j:=i) (by rw[vv,m];rfl)) ?_;exists⟨rfl,?_⟩;refine⟨_,rfl,?_⟩;rw[notN];unfold rzB at q;cases eo:L.getD i none with
 | none=>
  rw[eo]at q;exact iteF q
 | some v=>
  rw[eo]at q;refine iteT ?_;refine j4k ?_;exists⟨a,_,k,_,_,rfl,l,T.jX,T.Js,Wj,?_⟩;exists ixLm (SqL.of A.hp) (jO (j:=i) (by rw[vv,e];rfl)) ?_;refine⟨_,.inl ⟨_,SqL.of d,rfl⟩,?_⟩;rw[Bool.not_not,j3T (b:=c.getD i []) ((vt _).trans g.1)];exact q
theorem xi(T:Txt K mg t):FnOk P w K mg base CX0 1 t.zt t.zA ["many","top","plus","bottom"] (Pr.YV):=by
 refine T.kN.F.ok Jw (fun I H Q E h=>?_) (fun v A o s H I Q E C h=>?_)
 ·obtain⟨d,g,f,a,rfl,z,q⟩:=h;rfl
 obtain⟨d,g,f,a,rfl,z,q⟩:=h;refine⟨_,(jb (jr (i:=4) Jw.nd rfl (.inl rfl) jd)
  (jb (XB PassesOwn.never (jt ZI (pv 0) jd (nomark _))
   (jb (xw (i:=4) Jw.nd rfl (.inl rfl) (jq jS (jq Jv (jq j2 (jq Jv (pv 0) (jq Jt (pv 0) jd)) jd) (jq j2 (pv 1) (pv 3))) (jq Jv (pv 0) (jq j2 (pv 2) (pv 3)))) WY)
   (jb (jr (i:=5) Jw.nd rfl (.inl rfl) (jq Ja (pv 1) (pv 3)))
   (jb (jr (i:=6) Jw.nd rfl (.inl rfl) (jq jS (jq Jv (pv 5) (pv 0)) (jq Ja (pv 2) (pv 3))))
   (jb (jr (i:=0) Jw.nd rfl (.inl rfl) (jq j2 (pv 6) (pv 3)))
   (jb (jr (i:=2) Jw.nd rfl (.inl rfl) (jq Ja (pv 6) (pv 3)))
   (jb (jr (i:=1) Jw.nd rfl (.inl rfl) (pv 3))
   (jg (jr (i:=3) Jw.nd rfl (.inl rfl) (pv 5))))))))))
  (jg (jB (pv 4))))),?_⟩
 refine jE (σ':=[some _,some _,some _,some _,none,none,none]) rfl ?_
 try dsimp only[cxOf,Cx.nox]
 exists⟨fun n σ' l=>IvE7 fun(m t p b j:Int) (r u:Option V)=>IvA4 (σ'=[some (.int m),some (.int t),some (.int p),some (.int b),some (.int j),r,u]) (l=H) (n=b.toNat) ((0<=m/\m<=10^100/\-10^125<=t/\t<=10^125/\-10^125<=p/\p<=10^125/\0<=b/\b<=10^125/\(0<m->0<b))/\j+Fs.fsum m t p b=Fs.fsum d g f a),
  ⟨_,_,_,_,_,_,_,_,rfl,rfl,rfl,(by lia),uz _⟩,?_⟩
 rintro n σ' l ⟨m,t,p,b,j,r,u,rfl,rfl,rfl,N,D⟩;exists iteD (fun c=>?_) (fun c=>?_)
 ·have k:0<b:=by lia
  have C:=Fs.round (t:=t) (p:=p) k c;have O:=Fs.j41 k t p (m:=m) (by lia);have J:=j0G (x:=t) (b:=b) (B:=10^125) k (by lia) (by lia);have L:=j0G (x:=p) (b:=b) (B:=10^125) k (by lia) (by lia);have M:=j2O (x:=m) (y:=m-1) (A:=10^100) (B:=10^100) (by lia) (by lia) (by lia) (by lia);refine⟨_,fun σ' l h=>h,?_⟩;exists⟨(t%b).toNat,by lia,_,_,_,_,_,_,_,rfl,rfl,rfl,(by lia),by lia⟩
 ·walk_at"g";rw[Fs.Wi (by lia)]at D;have e:j=Fs.fsum d g f a:=by lia
  rw[e];exact q
theorem Xy(T:Txt K mg t)(d:FnOk P w K mg base CX0 1 t.zt t.zA ["many","top","plus","bottom"] (Pr.YV)):FnOk P w K mg base CX0 2 t.yP t.yT ["start","goal","beats","many"] (Pr.kY):=by
 refine T.Kz.F.ok XJ (fun k H Q E h=>?_) (fun e A a s H k Q E i h=>?_)
 ·obtain⟨j,g,b,m,rfl,c,f,q⟩:=h;rfl
 obtain⟨j,g,b,m,rfl,c,f,q⟩:=h;refine⟨_,(jg (jB (jq jS (jq Jv (pv 0) (pv 3)) (ju T.kN d i (ja (pv 3) (ja (jq Jt (pv 1) (pv 0)) (ja jd (ja (pv 2) jc)))))))),?_⟩;refine jE (σ':=[some _,some _,some _,some _]) rfl ?_
 try dsimp only[cxOf,Cx.nox]
 unfold Pr.B4 at c;exists⟨_,_,_,_,rfl,(by lia),?_⟩;walk_at"g";exact q
theorem j0a(T:Txt K mg t):FnOk P w K mg base CX0 1 t.yu t.yw ["start","goal","beats","height"] (Pr.wp):=by
 refine T.YW.F.ok j0l (fun k H Q E h=>?_) (fun i A d s H k Q E l h=>?_)
 ·obtain⟨a,g,b,h,rfl,f,j,q⟩:=h;rfl
 obtain⟨a,g,b,h,rfl,f,j,q⟩:=h;refine⟨_,(jb (j3 (jt ZI (pv 1) (pv 0) (nomark _))
   (jg (jB (Z8 zq (jq j2 (jq Jv (jq Jt (pv 0) (pv 3)) (pv 2)) (jq Jt (pv 1) (pv 0))))))
   jA)
  (jg (jB (jq jS (jq j2 (jq Jv (jq Jt (jq Jt (pv 0) (pv 3)) jd) (pv 2)) (jq Jt (pv 0) (pv 1))) jd)))),?_⟩
 refine jE (σ':=[some _,some _,some _,some _]) rfl ?_
 try dsimp only[cxOf,Cx.nox]
 unfold Pr.B4 at f;exists iteD (fun c=>?_) (fun c=>?_)
 ·walk_at"g";have e:Rp.reached a g b h = -((a-h)*b/(g-a)):=by unfold Rp.reached;rw[vd c]
  rw[e]at q;exact q
 ·walk_at"g";have e:Rp.reached a g b h=(a-h-1)*b/(a-g)+1:=by unfold Rp.reached;rw[vc c]
  rw[e]at q;exact q
theorem j0b(T:Txt K mg t)(x:FnOk P w K mg base CX0 1 t.yu t.yw ["start","goal","beats","height"] (Pr.wp)):FnOk P w K mg base CX0 2 t.Y2 t.ka ["start","goal","beats","height","many"] (Pr.wt):=by
 refine T.wP.F.ok ZF (fun C H Q E h=>?_) (fun y A r s H C Q E v h=>?_)
 ·obtain⟨f,g,b,h,m,rfl,u,n,o,q⟩:=h;rfl
 obtain⟨f,g,b,h,m,rfl,u,n,o,q⟩:=h;refine⟨_,(jb (j3 (jt Jc (pv 1) (pv 0) (nomark _))
   (jg (jB (jN (ja jd (ja (zW (jt Jc (pv 3) (pv 0) (nomark _)) (pv 4) jd) jc)))))
   jA)
  (jb (jr (i:=5) ZF.nd rfl (.inl rfl) (zW (jt ZI (pv 1) (pv 0) (nomark _)) (jq jS (pv 3) jd) (jq Jt (pv 3) jd)))
  (jb (jr (i:=6) ZF.nd rfl (.inl rfl) (jD (Y5 rfl) (by rfl) T.wR Y4 (ja (ju T.YW x v (ja (pv 0) (ja (pv 1) (ja (pv 2) (ja (pv 3) jc))))) (ja jd jc))))
  (jb (jr (i:=7) ZF.nd rfl (.inl rfl) (jD (yv rfl) (by rfl) T.j0y WM (ja (ju T.YW x v (ja (pv 0) (ja (pv 1) (ja (pv 2) (ja (pv 5) jc))))) (ja (pv 4) jc))))
  (jg (jB (jN (ja (pv 6) (ja (jD (Y5 rfl) (by rfl) T.wR Y4 (ja (pv 6) (ja (pv 7) jc))) jc))))))))),?_⟩
 refine jE (σ':=[some _,some _,some _,some _,some _,none,none,none]) rfl ?_
 try dsimp only[cxOf,Cx.nox]
 unfold Pr.B4 at u;have k:(2:Nat)<=sizeLine:=by decide
 exists iteD (fun c=>?_) (fun c=>?_)
 ·exists iteD (fun d=>?_) (fun d=>?_)
  ·exists⟨k,fun p e=>q p _ (Pr.YO e _) ?_⟩;rw[jG];unfold Rp.fst Rp.lst;rw[vd c,vd c,vd d]
  ·exists⟨k,fun p e=>q p _ (Pr.YO e _) ?_⟩;rw[jG];unfold Rp.fst Rp.lst;rw[vd c,vd c,vc d]
 ·have a:∀p j,Same H j->j p=some (.tup [.int (Rp.imax (Rp.reached f g b h) 0),.int (Rp.imax (Rp.imax (Rp.reached f g b h) 0) (Rp.imin (Rp.reached f g b (Rp.beyond f g h)) m))])->Q (.ref p) j:=by
   intro p j z B;refine q p j z ?_;rw[B];unfold Rp.fst Rp.lst;rw[vc c,vc c];unfold Rp.fst;rw[vc c]
  exists iteD (fun d=>?_) (fun d=>?_)
  ·have l:Rp.beyond f g h=h+1:=by unfold Rp.beyond;rw[vd d]
   rw[l]at a;exists⟨_,_,_,_,rfl,(by unfold Pr.B4;lia),c,?_⟩;exists⟨_,_,rfl,?_⟩;exists⟨_,_,_,_,rfl,(by unfold Pr.B4;lia),c,?_⟩;exists⟨_,_,rfl,?_⟩;exists⟨_,_,rfl,?_⟩;walk_at"g";exact⟨k,fun p e=>a p _ (Pr.YO e _) jG⟩
  ·have l:Rp.beyond f g h=h-1:=by unfold Rp.beyond;rw[vc d]
   rw[l]at a;exists⟨_,_,_,_,rfl,(by unfold Pr.B4;lia),c,?_⟩;exists⟨_,_,rfl,?_⟩;exists⟨_,_,_,_,rfl,(by unfold Pr.B4;lia),c,?_⟩;exists⟨_,_,rfl,?_⟩;exists⟨_,_,rfl,?_⟩;walk_at"g";exact⟨k,fun p e=>a p _ (Pr.YO e _) jG⟩
theorem wJ(T:Txt K mg t)(j:FnOk P w K mg base CX0 2 t.Y2 t.ka ["start","goal","beats","height","many"] (Pr.wt)):FnOk P w K mg base CX0 3 t.Zi t.Zn ["start","goal","beats","height","many"] (Pr.yI):=by
 refine T.Yg.F.ok yH (fun r H Q E h=>?_) (fun k A d s H r Q E l h=>?_)
 ·obtain⟨o,g,b,h,m,rfl,e,a,c,q⟩:=h;rfl
 obtain⟨o,g,b,h,m,rfl,e,a,c,q⟩:=h;refine⟨_,(jb (jr (i:=5) yH.nd rfl (.inl rfl) (ju T.wP j l (ja (pv 0) (ja (pv 1) (ja (pv 2) (ja (pv 3) (ja (pv 4) jc)))))))
  (jg (jB (jq Jt (jo jz (pv 5) jd) (jo jz (pv 5) jd))))),?_⟩
 refine jE (σ':=[some _,some _,some _,some _,some _,none]) rfl ?_
 try dsimp only[cxOf,Cx.nox]
 exists⟨_,_,_,_,_,rfl,e,a,c,fun p u n f=>?_⟩;exists ixTm (SqT.of f) rfl ?_;exists ixTm (SqT.of f) rfl ?_;walk_at"g";exact q _ n
theorem j0c(T:Txt K mg t)(f:FnOk P w K mg base CX0 2 t.yP t.yT ["start","goal","beats","many"] (Pr.kY))(c:FnOk P w K mg base CX0 3 t.Zi t.Zn ["start","goal","beats","height","many"] (Pr.yI)):FnOk P w K mg base CX0 4 t.Y3 t.kc ["asked","start","goal","beats","many"] (sp_weighed):=by
 specialize T.wQ.F.ok j0m;obtain⟨o,h,g,b,m,rfl,d,p,r,k,l,i,j,s,u,q⟩:=h;refine⟨_,(jb (j3 (jt j2Y (pv 0) zP (nomark _))
   (jg (jB (ju T.Kz f hr (ja (pv 1) (ja (pv 2) (ja (pv 3) (ja (pv 4) jc)))))))
   jA)
  (jg (jB (ju T.Yg c hr (ja (pv 1) (ja (pv 2) (ja (pv 3) (ja (pv 0) (ja (pv 4) jc))))))))),?_⟩
 refine jE (σ':=[some _,some _,some _,some _,some _]) rfl ?_
 try dsimp only[cxOf,Cx.nox]
 obtain⟨n,rfl⟩:∃n:Nat,m=(n:Int):=⟨m.toNat,by lia⟩
 rw[Int.toNat_natCast]at q;exists⟨rfl,?_⟩;refine⟨_,rfl,?_⟩;cases o with
 | none=>
  refine iteB1 (by simp[optV]) ?_;exists⟨h,g,b,n,rfl,⟨by lia,by lia,by lia,by lia,by lia,by lia,by lia,by lia⟩,by lia,?_⟩;rw[j16];exact q H (Same.refl _)
 | some x=>
  have:=d x rfl;refine iteB0 (by simp[optV]) ?_;exists⟨h,g,b,x,n,rfl,⟨by lia,by lia,by lia,by lia,by lia,by lia,by lia,by lia⟩,by lia,by lia,fun a e=>?_⟩;rw[xT (by lia)];exact q a e
theorem j1J(T:Txt K mg t):FnOk P w K mg base CX0 1 t.Yl t.Yu ["asked","height","many"] (sp_stayed):=by
 specialize T.KA.F.ok j1X;obtain⟨o,h,m,rfl,a,b,d,f,q⟩:=h;refine⟨_,(jb (j3 (jt j2Y (pv 0) zP (nomark _))
   (jg (jB (jq Jv (pv 1) (pv 2))))
   jA)
  (jg (jB (zW (jt Jc (pv 1) (pv 0) (nomark _)) (pv 2) jd)))),?_⟩
 refine jE (σ':=[some _,some _,some _]) rfl ?_
 try dsimp only[cxOf,Cx.nox]
 cases o with
 | none=>
  exists⟨rfl,?_⟩;refine⟨_,rfl,?_⟩;refine iteB1 (by simp[optV]) ?_;walk_at"g";exact q
 | some x=>
  dsimp only[optV];exists⟨rfl,?_⟩;refine⟨_,rfl,?_⟩;refine iteB0 (by simp) ?_;exists iteD (fun c=>?_) (fun c=>?_)
  ·walk_at"g";have e:wA (some x) h*m=m:=by
    show(if h=x then(1:Int)else 0)*m=m;rw[vd c,uw]
   rw[e]at q;exact q
  ·walk_at"g";have e:wA (some x) h*m=0:=by
    show(if h=x then(1:Int)else 0)*m=0;rw[vc c,Int.zero_mul]
   rw[e]at q;exact q
theorem yD(T:Txt K mg t)(yM:FnOk P w K mg base CX0 1 t.Zh t.Zm ["pieces","sizes","gone"] (sp_progress))(QV:FnOk P w K mg base CX0 1 t.qe t.qf ["self","part"] (sp_raises t.jU))(Y0:FnOk P w K mg base CX0 4 t.Y3 t.kc ["asked","start","goal","beats","many"] (sp_weighed))(Yj:FnOk P w K mg base CX0 1 t.Yl t.Yu ["asked","height","many"] (sp_stayed)):FnOk P w K mg base CX0 5 t.JB t.JC ["self","part","height","gone"] (sp_withinL t.jM t.jU):=by
 specialize T.yJ.ok jP;obtain⟨a,z,o,Z,d,gs,hs,E,k,x,f,B,n,i,h,D,rfl,A,O,ak,ai,hi,hh,s1,s2,q⟩:=h;refine⟨_,(jb (j3 (j38 (Ko (j6 (pv 0) rfl) T.jX T.kz (QV.mono (by decide)) hr T.kZ .nil pass0 (ja (pv 1) jc)))
   (jg (jB (jN (ja (ju T.wQ Y0 hr (ja (j6 (pv 0) rfl) (ja (pv 2) (ja (jo jv (j6 (j6 (pv 0) rfl) rfl) (pv 1)) (ja (jo jv (j6 (j6 (pv 0) rfl) rfl) (pv 1)) (ja (pv 3) jc)))))) (ja zP jc)))))
   jA)
  (jb (jr (i:=4) jP.nd rfl (.inl rfl) jd)
  (jb (jr (i:=5) jP.nd rfl (.inl rfl) jd)
  (jb (Jd PassesOwn.never rfl (Jh (ju T.Ky yM hr (ja (jo jv (j6 (j6 (pv 0) rfl) rfl) (pv 1)) (ja (j6 (j6 (pv 0) rfl) rfl) (ja (pv 3) jc))))) (Qc rfl (jL (jw (i:=6) jP.nd rfl (.inl rfl)) (jL (jw (i:=7) jP.nd rfl (.inl rfl)) (jL (jw (i:=8) jP.nd rfl (.inl rfl)) (jL (jw (i:=9) jP.nd rfl (.inl rfl)) J3)))))
   (jb (xw (i:=4) jP.nd rfl (.inl rfl) (jq jS (ju T.KA Yj hr (ja (j6 (pv 0) rfl) (ja (pv 2) (ja (jq Jt (pv 7) (pv 5)) jc)))) (jq Jv (pv 8) (JK (J1 hr) (jo jv (j6 (pv 0) rfl) (pv 6)) (pv 2)))) WY)
   (jb (j3 (jt Kn (pv 9) zP (nomark _))
    (jg (jB (jN (ja (pv 4) (ja (jN (ja (pv 6) (ja (pv 2) (ja (pv 9) jc)))) jc)))))
    jA)
   (jb (jr (i:=5) jP.nd rfl (.inl rfl) (jq jS (pv 7) (jq Jv (pv 8) (jo jv (j6 (j6 (pv 0) rfl) rfl) (pv 6)))))
   (jg (jr (i:=2) jP.nd rfl (.inl rfl) (jo jv (j6 (j6 (pv 0) rfl) rfl) (pv 6))))))))
  (jg (jB (jN (ja (jq jS (pv 4) (ju T.KA Yj hr (ja (j6 (pv 0) rfl) (ja (pv 2) (ja (jq Jt (pv 3) (pv 5)) jc))))) (ja zP jc))))))))),?_⟩
 refine jE (σ':=[some _,some _,some _,some _,none,none,none,none,none,none]) rfl ?_
 try dsimp only[cxOf,Cx.nox]
 have sz:(200:Nat)<sizeLine:=by decide
 obtain⟨I,J⟩:=A.ob;obtain⟨X,os⟩:=A.st.ob;have S:=O.so;have M:=O.n.lm (k:=k) O.lE O.oE;have pl:(fPc d gs (lvE E (k:Nat))).length=d.length:=O.len;have gi:=O.n.g hi;have lL:=S.lL;have lg:=S.lg;have hb:=O.has hh;have eP:(fPc d gs (lvE E (k:Nat)))[i]?=some ((fPc d gs (lvE E (k:Nat))).getD i []):=by rw[vy,vz (by lia)];rfl
 have eG:∀{j:Nat},j<d.length->atI (gs.map V.int) ((j:Nat):Int)=some (.int (gs.getD j 0)):=fun {j} hj=>jO (j:=j) (by rw[vv,vz (by lia),vy,vz (by lia)];rfl)
 obtain⟨pc,ac,bs,ab,ae⟩:=A.st.pa.get eP;exists⟨a,_,I,_,_,rfl,J,T.jF,T.jH,qo,?_⟩;refine⟨z.st,X,_,rfl,os,j5m (by decide +kernel) (by decide +kernel) (by decide +kernel) (by decide +kernel) (by decide +kernel),?_⟩;exists⟨z.st,z.t,f,_,gs,_,B,i,rfl,A.st,S,by lia,?_⟩;refine⟨_,rfl,?_⟩;cases er:rzB (lvE E (k:Nat)) (fPc d gs (lvE E (k:Nat))) i with
 | true=>
  have a8:=er;unfold rzB at er;obtain⟨a9,aa⟩:=Bool.and_eq_true_iff.mp er;obtain⟨l1,l2⟩:=YB a9;have lb:=S.lb i _ l1;have gb:=S.rs i _ l1 (List.isEmpty_iff.mp aa);refine iteT ?_;exists⟨a,_,I,_,_,rfl,J,T.jF,T.Jp,KM,?_⟩;exists⟨a,_,I,_,_,rfl,J,T.jF,T.jH,qo,?_⟩;refine⟨z.st,_,X,_,_,rfl,os,T.jX,T.qp,WW,?_⟩;exists ixLm (SqL.of A.st.hl) (jO (j:=i) (by rw[vv,l2];rfl)) ?_;exists⟨a,_,I,_,_,rfl,J,T.jF,T.jH,qo,?_⟩;refine⟨z.st,_,X,_,_,rfl,os,T.jX,T.Je,Z2,?_⟩;exists ixLm (SqL.of A.st.hs) (eG hi) ?_;exists⟨o,h,lef (lvE E (k:Nat)) i,gs.getD i 0,D,rfl,ak,hb.1,hb.2,lb.1,lb.2,gb.1,gb.2,s1,by lia,fun H1 p=>?_⟩;exists⟨uf,?_⟩;walk_at"f r hr' H2 t2 e2";refine q r .non _ none H2 (p.trans t2) e2 rfl ?_ (fun u hu=>by cases hu) (fun _=>rfl);show smB _ _+0=_;rw[Int.add_zero];refine qV fun j hj=>?_
  exact congrArg (wA o) (j5p M hi a8 (by lia) (by lia)).symm
 | false=>
  have PT:=j5o M hi er;have N:∀u∈(fPc d gs (lvE E (k:Nat))).getD i [],PcOk gs u:=fun u hu=>(S.pc i u hu).2.2
  have C:=j1d (T:=hT Z d gs E k) (L:=lvE E (k:Nat)) (gs:=gs) (w:=wA o) (s:=D) _ 0 0 h N PT.a (vA _) s1;have H:D=gs.getD i 0->_:=fun e=>WC (T:=hT Z d gs E k) (L:=lvE E (k:Nat)) (gs:=gs) (w:=wA o) (s:=D) ((fPc d gs (lvE E (k:Nat))).getD i []) 0 0 h fun u hu=>⟨N u hu,by rw[e];exact PT.e u hu⟩
  have a3:=j17 (s:=D) PT.a N (O.bo.cl i (by lia) h hh);have a2:=fun y hy=>j4j (gs:=gs) (s:=D) (PC:=(fPc d gs (lvE E (k:Nat))).getD i []) (y:=y) hy N
  have W:smB (fun j=>wA o (hW (hT Z d gs E k) (lvE E (k:Nat)) gs h ((fPc d gs (lvE E (k:Nat))).getD i []) (0+j))) (D-0).toNat=smB (fun j=>wA o (hT Z d gs E k i h j)) D.toNat:=by
   rw[Int.sub_zero];refine qV fun j hj=>?_
   rw[uz];exact congrArg (wA o) (PT.h h j (by lia)).symm
  rw[W,uz]at C;clear W;refine iteF ?_;exists⟨a,_,I,_,_,rfl,J,T.jF,T.jH,qo,?_⟩;refine⟨z.st,_,X,_,_,rfl,os,T.jX,T.Js,Wj,?_⟩;exists ixLm (SqL.of A.st.hp) (jO (j:=i) (by rw[vv,ac];rfl)) ?_;exists⟨a,_,I,_,_,rfl,J,T.jF,T.jH,qo,?_⟩;refine⟨z.st,_,X,_,_,rfl,os,T.jX,T.Je,Z2,?_⟩;exists⟨pc,z.t.s,D,bs,_,gs,rfl,ab,ae,A.st.hs,S.p8 i,N,s1,by lia,fun p1 a7 H1 p _ e1 g1=>?_⟩;refine⟨p1,rfl,⟨_,SqL.of e1⟩,?_⟩;generalize prg gs D ((fPc d gs (lvE E (k:Nat))).getD i [])=ys at C H a3 a2 g1;have a6:=g1.1;generalize eR:wlp (hT Z d gs E k) (lvE E (k:Nat)) gs (wA o) D 0 0 h ys=R at C H;refine JW (xs:=a7.map V.ref) (fun u σ H'=>IvE7 fun(l b m:Int) (o6 o7 o8 o9:Option V)=>IvA7 (σ=[some (.ref a),some (.int (i:Nat)),some (.int m),some (.int D),some (.int l),some (.int b),o6,o7,o8,o9]) (H1=H') (wlp (hT Z d gs E k) (lvE E (k:Nat)) gs (wA o) D l b m (ys.drop u)=R) (RunY (lvE E (k:Nat)) B m (ys.drop u)) (0<=m) (m<=10^18) (0<=b/\b<=10^80)) ⟨0,0,h,_,_,_,_,rfl,rfl,eR,a3,hb.1,hb.2,vA _,by decide⟩ ?_ ?_ ?_
  ·rintro u σ H' _ ⟨l,b,m,o6,o7,o8,o9,rfl,rfl,_⟩;exact SqL.of e1
  ·rintro u v σ H' hv ⟨l,b,m,o6,o7,o8,o9,rfl,rfl,U,rn,h0,Q,n0,af⟩;obtain⟨c,y,rfl,hy,hc⟩:=g1.at_ref hv;obtain⟨qq,ad,yq,yb,b0,ah,o0,ag,yr⟩:=a2 y (vm hy);obtain⟨a4,a5,_⟩:=S.pc i qq ad;rw[<-yq]at a4 a5;obtain⟨l1,l2⟩:=YB a5;have lb:=S.lb y.1 _ l1;rw[j3P hy]at U rn;obtain⟨a0,rn⟩:=rn;have jy:y.1<d.length:=by lia
   have gy:=O.n.g jy;have al:=A.wd.1;have a1:z.wa[y.1]?=some z.wa[y.1]:=vz (by lia);obtain⟨aj,ek,vk⟩:=A.wd.2 y.1 _ a1;have wb:=O.wh (o:=o) jy ⟨h0,Q⟩;have g:DGet H1 z.wa[y.1] (.int m) (some (.int (whT (hT Z d gs E k) gs (wA o) y.1 m))):=by
    have g:=DGet.k (k:=Sum.inl m) (p _ _ ek);rw[vk m a0]at g;exact g
   refine j5b (SqT.of hc) ?_;exists⟨a,_,I,_,_,rfl,p _ _ J,T.jF,T.Jp,KM,?_⟩;exists⟨o,m,y.2.1-b,rfl,h0,Q,by lia,by lia,?_⟩;exists⟨a,_,I,_,_,rfl,p _ _ J,T.jF,T.Jk,kj,?_⟩;exists ixLm (SqL.of (p _ _ A.w)) (jO (j:=y.1) (by rw[vv,a1];rfl)) ?_;exists⟨z.wa[y.1],_,rfl,g,?_⟩;exists⟨rfl,?_⟩;refine⟨_,rfl,?_⟩;unfold wlp at U;cases ey:y.2.2.2 with
   | some r=>
    rw[ey]at U;refine iteB1 (by simp[optV]) ?_;exists⟨ue,?_⟩;walk_at"f c2 hc2 H2 t2 e2";exists⟨uf,?_⟩;walk_at"f r2 hr2 H3 t3 e3";rw[<-U]at C H;refine q r2 (.ref c2) _ (some (y.1,m,r)) H3 (p.trans (t2.trans t3)) e3 ⟨c2,rfl,t3 _ _ e2⟩ C (fun u' Y=>?_) H;cases Y;have:=yr r ey;exact⟨a4,a0,this.1,by show r<=gs.getD y.1 0;lia⟩
   | none=>
    rw[ey]at U;refine iteB0 (by simp[optV]) ?_;exists⟨a,_,I,_,_,rfl,p _ _ J,T.jF,T.jH,qo,?_⟩;refine⟨z.st,_,X,_,_,rfl,p _ _ os,T.jX,T.Je,Z2,?_⟩;exists ixLm (SqL.of (p _ _ A.st.hs)) (eG jy) ?_;have mb:=j2O (A:=10^18) (B:=10^60) (show -10^18<=y.2.2.1 by lia) ag (show -10^60<=gs.getD y.1 0 by lia) gy.2;have mp:=vM o0 (show 0<=gs.getD y.1 0 by lia);exists⟨a,_,I,_,_,rfl,p _ _ J,T.jF,T.jH,qo,?_⟩;refine⟨z.st,_,X,_,_,rfl,p _ _ os,T.jX,T.qp,WW,?_⟩;exists ixLm (SqL.of (p _ _ A.st.hl)) (jO (j:=y.1) (by rw[vv,l2];rfl)) ?_;walk_at"g";exact⟨_,_,_,_,_,_,_,rfl,rfl,U,rn,lb.1,lb.2,by lia,by lia⟩
  ·rintro σ H' ⟨l,b,m,o6,o7,o8,o9,rfl,rfl,U,rn,h0,Q,n0,af⟩;rw[vt,a6,List.drop_length]at U;exists⟨a,_,I,_,_,rfl,p _ _ J,T.jF,T.Jp,KM,?_⟩;exists⟨o,m,D-b,rfl,h0,Q,by lia,by lia,?_⟩;exists⟨uf,?_⟩;walk_at"f r2 hr2 H3 t3 e3";rw[<-U]at C H;exact q r2 .non _ none H3 (p.trans t3) e3 rfl C (fun u' Y=>by cases Y) H
theorem ZJ(T:Txt K mg t)(Qj:FnOk P w K mg base CX0 6 t.JH t.qu ["self","book","name"] (sp_initT t.jU))(Ji:FnOk P w K mg base CX0 5 t.JB t.JC ["self","part","height","gone"] (sp_withinL t.jM t.jU)):FnOk P w K mg base CX0 8 t.Jm t.JI ["self","book","limb","asked"] (sp_initL t.jM t.jU):=by
 specialize T.ZN.ok JF;obtain⟨a,D,b,pl,pp,ah,al,M,A,g,hs,x,f,k,o,rfl,ha,Bk,N,hk,ak,q⟩:=h;refine⟨_,(jb (Zv (pv 0) (j11 T.j2c (Qj.mono (by decide)) hr (by rfl) T.j1D T.Yb .nil pass0 (ja (pv 1) (ja (pv 2) jc))) rfl)
  (jb (Zv (pv 0) (jo jv (j6 (j6 (pv 0) rfl) rfl) (Z8 zq jd)) rfl)
  (jb (Zv (pv 0) (pv 3) rfl)
  (jb (Zv (pv 0) (jK jc) rfl)
  (jg (Jd PassesOwn.never rfl (Kp (by rfl) T.zy (ja (j6 (j6 (pv 0) rfl) rfl) jc)) (Qc rfl (jL (jw (i:=4) JF.nd rfl (.inr rfl)) (jL (jw (i:=5) JF.nd rfl (.inl rfl)) J3)))
   (jb (jr (i:=6) JF.nd rfl (.inr rfl) (jo jv (j6 (j6 (pv 0) rfl) rfl) (pv 4)))
   (jg (Jb (qh PySem.F.plainAttrs_list PySem.F.slot_list_append PySem.F.type_list_append jV (j6 (pv 0) rfl) (ja (Jy (XY rfl) (by rfl) T.yQ Zj (ja (qN (ow:=["height"]) (ci:=[4,6,0]) rfl (CompScope.of (defScope JL) ["self","book","limb","asked","part","begun","size"] rfl rfl (by decide +kernel)) (JR (by decide)) (j12 (pv 5)) (fun _ _ _ _ _=>⟨(jw (i:=0) (JU ["self","book","limb","asked","part","begun","size"] rfl (by decide +kernel)) rfl (.inl rfl)),Qq,(jN (ja (pv 0) (ja (jo (Kk (K:=K) rfl) (Ko (pv 3) T.jF T.QZ (Ji.mono (by decide)) hr T.ze .nil pass0 (ja (pv 1) (ja (pv 0) (ja (pv 2) jc)))) jd) jc)))⟩)) jc)) jc))))))))))),?_⟩
 refine jE (σ':=[some _,some _,some _,some _,none,none,none]) rfl ?_
 try dsimp only[cxOf,Cx.nox]
 have sz:(10000:Nat)<sizeLine:=by decide
 have ne:=N.ne;have gl:=N.s.gl;have ar:=N.s.w.p61;walk_at"g";intro R dy ad ag aq;have s1:Same H (upd (upd H dy (.own R)) R (.ins t.jU dy [])):=fun c u h=>(jh (je h ad)).trans ((jh (je h ag)).trans h)
 refine⟨R,dy,b,pl,pp,ah,al,M,A,g,hs,x,f,k,rfl,jG,Bk.same s1,N,hk,fun zs E B S k2 lE oE SO SA BO=>⟨rfl,?_⟩⟩;have s2:Same H S:=fun c u h=>k2 _ _ (je h ad) (s1 _ _ h)
 have O:LtO M A g hs E k x f B:=⟨N,lE,oE,hk,SO,BO⟩
 obtain⟨H0,J,n0,L⟩:=SA.less (s2 _ _ ha);obtain⟨dz,os⟩:=L.ob;clear s1 k2 SA;have z2:Same H0 S:=J S fun c u _ h=>h
 have a2:=s2 _ _ ha;exists⟨a,_,D,[],rfl,a2,T.jF,T.jH,(by show 0<1000;decide),?_⟩;generalize e3:upd S a _=H3;have k3:∀c u,c≠a->S c=some u->H3 c=some u:=fun c u n h=>e3▸(jh n).trans h
 have a3:=qQ e3;clear e3;have z3:=J H3 k3;exists⟨a,_,D,_,_,rfl,a3,T.jF,T.jH,Qn,?_⟩;refine⟨R,_,dz,_,_,rfl,z3 _ _ os,T.jX,T.Je,Z2,?_⟩;exists ixLm (SqL.of (z3 _ _ L.hs)) (j3I ne gl) ?_;exists⟨a,_,D,_,rfl,a3,T.jF,T.qM,few (JJ _ _ _) (by decide),?_⟩;generalize e4:upd H3 a _=H4;have k4:∀c u,c≠a->S c=some u->H4 c=some u:=fun c u n h=>e4▸(jh n).trans (k3 c u n h)
 have a4:=qQ e4;clear e4 k3;exists⟨a,_,D,_,rfl,a4,T.jF,T.Jp,vD (JJ _ _ _) (vD (Nat.succ_le_succ (JJ _ _ _)) (by decide)),?_⟩;generalize e5:upd H4 a _=H5;have k5:∀c u,c≠a->S c=some u->H5 c=some u:=fun c u n h=>e5▸(jh n).trans (k4 c u n h)
 have a5:=qQ e5;clear e5 k4;exists⟨va _,?_⟩;walk_at"f pw hpw H6 s6 t6";have nw:pw≠a:=fun z=>by rw[z,a5]at hpw;cases hpw
 exists⟨a,_,D,_,rfl,s6 _ _ a5,T.jF,T.Jk,few3,?_⟩;generalize e7:upd H6 a _=H7;have k7:∀c u,c≠a->H6 c=some u->H7 c=some u:=fun c u n h=>e7▸(jh n).trans h
 have a7:∀p,H7 a=some (.ins t.jM D (fldL ⟨R,zs,pw,p⟩ (g.getD (A.length-1) 0) o)):=fun p=>qQ e7
 clear e7;have w2:∀c u,c≠a->S c=some u->H7 c=some u:=fun c u n h=>k7 _ _ n (s6 _ _ (k5 _ _ n h))
 have z7:=J H7 w2;have t7:=k7 _ _ nw t6;have nh:∀{c u},c≠a->S c=some u->c≠pw:=fun n h=>je (k5 _ _ n h) hpw
 have a6:∀{c u},H0 c=some u->c≠pw:=fun h=>nh (n0 h) (z2 _ _ h)
 have am:(fPc A g (lvE E (k:Nat))).length=A.length:=O.len;have lL:=SO.lL;have ae:=L.ba.1;have lB:=BO.ln;exists⟨a,_,D,_,_,rfl,a7 [],T.jF,T.jH,qo,?_⟩;refine⟨R,_,dz,_,_,rfl,z7 _ _ os,T.jX,T.Qp,Xh,?_⟩;exists⟨zs.b,_,rfl,SqL.of (z7 _ _ L.hb),?_⟩;refine Yv (xs:=zs.ba.map V.ref) (fun i σ U=>IvE4 fun(o4 o5 o6:Option V) (p:List Addr)=>IvA5 (σ=[some (.ref a),some (.ref b),some (.str x),some (optV o),o4,o5,o6]) (∀c u,c≠pw->H7 c=some u->U c=some u) (U pw=some (.lst (p.map V.ref))) (WhAt U p B (whT (hT M A g E k) g (wA o)) i) (∀c∈p,c≠pw))
  ⟨_,_,_,[],rfl,fun c u _ h=>h,t7,⟨rfl,fun i a h=>by simp at h⟩,fun c h=>nomatch h⟩ ?_ ?_ ?_
 ·rintro i σ U _ ⟨o4,o5,o6,p,rfl,I,X,Z,nj⟩;exact SqL.of (I _ _ (a6 L.hb) (z7 _ _ L.hb))
 ·rintro i v σ H1 P H8 hv ⟨o4,o5,o6,p,rfl,I,X,Z,nj⟩ Q tP;obtain⟨ab,C,rfl,ac,aj,aa⟩:=L.ba.at_ref hv;have hi:=(vx.mp ac).1;have Y:C=B.getD i []:=by rw[vy,ac];rfl
  have ip:i<A.length:=by lia
  have z8:Same H0 H8:=fun c u h=>Q _ _ (I _ _ (a6 h) (z7 _ _ h))
  have a9:=Z.1;have an:C.length<=(lvE E (k:Nat)).length+1:=Y▸BO.kb.len i;have A8:LtA t.jM t.jU H8 a ⟨R,zs,pw,p⟩ o M A g E k f B i:=⟨⟨D,Q _ _ (I _ _ nw.symm (a7 p))⟩,L.same z8,Q _ _ X,Z.same Q⟩
  refine QC (SqT.of tP) ?_;exists⟨a,_,D,_,_,rfl,Q _ _ (I _ _ nw.symm (a7 p)),T.jF,T.jH,qo,?_⟩;refine⟨R,_,dz,_,_,rfl,z8 _ _ os,T.jX,T.Je,Z2,?_⟩;exists ixLm (SqL.of (z8 _ _ L.hs)) (jO (j:=i) (show(g.map V.int)[i]?=some (.int (g.getD i 0)) by rw[vv,vz (by lia),vy,vz (by lia)];rfl)) ?_;exists⟨a,_,D,_,_,rfl,Q _ _ (I _ _ nw.symm (a7 p)),T.jF,T.Jk,kj,.inl ⟨rfl,_,SqL.of (Q _ _ X)⟩,?_⟩;exists XF ?_;exists⟨ab,aj,C,rfl,z8 _ _ aa,?_⟩;refine j1l (fun t ys U=>IvE1 fun(m:List Addr)=>IvA4 (ys=m.map V.ref) (m.length=t) (Same H8 U) (∀(s:Nat) (c:Addr) (q:Key×V),m[s]?=some c->C[s]?=some q->U c=some (.tup [.int (keyI q.1),.int (whT (hT M A g E k) g (wA o) i (keyI q.1))])))
   ⟨[],rfl,rfl,Same.refl _,fun s c q h=>by simp at h⟩ ?_ ?_ ?_
  ·rintro t ys U _ ⟨m,rfl,tl,s3,ht⟩;exact s3 _ _ (z8 _ _ aa)
  ·rintro t q0 ys H9 a1 ⟨m,rfl,tl,s9,ht⟩;have ap:=(vx.mp a1).1;obtain⟨h,ex,h0,ao,xh⟩:=BO.key SO (Y▸vm a1);rw[ex];show gName 0 (.int h) _ _ _;refine qa (σ':=[none,some (.int (i:Nat)),some (.int (g.getD i 0)),some (.ref a)]) rfl ?_;exists iteT ?_;exists⟨a,D,_,rfl,s9 _ _ (Q _ _ (I _ _ nw.symm (a7 p))),Wd,?_⟩;walk_at"g";have gi:=N.g ip;refine⟨a,⟨R,zs,pw,p⟩,o,M,A,g,hs,E,k,x,f,B,i,i,h,g.getD i 0,rfl,A8.same s9,O,ak,vb _,ip,xh,by lia,by lia,fun r v W y H10 s10 e10 as re _ ai=>?_⟩;obtain rfl:=ai rfl;have et:W=whT (hT M A g E k) g (wA o) i h:=by
    have e:W+0=_:=re;rw[Int.add_zero]at e;exact e
   subst et;exists ixTm (SqT.of e10) rfl ?_;exists⟨uf,?_⟩;walk_at"f t4 ht4 H11 s11 e11";refine⟨by rw[vt];lia,m++[t4],by rw[vj];rfl,by rw[vn,tl];rfl,s9.trans (s10.trans s11),fun s c q l hq=>?_⟩;rcases Nat.lt_or_ge s m.length with z | z
   ·rw[vB z]at l;exact s11 _ _ (s10 _ _ (ht s c q l hq))
   ·rw[vC z]at l;have es:s=m.length:=by
     have:=(vx.mp l).1;rw[length_singleton]at this;lia
    subst es;rw[uu]at l;cases l;rw[tl,a1]at hq;cases hq;rw[ex];exact e11
  rintro ys H9 ⟨m,rfl,tl,s9,ht⟩;refine⟨by rw[vt];lia,?_⟩;walk_at"f p4 hp4 H10 s10 e10";exists⟨p4,m,(C.map fun q=>keyI q.1).map fun h=>(h,.int (whT (hT M A g E k) g (wA o) i h)),rfl,e10,by rw[vt,vt,tl],fun s c q l hq=>?_,?_⟩
  ·rw[vv,vv]at hq;obtain⟨h,hx,rfl⟩:=vg.mp hq;obtain⟨q',a0,rfl⟩:=vg.mp hx;exact s10 _ _ (ht s c q' l a0)
  walk_at"f d hd H11 s11 e11";walk_at"g";have a8:Same H1 H11:=Q.trans (s9.trans (s10.trans s11));have af:=a8 _ _ X;refine⟨pw,_,_,rfl,rfl,af,by rw[vt];lia,?_⟩;have nd:d≠pw:=fun z=>by rw[z,s10 _ _ (s9 _ _ (Q _ _ X))]at hd;cases hd
  refine⟨_,_,_,p++[d],rfl,fun c u l h=>(jh l).trans (a8 _ _ (I _ _ l h)),?_,⟨by rw[vn,a9];rfl,fun j c l=>?_⟩,fun c l=>(vh.mp l).elim (nj c) fun z=>by rw[vo.mp z];exact nd⟩
  ·rw[jG,vj];rfl
  ·rcases Nat.lt_or_ge j p.length with z | z
   ·rw[vB z]at l;obtain⟨kv,h1,h2⟩:=Z.2 j c l;exact⟨kv,(jh (nj c (vm l))).trans (a8 _ _ h1),h2⟩
   ·rw[vC z]at l;have es:j=p.length:=by
     have:=(vx.mp l).1;rw[length_singleton]at this;lia
    subst es;rw[uu]at l;cases l;refine⟨_,(jh nd).trans e11,fun h hh=>?_⟩;rw[v4];show valV (mergeK [] ((C.map fun q=>keyI q.1).map fun h=>ivK (h,.int (whT (hT M A g E k) g (wA o) i h)))) _=_;rw[WA (fun h=>.int (whT (hT M A g E k) g (wA o) i h)),vd,a9];unfold Has at hh;rw[a9,<-Y]at hh;obtain⟨v,hv⟩:=Option.isSome_iff_exists.mp hh;obtain⟨q',a0,e'⟩:=vK.mp (j1b hv);exact vK.mpr ⟨q',a0,by rw[e'];rfl⟩
 ·rintro σ H8 ⟨o4,o5,o6,p,rfl,I,X,Z,nj⟩;rw[vt,ae,lB,am]at Z;exists q ⟨R,zs,pw,p⟩ E B H8 (fun c u n h=>I _ _ (nh n (s2 _ _ h)) (w2 _ _ n (s2 _ _ h))) O ⟨⟨D,I _ _ nw.symm (a7 p)⟩,L.same fun c u h=>I _ _ (a6 h) (z7 _ _ h),X,Z⟩
theorem yV(T:Txt K mg t)(Ji:FnOk P w K mg base CX0 5 t.JB t.JC ["self","part","height","gone"] (sp_withinL t.jM t.jU)):FnOk P w K mg base CX0 6 t.qr t.qt ["self","beat"] (sp_aheadL t.jM t.jU):=by
 specialize T.Yh.ok Jl;obtain⟨a,z,o,n,d,g,hs,E,k,x,f,B,s,rfl,A,O,ak,b0,b1,q⟩:=h;refine⟨_,(jb (jr (i:=2) Jl.nd rfl (.inl rfl) jd)
  (jb (jr (i:=3) Jl.nd rfl (.inl rfl) (jN (ja (jq Jt (jD jW (by rfl) T.JT Jj (ja (j6 (pv 0) rfl) jc)) jd) (ja (j6 (j6 (pv 0) rfl) rfl) (ja (pv 1) jc)))))
  (jb (XB PassesOwn.never (jt Kn (pv 3) zP (nomark _))
   (jb (jr (i:=4) Jl.nd rfl (.inl rfl) (Ko (pv 0) T.jF T.QZ (Ji.mono (by decide)) hr T.ze .nil pass0 (ja (jo jz (pv 3) jd) (ja (jo jz (pv 3) jd) (ja (jo jz (pv 3) jd) jc)))))
   (jb (xw (i:=2) Jl.nd rfl (.inl rfl) (jo jz (pv 4) jd) WY)
   (jg (jr (i:=3) Jl.nd rfl (.inl rfl) (jo jz (pv 4) jd))))))
  (jg (jB (pv 2)))))),?_⟩
 refine jE (σ':=[some _,some _,none,none,none]) rfl ?_
 try dsimp only[cxOf,Cx.nox]
 have sz:(200:Nat)<sizeLine:=by decide
 obtain⟨Q,U⟩:=A.ob;obtain⟨dy,os⟩:=A.st.ob;have ne:=O.n.ne;have X:=A.wd.1;have pl:(fPc d g (lvE E (k:Nat))).length=d.length:=O.len;have ht:=O.bo.tp;rw[pl]at ht;have eS:smB (fun j=>wA o ((standH n d g E j).getD k 0)) s.toNat=smB (fun j=>wA o (hT n d g E k (d.length-1) f j)) s.toNat:=by
  refine qV fun j hj=>?_
  rw[j25 O.n O.lE O.oE O.hk]
 rw[eS]at q;exists⟨a,_,Q,_,_,rfl,U,T.jF,T.Jk,kj,?_⟩;refine⟨_,_,rfl,.inl ⟨_,SqL.of A.w,rfl⟩,?_⟩;rw[vt,X];exists⟨a,_,Q,_,_,rfl,U,T.jF,T.jH,qo,?_⟩;refine⟨z.st,_,dy,_,_,rfl,os,T.jX,T.qB,j2w,?_⟩;exists⟨ue,?_⟩;walk_at"f 1 t";rw[show((d.length:Nat):Int)-1=((d.length-1:Nat):Int) by lia]at t1;exists⟨fun m N p=>IvE4 fun(b:Int) (v:V) (C:Option V) (y:Option (Nat×Int×Int))=>IvA5 (N=[some (.ref a),some (.int s),some (.int b),some v,C]) (Same H p) (RstAt p v y) (resT (hT n d g E k) (wA o) (b,y)=smB (fun j=>wA o (hT n d g E k (d.length-1) f j)) s.toNat) ((∀u,y=some u->u.1<d.length/\Has B u.1 u.2.1/\0<=u.2.2/\u.2.2<=g.getD u.1 0+1)/\m=(match y with | none=>0 | some u=>u.1+1)),
  ⟨_,0,.ref p1,none,some (d.length-1,f,s),rfl,s1,⟨p1,rfl,t1⟩,by show 0+_=_;rw[uz],fun u hu=>by cases hu;exact⟨by show d.length-1<_;lia,ht,b0,b1⟩,rfl⟩,?_⟩
 rintro m N p ⟨b,v,C,y,rfl,L,I,re,ok,rfl⟩;exists⟨rfl,?_⟩;refine⟨_,rfl,?_⟩;cases y with
 | none=>
  have ev:v = .non:=I;subst ev;refine iteB0 (by simp) ?_;walk_at"g";have e:b=smB (fun j=>wA o (hT n d g E k (d.length-1) f j)) s.toNat:=by
   have e:b+0=_:=re;rw[<-e,Int.add_zero]
  rw[e];exact q p L
 | some u=>
  obtain⟨c,rfl,R⟩:=I;obtain⟨u1,u2,u3,u4⟩:=ok u rfl;refine iteB1 (by simp) ?_;refine⟨fun N p=>IvE4 fun(b:Int) (v:V) (C:Option V) (y:Option (Nat×Int×Int))=>IvA5 (N=[some (.ref a),some (.int s),some (.int b),some v,C]) (Same H p) (RstAt p v y) (resT (hT n d g E k) (wA o) (b,y)=smB (fun j=>wA o (hT n d g E k (d.length-1) f j)) s.toNat) ((∀u,y=some u->u.1<d.length/\Has B u.1 u.2.1/\0<=u.2.2/\u.2.2<=g.getD u.1 0+1)/\(match y with | none=>0 | some u=>u.1+1)<u.1+1),
   fun σ' p ⟨b,v,C,y,h1,h2,h3,h4,h5,h6⟩=>⟨_,h6,b,v,C,y,h1,h2,h3,h4,h5,rfl⟩,?_⟩
  exists⟨a,Q,_,rfl,L _ _ U,Wd,?_⟩;exists ixTm (SqT.of R) rfl ?_;exists ixTm (SqT.of R) rfl ?_;exists ixTm (SqT.of R) rfl ?_;exists⟨a,z,o,n,d,g,hs,E,k,x,f,B,d.length,u.1,u.2.1,u.2.2,rfl,A.same L,O,ak,by lia,u1,u2,u3,u4,fun r v l y' H2 s2 Y J W D _=>?_⟩;exists ixTm (SqT.of Y) rfl ?_;exists ixTm (SqT.of Y) rfl ?_;exists⟨b+l,v,_,y',rfl,L.trans s2,J,?_,fun M S=>?_,?_⟩
  ·have Z:b+smB (fun j=>wA o (hT n d g E k u.1 u.2.1 j)) u.2.2.toNat=_:=re;rw[<-W]at Z;rw[<-Z];exact Int.add_assoc b l _
  ·obtain⟨w1,w2,w3,w4⟩:=D M S;exact⟨by lia,w2,w3,by lia⟩
  ·cases y' with
   | none=>show 0<u.1+1;lia
   | some M=>have:=(D M rfl).1;show M.1+1<u.1+1;lia
theorem Xv(T:Txt K mg t)(i:FnOk P w K mg base CX0 6 t.qr t.qt ["self","beat"] (sp_aheadL t.jM t.jU)):FnOk P w K mg base CX0 7 t.yO t.yS ["tally","beat"] (sp_aheadL t.jM t.jU):=by
 specialize T.Kw.F.ok XH;obtain⟨a,z,o,n,p,l,m,E,k,x,f,B,r,rfl,A,O,j,b,d,q⟩:=h;refine⟨_,(jb (j3 (j37 (j36 Xz Xz jd (pv 1) (jq jS (j6 (pv 0) rfl) jd)))
   (jg YJ)
   jA)
  (jg (jB (Ko (pv 0) T.jF T.yU (i.mono (by decide)) hr T.Ya .nil pass0 (ja (pv 1) jc))))),?_⟩
 refine jE (σ':=[some _,some _]) rfl ?_
 try dsimp only[cxOf,Cx.nox]
 obtain⟨e,g⟩:=A.ob;exists iteB1 (vG b) ?_;exists⟨a,_,e,_,_,rfl,g,T.jF,T.qM,j3W,?_⟩;exists iteN (fun c=>uh d c) (fun _=>?_);exists⟨a,e,_,rfl,g,j2r,?_⟩;walk_at"g";exact⟨a,z,o,n,p,l,m,E,k,x,f,B,r,rfl,A,O,j,b,d,q⟩
theorem wH(T:Txt K mg t)(U:FnOk P w K mg base CX0 8 t.Jm t.JI ["self","book","limb","asked"] (sp_initL t.jM t.jU))(Y:FnOk P w K mg base CX0 7 t.yO t.yS ["tally","beat"] (sp_aheadL t.jM t.jU)):FnOk P w K mg base CX0 10 t.Zf t.Zk ["book","limb","beat"] (sp_sumL):=by
 specialize T.Yf.F.ok wM;obtain⟨b,R,S,e,g,p,r,l,n,x,f,k,X,rfl,v,N,L,I,J,q⟩:=h;refine⟨_,(jg (jB (ju T.Kw Y hr (ja (j11 T.xL (U.mono (by decide)) hr (by rfl) T.W7 T.ZK .nil pass0 (ja (pv 0) (ja (pv 1) (ja zP jc)))) (ja (pv 2) jc))))),?_⟩;refine jE (σ':=[some _,some _,some _]) rfl ?_
 try dsimp only[cxOf,Cx.nox]
 have j:AskOk none:=fun y M=>by cases M
 walk_at"g";intro o a m d Z;have s:Same H (upd (upd H a (.own o)) o (.ins t.jM a [])):=fun c u h=>(jh (je h m)).trans ((jh (je h d)).trans h)
 refine⟨o,a,b,R,S,e,g,p,r,l,n,x,f,k,none,rfl,jG,v.same s,N,L,j,fun z E B C Q O A=>⟨rfl,?_⟩⟩;have i:Same H C:=fun c u h=>Q _ _ (je h m) (s _ _ h)
 walk_at"g";exact⟨o,z,none,p,r,l,n,E,k,x,f,B,X,rfl,A,O,j,I,J,fun D W=>q E D (i.trans W) O.lE O.oE⟩
theorem Kc(T:Txt K mg t):FnOk P w K mg base CX0 1 t.JS t.JV ["_law_script","_law_k"] (Pr.sp_cell_at K):=by
 specialize T.Jz.F.ok Ke;obtain⟨a,g,k,rfl,b,f,d,q⟩:=h;refine⟨_,(jb (j3 (jt Z5 (pv 1) (jD jW (by rfl) T.JT Jj (ja (pv 0) jc)) (nomark _))
   (jg (jB (jo jv (pv 0) (pv 1))))
   jA)
  (jg (jB jd))),?_⟩
 refine jE (σ':=[some _,some _]) rfl ?_
 try dsimp only[cxOf,Cx.nox]
 exists⟨_,_,rfl,.inl ⟨_,b,rfl⟩,?_⟩;exists iteD (fun c=>?_) (fun c=>?_)
 ·walk_at"g";exact⟨a,_,k,_,rfl,rfl,b,Pr.j3H d (by rw[vt]at c;exact c),q⟩
 ·walk_at"g";have e:Pr.cell g k=0:=by
   rw[vt]at c;unfold Pr.cell;rw[vy,vS (by lia)];rfl
  rw[e]at q;exact q
theorem wF(T:Txt K mg t):FnOk P w K mg base CX0 1 t.Q4 t.Q7 ["_law_found"] (Pr.XM):=by
 refine T.Yd.F.ok wL (fun c H Q E h=>?_) (fun b A a s H c Q E d h=>?_)
 ·obtain⟨i,rfl,q⟩:=h;rfl
 obtain⟨i,rfl,q⟩:=h;refine⟨_,(jg (jB (j30 (jD xR (by rfl) T.Yo yF (ja (pv 0) (ja (j0Z (v:=.ty "int") (by rfl) T.j5j j4J rfl) jc))) (j32 (j54 (jD xR (by rfl) T.Yo yF (ja (pv 0) (ja (j0Z (v:=.ty "bool") (by rfl) T.j4H j3K rfl) jc)))))))),?_⟩;refine jE (σ':=[some _]) rfl ?_
 try dsimp only[cxOf,Cx.nox]
 exists⟨_,_,_,_,rfl,.int i,j1u,?_⟩;exists iteT ?_;exists⟨_,_,_,_,rfl,.int i,X9,?_⟩;walk_at"g";exact q
theorem wC(T:Txt K mg t):FnOk P w K mg base CX0 1 t.qG t.qI ["_law_cell","_law_k"] (Ku):=by
 refine T.JG.F.ok wK (fun f H Q E h=>?_) (fun e A d s H f Q E g h=>?_)
 ·obtain⟨c,k,rfl,a,b,q⟩:=h;rfl
 obtain⟨c,k,rfl,a,b,q⟩:=h;refine⟨_,(jg (jB (jq Ja (jq Jv (jq jS (jq jS (jq Ja (pv 0) (jq Z6 jd jd)) (jq Jv (pv 1) (pv 1))) jd) jd) (jq jS (jq Z6 jd jd) jd)))),?_⟩;refine jE (σ':=[some _,some _]) rfl ?_
 try dsimp only[cxOf,Cx.nox]
 have j:=ve c (show(10^30:Int)≠0 by decide);have l:=vf c (show(0:Int)<10^30 by decide);have i:0<=k*k/\k*k<=10^40:=⟨vM a a,by have:=Int.mul_le_mul b b a (by decide);lia⟩
 walk_at"g";exact q
theorem xg(T:Txt K mg t):FnOk P w K mg base CX0 1 t.QP t.QT ["_law_place","_law_k"] (sp_wordB):=by
 specialize T.QL.F.ok xC;obtain⟨p,k,rfl,f,e,q⟩:=h;refine⟨_,(jg (jB (jq yX (jq yX (jq yX (zn j3l jJ Zt (Zu (pv 0))) (jo j2A jJ (jq Ja (pv 1) jd))) (jo j2A jJ (jq j2 (pv 1) jd))) (zn j3l jJ (Zu (pv 0)) Zt)))),?_⟩;refine jE (σ':=[some _,some _]) rfl ?_
 try dsimp only[cxOf,Cx.nox]
 have j:(200:Nat)<sizeLine:=by decide
 have b:(Str.ofString "abcdefghijklnopqrstuvwxyz").cps.toList[((k%25:Nat):Int).toNat]?=some (abB.cps.toList.getD (k%25) 97):=by
  have l:(Str.ofString "abcdefghijklnopqrstuvwxyz").cps.toList.length=25:=by decide +kernel
  show _=some ((Str.ofString "abcdefghijklnopqrstuvwxyz").cps.toList.getD (k%25) 97);rw[Int.toNat_natCast,vy,vz (by lia)];rfl
 have g:(Txt.slice (Str.ofString "mm") none (some ((p:Nat):Int))).length<=4:=vV xV (by decide +kernel);have i:(Txt.slice (Str.ofString "mm") (some ((p:Nat):Int)) none).length<=4:=vV xV (by decide +kernel);have a:∀c,(⟨#[c]⟩:Str).length=1:=fun c=>rfl
 exists⟨(by decide +kernel),?_⟩;walk_at"g";rw[show((k:Nat):Int)%25=((k%25:Nat):Int) by lia];refine⟨_,_,_,rfl,rfl,(by decide +kernel),j2e (by lia) b,?_⟩;refine⟨_,_,rfl,rfl,by rw[a];lia,?_⟩;walk_at"g";have d:atI (Str.ofString "nopq").cps.toList (((k:Nat):Int)/25)=some (if k<25 then 110 else 111):=by
  by_cases c:k<25
  ·rw[vd c,show((k:Nat):Int)/25=0 by lia];decide +kernel
  ·rw[vc c,show((k:Nat):Int)/25=1 by lia];decide +kernel
 refine⟨_,_,(if k<25 then 110 else 111),rfl,rfl,(by decide +kernel),?_,?_⟩
 ·exact d
 refine⟨_,_,rfl,rfl,by rw[Str.length_append,a,a];lia,?_⟩;exists⟨(by decide +kernel),?_⟩;refine⟨_,_,rfl,rfl,by rw[Str.length_append,Str.length_append,a,a];lia,?_⟩;exact q
theorem wE(T:Txt K mg t):FnOk P w K mg base CX0 1 t.Q3 t.Q6 ["_law_number","_law_names","_law_movers","_law_kind"] (sp_namedB):=by
 specialize T.Q0.F.ok JQ;obtain⟨n,nl,ml,a1,L,m,Ms,o,rfl,N,n1,n0,n2,hk,q⟩:=h;refine⟨_,(jb (jr (i:=4) JQ.nd rfl (.inl rfl) (jK jc))
  (jb (jr (i:=5) JQ.nd rfl (.inr rfl) (jK jc))
  (jb (Jd PassesOwn.never rfl (JY (by rfl) T.qY (ja (jD jW (by rfl) T.JT Jj (ja (pv 1) jc)) jc)) (jw (i:=6) JQ.nd rfl (.inl rfl))
   (jb (jr (i:=7) JQ.nd rfl (.inl rfl) (jq Ja (jq Jt (jq Jt (jD jW (by rfl) T.JT Jj (ja (pv 1) jc)) jd) (jq Jv (pv 6) (jq jS jd (jq Ja (pv 0) jd)))) (jD jW (by rfl) T.JT Jj (ja (pv 1) jc))))
   (jb (YL (i:=8) (ow:=["_law_one"]) (ci:=[5]) rfl (CompScope.of (defScope za) ["_law_number","_law_names","_law_movers","_law_kind","_law_some","_law_used","_law_j","_law_at","_law_twice"] rfl rfl (by decide +kernel)) (JR (by decide)) JQ.nd rfl (.inl rfl) (Jh (jo jv (pv 2) (pv 7))) (fun _ _ _ _ _=>⟨(jw (i:=0) (JU ["_law_number","_law_names","_law_movers","_law_kind","_law_some","_law_used","_law_j","_law_at","_law_twice"] rfl (by decide +kernel)) rfl (.inl rfl)),(xu (jt (yY (K:=K) rfl) (pv 0) (pv 1) (by with_unfolding_all rfl))),(pv 0)⟩))
   (jb (qC (PW.pt (QX (jt Jc (pv 3) jJ (nomark _)) (QI (jt Z5 (pv 6) (jq jS jd (jq Ja (jq j2 (pv 0) jd) jd)) (nomark _)))))
    (jg (Jb (qh PySem.F.plainAttrs_list PySem.F.slot_list_append PySem.F.type_list_append jV (pv 4) (ja (jo jv (pv 1) (pv 7)) jc))))
    jA)
   (jg (j3 (PW.pt (QX (jt Jc (pv 3) jJ (nomark _)) (QX (jt (j0d hr.units) (jo jv (pv 2) (pv 7)) (jK jc) (nomark _)) (QX (jt (xq hr.units) (pv 8) (jK jc) (nomark _)) (QI (jt Z5 (jD jW (by rfl) T.JT Jj (ja (pv 4) jc)) jd (nomark _)))))))
    (jb (Jb (qh PySem.F.plainAttrs_list PySem.F.slot_list_append PySem.F.type_list_append jV (pv 4) (ja (jo jv (pv 1) (pv 7)) jc)))
    (jg (jr (i:=5) JQ.nd rfl (.inr rfl) (jq Zr (pv 5) (jo jv (pv 2) (pv 7))))))
    jA))))))
  (jg (jB (Jy QG (by rfl) T.Kg Yp (ja (pv 4) jc))))))),?_⟩
 refine jE (σ':=[some _,some _,some _,some _,none,none,none,none,none]) rfl ?_
 try dsimp only[cxOf,Cx.nox]
 have sz:(200:Nat)<sizeLine:=by decide
 have a4:=N.n20;have m8:∀j,(Ms.getD j []).length<=8:=fun j=>by
  by_cases h:j<m.length
  ·exact(N.mv h).choose_spec.2.2.1
  ·rw[vy,vS (by have:=N.ml;lia)];exact va _
 exists⟨va _,?_⟩;walk_at"f ps hps H1 s1 t1";exists⟨va _,?_⟩;walk_at"f pu hpu H2 s2 t2";have Q:=s1.trans s2;have A:∀{c u},H c=some u->c≠ps:=fun h=>je h hps
 have a3:pu≠ps:=(je t1 hpu).symm;exists⟨_,_,rfl,.inl ⟨_,SqL.of (Q _ _ N.en),rfl⟩,?_⟩;rw[vt];exists⟨_,rfl,by lia,by lia,?_⟩;refine qK (fun t σ p=>IvE4 fun(o6 o7 o8:Option V) (e:Addr)=>IvA4 (σ=[some (.int n),some (.ref nl),some (.ref ml),some (.str o),some (.ref ps),some (.ref e),o6,o7,o8]) (e≠ps) (∀c u,H c=some u->p c=some u) (p ps=some (.lst (((nmS n m.length Ms (decide (o = "row")) t).1.map fun j=>m.getD j ⟨#[]⟩).map V.str))/\p e=some (.lst ((nmS n m.length Ms (decide (o = "row")) t).2.map V.str)))) ⟨_,_,_,pu,rfl,a3,Q,s2 _ _ t1,t2⟩ ?_ ?_
 ·rintro t σ H3 ht ⟨o6,o7,o8,e,rfl,g,B,I,W⟩;have m0:=ve n (show(3:Int)≠0 by decide);have m1:=vf n (show(0:Int)<3 by decide);exists⟨_,_,rfl,.inl ⟨_,SqL.of (B _ _ N.en),rfl⟩,?_⟩;rw[vt];exists⟨_,_,rfl,.inl ⟨_,SqL.of (B _ _ N.en),rfl⟩,?_⟩;rw[vt];walk_at"g";have J:((m.length:Int)-1-(0+(t:Int))*(1+n%3))%(m.length:Int)=((atB n m.length t:Nat):Int):=by
   unfold atB;have a:=ve ((m.length:Int)-1-(t:Int)*(1+n%3)) (show(m.length:Int)≠0 by lia);rw[uz];lia
  rw[J];have U:=XV (n:=n) (t:=t) n1;have d:=j2S (n:=n) (len:=m.length) (Ms:=Ms) (ro:=decide (o = "row")) t;have us:=j2T (n:=n) (len:=m.length) (ro:=decide (o = "row")) m8 t;have sl:=Km (n:=n) (len:=m.length) (Ms:=Ms) (ro:=decide (o = "row")) t;generalize nmS n m.length Ms (decide (o = "row")) t=S at I W d us sl;generalize atB n m.length t=j at U d|-;clear J;obtain⟨ma,a0,v,a2,mw⟩:=N.mv U;have aM:atI (a1.map V.ref) ((j:Nat):Int)=some (.ref ma):=jO (by rw[vv,a0];rfl);refine ixLm (SqL.of (B _ _ N.em)) (aM) ?_;refine⟨ma,rfl,⟨_,SqL.of (B _ _ v)⟩,?_⟩;refine qm (xs:=(Ms.getD j []).map V.str) (fun i Z p=>Z=(((Ms.getD j []).take i).filter fun s=>decide (s∈S.2)).map V.str/\H3=p) ⟨rfl,rfl⟩ ?_ ?_ ?_
  ·rintro i Z p _ ⟨rfl,rfl⟩;exact SqL.of (B _ _ v)
  ·rintro i x Z p X ⟨rfl,rfl⟩;rw[vv]at X;obtain⟨k,M,rfl⟩:=vg.mp X;have ik:=(vx.mp M).1;refine qa (σ':=[none,some _]) rfl ?_;exists⟨e,_,rfl,.inl (SqL.of W),rfl,flatB _,?_⟩;rw[inB];walk_at"g";rw[take_snoc M,filter_append];have lf:(((Ms.getD j []).take i).filter fun s=>decide (s∈S.2)).length<=8:=vV (length_filter_le _ _) (by rw[vi];lia);refine iteD (fun c=>?_) (fun c=>?_)
   ·exists⟨by rw[vt];lia,?_,rfl⟩;rw[vj,v6,vd (vG c),filter_nil];rfl
   ·refine⟨?_,rfl⟩;rw[v6,vc (by rw[vH c];exact vF),filter_nil,append_nil]
  rintro Z p ⟨rfl,rfl⟩;rw[show((Ms.getD j []).map V.str).length=(Ms.getD j []).length from vt _,v3];have lf:((Ms.getD j []).filter fun s=>decide (s∈S.2)).length<=8:=vV (length_filter_le _ _) a2;have wf:∀x∈(Ms.getD j []).filter (fun s=>decide (s∈S.2)),Ws.isW x=true:=fun x X=>mw x (vO.mp X).1
  refine⟨by rw[vt];lia,?_⟩;walk_at"f 5 t";have k5:Same H H5:=fun c u h=>s5 _ _ (B _ _ h)
  have y:=s5 _ _ I;have r:=s5 _ _ W;have n5:p5≠ps:=(je I hp5).symm;exists⟨fun σ' p=>IvE1 fun(R:List Nat)=>IvA4 (σ'=[some (.int n),some (.ref nl),some (.ref ml),some (.str o),some (.ref ps),some (.ref e),some (.int (0+(t:Int))),some (.int (j:Nat)),some (.ref p5)]) (∀c u,c≠ps->H5 c=some u->p c=some u) (p ps=some (.lst ((R.map fun j=>m.getD j ⟨#[]⟩).map V.str))) ((o = "row"->R=(nmS n m.length Ms (decide (o = "row")) (t+1)).1/\(nmS n m.length Ms (decide (o = "row")) (t+1)).2=S.2)/\(o≠"row"->R=S.1)),?_,?_⟩
  rotate_left
  ·exists iteD (fun c=>?_) (fun c=>?_)
   ·rw[vd (vG c)]at d;exists iteD (fun c2=>?_) (fun c2=>?_)
    ·rw[vd (by lia)]at d;exists⟨.inl ⟨rfl,_,SqL.of y⟩,?_⟩;exists ixLm (SqL.of (k5 _ _ N.en)) (zx U) ?_;exists⟨ps,_,_,rfl,rfl,y,by rw[vt,vt];lia,?_⟩;refine⟨S.1++[j],rfl,fun c u hc h=>(jh hc).trans h,?_,fun _=>by rw[d];exact⟨rfl,rfl⟩,fun h=>uh c h⟩;rw[jG,vj,vj];rfl
    ·rw[vc (by lia)]at d;walk_at"g";exact⟨S.1,rfl,fun c u _ h=>h,y,fun _=>by rw[d];exact⟨rfl,rfl⟩,fun h=>uh c h⟩
   ·walk_at"g";exact⟨S.1,rfl,fun c u _ h=>h,y,fun h=>uh h c,fun _=>rfl⟩
  rintro σ' H6 ⟨R,rfl,E,C,O,D⟩;have l:Same H H6:=fun c u h=>E _ _ (A h) (k5 _ _ h)
  exists iteD (fun c=>?_) (fun c=>?_)
  ·have nr:o≠"row":=fun z=>by rw[z]at c;exact uh c (by decide +kernel)
   obtain rfl:=D nr;rw[vc (by rw[vH nr];exact vF)]at d;exists ixLm (SqL.of (l _ _ N.em)) (aM) ?_;exists⟨va _,?_⟩;walk_at"f 7 t";refine⟨_,_,.lst (s7 _ _ (l _ _ v)) (Q9 _),j1p t7,shpB mw,shp0,?_⟩;rw[eqvB];exists iteN (fun d1=>?_) (fun d1=>?_)
   ·exists⟨va _,?_⟩;walk_at"f 8 t";have f:=s7.trans s8;refine⟨_,_,.lst (f _ _ (E _ _ n5 t5)) (Q9 _),j1p t8,shpB wf,shp0,?_⟩;rw[eqvB];exists iteD (fun d2=>?_) (fun d2=>?_)
    ·exists⟨_,_,rfl,.inl ⟨_,SqL.of (f _ _ C),rfl⟩,?_⟩;rw[vt,vt];exists iteD (fun d3=>?_) (fun d3=>?_)
     ·rw[vd ⟨d1,d2,by lia⟩]at d;exists⟨.inl ⟨rfl,_,SqL.of (f _ _ C)⟩,?_⟩;exists ixLm (SqL.of (f _ _ (l _ _ N.en))) (zx U) ?_;exists⟨ps,_,_,rfl,rfl,f _ _ C,by rw[vt,vt];lia,?_⟩;generalize eG:upd H8 ps _=H9;have e9:H9 ps=some (.lst (((S.1++[j]).map fun j=>m.getD j ⟨#[]⟩).map V.str)):=by
       rw[vj,vj];exact qQ eG
      have Y:∀c u,c≠ps->H6 c=some u->H9 c=some u:=fun c u hc h=>eG▸(jh hc).trans (f c u h)
      clear eG;exists ixLm (SqL.of (Y _ _ (A N.em) (l _ _ N.em))) (aM) ?_;refine⟨e,ma,_,_,rfl,rfl,Y _ _ g (E _ _ g r),Y _ _ (A v) (l _ _ v),by rw[vt,vt];lia,?_⟩;walk_at"f 10 t";exists⟨_,_,_,p10,rfl,(je e9 hp10).symm,fun c u h=>s10 _ _ (Y _ _ (A h) (l _ _ h)),by rw[d];exact s10 _ _ e9,by rw[d,vj];exact t10⟩
     ·rw[vc (fun z=>d3 (by lia))]at d;walk_at"g";exact⟨_,_,_,e,rfl,g,fun c u h=>f _ _ (l _ _ h),by rw[d];exact f _ _ C,by rw[d];exact f _ _ (E _ _ g r)⟩
    ·rw[vc (fun z=>d2 z.2.1)]at d;walk_at"g";exact⟨_,_,_,e,rfl,g,fun c u h=>f _ _ (l _ _ h),by rw[d];exact f _ _ C,by rw[d];exact f _ _ (E _ _ g r)⟩
   ·rw[vc (fun z=>z.1 d1)]at d;walk_at"g";exact⟨_,_,_,e,rfl,g,fun c u h=>s7 _ _ (l _ _ h),by rw[d];exact s7 _ _ C,by rw[d];exact s7 _ _ (E _ _ g r)⟩
  ·have cr:o = "row":=hk.resolve_right c;obtain⟨r1,r2⟩:=O cr;walk_at"g";exact⟨_,_,_,e,rfl,g,l,by rw[<-r1];exact C,by rw[r2];exact E _ _ g r⟩
 ·rintro σ p ⟨o6,o7,o8,e,rfl,g,B,I,W⟩;exists⟨ps,_,rfl,.inl ⟨SqL.of I,?_⟩⟩;walk_at"f b hb H3 s3 t3";exact q b H3 (fun c u h=>s3 _ _ (B _ _ h)) t3
theorem W9(T:Txt K mg t)(U:FnOk P w K mg base CX0 1 t.Q3 t.Q6 ["_law_number","_law_names","_law_movers","_law_kind"] (sp_namedB)):FnOk P w K mg base CX0 2 t.ZV t.ZZ ["_law_number","_law_names","_law_movers","_law_limbs","_law_bounds"] (sp_formG):=by
 specialize T.kL.F.ok qO;obtain⟨n,M,S,pl,bd,u,af,s,e,Ms,C,D,b2,b3,b4,rfl,N,Lm,Bd,n0,n2,q⟩:=h;refine⟨_,(jb (jr (i:=5) qO.nd rfl (.inl rfl) (jq Ja (pv 0) jd))
  (jb (jr (i:=6) qO.nd rfl (.inl rfl) (jq j2 (pv 0) jd))
  (jb (jr (i:=7) qO.nd rfl (.inl rfl) (jq jS jd (jq Ja (jq j2 (pv 0) (jq Z6 jd jd)) (jo jv (pv 4) (jq Ja (jq j2 (pv 0) jd) jd)))))
  (jb (qC (PW.pt (QX (jt (xq hr.units) (pv 1) (jK jc) (nomark _)) (QI (jt ZI (pv 5) jd (nomark _)))))
   (jg (jr (i:=5) qO.nd rfl (.inl rfl) (jq Ja (jq j2 (pv 0) jd) jd)))
   jA)
  (jb (j3 (jt Z5 (pv 5) jd (nomark _))
   (jg (jB (jN (ja jJ (ja (jo jz (jo jv (pv 3) (jq Ja (pv 6) (jD jW (by rfl) T.JT Jj (ja (pv 3) jc)))) jd) (ja (jq Ja (jq j2 (pv 6) jd) (jo jv (pv 4) jd)) (ja (pv 7) jc)))))))
   jA)
  (jb (j3 (jt Jc (pv 5) jd (nomark _))
   (jg (jB (jN (ja jJ (ja (jo jv (jq Zr (jq Zr (jK (ja jJ (ja jJ jc))) (zn Kt (pv 1) Zt (Zu jd))) (jK (ja jJ jc))) (jq Ja (pv 6) jd)) (ja (pv 7) jc))))))
   jA)
  (jb (j3 (jt Jc (pv 5) jd (nomark _))
   (jg (jB (jN (ja jJ (ja (ju T.Q0 U hr (ja (pv 6) (ja (pv 1) (ja (pv 2) (ja jJ jc))))) jc)))))
   jA)
  (jb (j3 (PW.pt (QX (jt Jc (pv 5) jd (nomark _)) (QI (jt ZI (jD jW (by rfl) T.JT Jj (ja (ju T.Q0 U hr (ja (pv 6) (ja (pv 1) (ja (pv 2) (ja jJ jc))))) jc)) jd (nomark _)))))
   (jg (jB (jN (ja jJ (ja (ju T.Q0 U hr (ja (pv 6) (ja (pv 1) (ja (pv 2) (ja jJ jc))))) jc)))))
   jA)
  (jb (j3 (jt Jc (pv 5) jd (nomark _))
   (jb (jr (i:=8) qO.nd rfl (.inl rfl) (jq Jt (jq Jt (jD jW (by rfl) T.JT Jj (ja (pv 1) jc)) jd) (jq Ja (pv 6) (jD (yv rfl) (by rfl) T.j0y WM (ja jd (ja (jD jW (by rfl) T.JT Jj (ja (pv 1) jc)) jc))))))
   (jg (jB (jN (ja jJ (ja (jq jS jd (jq Ja (jq j2 (pv 0) (jq Z6 jd jd)) (jo jv (pv 4) jd))) (ja (jo jv (pv 1) (pv 8)) jc)))))))
   jA)
  (jg (jB (jN (ja jJ (ja (pv 7) jc)))))))))))))),?_⟩
 refine jE (σ':=[some _,some _,some _,some _,some _,none,none,none,none]) rfl ?_
 try dsimp only[cxOf,Cx.nox]
 have sz:(200:Nat)<sizeLine:=by decide
 have ag:=N.n20;have l1:=Lm.l1;have a6:=Lm.la.1;obtain⟨eb,W,X,Y,Z,a7,a8,a9,aa,ab,ac⟩:=Bd;have k0:=ve n (show(8:Int)≠0 by decide);have k1:=vf n (show(0:Int)<8 by decide);have i0:=ve (n/8) (show(2:Int)≠0 by decide);have i1:=vf (n/8) (show(0:Int)<2 by decide);obtain⟨J,a0,a1⟩:=at01F (b2:=b2) (b3:=b3) (b4:=b4) ⟨W,X⟩ ⟨Y,Z⟩ i0 i1;have d:formF n e Ms s C D b2 b3=_:=formF.eq_1 ..;have l:beF n C D=1+n/10^12%(if n/8%2=0 then C else D):=rfl;generalize(if n/8%2=0 then C else D)=bx at J a0 a1 l;rw[l]at d;generalize formF n e Ms s C D b2 b3=F at d q;have m0:0<=n/100:=by lia
 have m1:n/100<=10^40:=by lia
 have v0:=ve (n/10^12) (show bx≠0 by lia);have v1:=vf (n/10^12) (show 0<bx by lia);exists j3e ?_;exists ixLm (SqL.of eb) (J) ?_;exists⟨fun σ' H'=>IvE1 fun(B:Int)=>IvA5 (σ'=[some (.int n),some (.ref M),some (.ref S),some (.ref pl),some (.ref bd),some (.int B),some (.int (n/100)),some (.int (1+n/10^12%bx)),none]) (Same H H') (0<=B) (B<8) ((4<B->1<=e.length)/\kkF n e=B),?_,?_⟩
 rotate_left
 ·exists⟨va _,?_⟩;walk_at"f e3 he3 H3 s3 t3";refine⟨_,_,.lst (s3 _ _ N.en) (Q9 _),j1p t3,shpB N.w,shp0,?_⟩;rw[eqvB];exists iteD (fun c=>?_) (fun c=>?_)
  ·exists iteD (fun R=>?_) (fun R=>?_)
   ·walk_at"g";have Q:=ve (n/16) (show(5:Int)≠0 by decide);have w1:=vf (n/16) (show(0:Int)<5 by decide);exact⟨_,rfl,s3,Q,by lia,fun h=>uh h (by lia),vd ⟨c,R⟩⟩
   ·walk_at"g";exact⟨_,rfl,s3,k0,k1,fun h=>uh h R,vc fun z=>R z.2⟩
  ·walk_at"g";exact⟨_,rfl,s3,k0,k1,fun _=>length_pos_iff.mpr c,vc fun z=>c z.1⟩
 rintro σ' H1 ⟨B,rfl,g,ad,ae,kn,a2⟩;rw[a2]at d;have o:=N.same g;have m:=Lm.same g;have I:=g _ _ eb;exists iteD (fun c=>?_) (fun c=>?_)
 ·exists⟨_,_,rfl,.inl ⟨_,SqL.of m.el,rfl⟩,?_⟩;rw[vt,a6];walk_at"g";have Q:=ve (n/100) (show(s.length:Int)≠0 by lia);have w1:=vf (n/100) (show(0:Int)<(s.length:Int) by lia);rw[vd c]at d;generalize n/100%(s.length:Int)=r at Q w1 d|-;obtain⟨j,rfl⟩:∃j:Nat,r=(j:Int):=⟨r.toNat,by lia⟩
  have A:j<s.length:=by lia
  obtain⟨lk,a4,a3⟩:=m.la.get (vz A);refine ixLm (SqL.of m.el) (jO (j:=j) (by rw[vv,a4];rfl)) ?_;exists ixTm (SqT.of a3) rfl ?_;exists ixLm (SqL.of I) rfl ?_;walk_at"g";have h0:=ve (n/100/10) (show b2≠0 by lia);have h1:=vf (n/100/10) (show 0<b2 by lia);refine⟨ud,?_⟩;walk_at"f b6 hb6 H6 s6 t6";have ef:F = .rise s[j].1 (n/100/10%b2) (1+n/10^12%bx):=by
   rw[d,Int.toNat_natCast,vy,vz A];rfl
  rw[ef]at q;refine q b6 H6 (g.trans s6) t6 ⟨⟨j,?_⟩,h0,by lia,by lia,by lia⟩;unfold nmsOf;rw[vv,vz A];rfl
 rw[vc c]at d;exists iteD (fun c4=>?_) (fun c4=>?_)
 ·exists⟨uf,?_⟩;walk_at"f b3 hb3 H3 s3 t3";exists⟨M,_,rfl,SqL.of (s3 _ _ o.en),?_⟩;walk_at"f b4 hb4 H4 s4 t4";have cl:=zz (e.map V.str) none (some 1);rw[vt]at cl;refine⟨b3,b4,_,_,rfl,rfl,s4 _ _ t3,t4,by show 2+_<=sizeLine;lia,?_⟩;walk_at"f b5 hb5 H5 s5 t5";exists⟨ug,?_⟩;walk_at"f b6 hb6 H6 s6 t6";refine⟨b5,b6,_,_,rfl,rfl,s6 _ _ t5,t6,by rw[vn];show 2+_+1<=sizeLine;lia,?_⟩;walk_at"f b7 hb7 H7 s7 t7";walk_at"g";have Q:=ve (n/100) (show(3:Int)≠0 by decide);have w1:=vf (n/100) (show(0:Int)<3 by decide);rw[vd c4]at d;have a5:∀x∈([("ding" : Str),"dong"]:List Str)++e.take 1++[("din" : Str)],Ws.isW x=true:=fun v hv=>by
   rcases vh.mp hv with z | z
   ·rcases vh.mp z with z | z
    ·rcases mem_cons.mp z with rfl | z
     ·decide +kernel
     ·rw[vo.mp z];decide +kernel
    ·exact N.w v (mem_of_mem_take z)
   ·rw[vo.mp z];decide +kernel
  have ex:[V.str "ding",V.str "dong"]++cutV (e.map V.str) none (some 1)++[V.str "din"]=(([("ding" : Str),"dong"]:List Str)++e.take 1++[("din" : Str)]).map V.str:=by
   rw[show(some 1:Option Int)=some ((1:Nat):Int)from rfl,j2k,vj,vj,map_take];rfl
  obtain⟨p,ww⟩:=j3E (k:=n/100%3) a5 Q (by rw[vn,vn];show _<(((2+_+1:Nat)):Int);lia);rw[<-ex]at p;generalize wdF (([("ding" : Str),"dong"]:List Str)++e.take 1++[("din" : Str)]) (n/100%3)=w' at p ww d;refine ixLm (SqL.of t7) (p) ?_;exists⟨ue,?_⟩;walk_at"f b8 hb8 H8 s8 t8";rw[d]at q;exact q b8 H8 (g.trans (s3.trans (s4.trans (s5.trans (s6.trans (s7.trans s8)))))) t8 ⟨by lia,by lia,ww⟩
 rw[vc c4]at d;exists iteD (fun c5=>?_) (fun c5=>?_)
 ·have f:=kn (by lia);rw[vd c5]at d;rw[d]at q;exists⟨_,M,S,u,_,e,Ms,"row",rfl,o,f,m0,m1,.inl rfl,fun b2 H2 O E=>?_⟩;exists⟨uf,?_⟩;walk_at"f b6 hb6 H6 s6 t6";have ln:=Km (n:=n/100) (len:=e.length) (Ms:=Ms) (ro:=decide (("row" : Str) = "row")) e.length;rw[show decide (("row" : Str) = "row")=true by decide +kernel]at ln E;refine q b6 H6 (g.trans (O.trans s6)) ⟨b2,t6,s6 _ _ E⟩ ⟨j2R rfl _ f,by lia,j07 f _⟩
 rw[vc c5]at d;have L:decide (("side" : Str) = "row")=false:=by decide +kernel
 exists iteD (fun c6=>?_) (fun c6=>?_)
 ·have f:=kn (by lia);exists⟨_,M,S,u,_,e,Ms,"side",rfl,o,f,m0,m1,.inr rfl,fun b2 H2 O E=>?_⟩;have ln:=Km (n:=n/100) (len:=e.length) (Ms:=Ms) (ro:=decide (("side" : Str) = "row")) e.length;rw[L]at ln E;refine⟨_,_,rfl,.inr ⟨_,SqT.of E,rfl⟩,?_⟩;rw[vt,vt];exists iteD (fun c7=>?_) (fun c7=>?_)
  ·rw[vd ⟨c6,by lia⟩]at d;rw[d]at q;exists⟨_,M,S,u,_,e,Ms,"side",rfl,o.same O,f,m0,m1,.inr rfl,fun b3 H3 s3 e3=>?_⟩;exists⟨uf,?_⟩;walk_at"f b6 hb6 H6 s6 t6";rw[L]at e3;refine q b6 H6 (g.trans (O.trans (s3.trans s6))) ⟨b3,t6,s6 _ _ e3⟩ ⟨by lia,by lia,j07 f _,(j2Q rfl _).1.n N.il⟩
  ·rw[vc (fun z=>c7 (by have:=z.2;lia)),vc (by lia)]at d;rw[d]at q;exists iteD (fun y=>?_) (fun y=>?_)
   ·exact uh y (by lia)
   exists⟨uf,?_⟩;walk_at"f b6 hb6 H6 s6 t6";exact q b6 H6 (g.trans (O.trans s6)) t6 ⟨by lia,by lia⟩
 rw[vc (fun z=>c6 z.1)]at d;refine iteF ?_;exists iteD (fun y=>?_) (fun y=>?_)
 ·have f:=kn (by lia);rw[vd y]at d;exists⟨_,_,rfl,.inl ⟨_,SqL.of o.en,rfl⟩,?_⟩;rw[vt];exists⟨_,_,rfl,.inl ⟨_,SqL.of o.en,rfl⟩,?_⟩;rw[vt];refine⟨_,_,rfl,?_⟩;dsimp only;walk_at"g";obtain⟨j,ej,A⟩:∃j:Nat,(e.length:Int)-1-n/100%(if(e.length:Int)<3 then(e.length:Int)else 3)=(j:Int)/\j<e.length:=by
   have a:=ve (n/100) (show(if(e.length:Int)<3 then(e.length:Int)else 3)≠0 by split<;>lia);have b:=vf (n/100) (show 0<(if(e.length:Int)<3 then(e.length:Int)else 3) by split<;>lia);generalize n/100%(if(e.length:Int)<3 then(e.length:Int)else 3)=z at a b|-;refine⟨((e.length:Int)-1-z).toNat,?_,?_⟩
   ·split at b<;>lia
   ·split at b<;>lia
  rw[ej,Int.toNat_natCast]at d;rw[d]at q;rw[ej];refine j3e ?_;exists ixLm (SqL.of I) rfl ?_;walk_at"g";have h0:=ve (n/10^12) (show b3≠0 by lia);have h1:=vf (n/10^12) (show 0<b3 by lia);refine ixLm (SqL.of o.en) (zx A) ?_;exists⟨ue,?_⟩;walk_at"f b6 hb6 H6 s6 t6";exact q b6 H6 (g.trans s6) t6 ⟨by lia,by lia,A⟩
 rw[vc y]at d;rw[d]at q;exists⟨uf,?_⟩;walk_at"f b6 hb6 H6 s6 t6";exact q b6 H6 (g.trans s6) t6 ⟨by lia,by lia⟩
theorem xb(T:Txt K mg t):FnOk P w K mg base CX0 1 t.QN t.QR ["_law_form_here","_law_known"] (sp_longB):=by
 specialize T.QK.F.ok xB;obtain⟨A,d,f,o,C,L,M,rfl,u,I,R,S,p,J,q⟩:=h;refine⟨_,(jb (j3 (jt Jc (jo jz (pv 0) jd) jJ (nomark _))
   (jg (jB (jD (wX rfl) (by rfl) T.j4s j2i (ja (qN (ow:=["_law_name"]) (ci:=[1]) rfl (CompScope.of (defScope QU) ["_law_form_here","_law_known"] rfl rfl (by decide +kernel)) (JR (by decide)) (xv (jo jz (pv 0) jd)) (fun _ _ _ _ _=>⟨(jw (i:=0) (JU ["_law_form_here","_law_known"] rfl (by decide +kernel)) rfl (.inl rfl)),Qq,(JK (J1 hr) (pv 1) (pv 0))⟩)) jc))))
   jA)
  (jb (j3 (jt Jc (jo jz (pv 0) jd) jJ (nomark _))
   (jg (jB (jD (Y6 rfl) (by rfl) T.wR Y4 (ja (qN (ow:=["_law_name"]) (ci:=[1]) rfl (CompScope.of (defScope QU) ["_law_form_here","_law_known"] rfl rfl (by decide +kernel)) (JR (by decide)) (xv (jo jz (pv 0) jd)) (fun _ _ _ _ _=>⟨(jw (i:=0) (JU ["_law_form_here","_law_known"] rfl (by decide +kernel)) rfl (.inl rfl)),Qq,(JK (J1 hr) (pv 1) (pv 0))⟩)) jc))))
   jA)
  (jb (j3 (jt Jc (jo jz (pv 0) jd) jJ (nomark _))
   (jg (jB (jq Jv (jo jz (pv 0) jd) (JK (J1 hr) (pv 1) (jo jz (pv 0) jd)))))
   jA)
  (jg (jB (jo jz (pv 0) (jq Jt (jD jW (by rfl) T.JT Jj (ja (pv 0) jc)) jd))))))),?_⟩
 refine jE (σ':=[some _,some _]) rfl ?_
 try dsimp only[cxOf,Cx.nox]
 have Z:(200:Nat)<sizeLine:=by decide
 have s:∀j,j<o.length->DGet H d (.str (o.getD j ⟨#[]⟩)) (some (.int (C.getD j 0))):=fun j l=>by
  have g:=DGet.k (k:=Sum.inr (o.getD j ⟨#[]⟩)) I;rw[Yz R S l]at g;exact g
 obtain⟨B,c⟩:=p.js;cases f with
 | hold n=>
  have a:H A=some (.tup _):=u;exists ixTm (SqT.of a) rfl ?_;exists iteE0 ?_;exists ixTm (SqT.of a) rfl ?_;exists iteE0 ?_;exists ixTm (SqT.of a) rfl ?_;exists iteE0 ?_;exists⟨_,_,rfl,.inr ⟨_,SqT.of a,rfl⟩,?_⟩;exists ixTm (SqT.of a) rfl ?_;exact q _ H (Same.refl _) rfl
 | ring x n=>
  have a:H A=some (.tup _):=u;exists ixTm (SqT.of a) rfl ?_;exists iteE0 ?_;exists ixTm (SqT.of a) rfl ?_;exists iteE0 ?_;exists ixTm (SqT.of a) rfl ?_;exists iteE0 ?_;exists⟨_,_,rfl,.inr ⟨_,SqT.of a,rfl⟩,?_⟩;exists ixTm (SqT.of a) rfl ?_;exact q _ H (Same.refl _) rfl
 | rise x h n=>
  have a:H A=some (.tup _):=u;exists ixTm (SqT.of a) rfl ?_;exists iteE0 ?_;exists ixTm (SqT.of a) rfl ?_;exists iteE0 ?_;exists ixTm (SqT.of a) rfl ?_;exists iteE0 ?_;exists⟨_,_,rfl,.inr ⟨_,SqT.of a,rfl⟩,?_⟩;exists ixTm (SqT.of a) rfl ?_;exact q _ H (Same.refl _) rfl
 | row is=>
  obtain⟨b,a,y⟩:=u;have B:is.length<=8:=B;have c:∀j∈is,j<o.length:=c;exists ixTm (SqT.of a) rfl ?_;exists iteE1 ?_;exists ixTm (SqT.of a) rfl ?_;refine⟨b,rfl,⟨_,SqT.of y⟩,?_⟩;refine Yr (xs:=(is.map fun j=>o.getD j ⟨#[]⟩).map V.str) (fun t r m=>r=((is.take t).map fun j=>C.getD j 0).map V.int/\H=m) ⟨rfl,rfl⟩ ?_ ?_ ?_
  ·rintro t r m _ ⟨rfl,rfl⟩;exact SqT.of y
  ·rintro t v r m z ⟨rfl,rfl⟩;rw[vv,vv]at z;obtain⟨x,D,rfl⟩:=vg.mp z;obtain⟨j,l,rfl⟩:=vg.mp D;have Q:=(vx.mp l).1;refine qa (σ':=[none,some (.ref d)]) rfl ?_;exists iteT ?_;exists⟨d,_,rfl,s j (c j (vm l)),?_⟩;refine⟨by rw[vt,vt,vi];lia,?_,rfl⟩;rw[take_snoc l,vj,vj];rfl
  rintro r m ⟨rfl,rfl⟩;rw[show((is.map fun j=>o.getD j ⟨#[]⟩).map V.str).length=is.length by rw[vt,vt],v3];refine⟨by rw[vt,vt];lia,?_⟩;walk_at"f 1 t";exists⟨p1,_,rfl,SqL.of t1,?_⟩;exact q _ H1 s1 rfl
 | side is=>
  obtain⟨b,a,y⟩:=u;have B:is.length<=8:=B;have c:∀j∈is,j<o.length:=c;have W:=p.1;exists ixTm (SqT.of a) rfl ?_;exists iteE0 ?_;exists ixTm (SqT.of a) rfl ?_;exists iteE1 ?_;exists ixTm (SqT.of a) rfl ?_;refine⟨b,rfl,⟨_,SqT.of y⟩,?_⟩;refine Yr (xs:=(is.map fun j=>o.getD j ⟨#[]⟩).map V.str) (fun t r m=>r=((is.take t).map fun j=>C.getD j 0).map V.int/\H=m) ⟨rfl,rfl⟩ ?_ ?_ ?_
  ·rintro t r m _ ⟨rfl,rfl⟩;exact SqT.of y
  ·rintro t v r m z ⟨rfl,rfl⟩;rw[vv,vv]at z;obtain⟨x,D,rfl⟩:=vg.mp z;obtain⟨j,l,rfl⟩:=vg.mp D;have Q:=(vx.mp l).1;refine qa (σ':=[none,some (.ref d)]) rfl ?_;exists iteT ?_;exists⟨d,_,rfl,s j (c j (vm l)),?_⟩;refine⟨by rw[vt,vt,vi];lia,?_,rfl⟩;rw[take_snoc l,vj,vj];rfl
  rintro r m ⟨rfl,rfl⟩;rw[show((is.map fun j=>o.getD j ⟨#[]⟩).map V.str).length=is.length by rw[vt,vt],v3];refine⟨by rw[vt,vt];lia,?_⟩;walk_at"f 1 t";exists⟨p1,_,rfl,SqL.of t1,by rw[vt];lia,fun g N O=>?_⟩;obtain⟨j,l,e⟩:=vK.mp N;exact q g H1 s1 ⟨⟨j,l,e.symm⟩,fun j l=>O _ (vK.mpr ⟨j,l,rfl⟩)⟩
 | again k j=>
  have a:H A=some (.tup _):=u;have E:=c j vq;have U:=J j E;have X:=p.1;have Y:=p.2.1;exists ixTm (SqT.of a) rfl ?_;exists iteE0 ?_;exists ixTm (SqT.of a) rfl ?_;exists iteE0 ?_;exists ixTm (SqT.of a) rfl ?_;exists iteE1 ?_;exists ixTm (SqT.of a) rfl ?_;exists ixTm (SqT.of a) rfl ?_;exists⟨d,_,rfl,s j E,?_⟩;walk_at"g";exact q _ H (Same.refl _) rfl
theorem wD(T:Txt K mg t):FnOk P w K mg base CX0 1 t.Ql t.Qm ["_law_form_here","_law_names","_law_movers"] (sp_movesG):=by
 specialize T.Za.F.ok JP;obtain⟨B,I,R,a7,f,J,Ms,L,M,rfl,X,en,em,aM,nd,ln,ac,N,k4,q⟩:=h;refine⟨_,(jb (j3 (jt Jc (jo jz (pv 0) jd) jJ (nomark _))
   (jg (jB (jK (ja (jo jz (pv 0) jd) jc))))
   jA)
  (jb (jr (i:=3) JP.nd rfl (.inl rfl) (jK jc))
  (jb (qC (PW.pt (XD (jt Jc (jo jz (pv 0) jd) jJ (nomark _)) (xy (jt Jc (jo jz (pv 0) jd) jJ (nomark _)))))
   (jg (jr (i:=3) JP.nd rfl (.inl rfl) (Jy WO (by rfl) T.j2g j0z (ja (jo jz (pv 0) jd) jc))))
   jA)
  (jb (qC (jt Jc (jo jz (pv 0) jd) jJ (nomark _))
   (jg (jr (i:=3) JP.nd rfl (.inl rfl) (jK (ja (jo jz (pv 0) jd) jc))))
   jA)
  (jb (jr (i:=4) JP.nd rfl (.inl rfl) (jK jc))
  (jb (Jd PassesOwn.never rfl (Jh (pv 3)) (jw (i:=5) JP.nd rfl (.inl rfl))
   (jg (Jd PassesOwn.never rfl (Jh (jo jv (pv 2) (qh PySem.F.plainAttrs_list PySem.F.slot_list_index PySem.F.type_list_index j1F (pv 1) (ja (pv 5) jc)))) (jw (i:=6) JP.nd rfl (.inl rfl))
    (jg (j3 (jt xr (pv 6) (pv 4) (by with_unfolding_all rfl))
     (jg (Jb (qh PySem.F.plainAttrs_list PySem.F.slot_list_append PySem.F.type_list_append jV (pv 4) (ja (pv 6) jc))))
     jA)))))
  (jg (jB (pv 4))))))))),?_⟩
 refine jE (σ':=[some _,some _,some _,none,none,none,none]) rfl ?_
 try dsimp only[cxOf,Cx.nox]
 have sz:(200:Nat)<sizeLine:=by decide
 cases f
 case rise x h n=>
  have p:H B=some (.tup _):=X;exists ixTm (SqT.of p) rfl ?_;exists iteE1 ?_;exists ixTm (SqT.of p) rfl ?_;exists⟨ug,?_⟩;walk_at"f 1 t";refine q p1 H1 s1 hp1 t1 ⟨pairwise_singleton _ _,fun s=>?_⟩ (by show 1<=80;decide);show s∈[x]↔_;rw[vo];constructor
  ·rintro rfl;exact .inr ⟨h,n,rfl⟩
  ·rintro(⟨j,hj,_⟩ | ⟨h',n',e⟩)
   ·exact nomatch hj
   ·injection e with e1;exact e1.symm
 case' hold n=>
  have p:H B=some (.tup _):=X;exists ixTm (SqT.of p) rfl ?_;exists iteE0 ?_;exists⟨va _,?_⟩;walk_at"f 1 t";have l:=s1 _ _ p;exists⟨fun σ' g=>IvE1 fun(d:Addr)=>IvA2 (σ'=[some (.ref B),some (.ref I),some (.ref R),some (.ref d),none,none,none]) (Same H g/\g d=some (.lst (((rsB (Fn.hold n)).map fun j=>J.getD j ⟨#[]⟩).map V.str))),?_,?_⟩
  rotate_left
  ·exists ixTm (SqT.of l) rfl ?_;exists iteE0 ?_;exists ixTm (SqT.of l) rfl ?_;exists iteE0 ?_;walk_at"g";exact⟨p1,rfl,s1,t1⟩
  rintro σ' H2 ⟨p2,rfl,m,e2⟩;have A:=m _ _ p;exists⟨fun σ' g=>IvE1 fun(d:Addr)=>IvA2 (σ'=[some (.ref B),some (.ref I),some (.ref R),some (.ref d),none,none,none]) (Same H g/\g d=some (.lst (((Fn.hold n).js.map fun j=>J.getD j ⟨#[]⟩).map V.str))),?_,?_⟩
  rotate_left
  ·exists ixTm (SqT.of A) rfl ?_;exists iteE0 ?_;walk_at"g";exact⟨p2,rfl,m,e2⟩
  rintro σ' H3 ⟨d,rfl,C,Q⟩;have W:∀Z u1 u2,(Fn.hold n)≠.rise Z u1 u2:=fun _ _ _ z=>by cases z
  clear X;generalize(Fn.hold n)=f at Q W N q
 case' ring x n=>
  have p:H B=some (.tup _):=X;exists ixTm (SqT.of p) rfl ?_;exists iteE0 ?_;exists⟨va _,?_⟩;walk_at"f 1 t";have l:=s1 _ _ p;exists⟨fun σ' g=>IvE1 fun(d:Addr)=>IvA2 (σ'=[some (.ref B),some (.ref I),some (.ref R),some (.ref d),none,none,none]) (Same H g/\g d=some (.lst (((rsB (Fn.ring x n)).map fun j=>J.getD j ⟨#[]⟩).map V.str))),?_,?_⟩
  rotate_left
  ·exists ixTm (SqT.of l) rfl ?_;exists iteE0 ?_;exists ixTm (SqT.of l) rfl ?_;exists iteE0 ?_;walk_at"g";exact⟨p1,rfl,s1,t1⟩
  rintro σ' H2 ⟨p2,rfl,m,e2⟩;have A:=m _ _ p;exists⟨fun σ' g=>IvE1 fun(d:Addr)=>IvA2 (σ'=[some (.ref B),some (.ref I),some (.ref R),some (.ref d),none,none,none]) (Same H g/\g d=some (.lst (((Fn.ring x n).js.map fun j=>J.getD j ⟨#[]⟩).map V.str))),?_,?_⟩
  rotate_left
  ·exists ixTm (SqT.of A) rfl ?_;exists iteE0 ?_;walk_at"g";exact⟨p2,rfl,m,e2⟩
  rintro σ' H3 ⟨d,rfl,C,Q⟩;have W:∀Z u1 u2,(Fn.ring x n)≠.rise Z u1 u2:=fun _ _ _ z=>by cases z
  clear X;generalize(Fn.ring x n)=f at Q W N q
 case' row is=>
  obtain⟨b,p,hb⟩:=X;exists ixTm (SqT.of p) rfl ?_;exists iteE0 ?_;exists⟨va _,?_⟩;walk_at"f 1 t";have l:=s1 _ _ p;exists⟨fun σ' g=>IvE1 fun(d:Addr)=>IvA2 (σ'=[some (.ref B),some (.ref I),some (.ref R),some (.ref d),none,none,none]) (Same H g/\g d=some (.lst (((rsB (Fn.row is)).map fun j=>J.getD j ⟨#[]⟩).map V.str))),?_,?_⟩
  rotate_left
  ·exists ixTm (SqT.of l) rfl ?_;exists iteE1 ?_;refine iteT ?_;exists ixTm (SqT.of l) rfl ?_;exists⟨b,_,rfl,.inr (SqT.of (s1 _ _ hb)),?_⟩;walk_at"f 2 t";walk_at"g";exact⟨p2,rfl,s1.trans s2,t2⟩
  rintro σ' H2 ⟨p2,rfl,m,e2⟩;have A:=m _ _ p;exists⟨fun σ' g=>IvE1 fun(d:Addr)=>IvA2 (σ'=[some (.ref B),some (.ref I),some (.ref R),some (.ref d),none,none,none]) (Same H g/\g d=some (.lst (((Fn.row is).js.map fun j=>J.getD j ⟨#[]⟩).map V.str))),?_,?_⟩
  rotate_left
  ·exists ixTm (SqT.of A) rfl ?_;exists iteE0 ?_;walk_at"g";exact⟨p2,rfl,m,e2⟩
  rintro σ' H3 ⟨d,rfl,C,Q⟩;have W:∀Z u1 u2,(Fn.row is)≠.rise Z u1 u2:=fun _ _ _ z=>by cases z
  generalize(Fn.row is)=f at Q W N q;clear p hb
 case' side is=>
  obtain⟨b,p,hb⟩:=X;exists ixTm (SqT.of p) rfl ?_;exists iteE0 ?_;exists⟨va _,?_⟩;walk_at"f 1 t";have l:=s1 _ _ p;exists⟨fun σ' g=>IvE1 fun(d:Addr)=>IvA2 (σ'=[some (.ref B),some (.ref I),some (.ref R),some (.ref d),none,none,none]) (Same H g/\g d=some (.lst (((rsB (Fn.side is)).map fun j=>J.getD j ⟨#[]⟩).map V.str))),?_,?_⟩
  rotate_left
  ·exists ixTm (SqT.of l) rfl ?_;exists iteE0 ?_;exists ixTm (SqT.of l) rfl ?_;exists iteE1 ?_;exists ixTm (SqT.of l) rfl ?_;exists⟨b,_,rfl,.inr (SqT.of (s1 _ _ hb)),?_⟩;walk_at"f 2 t";walk_at"g";exact⟨p2,rfl,s1.trans s2,t2⟩
  rintro σ' H2 ⟨p2,rfl,m,e2⟩;have A:=m _ _ p;exists⟨fun σ' g=>IvE1 fun(d:Addr)=>IvA2 (σ'=[some (.ref B),some (.ref I),some (.ref R),some (.ref d),none,none,none]) (Same H g/\g d=some (.lst (((Fn.side is).js.map fun j=>J.getD j ⟨#[]⟩).map V.str))),?_,?_⟩
  rotate_left
  ·exists ixTm (SqT.of A) rfl ?_;exists iteE0 ?_;walk_at"g";exact⟨p2,rfl,m,e2⟩
  rintro σ' H3 ⟨d,rfl,C,Q⟩;have W:∀Z u1 u2,(Fn.side is)≠.rise Z u1 u2:=fun _ _ _ z=>by cases z
  generalize(Fn.side is)=f at Q W N q;clear p hb
 case' again k j=>
  have p:H B=some (.tup _):=X;exists ixTm (SqT.of p) rfl ?_;exists iteE0 ?_;exists⟨va _,?_⟩;walk_at"f 1 t";have l:=s1 _ _ p;exists⟨fun σ' g=>IvE1 fun(d:Addr)=>IvA2 (σ'=[some (.ref B),some (.ref I),some (.ref R),some (.ref d),none,none,none]) (Same H g/\g d=some (.lst (((rsB (Fn.again k j)).map fun j=>J.getD j ⟨#[]⟩).map V.str))),?_,?_⟩
  rotate_left
  ·exists ixTm (SqT.of l) rfl ?_;exists iteE0 ?_;exists ixTm (SqT.of l) rfl ?_;exists iteE0 ?_;walk_at"g";exact⟨p1,rfl,s1,t1⟩
  rintro σ' H2 ⟨p2,rfl,m,e2⟩;have A:=m _ _ p;exists⟨fun σ' g=>IvE1 fun(d:Addr)=>IvA2 (σ'=[some (.ref B),some (.ref I),some (.ref R),some (.ref d),none,none,none]) (Same H g/\g d=some (.lst (((Fn.again k j).js.map fun j=>J.getD j ⟨#[]⟩).map V.str))),?_,?_⟩
  rotate_left
  ·exists ixTm (SqT.of A) rfl ?_;exists iteE1 ?_;exists ixTm (SqT.of A) rfl ?_;exists⟨ug,?_⟩;walk_at"f 3 t";walk_at"g";exact⟨p3,rfl,m.trans s3,t3⟩
  rintro σ' H3 ⟨d,rfl,C,Q⟩;have W:∀Z u1 u2,(Fn.again k j)≠.rise Z u1 u2:=fun _ _ _ z=>by cases z
  clear X;generalize(Fn.again k j)=f at Q W N q
 all_goals
  obtain⟨j8,a8⟩:=N.js;exists⟨va _,?_⟩;walk_at"f pf hpf H4 s4 t4";have a3:=C.trans s4;have mf:∀{c u},H c=some u->c≠pf:=fun h=>je (C _ _ h) hpf
  have a9:d≠pf:=je Q hpf;have aa:=aM.1;exists⟨d,rfl,⟨_,SqL.of (s4 _ _ Q)⟩,?_⟩;refine JW (xs:=(f.js.map fun j=>J.getD j ⟨#[]⟩).map V.str) (fun t σ g=>IvE3 fun(o5 Y:Option V) (S:List Str)=>IvA6 (σ=[some (.ref B),some (.ref I),some (.ref R),some (.ref d),some (.ref pf),o5,Y]) (∀c u,c≠pf->H4 c=some u->g c=some u) (g pf=some (.lst (S.map V.str))) S.Nodup (S.length<=8*t) ((∀s,s∈S↔∃j∈f.js.take t,s∈Ms.getD j [])/\S=(f.js.take t).foldl (addS Ms) [])) ⟨_,_,[],rfl,fun c u _ h=>h,t4,.nil,vb _,(fun s=>⟨(fun h=>nomatch h),fun⟨j,hj,_⟩=>nomatch hj⟩),rfl⟩ ?_ ?_ ?_
  ·rintro t σ g _ ⟨o5,Y,S,rfl,sm,_⟩;exact SqL.of (sm _ _ a9 (s4 _ _ Q))
  ·rintro t v σ H5 hv ⟨o5,Y,S,rfl,sm,e5,a2,kl,U,ek⟩;rw[vv,vv]at hv;obtain⟨x,hx,rfl⟩:=vg.mp hv;obtain⟨j,hj,rfl⟩:=vg.mp hx;have tl:=(vx.mp hj).1;have jl:=a8 j (vm hj);obtain⟨l1,l2,l3⟩:=lidxB nd jl;have a4:Ms[j]?=some (Ms.getD j []):=by rw[vy,vz (by lia)];rfl
   have ab:=k4 _ (vm a4);obtain⟨ma,a5⟩:∃ma,a7[j]?=some ma:=⟨_,vz (by lia)⟩
   have a0:=aM.2 j ma _ a5 a4;have k5:∀{c u},H c=some u->H5 c=some u:=fun h=>sm _ _ (mf h) (a3 _ _ h)
   exists⟨.inl ⟨rfl,_,SqL.of (k5 en)⟩,?_⟩;exists⟨I,_,.str _,.str _,j,rfl,rfl,SqL.of (k5 en),rfl,flatB _,l1,l2,l3,?_⟩;exists ixLm (SqL.of (k5 em)) (jO (show(a7.map V.ref)[j]?=some (.ref ma) by rw[vv,a5];rfl)) ?_;refine⟨ma,rfl,⟨_,SqL.of (k5 a0)⟩,?_⟩;refine JW (xs:=(Ms.getD j []).map V.str) (fun u σ g=>IvE2 fun(Y:Option V) (o:List Str)=>IvA6 (σ=[some (.ref B),some (.ref I),some (.ref R),some (.ref d),some (.ref pf),some (.str (J.getD j ⟨#[]⟩)),Y]) (∀c u,c≠pf->H4 c=some u->g c=some u) (g pf=some (.lst (o.map V.str))) o.Nodup (o.length<=8*t+u) ((∀s,s∈o↔s∈S\/s∈(Ms.getD j []).take u)/\o=((Ms.getD j []).take u).foldl addW S)) ⟨_,S,rfl,sm,e5,a2,kl,(fun s=>⟨.inl,fun h=>h.elim id fun h=>nomatch h⟩),rfl⟩ ?_ ?_ ?_
   ·rintro u σ g _ ⟨Y,o,rfl,O,_⟩;exact SqL.of (O _ _ (mf a0) (a3 _ _ a0))
   ·rintro u v σ H6 hv ⟨Y,o,rfl,O,e6,D,a6,r,E⟩;rw[vv]at hv;obtain⟨y,hy,rfl⟩:=vg.mp hv;have ul:=(vx.mp hy).1;exists⟨pf,_,rfl,.inl (SqL.of e6),rfl,flatB _,?_⟩;rw[vd rfl,WX];refine⟨_,rfl,?_⟩;refine iteN (fun c=>?_) (fun c=>?_)
    ·exists⟨.inl ⟨rfl,_,SqL.of e6⟩,?_⟩;exists⟨pf,_,_,rfl,rfl,e6,by rw[vt];lia,?_⟩;refine⟨_,o++[y],rfl,fun c u hc h=>(jh hc).trans (O _ _ hc h),by rw[jG,vj];rfl,nodup_append.mpr ⟨D,pairwise_singleton _ _,fun a p b hb e=>c (by rw[<-vo.mp hb,<-e];exact p)⟩,by rw[vn,length_singleton];lia,fun s=>?_,by rw[take_snoc hy,foldl_append,<-E];show _=addW o y;unfold addW;rw[vc c]⟩;rw[vh,r,vo,take_snoc hy,vh,vo,or_assoc]
    ·exists⟨_,o,rfl,O,e6,D,by lia,fun s=>?_,by rw[take_snoc hy,foldl_append,<-E];show _=addW o y;unfold addW;rw[vd c]⟩;rw[r,take_snoc hy,vh,vo];refine⟨fun h=>h.elim .inl fun h=>.inr (.inl h),?_⟩;rintro(h | h | rfl)
     ·exact .inl h
     ·exact .inr h
     ·exact(r _).mp c
   ·rintro σ H6 ⟨Y,o,rfl,O,e6,D,a6,r,E⟩;rw[vt]at a6 r E;rw[v3]at r E;exists⟨_,_,o,rfl,O,e6,D,by lia,fun s=>?_,by rw[take_snoc hj,foldl_append,<-ek];exact E⟩;rw[r,U,take_snoc hj];constructor
    ·rintro(⟨j',a1,h⟩ | h)
     ·exact⟨j',mem_append_left _ a1,h⟩
     ·exact⟨j,mem_append_right _ vq,h⟩
    ·rintro⟨j',a1,h⟩;rcases vh.mp a1 with z | z
     ·exact .inl ⟨j',z,h⟩
     ·rw[vo.mp z]at h;exact .inr h
  ·rintro σ H5 ⟨o5,Y,S,rfl,sm,e5,a2,kl,U,ek⟩;rw[show((f.js.map fun j=>J.getD j ⟨#[]⟩).map V.str).length=f.js.length by rw[vt,vt]]at kl U ek;rw[v3]at U ek;rw[<-j47 W]at ek;rw[<-ek]at q;walk_at"g";exact q pf H5 (fun c u h=>sm _ _ (mf h) (a3 _ _ h)) (none_of C hpf) e5 ⟨a2,fun s=>(U s).trans ⟨.inl,fun h=>h.elim id fun⟨h',n',e⟩=>uh e (W _ _ _)⟩⟩ (by lia)
theorem xa(T:Txt K mg t):FnOk P w K mg base CX0 1 t.QM t.QQ ["_law_names","_law_known","_law_most"] (sp_lastG):=by
 specialize T.ZM.F.ok Qt;obtain⟨W,d,e,gs,most,rfl,Q,O,nd,ng,n1,a0,gb,q⟩:=h;refine⟨_,(jb (jr (i:=3) Qt.nd rfl (.inl rfl) (jK jc))
  (jb (jr (i:=4) Qt.nd rfl (.inl rfl) jd)
  (jb (Jd PassesOwn.never rfl (j56 (by rfl) T.XW (ja (pv 0) jc)) (jw (i:=5) Qt.nd rfl (.inl rfl))
   (jg (j3 (PW.pt (QX (jt Z5 (jD jW (by rfl) T.JT Jj (ja (pv 3) jc)) jd (nomark _)) (QI (jt Xz (jq jS (pv 4) (JK (J1 hr) (pv 1) (pv 5))) (pv 2) (nomark _)))))
    (jb (Jb (qh PySem.F.plainAttrs_list PySem.F.slot_list_append PySem.F.type_list_append jV (pv 3) (ja (pv 5) jc)))
    (jg (jr (i:=4) Qt.nd rfl (.inl rfl) (jq jS (pv 4) (JK (J1 hr) (pv 1) (pv 5))))))
    jA)))
  (jg (jB (Jy QG (by rfl) T.Kg Yp (ja (pv 3) jc))))))),?_⟩
 refine jE (σ':=[some _,some _,some _,none,none,none]) rfl ?_
 try dsimp only[cxOf,Cx.nox]
 have sz:(200:Nat)<sizeLine:=by decide
 have s:∀(h:Hp) j,h d=some (.dK (knK e gs))->j<e.length->DGet h d (.str (e.getD j ⟨#[]⟩)) (some (.int (gs.getD j 0))):=fun h j eh hj=>by
  have g:=DGet.k (k:=Sum.inr (e.getD j ⟨#[]⟩)) eh;rw[Yz nd ng hj]at g;exact g
 exists⟨va _,?_⟩;walk_at"f ps hps H1 s1 t1";have l:∀{c u},H c=some u->c≠ps:=fun h=>je h hps
 exists⟨W,_,rfl,SqL.of (s1 _ _ Q),?_⟩;refine j3Y (xs:=e.map V.str) (fun t M m=>IvE3 fun(J:Option V) (f:List Nat) (a:Int)=>IvA7 (M=[some (.ref W),some (.ref d),some (.int most),some (.ref ps),some (.int a),J]) (∀c u,c≠ps->H1 c=some u->m c=some u) (m ps=some (.lst ((f.map fun j=>e.getD j ⟨#[]⟩).map V.str))) (f.length<=5) (∀j∈f,j<e.length) (t=0->f=[]/\a=0) ((0<t->f≠[])/\lastS gs most e.length t=(f,a))) ⟨_,[],0,rfl,fun c u _ h=>h,t1,va _,(fun j h=>nomatch h),fun _=>⟨rfl,rfl⟩,fun h=>uh h (by lia),rfl⟩ ?_ ?_ ?_
 ·rintro t M m _ ⟨J,f,a,rfl,o,_⟩;exact SqL.of (o _ _ (l Q) (s1 _ _ Q))
 ·rintro t v M m hi E ⟨J,f,a,rfl,o,p,I,y,X,L,r⟩;rw[vt]at hi E;rw[vv]at E;obtain⟨x,U,rfl⟩:=vg.mp E;have ej:x=e.getD (e.length-1-t) ⟨#[]⟩:=by rw[vy,U];rfl
  subst ej;have A:e.length-1-t<e.length:=by lia
  have C:=j02 (gs:=gs) (most:=most) (n:=e.length) t;rw[r]at C;clear U E r;generalize e.length-1-t=j at A C|-;have k':∀{c u},H c=some u->m c=some u:=fun h=>o _ _ (l h) (s1 _ _ h)
  have g:=gb j A;exists⟨_,_,rfl,.inl ⟨_,SqL.of p,rfl⟩,?_⟩;rw[vt,vt];exists iteD (fun c=>?_) (fun c=>?_)
  ·exists⟨d,_,rfl,s m j (k' O) A,?_⟩;exists iteD (fun D=>?_) (fun D=>?_)
   ·exists⟨.inl ⟨rfl,_,SqL.of p⟩,?_⟩;exists⟨ps,_,_,rfl,rfl,p,by rw[vt,vt];lia,?_⟩;generalize N:upd m ps _=H2;have Y:H2 ps=some (.lst (((f++[j]).map fun j=>e.getD j ⟨#[]⟩).map V.str)):=by
     rw[vj,vj];exact qQ N
    have B:∀c u,c≠ps->H1 c=some u->H2 c=some u:=fun c u S h=>N▸(jh S).trans (o c u S h)
    clear N;exists⟨d,_,rfl,s H2 j (B _ _ (l O) (s1 _ _ O)) A,?_⟩;exists⟨_,f++[j],_,rfl,B,Y,by rw[vn];show _+1<=5;lia,fun j' R=>?_,fun h=>uh h (by lia),(fun _ h=>by simp at h),by rw[C,vd ⟨c,D⟩]⟩;rcases vh.mp R with z | z
    ·exact y j' z
    ·rw[vo.mp z];exact A
   ·exists⟨_,f,a,rfl,o,p,I,y,fun h=>uh h (by lia),fun _ h=>?_,by rw[C,vc fun z=>D z.2]⟩;rcases Nat.eq_zero_or_pos t with z | z
    ·obtain⟨_,rfl⟩:=X z;exact D (by lia)
    ·exact L z h
  ·exists⟨_,f,a,rfl,o,p,I,y,fun h=>uh h (by lia),fun _ h=>?_,by rw[C,vc fun z=>c z.1]⟩;rw[h]at c;exact c (by show((0:Nat):Int)<5;lia)
 ·rintro M m ⟨J,f,a,rfl,o,p,I,y,X,L,r⟩;rw[vt]at L r;have Z:lastF gs most e.length=f:=by unfold lastF;rw[r]
  exists⟨ps,_,rfl,.inl ⟨SqL.of p,?_⟩⟩;walk_at"f b hb H3 s3 t3";rw[Z]at q;exact q b H3 (fun c u h=>s3 _ _ (o _ _ (l h) (s1 _ _ h))) t3 (L (by lia)) I y
theorem xc(T:Txt K mg t)(j:FnOk P w K mg base CX0 1 t.qG t.qI ["_law_cell","_law_k"] (Ku)):FnOk P w K mg base CX0 2 t.QO t.QS ["_law_pool","_law_many"] (sp_takeB):=by
 specialize T.jR.F.ok YQ;obtain⟨p,x,y,m,rfl,b,s,n,z,A,q⟩:=h;refine⟨_,(jb (j3 (jt ZI (jo jv (pv 0) jd) jd (nomark _))
   (jb (jr (i:=2) YQ.nd rfl (.inl rfl) (jq Ja (jo jv (pv 0) jd) (pv 1)))
   (jb (Z9 (jq j2 (jo jv (pv 0) jd) (pv 1)) (K1 (pv 0) jd set_list))
   (jg (jB (pv 2)))))
   jA)
  (jb (Z9 (jq Ja (jq Jv (jq jS (jo jv (pv 0) jd) (pv 1)) jd) (jq jS (jq Z6 jd jd) jd)) (K1 (pv 0) jd set_list))
  (jb (Z9 (ju T.JG j hr (ja (jo jv (pv 0) jd) (ja (pv 1) jc))) (K1 (pv 0) jd set_list))
  (jg (jB (jq Ja (jq j2 (jo jv (pv 0) jd) jd) (pv 1))))))),?_⟩
 refine jE (σ':=[some _,some _,none]) rfl ?_
 try dsimp only[cxOf,Cx.nox]
 exists ixLm (SqL.of b) rfl ?_;exists iteD (fun c=>?_) (fun c=>?_)
 ·have e:tkB x y m=(x%m,x/m,y):=vd (by lia);rw[e]at q;exists ixLm (SqL.of b) rfl ?_;exists ixLm (SqL.of b) rfl ?_;exists⟨p,_,_,0,rfl,rfl,b,rfl,?_⟩;walk_at"g";exact q _ (fun c u d h=>(jh d).trans h) jG
 ·have e:tkB x y m=(mixB ((y+m)*314159265358979323846264338327%(10^30+57)) m/1000%m,x,mixB ((y+m)*314159265358979323846264338327%(10^30+57)) m):=vc (by lia);rw[e]at q;exists ixLm (SqL.of b) rfl ?_;exists⟨p,_,_,1,rfl,rfl,b,rfl,?_⟩;have o:=ve ((y+m)*314159265358979323846264338327) (show(10^30+57:Int)≠0 by decide);have r:=vf ((y+m)*314159265358979323846264338327) (show(0:Int)<10^30+57 by decide);generalize(y+m)*314159265358979323846264338327%(10^30+57)=v at o r q|-;generalize a:upd H p _=H1;have f:H1 p=some (.lst [.int x,.int v]):=qQ a;have k:∀c u,c≠p->H c=some u->H1 c=some u:=fun c u d h=>a▸(jh d).trans h
  clear a;exists ixLm (SqL.of f) rfl ?_;exists⟨v,m,rfl,by lia,n,?_⟩;exists⟨p,_,_,1,rfl,rfl,f,rfl,?_⟩;generalize a:upd H1 p _=H2;have g:H2 p=some (.lst [.int x,.int (mixB v m)]):=qQ a;have l:∀c u,c≠p->H c=some u->H2 c=some u:=fun c u d h=>a▸(jh d).trans (k c u d h)
  clear a;exists ixLm (SqL.of g) rfl ?_;walk_at"g";exact q _ l g
theorem KZ(T:Txt K mg t)(jI:FnOk P w K mg base CX0 2 t.QO t.QS ["_law_pool","_law_many"] (sp_takeB)):FnOk P w K mg base CX0 3 t.zL t.zN ["_law_pool","_law_kind","_law_names","_law_movers","_law_bounds"] (sp_namingG):=by
 specialize T.yE.F.ok Jf;obtain⟨p,nl,ml,bd,x,y,kd,H0,am,L,e,Ms,b0,b1,b2,b3,b4,rfl,ep,y0,y1,M,N,n1,Bd,q⟩:=h;refine⟨_,(jb (j3 (jt Jc (pv 1) jd (nomark _))
   (jb (jr (i:=5) Jf.nd rfl (.inl rfl) (jq jS jd (ju T.jR jI hr (ja (pv 0) (ja (jo jv (pv 4) jd) jc)))))
   (jg (jB (jN (ja jJ (ja (pv 5) (ja (jo jv (pv 2) (ju T.jR jI hr (ja (pv 0) (ja (jD jW (by rfl) T.JT Jj (ja (pv 2) jc)) jc)))) jc)))))))
   jA)
  (jb (j3 (jt Jc (pv 1) jd (nomark _))
   (jb (jr (i:=6) Jf.nd rfl (.inl rfl) (jq jS jd (ju T.jR jI hr (ja (pv 0) (ja jd jc)))))
   (jg (jB (jN (ja jJ (ja (Jy QG (by rfl) T.Kg Yp (ja (qN (ow:=["_law_j"]) (ci:=[2,0]) rfl (CompScope.of (defScope qU) ["_law_pool","_law_kind","_law_names","_law_movers","_law_bounds","_law_times","_law_many","_law_some","_law_used","_law_j","_law_at","_law_twice"] rfl rfl (by decide +kernel)) (JR (by decide)) (JY (by rfl) T.qY (ja (pv 6) jc)) (fun _ _ _ _ _=>⟨(jw (i:=0) (JU ["_law_pool","_law_kind","_law_names","_law_movers","_law_bounds","_law_times","_law_many","_law_some","_law_used","_law_j","_law_at","_law_twice"] rfl (by decide +kernel)) rfl (.inl rfl)),Qq,(jo (Yy (K:=K) rfl) (pv 1) (ju T.jR jI hr (ja (pv 2) (ja (jD (wW (K:=K) rfl) (by rfl) T.JT Jj (ja (pv 1) jc)) jc))))⟩)) jc)) jc))))))
   jA)
  (jb (jr (i:=7) Jf.nd rfl (.inl rfl) (jK jc))
  (jb (jr (i:=8) Jf.nd rfl (.inr rfl) (jK jc))
  (jb (Jd PassesOwn.never rfl (JY (by rfl) T.qY (ja (jq jS jd (ju T.jR jI hr (ja (pv 0) (ja jd jc)))) jc)) (jw (i:=9) Jf.nd rfl (.inl rfl))
   (jb (jr (i:=10) Jf.nd rfl (.inl rfl) (ju T.jR jI hr (ja (pv 0) (ja (jD jW (by rfl) T.JT Jj (ja (pv 2) jc)) jc))))
   (jb (YL (i:=11) (ow:=["_law_one"]) (ci:=[8]) rfl (CompScope.of (defScope qU) ["_law_pool","_law_kind","_law_names","_law_movers","_law_bounds","_law_times","_law_many","_law_some","_law_used","_law_j","_law_at","_law_twice"] rfl rfl (by decide +kernel)) (JR (by decide)) Jf.nd rfl (.inl rfl) (Jh (jo jv (pv 3) (pv 10))) (fun _ _ _ _ _=>⟨(jw (i:=0) (JU ["_law_pool","_law_kind","_law_names","_law_movers","_law_bounds","_law_times","_law_many","_law_some","_law_used","_law_j","_law_at","_law_twice"] rfl (by decide +kernel)) rfl (.inl rfl)),(xu (jt (yY (K:=K) rfl) (pv 0) (pv 1) (by with_unfolding_all rfl))),(pv 0)⟩))
   (jg (j3 (PW.pt (QX (jt (j0d hr.units) (jo jv (pv 3) (pv 10)) (jK jc) (nomark _)) (QI (jt (xq hr.units) (pv 11) (jK jc) (nomark _)))))
    (jb (Jb (qh PySem.F.plainAttrs_list PySem.F.slot_list_append PySem.F.type_list_append jV (pv 7) (ja (jo jv (pv 2) (pv 10)) jc)))
    (jg (jr (i:=8) Jf.nd rfl (.inr rfl) (jq Zr (pv 8) (jo jv (pv 3) (pv 10))))))
    jA)))))
  (jb (j3 (jt Z5 (jD jW (by rfl) T.JT Jj (ja (pv 7) jc)) jd (nomark _))
   (jg (jB (jN (ja jJ (ja (jq jS jd (ju T.jR jI hr (ja (pv 0) (ja (jo jv (pv 4) jd) jc)))) jc)))))
   jA)
  (jg (jB (jN (ja jJ (ja (Jy QG (by rfl) T.Kg Yp (ja (pv 7) jc)) jc))))))))))),?_⟩
 refine jE (σ':=[some _,some _,some _,some _,some _,none,none,none,none,none,none,none]) rfl ?_
 try dsimp only[cxOf,Cx.nox]
 have sz:(200:Nat)<sizeLine:=by decide
 have aA:=N.n20;obtain⟨eb,ae,aq,ar,as,au,av,a9,aw,ax,ay⟩:=Bd;have d:namF x y kd e.length Ms b0 b3=_:=namF.eq_1 ..;generalize namF x y kd e.length Ms b0 b3=F at d q;exists iteD (fun c=>?_) (fun c=>?_)
 ·rw[vd c]at d;exists ixLm (SqL.of (M _ _ eb).2) rfl ?_;walk_at"g";have r:=Jr (x:=x) (y:=y) a9;refine⟨p,x,y,_,rfl,ep,a9,by lia,y0,y1,fun H1 x1 e1=>?_⟩;have A:=JO (x:=x) (m:=b3) y0 y1;have o1:=M.ex x1;exists⟨_,_,rfl,.inl ⟨_,SqL.of (o1 _ _ N.en).2,rfl⟩,?_⟩;rw[vt];exists⟨p,_,_,_,rfl,e1,by lia,by lia,A.1,A.2,fun H2 x2 e2=>?_⟩;have r2:=Jr (x:=(tkB x y b3).2.1) (y:=(tkB x y b3).2.2) (m:=(e.length:Int)) (by lia);have o2:=o1.ex x2;generalize tkB (tkB x y b3).2.1 (tkB x y b3).2.2 (e.length:Int)=T2 at r2 e2 d|-;obtain⟨j,ej⟩:∃j:Nat,T2.1=(j:Int):=⟨T2.1.toNat,by lia⟩
  rw[ej,Int.toNat_natCast]at d;rw[d]at q;rw[ej]at r2|-;have E:j<e.length:=by lia
  refine ixLm (SqL.of (o2 _ _ N.en).2) (zx E) ?_;exists⟨ue,?_⟩;walk_at"f b6 hb6 H6 s6 t6";exact q b6 H6 (x1.trans (x2.trans (.of s6))) t6 ⟨by lia,by lia,E⟩
 rw[vc c]at d;exists iteD (fun c5=>?_) (fun c5=>?_)
 ·rw[vd c5]at d;rw[d]at q;walk_at"g";have r:=Jr (x:=x) (y:=y) (m:=5) (by lia);have A:=JO (x:=x) (m:=5) y0 y1;refine⟨p,x,y,_,rfl,ep,by lia,by lia,y0,y1,fun H1 x1 e1=>?_⟩;generalize tkB x y 5=T at r A e1 q|-;have o1:=M.ex x1;exists⟨_,rfl,by lia,by lia,?_⟩;refine yR (fun i ys D=>IvE3 fun(f:List Nat) (x y:Int)=>IvA6 (ys=f.map (fun j=>V.str (e.getD j ⟨#[]⟩))) (f.length=i) (∀j∈f,j<e.length) (Ex p H1 D) (D p=some (.lst [.int x,.int y])) ((0<=y/\y<10^30+57)/\rowT (e.length:Int) i T.2.1 T.2.2=(f,x,y))) ⟨[],_,_,rfl,rfl,(fun j h=>nomatch h),.refl _,e1,A,rfl⟩ ?_ ?_
  ·rintro i ys D hi ⟨f,x2,y2,rfl,il,E,xx,ai,yy,eR⟩;have o2:=o1.ex xx;refine qa (σ':=[none,some _,some _]) rfl ?_;exists iteT ?_;exists⟨_,_,rfl,.inl ⟨_,SqL.of (o2 _ _ N.en).2,rfl⟩,?_⟩;rw[show(e.map V.str).length=e.length from vt _];walk_at"g";have r2:=Jr (x:=x2) (y:=y2) (m:=(e.length:Int)) (by lia);have l:=JO (x:=x2) (m:=(e.length:Int)) yy.1 yy.2;refine⟨p,x2,y2,_,rfl,ai,by lia,by lia,yy.1,yy.2,fun H3 x3 e3=>?_⟩;have Q:=j1S (n:=(e.length:Int)) (t:=i) (x:=T.2.1) (y:=T.2.2);rw[eR]at Q;generalize tkB x2 y2 (e.length:Int)=T2 at r2 l e3 Q|-;obtain⟨j,ej⟩:∃j:Nat,T2.1=(j:Int):=⟨T2.1.toNat,by lia⟩
   rw[ej]at r2|-;have jn:j<e.length:=by lia
   refine ixLm (SqL.of (o2.ex x3 _ _ N.en).2) (zx jn) ?_;refine⟨by rw[vt];lia,f++[j],_,_,by rw[vj];rfl,by rw[vn,il];rfl,fun Z o=>?_,xx.trans x3,e3,l,by rw[Q,ej];rfl⟩;rcases vh.mp o with z | z
   ·exact E Z z
   ·rw[vo.mp z];exact jn
  rintro ys H3 ⟨f,x3,y3,rfl,il,E,xx,az,yy,eR⟩;rw[eR]at q;dsimp only at q;refine⟨by rw[vt];lia,?_⟩;walk_at"f b hb H4 s4 t4";exists⟨b,_,rfl,.inl ⟨SqL.of t4,?_⟩⟩;walk_at"f b5 hb5 H5 s5 t5";exists⟨uf,?_⟩;walk_at"f b6 hb6 H6 s6 t6";refine q b6 H6 (x1.trans (xx.trans (.of (s4.trans (s5.trans s6))))) ⟨b5,t6,?_⟩ ⟨fun z=>?_,by lia,E⟩
  ·rw[s6 _ _ t5,v4];rfl
  ·rw[z]at il;have:(0:Nat)=_:=il;lia
 rw[vc c5]at d;exists⟨va _,?_⟩;walk_at"f ps hps H1 s1 t1";exists⟨va _,?_⟩;walk_at"f pu hpu H2 s2 t2";have a6:=s1.trans s2;have a2:ps≠p:=(je ep hps).symm;have ad:pu≠p:=(je (s1 _ _ ep) hpu).symm;have ac:∀{c u},H c=some u->c≠ps:=fun h=>je h hps
 have ao:pu≠ps:=(je t1 hpu).symm;walk_at"g";have r:=Jr (x:=x) (y:=y) (m:=3) (by lia);have A:=JO (x:=x) (m:=3) y0 y1;refine⟨p,x,y,_,rfl,a6 _ _ ep,by lia,by lia,y0,y1,fun H3 x3 e3=>?_⟩;generalize tkB x y 3=T at r A e3 d|-;have o3:Off p H0 H3:=fun c u h=>⟨(M c u h).1,x3 _ _ (M c u h).1 (a6 _ _ (M c u h).2)⟩
 have af:=x3 _ _ a2 (s2 _ _ t1);have ag:=x3 _ _ ad t2;have aj:∀{c u},c≠p->H c=some u->H3 c=some u:=fun n h=>x3 _ _ n (a6 _ _ h)
 exists⟨_,rfl,by lia,by lia,?_⟩;refine qK (fun t σ D=>IvE8 fun(o9 a4 a5:Option V) (g:Addr) (f:List Nat) (C:List Str) (x y:Int)=>IvA14 (σ=[some (.ref p),some (.int kd),some (.ref nl),some (.ref ml),some (.ref bd),none,none,some (.ref ps),some (.ref g),o9,a4,a5]) (g≠ps) (g≠p) (Ex p H D) (D ps=some (.lst ((f.map fun j=>e.getD j ⟨#[]⟩).map V.str))) (D g=some (.lst (C.map V.str))) (D p=some (.lst [.int x,.int y])) (0<=y) (y<10^30+57) (f.length<=t) (C.length<=8*t) (∀j∈f,j<e.length) (ApartS Ms f) ((∀s,s∈C↔∃j∈f,s∈Ms.getD j [])/\sidT (e.length:Int) Ms t T.2.1 T.2.2=(f,C,x,y))) ⟨_,_,_,pu,[],[],_,_,rfl,ao,ad,fun c u n h=>aj n h,af,ag,e3,A.1,A.2,vb _,vb _,(fun j h=>nomatch h),⟨(fun j h=>nomatch h),.nil⟩,(fun s=>⟨(fun h=>nomatch h),fun⟨j,h,_⟩=>nomatch h⟩),rfl⟩ ?_ ?_
 ·rintro t σ H4 ht ⟨o9,a4,a5,g,f,C,x4,y4,rfl,a1,a0,B,I,a3,e4,R,S,il,ul,E,ap,J,eS⟩;have t4:t<4:=by lia
  have o4:=M.ex B;exists⟨_,_,rfl,.inl ⟨_,SqL.of (o4 _ _ N.en).2,rfl⟩,?_⟩;rw[vt];walk_at"g";have r2:=Jr (x:=x4) (y:=y4) (m:=(e.length:Int)) (by lia);have l:=JO (x:=x4) (m:=(e.length:Int)) R S;refine⟨p,x4,y4,_,rfl,e4,by lia,by lia,R,S,fun H5 x5 e5=>?_⟩;have Q:=j21 (n:=(e.length:Int)) (Ms:=Ms) (t:=t) (x:=T.2.1) (y:=T.2.2);rw[eS]at Q;dsimp only at Q;generalize tkB x4 y4 (e.length:Int)=T2 at r2 l e5 Q|-;obtain⟨j,ej⟩:∃j:Nat,T2.1=(j:Int):=⟨T2.1.toNat,by lia⟩
  rw[ej,Int.toNat_natCast]at Q;rw[ej]at r2|-;have al:j<e.length:=by lia
  have a7:=B.trans x5;have o5:=M.ex a7;have U:=x5 _ _ a2 I;have W:=x5 _ _ a0 a3;clear x5 B o4 I a3 e4 R S;obtain⟨ma,ak,X,an,mw⟩:=N.mv al;have aM:atI (am.map V.ref) ((j:Nat):Int)=some (.ref ma):=jO (by rw[vv,ak];rfl);exists ixLm (SqL.of (o5 _ _ N.em).2) (aM) ?_;refine⟨ma,rfl,⟨_,SqL.of (o5 _ _ X).2⟩,?_⟩;refine qm (xs:=(Ms.getD j []).map V.str) (fun i ys D=>ys=(((Ms.getD j []).take i).filter fun s=>decide (s∈C)).map V.str/\H5=D) ⟨rfl,rfl⟩ ?_ ?_ ?_
  ·rintro i ys D _ ⟨rfl,rfl⟩;exact SqL.of (o5 _ _ X).2
  ·rintro i x ys D hx ⟨rfl,rfl⟩;rw[vv]at hx;obtain⟨k,aa,rfl⟩:=vg.mp hx;have ik:=(vx.mp aa).1;refine qa (σ':=[none,some _]) rfl ?_;exists⟨g,_,rfl,.inl (SqL.of W),rfl,flatB _,?_⟩;rw[inB];walk_at"g";rw[take_snoc aa,filter_append];have lf:(((Ms.getD j []).take i).filter fun s=>decide (s∈C)).length<=8:=vV (length_filter_le _ _) (by rw[vi];lia);refine iteD (fun c=>?_) (fun c=>?_)
   ·exists⟨by rw[vt];lia,?_,rfl⟩;rw[vj,v6,vd (vG c),filter_nil];rfl
   ·refine⟨?_,rfl⟩;rw[v6,vc (by rw[vH c];exact vF),filter_nil,append_nil]
  rintro ys D ⟨rfl,rfl⟩;rw[show((Ms.getD j []).map V.str).length=(Ms.getD j []).length from vt _,v3];have lf:((Ms.getD j []).filter fun s=>decide (s∈C)).length<=8:=vV (length_filter_le _ _) an;have wf:∀x∈(Ms.getD j []).filter (fun s=>decide (s∈C)),Ws.isW x=true:=fun x hx=>mw x (vO.mp hx).1
  refine⟨by rw[vt];lia,?_⟩;walk_at"f p5 hp5 H6 s6 t6";have o6:=o5.ex (.of s6);exists ixLm (SqL.of (o6 _ _ N.em).2) (aM) ?_;exists⟨va _,?_⟩;walk_at"f 7 t";have O:=s6.trans s7;refine⟨_,_,.lst (s7 _ _ (o6 _ _ X).2) (Q9 _),j1p t7,shpB mw,shp0,?_⟩;rw[eqvB];exists iteN (fun d1=>?_) (fun d1=>?_)
  ·exists⟨va _,?_⟩;walk_at"f 8 t";have v:=O.trans s8;have a8:=a7.trans (.of v);refine⟨_,_,.lst (s8 _ _ (s7 _ _ t6)) (Q9 _),j1p t8,shpB wf,shp0,?_⟩;rw[eqvB];exists iteD (fun d2=>?_) (fun d2=>?_)
   ·exists⟨.inl ⟨rfl,_,SqL.of (v _ _ U)⟩,?_⟩;walk_at"g";have o8:=M.ex a8;refine ixLm (SqL.of (o8 _ _ N.en).2) (zx al) ?_;exists⟨ps,_,_,rfl,rfl,v _ _ U,by rw[vt,vt];lia,?_⟩;generalize eG:upd H8 ps _=H9;have e9:H9 ps=some (.lst (((f++[j]).map fun j=>e.getD j ⟨#[]⟩).map V.str)):=by
     rw[vj,vj];exact qQ eG
    have k9:∀c u,c≠ps->H8 c=some u->H9 c=some u:=fun c u hc h=>eG▸(jh hc).trans h
    clear eG;have n9:∀{c u},H0 c=some u->H9 c=some u:=fun {c u} h=>k9 _ _ (ac (M _ _ h).2) (o8 _ _ h).2
    exists ixLm (SqL.of (n9 N.em)) (aM) ?_;refine⟨g,ma,_,_,rfl,rfl,k9 _ _ a1 (v _ _ W),n9 X,by rw[vt,vt];lia,?_⟩;walk_at"f 10 t";walk_at"g";have ah:=s10 _ _ (k9 _ _ a2.symm (v _ _ e5));refine⟨_,_,_,p10,f++[j],C++Ms.getD j [],_,_,rfl,(je e9 hp10).symm,(je (k9 _ _ a2.symm (v _ _ e5)) hp10).symm,fun c u n h=>s10 _ _ (k9 _ _ (ac h) (a8 _ _ n h)),s10 _ _ e9,by rw[vj];exact t10,ah,l.1,l.2,by rw[vn];show _+1<=_;lia,by rw[vn];lia,fun Z o=>?_,⟨fun Z o=>?_,List.pairwise_append.mpr ⟨ap.2,pairwise_singleton ..,fun a ha b hb s Y ab=>?_⟩⟩,fun s=>?_,by rw[Q,vd ⟨d1,d2⟩]⟩
    ·rcases vh.mp o with z | z
     ·exact E Z z
     ·rw[vo.mp z];exact al
    ·rcases vh.mp o with z | z
     ·exact ap.1 Z z
     ·rw[vo.mp z];exact d1
    ·rw[vo.mp hb]at ab;have:s∈(Ms.getD j []).filter fun s=>decide (s∈C):=vO.mpr ⟨ab,vG ((J s).mpr ⟨a,ha,Y⟩)⟩
     rw[d2]at this;cases this
    ·rw[vh,J];constructor
     ·rintro(⟨Z,o,Y⟩ | Y)
      ·exact⟨Z,mem_append_left _ o,Y⟩
      ·exact⟨_,mem_append_right _ vq,Y⟩
     ·rintro⟨Z,o,Y⟩;rcases vh.mp o with z | z
      ·exact .inl ⟨Z,z,Y⟩
      ·rw[vo.mp z]at Y;exact .inr Y
   ·walk_at"g";exact⟨_,_,_,g,f,C,_,_,rfl,a1,a0,a8,v _ _ U,v _ _ W,v _ _ e5,l.1,l.2,by lia,by lia,E,ap,J,by rw[Q,vc fun z=>d2 z.2]⟩
  ·walk_at"g";exact⟨_,_,_,g,f,C,_,_,rfl,a1,a0,a7.trans (.of O),O _ _ U,O _ _ W,O _ _ e5,l.1,l.2,by lia,by lia,E,ap,J,by rw[Q,vc fun z=>z.1 d1]⟩
 rintro σ H4 ⟨o9,a4,a5,g,f,C,x4,y4,rfl,a1,a0,B,I,a3,e4,R,S,il,ul,E,ap,J,eS⟩;rw[eS]at d;dsimp only at d;exists⟨_,_,rfl,.inl ⟨_,SqL.of I,rfl⟩,?_⟩;rw[vt,vt];exists iteD (fun c2=>?_) (fun c2=>?_)
 ·rw[vd (show f.length<2 by lia)]at d;rw[d]at q;walk_at"g";have o4:=M.ex B;refine ixLm (SqL.of (o4 _ _ eb).2) rfl ?_;walk_at"g";have r2:=Jr (x:=x4) (y:=y4) ae;refine⟨p,x4,y4,_,rfl,e4,by lia,by lia,R,S,fun H5 x5 e5=>?_⟩;exists⟨uf,?_⟩;walk_at"f b6 hb6 H6 s6 t6";exact q b6 H6 (B.trans (x5.trans (.of s6))) t6 ⟨by lia,by lia⟩
 rw[vc (show¬f.length<2 by lia)]at d;rw[d]at q;exists⟨ps,_,rfl,.inl ⟨SqL.of I,?_⟩⟩;walk_at"f b5 hb5 H5 s5 t5";exists⟨uf,?_⟩;walk_at"f b6 hb6 H6 s6 t6";exact q b6 H6 (B.trans (.of (s5.trans s6))) ⟨b5,t6,s6 _ _ t5⟩ ⟨by lia,by lia,E,ap.n N.il⟩
theorem YF(T:Txt K mg t)(M:FnOk P w K mg base CX0 2 t.QO t.QS ["_law_pool","_law_many"] (sp_takeB))(zJ:FnOk P w K mg base CX0 3 t.zL t.zN ["_law_pool","_law_kind","_law_names","_law_movers","_law_bounds"] (sp_namingG)):FnOk P w K mg base CX0 4 t.Qz t.QB ["_law_pool","_law_names","_law_movers","_law_limbs","_law_bounds"] (sp_formTG):=by
 specialize T.zT.F.ok JN;obtain⟨p,nl,ml,pl,bd,x,y,H0,a8,aa,s,o,Ms,Q,R,b2,b3,b4,rfl,ep,y0,y1,of,N,Lm,Bd,q⟩:=h;refine⟨_,(jb (jr (i:=5) JN.nd rfl (.inl rfl) (ju T.jR M hr (ja (pv 0) (ja jd jc))))
  (jb (j3 (PW.pt (QX (jt ZI (pv 5) jd (nomark _)) (QI (jt (j0d hr.units) (pv 1) (jK jc) (nomark _)))))
   (jg (jB (ju T.yE zJ hr (ja (pv 0) (ja (pv 5) (ja (pv 1) (ja (pv 2) (ja (pv 4) jc))))))))
   jA)
  (jb (jr (i:=6) JN.nd rfl (.inl rfl) (jq jS jd (ju T.jR M hr (ja (pv 0) (ja (jo jv (pv 4) (ju T.jR M hr (ja (pv 0) (ja jd jc)))) jc)))))
  (jb (j3 (jt Z5 (pv 5) jd (nomark _))
   (jb (jr (i:=7) JN.nd rfl (.inl rfl) (jo jz (jo jv (pv 3) (ju T.jR M hr (ja (pv 0) (ja (jD jW (by rfl) T.JT Jj (ja (pv 3) jc)) jc)))) jd))
   (jg (jB (jN (ja jJ (ja (pv 7) (ja (ju T.jR M hr (ja (pv 0) (ja (jo jv (pv 4) jd) jc))) (ja (pv 6) jc))))))))
   jA)
  (jb (j3 (jt Jc (pv 5) jd (nomark _))
   (jb (jr (i:=8) JN.nd rfl (.inl rfl) (jq Zr (jK (ja jJ (ja jJ (ja jJ jc)))) (zn Kt (pv 1) Zt (Zu jd))))
   (jg (jB (jN (ja jJ (ja (jo jv (pv 8) (ju T.jR M hr (ja (pv 0) (ja (jD jW (by rfl) T.JT Jj (ja (pv 8) jc)) jc)))) (ja (pv 6) jc)))))))
   jA)
  (jg (jB (jN (ja jJ (ja (pv 6) jc)))))))))),?_⟩
 refine jE (σ':=[some _,some _,some _,some _,some _,none,none,none,none]) rfl ?_
 try dsimp only[cxOf,Cx.nox]
 have sz:(200:Nat)<sizeLine:=by decide
 have ab:=N.n20;obtain⟨eb,u,A,B,C,S,a0,a1,a2,a3,a4⟩:=Bd;have b:frmT x y o Ms s Q R b2 b3=_:=frmT.eq_1 ..;generalize frmT x y o Ms s Q R b2 b3=F at b q;walk_at"g";have r:=Jr (x:=x) (y:=y) (m:=8) (by lia);have e:=JO (x:=x) (m:=8) y0 y1;refine⟨p,x,y,_,rfl,ep,by lia,by lia,y0,y1,fun H1 x1 e1=>?_⟩;generalize tkB x y 8=T at r e e1 b|-;have o1:=of.ex x1;exists iteD (fun c=>?_) (fun c=>?_)
 ·exists⟨va _,?_⟩;walk_at"f e3 he3 H3 s3 t3";have o3:=o1.ex (.of s3);refine⟨_,_,.lst (o3 _ _ N.en).2 (Q9 _),j1p t3,shpB N.w,shp0,?_⟩;rw[eqvB];exists iteN (fun d=>?_) (fun d=>?_)
  ·rw[vd ⟨c,d⟩]at b;rw[b]at q;walk_at"g";exact⟨p,nl,ml,bd,_,_,_,H0,a8,_,o,Ms,Q,R,b2,b3,b4,rfl,s3 _ _ e1,e.1,e.2,o3,N,length_pos_iff.mpr d,⟨eb,u,A,B,C,S,a0,a1,a2,a3,a4⟩,fun a H' x' hf a9=>q a H' (x1.trans ((Ex.of s3).trans x')) hf a9⟩
  ·rw[vc (fun z=>z.2 d),vc (by lia),vc (by lia)]at b;walk_at"g";have E:=Jr (x:=T.2.1) (y:=T.2.2) (m:=2) (by lia);have f:=JO (x:=T.2.1) (m:=2) e.1 e.2;refine⟨p,_,_,_,rfl,s3 _ _ e1,by lia,by lia,e.1,e.2,fun H4 x4 U=>?_⟩;generalize tkB T.2.1 T.2.2 2=T2 at E f U b|-;have o4:=o3.ex x4;obtain⟨n,l,D⟩:=at01F (b2:=b2) (b3:=b3) (b4:=b4) ⟨u,A⟩ ⟨B,C⟩ E.1 E.2;generalize(if T2.1=0 then Q else R)=bx at n l D b;rw[b]at q;refine ixLm (SqL.of (o4 _ _ eb).2) (n) ?_;walk_at"g";have r3:=Jr (x:=T2.2.1) (y:=T2.2.2) (m:=bx) l;refine⟨p,_,_,_,rfl,U,by lia,by lia,f.1,f.2,fun H5 x5 W=>?_⟩;exists iteD (fun J=>?_) (fun J=>?_)
   ·exact uh J (by lia)
   exists iteD (fun L=>?_) (fun L=>?_)
   ·exact uh L (by lia)
   exists⟨uf,?_⟩;walk_at"f b6 hb6 H6 s6 t6";exact q b6 H6 (x1.trans ((Ex.of s3).trans (x4.trans (x5.trans (.of s6))))) t6 ⟨by lia,by lia⟩
 rw[vc (fun z=>c z.1)]at b;refine iteF ?_;walk_at"g";have E:=Jr (x:=T.2.1) (y:=T.2.2) (m:=2) (by lia);have f:=JO (x:=T.2.1) (m:=2) e.1 e.2;refine⟨p,_,_,_,rfl,e1,by lia,by lia,e.1,e.2,fun H4 x4 U=>?_⟩;generalize tkB T.2.1 T.2.2 2=T2 at E f U b|-;have o4:=o1.ex x4;obtain⟨n,l,D⟩:=at01F (b2:=b2) (b3:=b3) (b4:=b4) ⟨u,A⟩ ⟨B,C⟩ E.1 E.2;generalize(if T2.1=0 then Q else R)=bx at n l D b;refine ixLm (SqL.of (o4 _ _ eb).2) (n) ?_;walk_at"g";have r3:=Jr (x:=T2.2.1) (y:=T2.2.2) (m:=bx) l;have g:=JO (x:=T2.2.1) (m:=bx) f.1 f.2;refine⟨p,_,_,_,rfl,U,by lia,by lia,f.1,f.2,fun H5 x5 W=>?_⟩;generalize tkB T2.2.1 T2.2.2 bx=T3 at r3 g W b|-;have o5:=o4.ex x5;have H:=x1.trans (x4.trans x5);have l1:=Lm.l1;have a7:=Lm.la.1;have l8:=N.l8;rw[show(nmsOf s).length=s.length from vt _]at l8;exists iteD (fun J=>?_) (fun J=>?_)
 ·rw[vd J]at b;exists⟨_,_,rfl,.inl ⟨_,SqL.of (o5 _ _ Lm.el).2,rfl⟩,?_⟩;rw[vt,a7];walk_at"g";have O:=Jr (x:=T3.2.1) (y:=T3.2.2) (m:=(s.length:Int)) (by lia);have I:=JO (x:=T3.2.1) (m:=(s.length:Int)) g.1 g.2;refine⟨p,_,_,_,rfl,W,by lia,by lia,g.1,g.2,fun H6 x6 e6=>?_⟩;generalize tkB T3.2.1 T3.2.2 (s.length:Int)=T4 at O I e6 b|-;obtain⟨j,ej⟩:∃j:Nat,T4.1=(j:Int):=⟨T4.1.toNat,by lia⟩
  rw[ej,Int.toNat_natCast]at b;rw[ej]at O|-;have jl:j<s.length:=by lia
  have o6:=o5.ex x6;obtain⟨lk,a6,a5⟩:=Lm.la.get (vz jl);refine ixLm (SqL.of (o6 _ _ Lm.el).2) (jO (j:=j) (by rw[vv,a6];rfl)) ?_;exists ixTm (SqT.of (o6 _ _ a5).2) rfl ?_;exists ixLm (SqL.of (o6 _ _ eb).2) rfl ?_;walk_at"g";have r5:=Jr (x:=T4.2.1) (y:=T4.2.2) (m:=b2) S;refine⟨p,_,_,_,rfl,e6,by lia,by lia,I.1,I.2,fun H7 x7 e7=>?_⟩;generalize tkB T4.2.1 T4.2.2 b2=T5 at r5 e7 b|-;exists⟨ud,?_⟩;walk_at"f b6 hb6 H8 s8 t8";rw[vy,vz jl]at b;rw[b]at q;refine q b6 H8 (H.trans (x6.trans (x7.trans (.of s8)))) t8 ⟨⟨j,?_⟩,r5.1,by lia,by lia,by lia⟩;unfold nmsOf;rw[vv,vz jl];rfl
 rw[vc J]at b;exists iteD (fun L=>?_) (fun L=>?_)
 ·rw[vd L]at b;exists⟨ue,?_⟩;walk_at"f b3' hb3' H6 s6 t6";exists⟨nl,_,rfl,SqL.of (s6 _ _ (o5 _ _ N.en).2),?_⟩;walk_at"f b4' hb4' H7 s7 t7";have cl:=zz (o.map V.str) none (some 1);rw[vt]at cl;refine⟨b3',b4',_,_,rfl,rfl,s7 _ _ t6,t7,by show 3+_<=sizeLine;lia,?_⟩;walk_at"f b5' hb5' H8 s8 t8";have ex:[V.str "ding",V.str "dong",V.str "din"]++cutV (o.map V.str) none (some 1)=(([("ding" : Str),"dong","din"]:List Str)++o.take 1).map V.str:=by
   rw[show(some 1:Option Int)=some ((1:Nat):Int)from rfl,j2k,vj,map_take];rfl
  rw[ex]at t8;have xl:(([("ding" : Str),"dong","din"]:List Str)++o.take 1).length=3+(o.take 1).length:=vn ..;have ac:(o.take 1).length<=1:=by rw[vi];lia
  have Y:∀x∈([("ding" : Str),"dong","din"]:List Str)++o.take 1,Ws.isW x=true:=fun v hv=>by
   rcases vh.mp hv with z | z
   ·rcases mem_cons.mp z with rfl | z
    ·decide +kernel
    ·rcases mem_cons.mp z with rfl | z
     ·decide +kernel
     ·rw[vo.mp z];decide +kernel
   ·exact N.w v (mem_of_mem_take z)
  generalize([("ding" : Str),"dong","din"]:List Str)++o.take 1=ws at t8 xl Y b;have Z:=s6.trans (s7.trans s8);have n5:b5'≠p:=(je (s7 _ _ (s6 _ _ W)) hb5').symm;exists⟨_,_,rfl,.inl ⟨_,SqL.of t8,rfl⟩,?_⟩;walk_at"g";rw[vt];have O:=Jr (x:=T3.2.1) (y:=T3.2.2) (m:=((ws.length:Nat):Int)) (by lia);refine⟨p,_,_,_,rfl,Z _ _ W,by lia,by lia,g.1,g.2,fun H9 x9 e9=>?_⟩;generalize tkB T3.2.1 T3.2.2 ((ws.length:Nat):Int)=T4 at O e9 b|-;obtain⟨X,ww⟩:=j3E (k:=T4.1) Y O.1 O.2;generalize wdF ws T4.1=w' at X ww b;rw[b]at q;refine ixLm (SqL.of (x9 _ _ n5 t8)) (X) ?_;exists⟨ue,?_⟩;walk_at"f b8 hb8 H10 s10 t10";exact q b8 H10 (H.trans ((Ex.of Z).trans (x9.trans (.of s10)))) t10 ⟨by lia,by lia,ww⟩
 rw[vc L]at b;rw[b]at q;exists⟨uf,?_⟩;walk_at"f b6 hb6 H6 s6 t6";exact q b6 H6 (H.trans (.of s6)) t6 ⟨by lia,by lia⟩
theorem YE(T:Txt K mg t)(jY:FnOk P w K mg base CX0 1 t.JS t.JV ["_law_script","_law_k"] (Pr.sp_cell_at K))(j4:FnOk P w K mg base CX0 1 t.qG t.qI ["_law_cell","_law_k"] (Ku))(J0:FnOk P w K mg base CX0 1 t.QP t.QT ["_law_place","_law_k"] (sp_wordB))(JZ:FnOk P w K mg base CX0 1 t.QN t.QR ["_law_form_here","_law_known"] (sp_longB))(qF:FnOk P w K mg base CX0 1 t.Ql t.Qm ["_law_form_here","_law_names","_law_movers"] (sp_movesG))(Qf:FnOk P w K mg base CX0 1 t.QM t.QQ ["_law_names","_law_known","_law_most"] (sp_lastG))(jI:FnOk P w K mg base CX0 2 t.QO t.QS ["_law_pool","_law_many"] (sp_takeB))(Qx:FnOk P w K mg base CX0 4 t.Qz t.QB ["_law_pool","_law_names","_law_movers","_law_limbs","_law_bounds"] (sp_formTG)):FnOk P w K mg base CX0 5 t.Qy t.QA ["_law_script","_law_many","_law_bounds"] (YU bkT8 K):=by
 refine T.zS.F.ok jC (fun vs H Q E h=>?_) (fun be A b9 s H vs Q E J h=>?_)
 ·obtain⟨a,bd,ns,many,b0,b1,b2,b3,b4,rfl,hS,ad,m2,b7,Bd,q⟩:=h;rfl
 obtain⟨a,bd,ns,many,b0,b1,b2,b3,b4,rfl,hS,ad,m2,b7,Bd,q⟩:=h;refine⟨_,(jb (jr (i:=3) jC.nd rfl (.inl rfl) (jK (ja (jq j2 (jD KD (by rfl) T.j2f XX (ja (ju T.Jz jY J (ja (pv 0) (ja jd jc))) jc)) jd) (ja jd jc))))
  (jb (jr (i:=4) jC.nd rfl (.inl rfl) (ju T.jR jI J (ja (pv 3) (ja jd jc))))
  (jb (jr (i:=5) jC.nd rfl (.inl rfl) (jK jc))
  (jb (Jd PassesOwn.never rfl (JY (by rfl) T.qY (ja (jq jS jd (ju T.jR jI J (ja (pv 3) (ja jd jc)))) jc)) (jw (i:=6) jC.nd rfl (.inl rfl))
   (jg (Jb (qh PySem.F.plainAttrs_list PySem.F.slot_list_append PySem.F.type_list_append jV (pv 5) (ja (jN (ja (ju T.QL J0 J (ja (pv 4) (ja (pv 6) jc))) (ja (ju T.jR jI J (ja (pv 3) (ja (jo jv (pv 2) jd) jc))) jc))) jc)))))
  (jb (jr (i:=7) jC.nd rfl (.inl rfl) (ju T.jR jI J (ja (pv 3) (ja (jq jS (jq Jv jd (pv 1)) jd) jc))))
  (jb (jr (i:=8) jC.nd rfl (.inl rfl) (ju T.jR jI J (ja (pv 3) (ja jd jc))))
  (jb (jr (i:=9) jC.nd rfl (.inl rfl) (jK jc))
  (jb (jr (i:=10) jC.nd rfl (.inl rfl) (jK jc))
  (jb (jr (i:=11) jC.nd rfl (.inl rfl) Z7)
  (jb (jr (i:=12) jC.nd rfl (.inl rfl) (jK jc))
  (jb (Jd PassesOwn.never rfl (JY (by rfl) T.qY (ja (jq jS (pv 1) jd) jc)) (jw (i:=6) jC.nd rfl (.inl rfl))
   (jb (jr (i:=13) jC.nd rfl (.inl rfl) (jD KD (by rfl) T.j2f XX (ja (ju T.Jz jY J (ja (pv 0) (ja (jq jS jd (pv 6)) jc))) jc)))
   (jb (jr (i:=14) jC.nd rfl (.inl rfl) (jK (ja (pv 13) (ja (ju T.JG j4 J (ja (pv 13) (ja (jq jS jd (pv 6)) jc))) jc))))
   (jb (qC (jt Z5 (pv 13) (jq Z6 jd jd) (nomark _))
    (jg (Z9 jd (K1 (pv 14) jd set_list)))
    jA)
   (jb (jr (i:=15) jC.nd rfl (.inl rfl) (ju T.zT Qx J (ja (pv 14) (ja (pv 9) (ja (pv 10) (ja (pv 5) (ja (pv 2) jc)))))))
   (jb (qC (PW.pt (QX (jt Jc (pv 6) (pv 1) (nomark _)) (QI (jt Jc (pv 8) jd (nomark _)))))
    (jg (jr (i:=15) jC.nd rfl (.inl rfl) (jN (ja jJ (ja (ju T.ZM Qf J (ja (pv 9) (ja (pv 11) (ja (jo jv (pv 2) jd) jc)))) jc)))))
    jA)
   (jb (qC (jt ZI (ju T.QK JZ J (ja (pv 15) (ja (pv 11) jc))) (jo jv (pv 2) jd) (nomark _))
    (jg (jr (i:=15) jC.nd rfl (.inl rfl) (jN (ja jJ (ja jd jc)))))
    jA)
   (jb (Jb (qh PySem.F.plainAttrs_list PySem.F.slot_list_append PySem.F.type_list_append jV (pv 10) (ja (ju T.Za qF J (ja (pv 15) (ja (pv 9) (ja (pv 10) jc)))) jc)))
   (jb (jr (i:=16) jC.nd rfl (.inl rfl) (ju T.QL J0 J (ja (pv 4) (ja (jq jS jd (pv 6)) jc))))
   (jb (qC (jt Jc (pv 6) (pv 7) (nomark _))
    (jg (jr (i:=16) jC.nd rfl (.inl rfl) (jo jz (jo jv (pv 5) (jq Ja (pv 6) (jD jW (by rfl) T.JT Jj (ja (pv 5) jc)))) jd)))
    jA)
   (jb (Jb (qh PySem.F.plainAttrs_list PySem.F.slot_list_append PySem.F.type_list_append jV (pv 9) (ja (pv 16) jc)))
   (jb (Jb (qh PySem.F.plainAttrs_list PySem.F.slot_list_append PySem.F.type_list_append jV (pv 12) (ja (jN (ja (pv 16) (ja (pv 15) jc))) jc)))
   (jg (zE (J1 J) (pv 11) (pv 16) (ju T.QK JZ J (ja (pv 15) (ja (pv 11) jc))) rfl))))))))))))))
  (jg (jB (jN (ja (jN (ja (pv 5) (ja (pv 12) jc))) (ja (JK (J1 J) (pv 11) (jo jv (pv 9) (pv 1))) jc)))))))))))))))),?_⟩
 refine jE (σ':=[some _,some _,some _,none,none,none,none,none,none,none,none,none,none,none,none,none,none]) rfl ?_
 try dsimp only[cxOf,Cx.nox]
 have sz:(200:Nat)<sizeLine:=by decide
 obtain⟨eb,aI,aJ,aK,aL,an,aM,aN,aO,ao,ap⟩:=Bd;have aq:bkT8 ns many b0 b1 b2 b3 b4=_:=bkT8.eq_1 ..;rw[aq]at q;clear aq;unfold t4T t3T lT t2T t1T abI at q;exists⟨a,ns,_,rfl,hS,ad,by lia,?_⟩;refine⟨_,rfl,?_⟩;exists⟨uf,?_⟩;walk_at"f po hpo H1 s1 t1";generalize(if Pr.cell ns 0<0 then -Pr.cell ns 0 else Pr.cell ns 0)/2=x0 at t1 q;walk_at"g";have r1:=Jr (x:=x0) (y:=7) (m:=3) (by lia);have y1:=JO (x:=x0) (y:=7) (m:=3) (by decide) (by decide);refine⟨po,_,_,_,rfl,t1,by lia,by lia,by lia,by lia,fun H2 x2 e2=>?_⟩;generalize tkB x0 7 3=T1 at r1 y1 e2 q|-;obtain⟨p,e3⟩:∃p:Nat,T1.1=(p:Int):=⟨T1.1.toNat,by lia⟩
 have hp:p<3:=by lia
 have aw:T1.1.toNat=p:=by lia
 rw[aw]at q;clear aw;have s2:Same H H2:=fun c u h=>x2 _ _ (je h hpo) (s1 _ _ h)
 rw[e3];clear s1 x2;exists⟨va _,?_⟩;walk_at"f pl hpl H3 s3 t3";have a2:pl≠po:=(je e2 hpl).symm;walk_at"g";have r2:=Jr (x:=T1.2.1) (y:=T1.2.2) (m:=8) (by lia);have y2:=JO (x:=T1.2.1) (m:=8) y1.1 y1.2;refine⟨po,_,_,_,rfl,s3 _ _ e2,by lia,by lia,y1.1,y1.2,fun H4 x4 e4=>?_⟩;generalize tkB T1.2.1 T1.2.2 8=T2 at r2 y2 e4 q|-;have s4:Same H H4:=fun c u h=>x4 _ _ (je h hpo) (s3 _ _ (s2 _ _ h))
 have t4:=x4 _ _ a2 t3;have az:H pl=none:=none_of s2 hpl;clear s2 s3 x4 t3 hpl;exists⟨_,rfl,by lia,by lia,?_⟩;refine qK (fun i σ H'=>IvE5 fun(o6:Option V) (o:List Addr) (ls:List (Str×Int)) (x y:Int)=>IvA10 (σ=[some (.ref a),some (.int (many:Nat)),some (.ref bd),some (.ref po),some (.int (p:Nat)),some (.ref pl),o6,none,none,none,none,none,none,none,none,none,none]) (Same H H') (H' pl=some (.lst (o.map V.ref))) (All2 (LimbAt H') o ls) (nmsOf ls=lmB p i) (ls.length=i) (∀q∈ls,0<=q.2/\q.2<=10^18) (H' po=some (.lst [.int x,.int y])) (lsT p b2 i T2.2.1 T2.2.2=(ls,x,y)) (0<=y/\y<10^30+57)) ⟨_,[],[],_,_,rfl,s4,t4,.nil,rfl,rfl,(fun q h=>nomatch h),e4,rfl,y2⟩ ?_ ?_
 ·rintro i σ H' hi ⟨o6,o,ls,x,y,rfl,v,el,la,nm,ll,lh,ep,eL,y0,a4⟩;have i4:i<8:=by lia
  have aB:=la.1;exists⟨.inl ⟨rfl,_,SqL.of el⟩,?_⟩;exists⟨p,i,by rw[uz];rfl,hp,by lia,?_⟩;exists ixLm (SqL.of (v _ _ eb)) rfl ?_;walk_at"g";have r3:=Jr (x:=x) (y:=y) (m:=b2) an;have y3:=JO (x:=x) (m:=b2) y0 a4;refine⟨po,_,_,_,rfl,ep,by lia,by lia,y0,a4,fun H2 x2 e2=>?_⟩;have a7:=j2I (p:=p) (b2:=b2) (k:=i) (x:=T2.2.1) (y:=T2.2.2);rw[eL]at a7;dsimp only at a7;generalize tkB x y b2=T3 at r3 y3 e2 a7|-;have kp:∀c xs,H' c=some (.tup xs)->H2 c=some (.tup xs):=fun c xs h=>x2 _ _ (Jq h ep fun z=>by cases z) h
  have au:=x2 _ _ a2 el;exists⟨uf,?_⟩;walk_at"f 3 t";exists⟨pl,_,_,rfl,rfl,s3 _ _ au,by rw[vt];lia,?_⟩;have kt:∀c xs,H3 c=some (.tup xs)->upd H3 pl (.lst (o.map V.ref++[.ref p3])) c=some (.tup xs):=fun c xs h=>(jh (Jq h (s3 _ _ au) fun z=>by cases z)).trans h
  refine⟨_,o++[p3],ls++[(wdB p i,T3.1)],_,_,rfl,fun c u h=>?_,by rw[jG,vj];rfl,(la.mono fun c x h=>kt _ _ (s3 _ _ (kp _ _ h))).snoc (kt _ _ t3),?_,by rw[vn,ll];rfl,fun q hq=>?_,(jh a2.symm).trans (s3 _ _ e2),a7,y3⟩
  ·exact(jh (je h az)).trans (s3 _ _ (x2 _ _ (je h hpo) (v _ _ h)))
  ·rw[Xp,<-nm];unfold nmsOf;rw[vj];rfl
  ·rcases vh.mp hq with z | z
   ·exact lh q z
   ·rw[vo.mp z];exact⟨r3.1,by show T3.1<=10^18;lia⟩
 rintro σ' H5 ⟨o6,o,ls,x,y,rfl,aE,av,ag,nm,ll,lh,a5,eL,y0,a4⟩;clear s4 t4 e4 e2 H2 H3 H4;rw[eL]at q;dsimp only at q;clear eL;have m1:1<=ls.length:=by lia
 have m4:ls.length<=8:=by lia
 replace nm:nmsOf ls=lmB p ls.length:=by rw[nm,ll]
 obtain⟨ah,lW⟩:=j2H (m:=ls.length) hp (by lia);rw[<-nm]at ah lW;clear ll;have Ll:(nmsOf ls).length=ls.length:=vt _;have aB:=ag.1;walk_at"g";have r3:=Jr (x:=x) (y:=y) (m:=2*(many:Int)+2) (by lia);have y3:=JO (x:=x) (m:=2*(many:Int)+2) y0 a4;refine⟨po,_,_,_,rfl,a5,by lia,by lia,y0,a4,fun H6 x6 e6=>?_⟩;generalize tkB x y (2*(many:Int)+2)=T3 at r3 y3 e6 q|-;have r4:=Jr (x:=T3.2.1) (y:=T3.2.2) (m:=2) (by lia);exists⟨po,_,_,_,rfl,e6,by lia,by lia,y3.1,y3.2,fun H2 x7 e7=>?_⟩;generalize tkB T3.2.1 T3.2.2 2=T4 at r4 e7 q|-;have v:Same H H2:=fun c u h=>x7 _ _ (je h hpo) (x6 _ _ (je h hpo) (aE _ _ h))
 have el:=x7 _ _ a2 (x6 _ _ a2 av);have la:All2 (LimbAt H2) o ls:=ag.mono fun c x h=>x7 _ _ (Jq h a5 fun z=>by cases z) (x6 _ _ (Jq h a5 fun z=>by cases z) h)
 clear aE av ag x6 x7 e6 e7 a5 H5 H6;obtain⟨X,aT⟩:∃X:Nat,T3.1=(X:Int):=⟨T3.1.toNat,by lia⟩
 have ec:T3.1.toNat=X:=by lia
 rw[ec]at q;rw[aT];generalize T4.1=en4 at q|-;obtain⟨nd,nW⟩:=j2P (p:=p) (st:=9) (c:=X) (m:=ls.length) hp m1 (by lia) (by lia);have ng:∀{k:Nat},k<17->(nmB p 9 X ls.length).getD k ⟨#[]⟩=wdB p (ixB 9 X ls.length k):=fun h=>j0V h
 have nL:=j0W (p:=p) (st:=9) (c:=X) (m:=ls.length);generalize nmB p 9 X ls.length=names at nd nW ng nL q;exists⟨va _,?_⟩;walk_at"f nl hnl H3 s3 t3";exists⟨va _,?_⟩;walk_at"f ml hml H4 s4 t4";walk_at"g";walk_at"f d hd' H5 s5 t5";exists⟨va _,?_⟩;walk_at"f pp hpp H6 s6 t6";have al:=s4.trans (s5.trans s6);have ab:=s3.trans al;have BB:BkB pl nl ml d pp o [] [] ls names [] [] [] b4 H6:=by
  refine⟨⟨al _ _ t3,s6 _ _ (s5 _ _ t4),.nil,(fun ks hk=>nomatch hk),rfl,va _,by lia,(fun x hx=>nomatch hx),lW⟩,⟨ab _ _ el,la.mono fun c x h=>ab _ _ h,m1⟩,s6 _ _ t5,t6,.nil,⟨rfl,rfl,(fun i f h=>by simp at h),fun i h=>uh h (Nat.not_lt_zero i)⟩,fun j N=>uh N (Nat.not_lt_zero j),va _⟩
 have SS:SpB pl nl ml pp bd []:=⟨je el hnl,je (s3 _ _ el) hml,je (s5 _ _ (s4 _ _ (s3 _ _ el))) hpp,je t3 hml,je (s5 _ _ (s4 _ _ t3)) hpp,je (s5 _ _ t4) hpp,je (v _ _ eb) hnl,je (s3 _ _ (v _ _ eb)) hml,je (s5 _ _ (s4 _ _ (s3 _ _ (v _ _ eb)))) hpp,(fun x hx=>nomatch hx)⟩
 have aX:H nl=none:=none_of v hnl;have aW:H ml=none:=none_of (v.trans s3) hml;have aV:H d=none:=none_of (v.trans (s3.trans s4)) hd';have aY:H pp=none:=none_of (v.trans (s3.trans (s4.trans s5))) hpp;have ba:=v.trans ab;clear ab al t3 t4 t5 t6 el la v s3 s4 s5 s6 hnl hml hd' hpp;exists⟨_,rfl,by lia,by lia,?_⟩;refine qK (fun i σ H'=>IvE10 fun(o5 aj ak aa Z:Option V) (W B:List Addr) (fs:List Fn) (D:List (List Str)) (I:List Int)=>IvA5 (σ=[some (.ref a),some (.int (many:Nat)),some (.ref bd),some (.ref po),some (.int (p:Nat)),some (.ref pl),o5,some (.int (X:Nat)),some (.int en4),some (.ref nl),some (.ref ml),some (.ref d),some (.ref pp),aj,ak,aa,Z]) (Same H H') (BkB pl nl ml d pp o W B ls names fs D I b4 H') (SpB pl nl ml pp bd B) (fs.length=i/\stT ns many en4 ls names b0 b1 b2 b3 b4 i=(fs,D,I)))
  ⟨_,_,_,_,_,[],[],[],[],[],rfl,ba,BB,SS,rfl,rfl⟩ ?_ ?_
 ·rintro i σ H7 hi ⟨o5,aj,ak,aa,Z,W,B,fs,D,I,rfl,v,C,S,fl,eS⟩;have b5:i<17:=by lia
  have st:=j3r (ns:=ns) (many:=many) (en:=en4) (ls:=ls) (names:=names) (b0:=b0) (b1:=b1) (b2:=b2) (b3:=b3) (b4:=b4) i;rw[eS]at st;dsimp only at st;rw[show celT ns i=(if Pr.cell ns (1+(0+(i:Int)))<0 then -Pr.cell ns (1+(0+(i:Int)))else Pr.cell ns (1+(0+(i:Int))))from rfl]at st;have tl:(names.take fs.length).length=fs.length:=by rw[vi];lia
  have bg:W.length=fs.length:=C.pa.1.trans Jo;have gl:=C.dk.gl;have Ml:D.length=fs.length:=by have:=C.n.ml;lia
  have bf:B.length=fs.length:=by have:=C.n.am.1;lia
  have a0:(names.take fs.length).Nodup:=nd.sublist (take_sublist _ _);have Y:∀j,j<fs.length->1<=I.getD j 0/\I.getD j 0<=b4:=fun j N=>⟨(C.dk.g j N).1,C.gb j N⟩
  exists⟨a,ns,_,rfl,v.seq hS,ad,by lia,?_⟩;refine⟨_,rfl,?_⟩;walk_at"g";generalize(if Pr.cell ns (1+(0+(i:Int)))<0 then -Pr.cell ns (1+(0+(i:Int)))else Pr.cell ns (1+(0+(i:Int))))=num at st|-;refine⟨_,_,rfl,by lia,by lia,?_⟩;have nb:=YD num (1+(0+(i:Int)));generalize mixB num (1+(0+(i:Int)))=yo at nb st|-;exists⟨uf,?_⟩;walk_at"f ow how Ha sa ta";exists⟨fun σ' H'=>σ'=[some (.ref a),some (.int (many:Nat)),some (.ref bd),some (.ref po),some (.int (p:Nat)),some (.ref pl),some (.int (0+(i:Int))),some (.int (X:Nat)),some (.int en4),some (.ref nl),some (.ref ml),some (.ref d),some (.ref pp),some (.int num),some (.ref ow),aa,Z]/\Same H7 H'/\H' ow=some (.lst [.int (if num<10^18 then 0 else num),.int yo]),?_,?_⟩
  rotate_left
  ·exists iteD (fun c=>?_) (fun c=>?_)
   ·exists⟨ow,_,_,0,rfl,rfl,ta,rfl,?_⟩;exact⟨rfl,fun c u h=>(jh (je h how)).trans (sa _ _ h),by rw[jG,vd c];rfl⟩
   ·walk_at"g";exact⟨rfl,sa,by rw[vc c];exact ta⟩
  rintro σ' Hb ⟨rfl,sb,tb⟩;generalize(if num<10^18 then 0 else num)=xo at tb st;have ob:Off ow H7 Hb:=fun c u h=>⟨je h how,sb _ _ h⟩
  exists⟨ow,nl,ml,pl,bd,xo,yo,H7,B,o,ls,names.take fs.length,D,b0,b1,b2,b3,b4,rfl,tb,nb.1,nb.2,ob,C.n,C.l,⟨v _ _ eb,aI,aJ,aK,aL,an,aM,aN,aO,ao,ap⟩,fun ax H8 x8 a6 L=>?_⟩;have s8:Same H7 H8:=(ob.ex x8).same;rw[tl]at L;rw[<-fl]at st;generalize frmT xo yo (names.take fs.length) D ls b0 b1 b2 b3=f0 at a6 L st;rw[fl]at st;have C8:=C.same s8;exists⟨fun σ' H'=>IvE2 fun(fa:Addr) (f:Fn)=>IvA4 (σ'=[some (.ref a),some (.int (many:Nat)),some (.ref bd),some (.ref po),some (.int (p:Nat)),some (.ref pl),some (.int (0+(i:Int))),some (.int (X:Nat)),some (.int en4),some (.ref nl),some (.ref ml),some (.ref d),some (.ref pp),some (.int num),some (.ref ow),some (.ref fa),Z]) (Same H8 H') (FormAt H' fa (toldF (names.take fs.length) f)) (PreN (nmsOf ls) (D.map (plB (nmsOf ls))) fs.length f/\lstF (decide (i=many/\en4=1)) b4 I i f0=f),?_,?_⟩
  rotate_left
  ·exists iteD (fun c=>?_) (fun c=>?_)
   ·exists iteD (fun c2=>?_) (fun c2=>?_)
    ·exists ixLm (SqL.of (s8 _ _ (v _ _ eb))) rfl ?_;exists⟨nl,d,names.take fs.length,I,b4,rfl,C8.n.en,C8.ed,a0,by lia,by lia,by lia,fun j N=>Y j (by lia),fun b H9 s9 e9 ne l5 jl=>?_⟩;rw[tl]at e9 ne l5 jl;exists⟨uf,?_⟩;walk_at"f fa hfa H10 s10 t10";walk_at"g";exact⟨fa,.row (lastF I b4 fs.length),rfl,s9.trans s10,⟨b,t10,s10 _ _ e9⟩,⟨ne,by lia,jl⟩,by unfold lstF;rw[vd (vG ⟨by lia,c2⟩),fl]⟩
    ·walk_at"g";exact⟨ax,f0,rfl,Same.refl _,a6,L,by unfold lstF;rw[vc (by simp only[decide_eq_true_eq];exact fun z=>c2 z.2)]⟩
   ·walk_at"g";exact⟨ax,f0,rfl,Same.refl _,a6,L,by unfold lstF;rw[vc (by simp only[decide_eq_true_eq];exact fun z=>c (by lia))]⟩
  rintro σ' H9 ⟨ay,f1,rfl,s9,ae,M,ar⟩;rw[ar]at st;clear ar;have C9:=C8.same s9;have am:=v.trans (s8.trans s9);clear C8 C a6 L s8 s9 v;exists⟨fun σ' H'=>IvE3 fun(fa:Addr) (f:Fn) (g:Int)=>IvA6 (σ'=[some (.ref a),some (.int (many:Nat)),some (.ref bd),some (.ref po),some (.int (p:Nat)),some (.ref pl),some (.int (0+(i:Int))),some (.int (X:Nat)),some (.int en4),some (.ref nl),some (.ref ml),some (.ref d),some (.ref pp),some (.int num),some (.ref ow),some (.ref fa),Z]) (Same H9 H') (FormAt H' fa (toldF (names.take fs.length) f)) (PreN (nmsOf ls) (D.map (plB (nmsOf ls))) fs.length f) (LenN I f g) (g<=b4/\cutF b4 I f1=f),?_,?_⟩
  rotate_left
  ·exists⟨ay,d,f1,names.take fs.length,I,nmsOf ls,D.map (plB (nmsOf ls)),rfl,ae,C9.ed,a0,by lia,by rw[tl];exact M,fun j N=>by have:=Y j (by lia);lia,fun g H10 s10 lg=>?_⟩;exists ixLm (SqL.of (s10 _ _ (am _ _ eb))) rfl ?_;exists iteD (fun c=>?_) (fun c=>?_)
   ·exists⟨uf,?_⟩;walk_at"f fa hfa H11 s11 t11";walk_at"g";exact⟨fa,.hold 1,1,rfl,s10.trans s11,t11,⟨by decide,by decide⟩,rfl,ao,by unfold cutF;rw[vd (by rw[<-lg.fn M fun j N=>(Y j N).1];lia)]⟩
   ·walk_at"g";exact⟨ay,f1,g,rfl,s10,FormAt.same s10 ae,M,lg,by lia,by unfold cutF;rw[vc (by rw[<-lg.fn M fun j N=>(Y j N).1];lia)]⟩
  rintro σ' H10 ⟨fa,f,g,rfl,s10,hf,a3,lg,gb,ef⟩;rw[ef]at st;have eg:=lg.fn a3 fun j N=>(Y j N).1
  have n:=C9.same s10;have aD:=am.trans s10;clear C9 ae M s10 am;exists⟨.inl ⟨rfl,_,SqL.of n.n.em⟩,?_⟩;exists⟨fa,nl,ml,B,f,names.take fs.length,D,nmsOf ls,D.map (plB (nmsOf ls)),rfl,hf,n.n.en,n.n.em,n.n.am,a0,by lia,by lia,by rw[tl];exact a3,fun ks hk=>by have:=n.n.il.len hk;lia,fun l H11 s11 hl el mv kl=>?_⟩;have aF:stT ns many en4 ls names b0 b1 b2 b3 b4 (i+1)=(fs++[f],D++[movF D f],I++[g]):=by rw[st,eg];rfl
  generalize movF D f=ks at el mv kl aF;exists⟨ml,_,_,rfl,rfl,s11 _ _ n.n.em,by rw[vt];lia,?_⟩;generalize O:upd H11 ml _=H12;have aP:H12 ml=some (.lst ((B++[l]).map V.ref)):=by rw[vj];exact qQ O
  have aA:∀c u,c≠ml->H11 c=some u->H12 c=some u:=fun c u hc h=>O▸(jh hc).trans h
  clear O;have k2:∀c u,c≠ml->H10 c=some u->H12 c=some u:=fun c u hc h=>aA c u hc (s11 _ _ h)
  have U:∀{c u},H10 c=some u->l≠c:=fun h=>(je h hl).symm
  have as:=aA _ _ (U n.n.em) el;have a8:d≠ml:=Jq n.ed n.n.em (fun z=>by cases z);have a9:d≠nl:=Jq n.ed n.n.en (fun z=>by cases z);have ai:d≠pp:=Jq n.ed n.ep (fun z=>by cases z);exists⟨p,9+i,by rw[show(9+(0+(i:Int)))=((9+i:Nat):Int) by lia];rfl,hp,by lia,?_⟩;exists⟨fun σ' H'=>σ'=[some (.ref a),some (.int (many:Nat)),some (.ref bd),some (.ref po),some (.int (p:Nat)),some (.ref pl),some (.int (0+(i:Int))),some (.int (X:Nat)),some (.int en4),some (.ref nl),some (.ref ml),some (.ref d),some (.ref pp),some (.int num),some (.ref ow),some (.ref fa),some (.str (names.getD fs.length ⟨#[]⟩))]/\H12=H',?_,?_⟩
  rotate_left
  ·have nk:=ng b5;rw[<-fl]at nk;exists iteD (fun c=>?_) (fun c=>?_)
   ·have ic:i=X:=by lia
    exists⟨_,_,rfl,.inl ⟨_,SqL.of (k2 _ _ S.lm n.l.el),rfl⟩,?_⟩;rw[vt,aB];walk_at"g";rw[show(0+(i:Int))%(ls.length:Int)=((i%ls.length:Nat):Int) by rw[uz];exact(Int.natCast_emod _ _).symm];have jm:=Nat.mod_lt i (show 0<ls.length by lia);obtain⟨lk,aZ,aU⟩:=n.l.la.get (vz jm);have ac:H10 lk=some (.tup [.str (ls[i%ls.length]).1,.int (ls[i%ls.length]).2]):=aU;refine ixLm (SqL.of (k2 _ _ S.lm n.l.el)) (jO (j:=i%ls.length) (by rw[vv,aZ];rfl)) ?_;exists ixTm (SqT.of (k2 _ _ (Jq ac n.n.em fun z=>by cases z) ac)) rfl ?_;exists⟨?_,rfl⟩;have ew:(ls[i%ls.length]).1=wdB p (i%ls.length):=by
     have h1:(nmsOf ls)[i%ls.length]?=some (ls[i%ls.length]).1:=by unfold nmsOf;rw[vv,vz jm];rfl
     rw[nm,j2G jm]at h1;exact(vL h1).symm
    rw[nk,fl];unfold ixB;rw[vd ic,ew]
   ·exists⟨?_,rfl⟩;rw[nk,fl];unfold ixB;rw[vc (by lia)]
  rintro σ' bb ⟨rfl,rfl⟩;exists⟨.inl ⟨rfl,_,SqL.of (k2 _ _ S.nm n.n.en)⟩,?_⟩;exists⟨nl,_,_,rfl,rfl,k2 _ _ S.nm n.n.en,by rw[vt];lia,?_⟩;generalize O:upd H12 nl _=H13;have aQ:H13 nl=some (.lst ((names.take (fs.length+1)).map V.str)):=by
   rw[take_snoc (show names[fs.length]?=some (names.getD fs.length ⟨#[]⟩) by rw[vy,vz (by lia)];rfl),vj];exact qQ O
  have af:∀c u,c≠nl->H12 c=some u->H13 c=some u:=fun c u hc h=>O▸(jh hc).trans h
  clear O;have bc:atI ((names.take (fs.length+1)).map V.str) (0+(i:Int))=some (.str (names.getD fs.length ⟨#[]⟩)):=by
   rw[<-fl,uz];refine jO ?_;rw[vv,ut (by lia),vy,vz (by lia)];rfl
  have k3:∀c u,c≠ml->c≠nl->H10 c=some u->H13 c=some u:=fun c u h1 h2 h=>af c u h2 (k2 c u h1 h)
  exists⟨.inl ⟨rfl,_,SqL.of (k3 _ _ S.mp.symm S.np.symm n.ep)⟩,?_⟩;exists⟨uf,?_⟩;walk_at"f c hc H14 s14 t14";exists⟨pp,_,_,rfl,rfl,s14 _ _ (k3 _ _ S.mp.symm S.np.symm n.ep),by rw[vt];lia,?_⟩;generalize O:upd H14 pp _=H15;have aR:H15 pp=some (.lst ((W++[c]).map V.ref)):=by rw[vj];exact qQ O
  have a1:∀c u,c≠pp->H14 c=some u->H15 c=some u:=fun c u hc h=>O▸(jh hc).trans h
  clear O;have k4:∀c u,c≠ml->c≠nl->c≠pp->H10 c=some u->H15 c=some u:=fun c u h1 h2 h3 h=>a1 c u h3 (s14 _ _ (k3 c u h1 h2 h))
  have kt:∀c xs,H10 c=some (.tup xs)->H15 c=some (.tup xs):=fun c xs h=>k4 c _ (Jq h n.n.em fun z=>by cases z) (Jq h n.n.en fun z=>by cases z) (Jq h n.ep fun z=>by cases z) h
  have b8:c≠pp:=(je (k3 _ _ S.mp.symm S.np.symm n.ep) hc).symm;exists⟨fa,d,f,names.take fs.length,I,nmsOf ls,D.map (plB (nmsOf ls)),rfl,FormAt.keep kt hf,k4 _ _ a8 a9 ai n.ed,a0,by lia,by rw[tl];exact a3,fun j N=>by have:=Y j (by lia);lia,fun g' aH aC b6=>?_⟩;obtain rfl:=lg.uniq b6;exists⟨d,_,rfl,DPut.k (k:=Sum.inr (names.getD fs.length ⟨#[]⟩)) (aC _ _ (k4 _ _ a8 a9 ai n.ed)) (by rw[j0O (by lia)];lia),?_⟩;have xn:names.getD fs.length ⟨#[]⟩∉names.take fs.length:=fun z=>by
   obtain⟨j,N,e⟩:=mem_iff_getElem.mp z;rw[getElem_take]at e;have jl:j<fs.length:=by rw[tl]at N;exact N
   have e2:names[j]?=some (names.getD fs.length ⟨#[]⟩):=by rw[vz (by lia),e]
   have e3:names[fs.length]?=some (names.getD fs.length ⟨#[]⟩):=by rw[vy,vz (by lia)];rfl
   have:=Jg nd e2;have:=Jg nd e3;lia
  rw[j0P (by lia) xn];generalize O:upd aH d _=H17;have aS:H17 d=some (.dK (knK (names.take (fs.length+1)) (I++[g]))):=by
   rw[take_snoc (show names[fs.length]?=some (names.getD fs.length ⟨#[]⟩) by rw[vy,vz (by lia)];rfl)];exact qQ O
  have R:∀c u,c≠d->H15 c=some u->H17 c=some u:=fun c u hc h=>O▸(jh hc).trans (aC _ _ h)
  clear O;have aG:=n.add (fa:=fa) (l:=l) (c:=c) (f:=f) (ks:=ks) (g:=g) (H':=H17) S (by rw[<-wv a3];exact hf) a3 mv lg gb ap (by lia) (by lia) nW (fun x u h1 h2 h3 h4 h=>R _ _ h4 (k4 _ _ h1 h2 h3 h)) (R _ _ a8.symm (a1 _ _ S.mp (s14 _ _ (af _ _ S.nm.symm aP)))) (R _ _ (U n.ed) (a1 _ _ (U n.ep) (s14 _ _ (af _ _ (U n.n.en) as)))) (R _ _ a9.symm (a1 _ _ S.np (s14 _ _ aQ))) (R _ _ ai.symm aR) (R _ _ (Jq t14 (s14 _ _ (k3 _ _ a8 a9 n.ed)) fun z=>by cases z) (a1 _ _ b8 t14)) aS;exact⟨_,_,_,_,_,W++[c],B++[l],fs++[f],D++[ks],I++[g],rfl,fun x u h=>R _ _ (je h aV) (k4 _ _ (je h aW) (je h aX) (je h aY) (aD _ _ h)),aG,S.add ⟨U n.n.en,U n.n.em,U n.ep⟩,by rw[vn,fl];rfl,aF⟩
 rintro σ' H7 ⟨o5,aj,ak,aa,Z,W,B,fs,D,I,rfl,v,C,S,fl,eS⟩
 replace fl:fs.length=many+1:=by lia
 have eF:(stT ns many en4 ls names b0 b1 b2 b3 b4 (many+1)).1=fs:=by
  rw[show many+1=((many:Int)+1).toNat by lia,eS]
 rw[eF]at q;have gl:=C.dk.gl;have tl:(names.take fs.length).length=fs.length:=by rw[vi];lia
 have a0:(names.take fs.length).Nodup:=nd.sublist (take_sublist _ _);exists⟨uf,?_⟩;walk_at"f b hbb H8 s8 t8";have C8:=C.same s8;exists ixLm (SqL.of C8.n.en) (zx (j:=many) (by lia)) ?_;have g:=DGet.k (k:=Sum.inr ((names.take fs.length).getD many ⟨#[]⟩)) C8.ed;rw[Yz a0 (by lia) (by lia)]at g;refine⟨d,_,rfl,g,?_⟩;exists⟨uf,?_⟩;walk_at"f r hr' H9 s9 t9";exact q r b pl pp o W names ls fs _ I H9 (v.trans (s8.trans s9)) (by rw[show fs.length-1=many by lia];exact t9) ((C8.book t8).same s9) C.dk (C.dk.sn C.fl nd ah (by lia) (by lia) (by lia) lh) fl nL nd nW m1 (by lia) ah lW S.lp C.gb rfl
theorem W8(T:Txt K mg t)(jY:FnOk P w K mg base CX0 1 t.JS t.JV ["_law_script","_law_k"] (Pr.sp_cell_at K))(j4:FnOk P w K mg base CX0 1 t.qG t.qI ["_law_cell","_law_k"] (Ku))(J0:FnOk P w K mg base CX0 1 t.QP t.QT ["_law_place","_law_k"] (sp_wordB))(ZO:FnOk P w K mg base CX0 2 t.ZV t.ZZ ["_law_number","_law_names","_law_movers","_law_limbs","_law_bounds"] (sp_formG))(JZ:FnOk P w K mg base CX0 1 t.QN t.QR ["_law_form_here","_law_known"] (sp_longB))(qF:FnOk P w K mg base CX0 1 t.Ql t.Qm ["_law_form_here","_law_names","_law_movers"] (sp_movesG))(Qf:FnOk P w K mg base CX0 1 t.QM t.QQ ["_law_names","_law_known","_law_most"] (sp_lastG))(Qw:FnOk P w K mg base CX0 5 t.Qy t.QA ["_law_script","_law_many","_law_bounds"] (YU bkT8 K)):FnOk P w K mg base CX0 6 t.ZU t.ZY ["_law_script","_law_many","_law_bounds"] (YU bkF8 K):=by
 refine T.ZL.F.ok jT (fun vs H Q E h=>?_) (fun b5 A aX s H vs Q E D h=>?_)
 ·obtain⟨a,bd,ns,many,b0,b1,b2,b3,b4,rfl,hS,a0,m2,ae,Bd,q⟩:=h;rfl
 obtain⟨a,bd,ns,many,b0,b1,b2,b3,b4,rfl,hS,a0,m2,ae,Bd,q⟩:=h;refine⟨_,(jb (j3 (jt j4w (jD KD (by rfl) T.j2f XX (ja (ju T.Jz jY D (ja (pv 0) (ja jd jc))) jc)) (jq Z6 jd jd) (nomark _))
   (jg (jB (ju T.zS Qw D (ja (pv 0) (ja (pv 1) (ja (pv 2) jc))))))
   jA)
  (jb (jr (i:=3) jT.nd rfl (.inl rfl) (ju T.JG j4 D (ja (ju T.JG j4 D (ja (ju T.Jz jY D (ja (pv 0) (ja jd jc))) (ja jd jc))) (ja jd jc))))
  (jb (jr (i:=4) jT.nd rfl (.inl rfl) (jK jc))
  (jb (Jd PassesOwn.never rfl (JY (by rfl) T.qY (ja (jq jS jd (jq Ja (jq j2 (pv 3) jd) jd)) jc)) (jw (i:=5) jT.nd rfl (.inl rfl))
   (jb (jr (i:=6) jT.nd rfl (.inl rfl) (jq Ja (ju T.JG j4 D (ja (pv 3) (ja (jq jS jd (pv 5)) jc))) (jo jv (pv 2) jd)))
   (jg (Jb (qh PySem.F.plainAttrs_list PySem.F.slot_list_append PySem.F.type_list_append jV (pv 4) (ja (jN (ja (ju T.QL J0 D (ja (jq Ja (pv 3) jd) (ja (pv 5) jc))) (ja (pv 6) jc))) jc))))))
  (jb (jr (i:=7) jT.nd rfl (.inl rfl) (jK jc))
  (jb (jr (i:=8) jT.nd rfl (.inl rfl) (jK jc))
  (jb (jr (i:=9) jT.nd rfl (.inl rfl) Z7)
  (jb (jr (i:=10) jT.nd rfl (.inl rfl) (jK jc))
  (jb (Jd PassesOwn.never rfl (JY (by rfl) T.qY (ja (jq jS (pv 1) jd) jc)) (jw (i:=5) jT.nd rfl (.inl rfl))
   (jb (jr (i:=11) jT.nd rfl (.inl rfl) (ju T.JG j4 D (ja (ju T.JG j4 D (ja (ju T.Jz jY D (ja (pv 0) (ja (jq jS jd (pv 5)) jc))) (ja (jq jS jd (pv 5)) jc))) (ja (jq jS jd (pv 5)) jc))))
   (jb (jr (i:=12) jT.nd rfl (.inl rfl) (ju T.kL ZO D (ja (pv 11) (ja (pv 7) (ja (pv 8) (ja (pv 4) (ja (pv 2) jc)))))))
   (jb (qC (PW.pt (QX (jt Jc (pv 5) (pv 1) (nomark _)) (QI (jt Jc (jq Ja (jq j2 (pv 3) jd) jd) jd (nomark _)))))
    (jg (jr (i:=12) jT.nd rfl (.inl rfl) (jN (ja jJ (ja (ju T.ZM Qf D (ja (pv 7) (ja (pv 9) (ja (jo jv (pv 2) jd) jc)))) jc)))))
    jA)
   (jb (qC (jt ZI (ju T.QK JZ D (ja (pv 12) (ja (pv 9) jc))) (jo jv (pv 2) jd) (nomark _))
    (jg (jr (i:=12) jT.nd rfl (.inl rfl) (jN (ja jJ (ja jd jc)))))
    jA)
   (jb (Jb (qh PySem.F.plainAttrs_list PySem.F.slot_list_append PySem.F.type_list_append jV (pv 8) (ja (ju T.Za qF D (ja (pv 12) (ja (pv 7) (ja (pv 8) jc)))) jc)))
   (jb (jr (i:=13) jT.nd rfl (.inl rfl) (ju T.QL J0 D (ja (jq Ja (pv 3) jd) (ja (jq jS jd (pv 5)) jc))))
   (jb (qC (PW.pt (QX (jt Jc (pv 5) (jq Ja (jq j2 (pv 3) jd) (jq jS (pv 1) jd)) (nomark _)) (QI (jt Jc (jq Ja (jq j2 (pv 3) jd) jd) jd (nomark _)))))
    (jg (jr (i:=13) jT.nd rfl (.inl rfl) (jo jz (jo jv (pv 4) (jq Ja (pv 5) (jD jW (by rfl) T.JT Jj (ja (pv 4) jc)))) jd)))
    jA)
   (jb (Jb (qh PySem.F.plainAttrs_list PySem.F.slot_list_append PySem.F.type_list_append jV (pv 7) (ja (pv 13) jc)))
   (jb (Jb (qh PySem.F.plainAttrs_list PySem.F.slot_list_append PySem.F.type_list_append jV (pv 10) (ja (jN (ja (jo jv (pv 7) (pv 5)) (ja (pv 12) jc))) jc)))
   (jg (zE (J1 D) (pv 9) (jo jv (pv 7) (pv 5)) (ju T.QK JZ D (ja (pv 12) (ja (pv 9) jc))) rfl))))))))))))
  (jg (jB (jN (ja (jN (ja (pv 4) (ja (pv 10) jc))) (ja (JK (J1 D) (pv 9) (jo jv (pv 7) (pv 1))) jc)))))))))))))),?_⟩
 refine jE (σ':=[some _,some _,some _,none,none,none,none,none,none,none,none,none,none,none]) rfl ?_
 try dsimp only[cxOf,Cx.nox]
 have sz:(200:Nat)<sizeLine:=by decide
 have az:=Bd;obtain⟨eb,aC,aD,aE,aF,aG,aH,aI,aJ,am,an⟩:=Bd;exists⟨a,ns,_,rfl,hS,a0,by lia,?_⟩;refine⟨_,rfl,?_⟩;exists iteD (fun c=>?_) (fun c=>?_)
 ·walk_at"g";have eq:bkF8 ns many b0 b1 b2 b3 b4=bkT8 ns many b0 b1 b2 b3 b4:=vd c;rw[eq]at q;exact⟨a,bd,ns,many,b0,b1,b2,b3,b4,rfl,hS,a0,m2,ae,az,q⟩
 have eq:bkF8 ns many b0 b1 b2 b3 b4=bkN8 ns many b0 b1 b2 b3 b4:=vc c;have ao:bkN8 ns many b0 b1 b2 b3 b4=_:=bkN8.eq_1 ..;rw[eq,ao]at q;clear c eq ao;exists⟨a,ns,_,rfl,hS,a0,by lia,?_⟩;exists⟨_,_,rfl,by lia,by lia,?_⟩;exists⟨_,_,rfl,by lia,by lia,?_⟩;have hb:=YD (mixB (Pr.cell ns 0) 0) 90;have eh:hdN ns=mixB (mixB (Pr.cell ns 0) 0) 90:=rfl;rw[eh]at q;clear eh;generalize mixB (mixB (Pr.cell ns 0) 0) 90=hd at hb q|-;obtain⟨p,e3⟩:∃p:Nat,hd%3=(p:Int):=⟨(hd%3).toNat,by lia⟩
 have hp:p<3:=by lia
 have aO:(hd%3).toNat=p:=by lia
 have ac:=fun m=>j1C (hd:=hd) (b2:=b2) (m:=m)
 rw[aO]at q ac;exists⟨va _,?_⟩;walk_at"f pl hpl H1 s1 t1";exists⟨_,rfl,by lia,by lia,?_⟩;refine qK (fun i σ H'=>IvE4 fun(o5 o6:Option V) (o:List Addr) (ls:List (Str×Int))=>IvA7 (σ=[some (.ref a),some (.int (many:Nat)),some (.ref bd),some (.int hd),some (.ref pl),o5,o6,none,none,none,none,none,none,none]) (Same H H') (H' pl=some (.lst (o.map V.ref))) (All2 (LimbAt H') o ls) (nmsOf ls=lmB p i) (ls.length=i) ((∀q∈ls,0<=q.2/\q.2<=10^18)/\lsN8 hd b2 i=ls)) ⟨_,_,[],[],rfl,s1,t1,.nil,rfl,rfl,(fun q h=>nomatch h),rfl⟩ ?_ ?_
 ·rintro i σ H' hi ⟨o5,o6,o,ls,rfl,y,el,la,nm,ll,lh,eL⟩;have i4:i<8:=by lia
  have aw:=la.1;exists⟨_,_,rfl,by lia,by lia,?_⟩;exists ixLm (SqL.of (y _ _ eb)) rfl ?_;walk_at"g";have v0:=ve (mixB hd (200+(0+(i:Int)))) (show b2≠0 by lia);have v1:=vf (mixB hd (200+(0+(i:Int)))) (show 0<b2 by lia);have ad:=ac i;rw[eL]at ad;generalize mixB hd (200+(0+(i:Int)))%b2=v at v0 v1 ad|-;refine⟨.inl ⟨rfl,_,SqL.of el⟩,?_⟩;exists⟨p,i,by rw[e3,uz];rfl,hp,by lia,?_⟩;exists⟨uf,?_⟩;walk_at"f 3 t";exists⟨pl,_,_,rfl,rfl,s3 _ _ el,by rw[vt];lia,?_⟩;have kt:∀c xs,H3 c=some (.tup xs)->upd H3 pl (.lst (o.map V.ref++[.ref p3])) c=some (.tup xs):=fun c xs h=>(jh (Jq h (s3 _ _ el) fun z=>by cases z)).trans h
  refine⟨_,_,o++[p3],ls++[(wdB p i,v)],rfl,fun c u h=>?_,by rw[jG,vj];rfl,(la.mono fun c x h=>kt _ _ (s3 _ _ h)).snoc (kt _ _ t3),?_,by rw[vn,ll];rfl,fun q hq=>?_,ad⟩
  ·refine(jh ?_).trans (s3 _ _ (y _ _ h));exact je h hpl
  ·rw[Xp,<-nm];unfold nmsOf;rw[vj];rfl
  ·rcases vh.mp hq with z | z
   ·exact lh q z
   ·rw[vo.mp z];exact⟨v0,by show v<=10^18;lia⟩
 rintro σ' H2 ⟨o5,o6,o,ls,rfl,y,el,la,nm,ll,lh,eL⟩;rw[eL]at q;have b6:=ll;rw[<-ll]at q;clear eL ac;have m1:1<=ls.length:=by lia
 have m4:ls.length<=8:=by lia
 replace nm:nmsOf ls=lmB p ls.length:=by rw[nm,ll]
 obtain⟨ab,lW⟩:=j2H (m:=ls.length) hp (by lia);rw[<-nm]at ab lW;clear ll s1 t1 H1;have Ll:(nmsOf ls).length=ls.length:=vt _;have aw:=la.1;have au:=fun(i:Nat) (h:i<=many)=>j3L (hd:=hd) ae h
 generalize ccN hd many=cc at au q;obtain⟨nd,nW⟩:=j2P (p:=p) (st:=9) (c:=cc) (m:=ls.length) hp m1 (by lia) (by lia);have ng:∀{k:Nat},k<17->(nmB p 9 cc ls.length).getD k ⟨#[]⟩=wdB p (ixB 9 cc ls.length k):=fun h=>j0V h
 have nL:=j0W (p:=p) (st:=9) (c:=cc) (m:=ls.length);generalize nmB p 9 cc ls.length=names at nd nW ng nL q;exists⟨va _,?_⟩;walk_at"f nl hnl H3 s3 t3";exists⟨va _,?_⟩;walk_at"f ml hml H4 s4 t4";walk_at"g";walk_at"f d hd' H5 s5 t5";exists⟨va _,?_⟩;walk_at"f pp hpp H6 s6 t6";have aj:=s4.trans (s5.trans s6);have a6:=s3.trans aj;have BB:BkB pl nl ml d pp o [] [] ls names [] [] [] b4 H6:=by
  refine⟨⟨aj _ _ t3,s6 _ _ (s5 _ _ t4),.nil,(fun ks hk=>nomatch hk),rfl,va _,by lia,(fun x hx=>nomatch hx),lW⟩,⟨a6 _ _ el,la.mono fun c x h=>a6 _ _ h,m1⟩,s6 _ _ t5,t6,.nil,⟨rfl,rfl,(fun i f h=>by simp at h),fun i h=>uh h (Nat.not_lt_zero i)⟩,fun j N=>uh N (Nat.not_lt_zero j),va _⟩
 have SS:SpB pl nl ml pp bd []:=⟨je el hnl,je (s3 _ _ el) hml,je (s5 _ _ (s4 _ _ (s3 _ _ el))) hpp,je t3 hml,je (s5 _ _ (s4 _ _ t3)) hpp,je (s5 _ _ t4) hpp,je (y _ _ eb) hnl,je (s3 _ _ (y _ _ eb)) hml,je (s5 _ _ (s4 _ _ (s3 _ _ (y _ _ eb)))) hpp,(fun x hx=>nomatch hx)⟩
 have aR:H nl=none:=none_of y hnl;have aQ:H ml=none:=none_of (y.trans s3) hml;have aP:H d=none:=none_of (y.trans (s3.trans s4)) hd';have aS:H pp=none:=none_of (y.trans (s3.trans (s4.trans s5))) hpp;have aY:=y.trans a6;clear a6 aj t3 t4 t5 t6 el la y s3 s4 s5 s6 hnl hml hd' hpp;exists⟨_,rfl,by lia,by lia,?_⟩;refine qK (fun i σ H'=>IvE9 fun(o5 ag ah a1:Option V) (W B:List Addr) (fs:List Fn) (I:List (List Str)) (J:List Int)=>IvA5 (σ=[some (.ref a),some (.int (many:Nat)),some (.ref bd),some (.int hd),some (.ref pl),o5,o6,some (.ref nl),some (.ref ml),some (.ref d),some (.ref pp),ag,ah,a1]) (Same H H') (BkB pl nl ml d pp o W B ls names fs I J b4 H') (SpB pl nl ml pp bd B) (fs.length=i/\stN ns many hd ls names b0 b1 b2 b3 b4 i=(fs,I,J)))
  ⟨_,_,_,_,[],[],[],[],[],rfl,aY,BB,SS,rfl,rfl⟩ ?_ ?_
 ·rintro i σ H7 hi ⟨o5,ag,ah,a1,W,B,fs,I,J,rfl,y,C,S,fl,eS⟩;have aU:i<17:=by lia
  have st:=j3q (ns:=ns) (many:=many) (hd:=hd) (ls:=ls) (names:=names) (b0:=b0) (b1:=b1) (b2:=b2) (b3:=b3) (b4:=b4) i;rw[eS]at st;dsimp only at st;rw[show numN ns i=mixB (mixB (Pr.cell ns (1+(0+(i:Int)))) (1+(0+(i:Int)))) (91+(0+(i:Int)))from rfl]at st;have tl:(names.take fs.length).length=fs.length:=by rw[vi];lia
  have b8:W.length=fs.length:=C.pa.1.trans Jo;have gl:=C.dk.gl;have Ml:I.length=fs.length:=by have:=C.n.ml;lia
  have b7:B.length=fs.length:=by have:=C.n.am.1;lia
  have Z:(names.take fs.length).Nodup:=nd.sublist (take_sublist _ _);have Y:∀j,j<fs.length->1<=J.getD j 0/\J.getD j 0<=b4:=fun j N=>⟨(C.dk.g j N).1,C.gb j N⟩
  exists⟨a,ns,_,rfl,y.seq hS,a0,by lia,?_⟩;exists⟨_,_,rfl,by lia,by lia,?_⟩;exists⟨_,_,rfl,by lia,by lia,?_⟩;have nb:=YD (mixB (Pr.cell ns (1+(0+(i:Int)))) (1+(0+(i:Int)))) (91+(0+(i:Int)));generalize mixB (mixB (Pr.cell ns (1+(0+(i:Int)))) (1+(0+(i:Int)))) (91+(0+(i:Int)))=num at nb st|-;exists⟨num,nl,ml,pl,bd,B,o,ls,names.take fs.length,I,b0,b1,b2,b3,b4,rfl,C.n,C.l,⟨y _ _ eb,aC,aD,aE,aF,aG,aH,aI,aJ,am,an⟩,by lia,by lia,fun ar H8 s8 a3 L=>?_⟩;rw[tl]at L;rw[<-fl]at st;generalize formF num (names.take fs.length) I ls b0 b1 b2 b3=f0 at a3 L st;rw[fl]at st;have C8:=C.same s8;exists⟨fun σ' H'=>IvE2 fun(fa:Addr) (f:Fn)=>IvA4 (σ'=[some (.ref a),some (.int (many:Nat)),some (.ref bd),some (.int hd),some (.ref pl),some (.int (0+(i:Int))),o6,some (.ref nl),some (.ref ml),some (.ref d),some (.ref pp),some (.int num),some (.ref fa),a1]) (Same H8 H') (FormAt H' fa (toldF (names.take fs.length) f)) (PreN (nmsOf ls) (I.map (plB (nmsOf ls))) fs.length f/\lstF (decide (i=many/\hd/12%2=0)) b4 J i f0=f),?_,?_⟩
  rotate_left
  ·exists iteD (fun c=>?_) (fun c=>?_)
   ·exists iteD (fun c2=>?_) (fun c2=>?_)
    ·exists ixLm (SqL.of (s8 _ _ (y _ _ eb))) rfl ?_;exists⟨nl,d,names.take fs.length,J,b4,rfl,C8.n.en,C8.ed,Z,by lia,by lia,by lia,fun j N=>Y j (by lia),fun b H9 s9 e9 ne l5 jl=>?_⟩;rw[tl]at e9 ne l5 jl;exists⟨uf,?_⟩;walk_at"f fa hfa H10 s10 t10";walk_at"g";exact⟨fa,.row (lastF J b4 fs.length),rfl,s9.trans s10,⟨b,t10,s10 _ _ e9⟩,⟨ne,by lia,jl⟩,by unfold lstF;rw[vd (vG ⟨by lia,c2⟩),fl]⟩
    ·walk_at"g";exact⟨ar,f0,rfl,Same.refl _,a3,L,by unfold lstF;rw[vc (by simp only[decide_eq_true_eq];exact fun z=>c2 z.2)]⟩
   ·walk_at"g";exact⟨ar,f0,rfl,Same.refl _,a3,L,by unfold lstF;rw[vc (by simp only[decide_eq_true_eq];exact fun z=>c (by lia))]⟩
  rintro σ' H9 ⟨as,f1,rfl,s9,a9,M,ap⟩;rw[ap]at st;clear ap;have C9:=C8.same s9;have ak:=y.trans (s8.trans s9);clear C8 C a3 L s8 s9 y;exists⟨fun σ' H'=>IvE3 fun(fa:Addr) (f:Fn) (g:Int)=>IvA6 (σ'=[some (.ref a),some (.int (many:Nat)),some (.ref bd),some (.int hd),some (.ref pl),some (.int (0+(i:Int))),o6,some (.ref nl),some (.ref ml),some (.ref d),some (.ref pp),some (.int num),some (.ref fa),a1]) (Same H9 H') (FormAt H' fa (toldF (names.take fs.length) f)) (PreN (nmsOf ls) (I.map (plB (nmsOf ls))) fs.length f) (LenN J f g) (g<=b4/\cutF b4 J f1=f),?_,?_⟩
  rotate_left
  ·exists⟨as,d,f1,names.take fs.length,J,nmsOf ls,I.map (plB (nmsOf ls)),rfl,a9,C9.ed,Z,by lia,by rw[tl];exact M,fun j N=>by have:=Y j (by lia);lia,fun g H10 s10 lg=>?_⟩;exists ixLm (SqL.of (s10 _ _ (ak _ _ eb))) rfl ?_;exists iteD (fun c=>?_) (fun c=>?_)
   ·exists⟨uf,?_⟩;walk_at"f fa hfa H11 s11 t11";walk_at"g";exact⟨fa,.hold 1,1,rfl,s10.trans s11,t11,⟨by decide,by decide⟩,rfl,am,by unfold cutF;rw[vd (by rw[<-lg.fn M fun j N=>(Y j N).1];lia)]⟩
   ·walk_at"g";exact⟨as,f1,g,rfl,s10,FormAt.same s10 a9,M,lg,by lia,by unfold cutF;rw[vc (by rw[<-lg.fn M fun j N=>(Y j N).1];lia)]⟩
  rintro σ' H10 ⟨fa,f,g,rfl,s10,hf,a2,lg,gb,ef⟩;rw[ef]at st;have eg:=lg.fn a2 fun j N=>(Y j N).1
  have n:=C9.same s10;have ax:=ak.trans s10;clear C9 a9 M s10 ak;exists⟨.inl ⟨rfl,_,SqL.of n.n.em⟩,?_⟩;exists⟨fa,nl,ml,B,f,names.take fs.length,I,nmsOf ls,I.map (plB (nmsOf ls)),rfl,hf,n.n.en,n.n.em,n.n.am,Z,by lia,by lia,by rw[tl];exact a2,fun ks hk=>by have:=n.n.il.len hk;lia,fun l H11 s11 hl el mv kl=>?_⟩;have ay:stN ns many hd ls names b0 b1 b2 b3 b4 (i+1)=(fs++[f],I++[movF I f],J++[g]):=by rw[st,eg];rfl
  generalize movF I f=ks at el mv kl ay;exists⟨ml,_,_,rfl,rfl,s11 _ _ n.n.em,by rw[vt];lia,?_⟩;generalize O:upd H11 ml _=H12;have aK:H12 ml=some (.lst ((B++[l]).map V.ref)):=by rw[vj];exact qQ O
  have av:∀c u,c≠ml->H11 c=some u->H12 c=some u:=fun c u hc h=>O▸(jh hc).trans h
  clear O;have k2:∀c u,c≠ml->H10 c=some u->H12 c=some u:=fun c u hc h=>av c u hc (s11 _ _ h)
  have U:∀{c u},H10 c=some u->l≠c:=fun h=>(je h hl).symm
  have aq:=av _ _ (U n.n.em) el;have a4:d≠ml:=Jq n.ed n.n.em (fun z=>by cases z);have a5:d≠nl:=Jq n.ed n.n.en (fun z=>by cases z);have af:d≠pp:=Jq n.ed n.ep (fun z=>by cases z);exists⟨p,9+i,by rw[e3,show(9+(0+(i:Int)))=((9+i:Nat):Int) by lia];rfl,hp,by lia,?_⟩;exists⟨fun σ' H'=>σ'=[some (.ref a),some (.int (many:Nat)),some (.ref bd),some (.int hd),some (.ref pl),some (.int (0+(i:Int))),o6,some (.ref nl),some (.ref ml),some (.ref d),some (.ref pp),some (.int num),some (.ref fa),some (.str (names.getD fs.length ⟨#[]⟩))]/\H12=H',?_,?_⟩
  rotate_left
  ·have hz:=au i (by lia);have nk:=ng aU;rw[<-fl]at nk;exists iteD (fun c=>?_) (fun c=>?_)
   ·exists iteD (fun c2=>?_) (fun c2=>?_)
    ·have ic:i=cc:=hz.mpr ⟨by lia,c2⟩;exists⟨_,_,rfl,.inl ⟨_,SqL.of (k2 _ _ S.lm n.l.el),rfl⟩,?_⟩;rw[vt,aw];walk_at"g";rw[show(0+(i:Int))%(ls.length:Int)=((i%ls.length:Nat):Int) by rw[uz];exact(Int.natCast_emod _ _).symm];have jm:=Nat.mod_lt i (show 0<ls.length by lia);obtain⟨lk,aT,aN⟩:=n.l.la.get (vz jm);have a7:H10 lk=some (.tup [.str (ls[i%ls.length]).1,.int (ls[i%ls.length]).2]):=aN;refine ixLm (SqL.of (k2 _ _ S.lm n.l.el)) (jO (j:=i%ls.length) (by rw[vv,aT];rfl)) ?_;exists ixTm (SqT.of (k2 _ _ (Jq a7 n.n.em fun z=>by cases z) a7)) rfl ?_;exists⟨?_,rfl⟩;have ew:(ls[i%ls.length]).1=wdB p (i%ls.length):=by
      have h1:(nmsOf ls)[i%ls.length]?=some (ls[i%ls.length]).1:=by unfold nmsOf;rw[vv,vz jm];rfl
      rw[nm,j2G jm]at h1;exact(vL h1).symm
     rw[nk,fl];unfold ixB;rw[vd ic,ew]
    ·exists⟨?_,rfl⟩;rw[nk,fl];unfold ixB;rw[vc (fun z=>c2 (hz.mp z).2)]
   ·exists⟨?_,rfl⟩;rw[nk,fl];unfold ixB;rw[vc (fun z=>c (by have:=(hz.mp z).1;lia))]
  rintro σ' aZ ⟨rfl,rfl⟩;exists⟨.inl ⟨rfl,_,SqL.of (k2 _ _ S.nm n.n.en)⟩,?_⟩;exists⟨nl,_,_,rfl,rfl,k2 _ _ S.nm n.n.en,by rw[vt];lia,?_⟩;generalize O:upd H12 nl _=H13;have a8:H13 nl=some (.lst ((names.take (fs.length+1)).map V.str)):=by
   rw[take_snoc (show names[fs.length]?=some (names.getD fs.length ⟨#[]⟩) by rw[vy,vz (by lia)];rfl),vj];exact qQ O
  have aa:∀c u,c≠nl->H12 c=some u->H13 c=some u:=fun c u hc h=>O▸(jh hc).trans h
  clear O;have al:atI ((names.take (fs.length+1)).map V.str) (0+(i:Int))=some (.str (names.getD fs.length ⟨#[]⟩)):=by
   rw[<-fl,uz];refine jO ?_;rw[vv,ut (by lia),vy,vz (by lia)];rfl
  have k3:∀c u,c≠ml->c≠nl->H10 c=some u->H13 c=some u:=fun c u h1 h2 h=>aa c u h2 (k2 c u h1 h)
  exists⟨.inl ⟨rfl,_,SqL.of (k3 _ _ S.mp.symm S.np.symm n.ep)⟩,?_⟩;exists ixLm (SqL.of a8) (al) ?_;exists⟨uf,?_⟩;walk_at"f c hc H14 s14 t14";exists⟨pp,_,_,rfl,rfl,s14 _ _ (k3 _ _ S.mp.symm S.np.symm n.ep),by rw[vt];lia,?_⟩;generalize O:upd H14 pp _=H15;have aL:H15 pp=some (.lst ((W++[c]).map V.ref)):=by rw[vj];exact qQ O
  have X:∀c u,c≠pp->H14 c=some u->H15 c=some u:=fun c u hc h=>O▸(jh hc).trans h
  clear O;have k4:∀c u,c≠ml->c≠nl->c≠pp->H10 c=some u->H15 c=some u:=fun c u h1 h2 h3 h=>X c u h3 (s14 _ _ (k3 c u h1 h2 h))
  have kt:∀c xs,H10 c=some (.tup xs)->H15 c=some (.tup xs):=fun c xs h=>k4 c _ (Jq h n.n.em fun z=>by cases z) (Jq h n.n.en fun z=>by cases z) (Jq h n.ep fun z=>by cases z) h
  have aW:c≠pp:=(je (k3 _ _ S.mp.symm S.np.symm n.ep) hc).symm;exists⟨fa,d,f,names.take fs.length,J,nmsOf ls,I.map (plB (nmsOf ls)),rfl,FormAt.keep kt hf,k4 _ _ a4 a5 af n.ed,Z,by lia,by rw[tl];exact a2,fun j N=>by have:=Y j (by lia);lia,fun g' aB ai aV=>?_⟩;obtain rfl:=lg.uniq aV;exists ixLm (SqL.of (ai _ _ (X _ _ S.np (s14 _ _ a8)))) (al) ?_;refine⟨d,_,rfl,DPut.k (k:=Sum.inr (names.getD fs.length ⟨#[]⟩)) (ai _ _ (k4 _ _ a4 a5 af n.ed)) (by rw[j0O (by lia)];lia),?_⟩;have xn:names.getD fs.length ⟨#[]⟩∉names.take fs.length:=fun z=>by
   obtain⟨j,N,e⟩:=mem_iff_getElem.mp z;rw[getElem_take]at e;have jl:j<fs.length:=by rw[tl]at N;exact N
   have e2:names[j]?=some (names.getD fs.length ⟨#[]⟩):=by rw[vz (by lia),e]
   have e3:names[fs.length]?=some (names.getD fs.length ⟨#[]⟩):=by rw[vy,vz (by lia)];rfl
   have:=Jg nd e2;have:=Jg nd e3;lia
  rw[j0P (by lia) xn];generalize O:upd aB d _=H17;have aM:H17 d=some (.dK (knK (names.take (fs.length+1)) (J++[g]))):=by
   rw[take_snoc (show names[fs.length]?=some (names.getD fs.length ⟨#[]⟩) by rw[vy,vz (by lia)];rfl)];exact qQ O
  have R:∀c u,c≠d->H15 c=some u->H17 c=some u:=fun c u hc h=>O▸(jh hc).trans (ai _ _ h)
  clear O;have aA:=n.add (fa:=fa) (l:=l) (c:=c) (f:=f) (ks:=ks) (g:=g) (H':=H17) S (by rw[<-wv a2];exact hf) a2 mv lg gb an (by lia) (by lia) nW (fun x u h1 h2 h3 h4 h=>R _ _ h4 (k4 _ _ h1 h2 h3 h)) (R _ _ a4.symm (X _ _ S.mp (s14 _ _ (aa _ _ S.nm.symm aK)))) (R _ _ (U n.ed) (X _ _ (U n.ep) (s14 _ _ (aa _ _ (U n.n.en) aq)))) (R _ _ a5.symm (X _ _ S.np (s14 _ _ a8))) (R _ _ af.symm aL) (R _ _ (Jq t14 (s14 _ _ (k3 _ _ a4 a5 n.ed)) fun z=>by cases z) (X _ _ aW t14)) aM;exact⟨_,_,_,_,W++[c],B++[l],fs++[f],I++[ks],J++[g],rfl,fun x u h=>R _ _ (je h aP) (k4 _ _ (je h aQ) (je h aR) (je h aS) (ax _ _ h)),aA,S.add ⟨U n.n.en,U n.n.em,U n.ep⟩,by rw[vn,fl];rfl,ay⟩
 rintro σ' H7 ⟨o5,ag,ah,a1,W,B,fs,I,J,rfl,y,C,S,fl,eS⟩
 replace fl:fs.length=many+1:=by lia
 have eF:(stN ns many hd ls names b0 b1 b2 b3 b4 (many+1)).1=fs:=by
  rw[show many+1=((many:Int)+1).toNat by lia,eS]
 rw[eF]at q;have gl:=C.dk.gl;have tl:(names.take fs.length).length=fs.length:=by rw[vi];lia
 have Z:(names.take fs.length).Nodup:=nd.sublist (take_sublist _ _);exists⟨uf,?_⟩;walk_at"f b hbb H8 s8 t8";have C8:=C.same s8;exists ixLm (SqL.of C8.n.en) (zx (j:=many) (by lia)) ?_;have g:=DGet.k (k:=Sum.inr ((names.take fs.length).getD many ⟨#[]⟩)) C8.ed;rw[Yz Z (by lia) (by lia)]at g;refine⟨d,_,rfl,g,?_⟩;exists⟨uf,?_⟩;walk_at"f r hr' H9 s9 t9";exact q r b pl pp o W names ls fs _ J H9 (y.trans (s8.trans s9)) (by rw[show fs.length-1=many by lia];exact t9) ((C8.book t8).same s9) C.dk (C.dk.sn C.fl nd ab (by lia) (by lia) (by lia) lh) fl nL nd nW m1 (by lia) ab lW S.lp C.gb rfl
theorem Kd(T:Txt K mg t):FnOk P w K mg base CX0 1 t.qx t.qz ["_law_form_here","_law_heights"] (sp_climbR):=by
 specialize T.Qh.F.ok qi;obtain⟨fa,y,L,x,v,n,h,rfl,r,I,U,⟨a,f⟩,l8,v0,v1,n1,a0,q⟩:=h;refine⟨_,(jb (jr (i:=2) qi.nd rfl (.inl rfl) (jK jc))
  (jb (jr (i:=3) qi.nd rfl (.inl rfl) (JK (J1 hr) (pv 1) (jo jz (pv 0) jd)))
  (jb (Jd PassesOwn.never rfl (JY (by rfl) T.qY (ja (jq jS (jo jz (pv 0) jd) jd) jc)) (jw (i:=4) qi.nd rfl (.inl rfl))
   (jb (jr (i:=5) qi.nd rfl (.inl rfl) (Jy KE (by rfl) T.yQ Zj (ja (pv 1) jc)))
   (jb (zE (J1 hr) (pv 5) (jo jz (pv 0) jd) (jq jS (pv 3) (jq j2 (jq Jv (jq Jt (jo jz (pv 0) jd) (pv 3)) (pv 4)) (jo jz (pv 0) jd))) rfl)
   (jg (Jb (qh PySem.F.plainAttrs_list PySem.F.slot_list_append PySem.F.type_list_append jV (pv 2) (ja (jN (ja (pv 5) (ja (jK jc) jc))) jc)))))))
  (jg (jB (xt (jN (ja (zn Kt (pv 2) Zt (Zu (Z8 zq jd))) (ja (jo jz (jo jv (pv 2) (Z8 zq jd)) jd) jc))))))))),?_⟩
 refine jE (σ':=[some _,some _,none,none,none,none]) rfl ?_
 try dsimp only[cxOf,Cx.nox]
 have sz:(200:Nat)<sizeLine:=by decide
 have Q:=I.1;have hb:=I.2.1;have g:=Jg U f;have il:=(vx.mp f).1;have gb:=hb.getD a;exists⟨va _,?_⟩;walk_at"f rl hrl H1 s1 t1";exists ixTm (SqT.of (s1 _ _ r)) rfl ?_;refine⟨y,_,rfl,(I.same s1).get U f,?_⟩;exists ixTm (SqT.of (s1 _ _ r)) rfl ?_;exists⟨_,rfl,by lia,by lia,?_⟩;refine qK (fun i σ E=>IvE4 fun(X Y:Option V) (m b:List Addr)=>σ=[some (.ref fa),some (.ref y),some (.ref rl),some (.int (h.getD a 0)),X,Y]/\RwO H L rl E m b (riseR L x v n h i)) ⟨_,_,[],[],rfl,RwO.nil s1 hrl t1⟩ ?_ ?_
 ·rintro i σ E hi ⟨X,Y,m,b,rfl,R⟩;have M:=R.s;have l1:=R.l1;have A:(riseR L x v n h i).length=i:=by unfold riseR;rw[vt,length_range]
  walk_at"g";obtain⟨_,_,o,eo⟩:=I.same M;refine⟨y,_,rfl,.inr ⟨o,eo⟩,?_⟩;walk_at"f d hd' H2 s2 t2";exists ixTm (SqT.of (s2 _ _ (M _ _ r))) rfl ?_;exists ixTm (SqT.of (s2 _ _ (M _ _ r))) rfl ?_;exists ixTm (SqT.of (s2 _ _ (M _ _ r))) rfl ?_;have kl:(knK L h).length=L.length:=by unfold knK;rw[vt,length_zip,Q,Nat.min_self]
  refine⟨d,_,rfl,DPut.k (k:=Sum.inr x) t2 (by lia),?_⟩;rw[j0Q U Q.symm f];have J:Same E (upd H2 d (.dK (knK L (h.set a (h.getD a 0+(v-h.getD a 0)*(0+(i:Int))/n))))):=fun c u hc=>(jh (je hc hd')).trans (s2 _ _ hc)
  have Z:upd H2 d (.dK (knK L (h.set a (h.getD a 0+(v-h.getD a 0)*(0+(i:Int))/n)))) d=_:=jG;generalize upd H2 d _=H3 at J Z|-;exists⟨.inl ⟨rfl,_,SqL.of (J _ _ R.e)⟩,?_⟩;exists⟨va _,?_⟩;walk_at"f w hw H4 s4 t4";exists⟨uf,?_⟩;walk_at"f c hc H5 s5 t5";have C:=s4.trans s5;have B:=J.trans C;exists⟨rl,_,_,rfl,rfl,B _ _ R.e,by rw[vt];lia,?_⟩;rw[uz]at Z;have rb:=xz gb ⟨v0,v1⟩ n1 (j:=(i:Int)) (by lia) (by lia);have R':=R.push (h:=h.set a (h.getD a 0+(v-h.getD a 0)*(i:Int)/n)) (W:=[]) B hd' (C _ _ Z) (by rw[length_set,Q]) (hb.set rb) (none_of J hw) (s5 _ _ t4) t5;refine⟨_,_,m++[d],b++[c],rfl,?_⟩;have O:riseR L x v n h (i+1)=riseR L x v n h i++[(h.set a (h.getD a 0+(v-h.getD a 0)*(i:Int)/n),[])]:=by
   unfold riseR;rw[range_succ,vj,g];rfl
  rw[O];rw[vj]at R';exact R'
 ·rintro σ E ⟨X,Y,m,b,rfl,R⟩;have nn:(n+1).toNat=n.toNat+1:=by lia
  rw[nn]at R;have A:(riseR L x v n h (n.toNat+1)).length=n.toNat+1:=by unfold riseR;rw[vt,length_range]
  have l1:=R.l1;have l2:=R.l2;obtain⟨dl,z⟩:∃dl,m[n.toNat]?=some dl:=⟨_,vz (by lia)⟩
  obtain⟨cl,s⟩:∃cl,b[n.toNat]?=some cl:=⟨_,vz (by lia)⟩
  have hx:(riseR L x v n h (n.toNat+1))[n.toNat]?=some (h.set a v,[]):=by
   unfold riseR;rw[vv,List.getElem?_range (by lia),g];show some (h.set a (Rp.ramp (h.getD a 0) v n ((n.toNat:Nat):Int)),[])=_;rw[show((n.toNat:Nat):Int)=n by lia];unfold Rp.ramp;rw[Int.mul_ediv_cancel _ (by lia)];congr 2;congr 1;lia
  obtain⟨wl,_,N,_⟩:=R.a _ _ _ _ z s hx;exists xA ?_;exists⟨rl,_,rfl,SqL.of R.e,?_⟩;rw[xU (n:=n.toNat) (by rw[vt];lia),<-map_take];walk_at"f l hl' H6 s6 t6";exists ixLm (SqL.of (s6 _ _ R.e)) (WI (n:=n.toNat+1) (by lia) (by rw[vt];lia) (by rw[vv,Nat.add_sub_cancel,s];rfl)) ?_;exists ixTm (SqT.of (s6 _ _ N)) rfl ?_;exists⟨uf,?_⟩;walk_at"f p hp H7 s7 t7";have D:=s6.trans s7;refine⟨m,R.nd,fun d y=>?_,fun H8 fz=>?_⟩
  ·obtain⟨S,e⟩:=R.opn y;exact⟨S,D _ _ e⟩
  ·obtain⟨k1,k2⟩:=R.run D (s7 _ _ t6) t7 z hx fz;have O:(riseR L x v n h (n.toNat+1)).take n.toNat=riseR L x v n h n.toNat:=by
    unfold riseR;rw[<-map_take,List.take_range,Nat.min_eq_left (by lia)]
   rw[O]at k2;refine q p H8 k1 ?_;rw[g];exact k2
theorem KY{rd rl:Nat}(T:Txt K mg t)(hrl:1<=rl)(Qb:FnOk P w K mg base CX0 rl t.qy t.qA ["_law_book_here","_law_name","_law_heights"] (sp_runR rd)):FnOk P w K mg base CX0 (rl+1) t.zK t.zM ["_law_book_here","_law_names","_law_heights"] (sp_besideR rd):=by
 specialize T.QF.F.ok jZ;obtain⟨b,pl,pp,Y,nb,aB,aD,f,a,fs,M,gs,E,h,k,is,rfl,B,X,hf,en,jm,Hh,q⟩:=h;refine⟨_,(jb (YL (i:=3) (ow:=["_law_name"]) (ci:=[0,2]) rfl (CompScope.of (defScope qT) ["_law_book_here","_law_names","_law_heights","_law_runs","_law_rows","_law_j","_law_now","_law_words","_law_some","_law_behind","_law_there","_law_limb"] rfl rfl (by decide +kernel)) (JR (by decide)) jZ.nd rfl (.inl rfl) (xv (pv 1)) (fun _ _ _ _ _=>⟨(jw (i:=0) (JU ["_law_book_here","_law_names","_law_heights","_law_runs","_law_rows","_law_j","_law_now","_law_words","_law_some","_law_behind","_law_there","_law_limb"] rfl (by decide +kernel)) rfl (.inl rfl)),Qq,(YG Qb hr (by rfl) T.J2.m T.J2.F.kp T.J2.B .nil pass0 (ja (pv 1) (ja (pv 0) (ja (pv 2) jc))))⟩))
  (jb (jr (i:=4) jZ.nd rfl (.inl rfl) (jK jc))
  (jb (Jd PassesOwn.never rfl (JY (by rfl) T.qY (ja (jq jS jd (jD (Y6 rfl) (by rfl) T.wR Y4 (ja (qN (ow:=["_law_run_here"]) (ci:=[]) rfl (CompScope.of (defScope qT) ["_law_book_here","_law_names","_law_heights","_law_runs","_law_rows","_law_j","_law_now","_law_words","_law_some","_law_behind","_law_there","_law_limb"] rfl rfl (by decide +kernel)) (JR (by decide)) (Jh (pv 3)) (fun _ _ _ _ _=>⟨(jw (i:=0) (JU ["_law_book_here","_law_names","_law_heights","_law_runs","_law_rows","_law_j","_law_now","_law_words","_law_some","_law_behind","_law_there","_law_limb"] rfl (by decide +kernel)) rfl (.inl rfl)),Qq,(jD (wW (K:=K) rfl) (by rfl) T.JT Jj (ja (jo (Kk (K:=K) rfl) (pv 0) jd) jc))⟩)) jc))) jc)) (jw (i:=5) jZ.nd rfl (.inl rfl))
   (jb (jr (i:=6) jZ.nd rfl (.inl rfl) (Jy KE (by rfl) T.yQ Zj (ja (pv 2) jc)))
   (jb (jr (i:=7) jZ.nd rfl (.inl rfl) (jK jc))
   (jb (Jd PassesOwn.never rfl (Jh (pv 3)) (Qc rfl (jL (jw (i:=8) jZ.nd rfl (.inl rfl)) (jL (jw (i:=9) jZ.nd rfl (.inl rfl)) J3)))
    (jb (jr (i:=10) jZ.nd rfl (.inl rfl) (pv 9))
    (jb (qC (jt Z5 (pv 5) (jD jW (by rfl) T.JT Jj (ja (pv 8) jc)) (nomark _))
     (jb (jr (i:=10) jZ.nd rfl (.inl rfl) (jo jz (jo jv (pv 8) (pv 5)) jd))
     (jg (jr (i:=7) jZ.nd rfl (.inl rfl) (jq Zr (pv 7) (jo jz (jo jv (pv 8) (pv 5)) jd)))))
     jA)
    (jg (Jd PassesOwn.never rfl (j12 (pv 2)) (jw (i:=11) jZ.nd rfl (.inl rfl))
     (jg (j3 (jt j4x (JK (J1 hr) (pv 10) (pv 11)) (JK (J1 hr) (pv 2) (pv 11)) (nomark _))
      (jg (zE (J1 hr) (pv 6) (pv 11) (JK (J1 hr) (pv 10) (pv 11)) rfl))
      jA)))))))
   (jg (Jb (qh PySem.F.plainAttrs_list PySem.F.slot_list_append PySem.F.type_list_append jV (pv 4) (ja (jN (ja (pv 6) (ja (pv 7) jc))) jc))))))))
  (jg (jB (xt (jN (ja (zn Kt (pv 4) Zt (Zu (Z8 zq jd))) (ja (jo jz (jo jv (pv 4) (Z8 zq jd)) jd) jc))))))))),?_⟩
 refine jE (σ':=[some _,some _,some _,none,none,none,none,none,none,none,none,none]) rfl ?_
 try dsimp only[cxOf,Cx.nox]
 have sz:(50000:Nat)<sizeLine:=by decide
 have hk:=(vx.mp hf).1;have aJ:=X.f17;obtain⟨aE,_,ln⟩:=X.D.f k _ hf;obtain⟨i2,i8,a7,_⟩:=aE;obtain⟨⟨jx,az,aI⟩,ai⟩:=ln;have gk:=X.D.g k hk;have aH:=X.g90 k hk;have hl:=Hh.1;have ay:fs.length<=61:=by lia
 have gj:∀j∈is,1<=gs.getD j 0/\gs.getD j 0<=90:=fun j L=>⟨(X.D.g j (by have:=a7 j L;lia)).1,X.g90 j (by have:=a7 j L;lia)⟩
 exists⟨nb,rfl,⟨_,SqT.of en⟩,?_⟩;refine Yr (xs:=is.map fun j=>V.str (a.getD j ⟨#[]⟩)) (fun i ys A=>IvE1 fun(rs:List Addr)=>IvA2 (ys=rs.map V.ref) (Same H A/\All2 (fun r j=>RunA A (nmsOf f) r (runR (nmsOf f) a fs gs E j h) (setE (E.getD j []) h)) rs (is.take i))) ⟨[],rfl,Same.refl _,.nil⟩ ?_ ?_ ?_
 ·rintro i ys A _ ⟨rs,rfl,S,al⟩;exact SqT.of (S _ _ en)
 ·rintro i v ys A hv ⟨rs,rfl,S,al⟩;rw[vv]at hv;obtain⟨j,L,rfl⟩:=vg.mp hv;have N:=vm L;have a8:=al.1;rw[vi]at a8;refine qa (σ':=[none,some (.ref b),some (.ref Y)]) rfl ?_;exists iteT ?_;exists⟨b,pl,pp,Y,aB,aD,f,a,fs,M,gs,E,h,j,rfl,B.same S,X,by have:=a7 j N;lia,jm j N,Hh.same S,fun r H2 s2 RA=>?_⟩;refine⟨by rw[vt];lia,rs++[r],by rw[vj];rfl,S.trans s2,?_⟩;rw[take_snoc L];exact(al.mono fun r j=>RunA.same s2).snoc RA
 rintro ys H2 ⟨rs,rfl,aG,al⟩;rw[vt,v3]at al;have a8:=al.1;refine⟨by rw[vt];lia,?_⟩;walk_at"f pr hpr H3 s3 t3";have ah:=al.mono fun r j=>RunA.same s3
 have ar:=aG.trans s3;have ac:=Hh.same ar;clear al;exists⟨va _,?_⟩;walk_at"f rl hrl H4 s4 t4";exists⟨pr,rfl,⟨_,SqL.of (s4 _ _ t3)⟩,?_⟩;refine qm (xs:=rs.map V.ref) (fun i ys A=>ys=((is.take i).map fun j=>gs.getD j 0).map V.int/\H4=A) ⟨rfl,rfl⟩ ?_ ?_ ?_
 ·rintro i ys A _ ⟨rfl,rfl⟩;exact SqL.of (s4 _ _ t3)
 ·rintro i v ys A hv ⟨rfl,rfl⟩;obtain⟨r,j,rfl,L,k1⟩:=ah.at_ref hv;obtain⟨ad,a6,ap,k1,k2,k3,k4⟩:=k1;have N:=vm L;have g:=gj j N;refine qa (σ':=[none]) rfl ?_;exists iteT ?_;exists ixTm (SqT.of (s4 _ _ k1)) rfl ?_;exists⟨_,_,rfl,.inl ⟨_,SqL.of (s4 _ _ k2),rfl⟩,?_⟩;refine⟨by rw[vt,vt,vi];lia,?_,rfl⟩;have l3:=k3.1;rw[JE]at l3;rw[take_snoc L,vj,vj,vt,l3,show(((gs.getD j 0).toNat:Nat):Int)=gs.getD j 0 by lia];rfl
 rintro ys A ⟨rfl,rfl⟩;rw[show(rs.map V.ref).length=is.length from(vt _).trans a8,v3];refine⟨by rw[vt,vt];lia,?_⟩;walk_at"f pm hpm H5 s5 t5";exists⟨pm,_,rfl,SqL.of t5,by rw[vt];lia,fun m hm mx=>?_⟩;have em:m=gs.getD k 0:=by
  obtain⟨j,L,rfl⟩:=vK.mp hm;have a1:=ai j L;have a2:=mx (gs.getD jx 0) (vK.mpr ⟨jx,az,rfl⟩);lia
 subst em;exists⟨_,rfl,by lia,by lia,?_⟩;refine qK (fun i Q A=>IvE9 fun(o5 o6 o7 o8 o9 J s:Option V) (ds a0:List Addr)=>Q=[some (.ref b),some (.ref nb),some (.ref Y),some (.ref pr),some (.ref rl),o5,o6,o7,o8,o9,J,s]/\RwO H3 (nmsOf f) rl A ds a0 (sideR (nmsOf f) a fs gs E k h i)) ⟨_,_,_,_,_,_,_,[],[],rfl,RwO.nil (s4.trans s5) hrl (s5 _ _ t4)⟩ ?_ ?_
 ·rintro i Q H6 hi ⟨o5,o6,o7,o8,o9,J,s,ds,a0,rfl,R⟩;have S:=R.s;have l1:=R.l1;have aq:(sideR (nmsOf f) a fs gs E k h i).length=i:=by unfold sideR;rw[vt,length_range]
  obtain⟨_,hb,o,eo⟩:=ac.same S;exists⟨Y,_,rfl,.inr ⟨o,eo⟩,?_⟩;walk_at"f d hd7 H7 s7 t7";exists⟨va _,?_⟩;walk_at"f w0 hw0 H8 s8 t8";have as:=s7.trans s8;rw[uz];exists⟨pr,rfl,⟨_,SqL.of (as _ _ (S _ _ t3))⟩,?_⟩;refine JW (xs:=rs.map V.ref) (fun u Q A=>IvE7 fun(o8 o9 J s:Option V) (w:Addr) (W:List Str) (F:List Int)=>IvA7 (Q=[some (.ref b),some (.ref nb),some (.ref Y),some (.ref pr),some (.ref rl),some (.int (i:Nat)),some (.ref d),some (.ref w),o8,o9,J,s]) (Same H6 A) (A d=some (.dK (knK (nmsOf f) F))) (H6 w=none) (A w=some (.lst (W.map V.str))) (W.length<=5000*u) (F=((is.take u).map (cutT gs (i:Int))).foldl (fun h x=>plN (nmsOf f) a fs gs E x.1 x.2 h) h/\W=((is.take u).map (cutT gs (i:Int))).flatMap fun x=>rgN a fs gs x.1 x.2))
   ⟨_,_,_,_,w0,[],h,rfl,as,s8 _ _ t7,none_of s7 hw0,t8,va _,rfl,rfl⟩ ?_ ?_ ?_
  ·rintro u Q A _ ⟨o8,o9,J,s,w,W,F,rfl,D,_⟩;exact SqL.of (D _ _ (S _ _ t3))
  ·rintro u v Q H9 hv ⟨o8,o9,J,s,w,W,F,rfl,D,ed,nw,ew,wl,eF,eW⟩;obtain⟨r,j,rfl,L,RA⟩:=ah.at_ref hv;have N:=vm L;have ul:=(vx.mp L).1;have jf:j<fs.length:=by have:=a7 j N;lia
   have g:=gj j N;have aF:=S.trans D;obtain⟨ad,a6,ap,k1,k2,k3,k4⟩:=RA.same aF;have l3:=k3.1;rw[JE]at l3;have fl:F.length=(nmsOf f).length:=by
    rw[eF,<-hl];exact Wg
   refine QC (SqT.of k1) ?_;exists⟨fun σ' A=>IvE2 fun(w' th:Addr)=>IvA6 (σ'=[some (.ref b),some (.ref nb),some (.ref Y),some (.ref pr),some (.ref rl),some (.int (i:Nat)),some (.ref d),some (.ref w'),some (.ref ad),some (.ref a6),some (.ref th),s]) (Same H6 A) (A d=some (.dK (knK (nmsOf f) F))) (H6 w'=none) (A w'=some (.lst ((W++rgN a fs gs (cutT gs (i:Int) j).1 (cutT gs (i:Int) j).2).map V.str))) ((W++rgN a fs gs (cutT gs (i:Int) j).1 (cutT gs (i:Int) j).2).length<=5000*(u+1)/\HtA A (nmsOf f) th (plN (nmsOf f) a fs gs E (cutT gs (i:Int) j).1 (cutT gs (i:Int) j).2 h)),?_,?_⟩
   rotate_left
   ·exists⟨_,_,rfl,.inl ⟨_,SqL.of k2,rfl⟩,?_⟩;rw[vt];exists iteD (fun c=>?_) (fun c=>?_)
    ·have c:(i:Int)<gs.getD j 0:=by lia
     rw[j3N c];obtain⟨ra,an,dd,ww,n1,n2,n3⟩:=k3.get (zF c);have n3:H9 ww=some (.lst ((rgN a fs gs j (i:Int)).map V.str)):=n3;have wj:=X.w j (i:Int) jf (by lia);exists ixLm (SqL.of k2) (jO (j:=i) (by rw[vv,an];rfl)) ?_;exists ixTm (SqT.of n1) rfl ?_;exists ixLm (SqL.of k2) (jO (j:=i) (by rw[vv,an];rfl)) ?_;exists ixTm (SqT.of n1) rfl ?_;refine⟨w,ww,_,_,rfl,rfl,ew,n3,by rw[vt,vt];lia,?_⟩;walk_at"f w2 hw2 H10 s10 t10";walk_at"g";exact⟨w2,dd,rfl,D.trans s10,s10 _ _ ed,none_of D hw2,by rw[t10,vj],by show(W++rgN a fs gs j (i:Int)).length<=_;rw[vn];lia,n2.same s10⟩
    ·have c:gs.getD j 0<=(i:Int):=by lia
     rw[j3M c];exists⟨w,a6,rfl,D,ed,nw,?_,?_,?_⟩
     ·rw[yz g.1,append_nil];exact ew
     ·rw[yz g.1,append_nil];lia
     ·rw[Qr];exact k4
   rintro σ' H10 ⟨w',th,rfl,ab,ed,aC,a5,av,HT⟩;have e1:(cutT gs (i:Int) j).1=j:=by unfold cutT;split<;>rfl
   have ag:=j22 X hf (h:=h) (t:=(i:Int)) L;rw[<-eF]at ag;rw[e1]at HT;have mr:=fun {q:Nat} (Z:q<(nmsOf f).length)=>j4W X jf (t:=(cutT gs (i:Int) j).2) ag hl Z
   have ao:((is.take (u+1)).map (cutT gs (i:Int))).foldl (fun h x=>plN (nmsOf f) a fs gs E x.1 x.2 h) h=plN (nmsOf f) a fs gs E j (cutT gs (i:Int) j).2 F:=by
    rw[take_snoc L,vj,foldl_append,<-eF];show plN _ _ _ _ _ (cutT gs (i:Int) j).1 _ _=_;rw[e1]
   have aw:W++rgN a fs gs (cutT gs (i:Int) j).1 (cutT gs (i:Int) j).2=((is.take (u+1)).map (cutT gs (i:Int))).flatMap fun x=>rgN a fs gs x.1 x.2:=by
    rw[take_snoc L,vj,List.flatMap_append,<-eW];simp
   rw[aw]at a5 av;generalize hG:plN (nmsOf f) a fs gs E j (cutT gs (i:Int) j).2 F=G at mr ao;generalize plN (nmsOf f) a fs gs E j (cutT gs (i:Int) j).2 h=tv at HT mr;have Gl:G.length=(nmsOf f).length:=by rw[<-hG,kD,fl]
   obtain⟨_,_,o',a4⟩:=ac.same (S.trans ab);exists XF ?_;exists⟨Y,o',_,rfl,a4,?_⟩;refine j2t (fun v Q A=>IvE2 fun(s:Option V) (U:List Int)=>IvA6 (Q=[some (.ref b),some (.ref nb),some (.ref Y),some (.ref pr),some (.ref rl),some (.int (i:Nat)),some (.ref d),some (.ref w'),some (.ref ad),some (.ref a6),some (.ref th),s]) (Same H6 A) (∀c u,c≠d->H10 c=some u->A c=some u) (A d=some (.dK (knK (nmsOf f) U))) (U.length=(nmsOf f).length) (∀q,q<(nmsOf f).length->U.getD q 0=if q<v then G.getD q 0 else F.getD q 0))
    ⟨_,F,rfl,ab,fun c u _ h=>h,ed,fl,fun q _=>by rw[vc (Nat.not_lt_zero _)]⟩ ?_ ?_ ?_
   ·rintro v Q A _ ⟨s,U,rfl,C,kp,_⟩;exact kp _ _ (fun z=>by rw[z,ed]at a4;cases a4) a4
   ·rintro v qv Q ae Z ⟨s,U,rfl,C,kp,I,O,a3⟩;have kk:=zj (nm:=nmsOf f) (gs:=h) hl.symm;have vl:v<(nmsOf f).length:=by
     have:=(vx.mp Z).1;have e2:=congrArg List.length kk;rw[vt,vt]at e2;lia
    obtain⟨y,hy⟩:∃y,(nmsOf f)[v]?=some y:=⟨_,vz vl⟩
    have ek:qv.1=Sum.inr y:=by
     have e1:((knK (nmsOf f) h).map (·.1))[v]?=some qv.1:=by rw[vv,Z];rfl
     rw[kk,vv,hy]at e1;exact(vL e1).symm
    rw[ek];show gName 11 (.str y) _ _ _;have a9:HtA ae (nmsOf f) th tv:=by
     obtain⟨a1,a2,o2,e2⟩:=HT;exact⟨a1,a2,o2,kp _ _ (fun z=>by rw[z,ed]at e2;cases e2) e2⟩
    have af:=ac.same (S.trans C);have kl:(knK (nmsOf f) U).length<=8:=by
     have e2:=congrArg List.length (zj (nm:=nmsOf f) (gs:=U) O.symm);rw[vt,vt]at e2;have:=X.l8;lia
    have mq:∀{q:Nat},q<(nmsOf f).length->G.getD q 0=if tv.getD q 0≠h.getD q 0 then tv.getD q 0 else F.getD q 0:=fun {q} Z=>by
     rw[vy,mr Z];rfl
    exists⟨th,_,rfl,a9.get X.lnd hy,?_⟩;exists⟨Y,_,rfl,af.get X.lnd hy,?_⟩;exists iteN (fun c=>?_) (fun c=>?_)
    ·exists⟨th,_,rfl,a9.get X.lnd hy,?_⟩;exists⟨d,_,rfl,DPut.k (k:=Sum.inr y) I (by lia),?_⟩;rw[j0Q X.lnd O.symm hy];refine⟨_,U.set v (tv.getD v 0),rfl,fun c u hc=>(jh (je hc hd7)).trans (C _ _ hc),fun c u hc h=>(jh hc).trans (kp c u hc h),jG,by rw[length_set,O],fun q Z=>?_⟩;by_cases z:v=q
     ·subst z;rw[vy,List.getElem?_set_self (by lia),vd (Nat.lt_succ_self _),mq Z,vd c];rfl
     ·rw[vy,List.getElem?_set_ne z,<-vy,a3 q Z];by_cases z2:q<v
      ·rw[vd z2,vd (by lia)]
      ·rw[vc z2,vc (by lia)]
    ·exists⟨_,U,rfl,C,kp,I,O,fun q am=>?_⟩;rw[a3 q am];by_cases z:q=v
     ·subst z;rw[vc (Nat.lt_irrefl _),vd (Nat.lt_succ_self _),mq am,vc (fun z=>z c)]
     ·by_cases z2:q<v
      ·rw[vd z2,vd (by lia)]
      ·rw[vc z2,vc (by lia)]
   ·rintro Q ae ⟨s,U,rfl,C,kp,I,O,a3⟩;have kk:=congrArg List.length (zj (nm:=nmsOf f) (gs:=h) hl.symm);rw[vt,vt]at kk;have eG:U=G:=j2q O Gl fun q Z=>by rw[a3 q Z,vd (by lia)]
    rw[eG]at I;exact⟨_,_,_,_,w',_,G,rfl,C,I,aC,kp _ _ (fun z=>by rw[z,ed]at a5;cases a5) a5,av,ao.symm,rfl⟩
  ·rintro Q H9 ⟨o8,o9,J,s,w,W,F,rfl,D,ed,nw,ew,wl,eF,eW⟩;rw[show(rs.map V.ref).length=is.length from(vt _).trans a8]at eF eW wl;rw[v3]at eF eW;obtain⟨c1,c2⟩:=j1W X hf h (t:=(i:Int)) (by lia) (by lia);rw[<-c1]at eF;rw[<-c2]at eW;subst eF;subst eW;have pb:=j5a X.D X.hnm X.nd X.lnd X.l8 ay X.e (vb _) (j:=k) (t:=(i:Int)) hk (by lia) hb;exists⟨.inl ⟨rfl,_,SqL.of (D _ _ R.e)⟩,?_⟩;exists⟨uf,?_⟩;walk_at"f c hc H10 s10 t10";have aa:=D.trans s10;exists⟨rl,_,_,rfl,rfl,aa _ _ R.e,by rw[vt];lia,?_⟩;have R':=R.push aa hd7 (s10 _ _ ed) (kD.trans hl) pb nw (s10 _ _ ew) t10;refine⟨_,_,_,_,_,_,_,ds++[d],a0++[c],rfl,?_⟩;have er:sideR (nmsOf f) a fs gs E k h (i+1)=sideR (nmsOf f) a fs gs E k h i++[(plN (nmsOf f) a fs gs E k (i:Int) h,rgN a fs gs k (i:Int))]:=by
    unfold sideR;rw[range_succ,vj];rfl
   rw[er];rw[vj]at R';exact R'
 ·rintro Q H6 ⟨o5,o6,o7,o8,o9,J,s,ds,a0,rfl,R⟩;have nn:(1+gs.getD k 0).toNat=(gs.getD k 0).toNat+1:=by lia
  rw[nn]at R;have aq:(sideR (nmsOf f) a fs gs E k h ((gs.getD k 0).toNat+1)).length=(gs.getD k 0).toNat+1:=by unfold sideR;rw[vt,length_range]
  have l1:=R.l1;have l2:=R.l2;obtain⟨dl,ak⟩:∃dl,ds[(gs.getD k 0).toNat]?=some dl:=⟨_,vz (by lia)⟩
  obtain⟨cl,aj⟩:∃cl,a0[(gs.getD k 0).toNat]?=some cl:=⟨_,vz (by lia)⟩
  have hx:(sideR (nmsOf f) a fs gs E k h ((gs.getD k 0).toNat+1))[(gs.getD k 0).toNat]?=some (setE (E.getD k []) h,rgN a fs gs k (gs.getD k 0)):=by
   unfold sideR;rw[vv,List.getElem?_range (by lia)];show some (plN _ _ _ _ _ _ (((gs.getD k 0).toNat:Nat):Int) _,rgN _ _ _ _ (((gs.getD k 0).toNat:Nat):Int))=_;rw[show(((gs.getD k 0).toNat:Nat):Int)=gs.getD k 0 by lia,Qr]
  obtain⟨wl,_,ax,_⟩:=R.a _ _ _ _ ak aj hx;exists xA ?_;exists⟨rl,_,rfl,SqL.of R.e,?_⟩;rw[xU (n:=(gs.getD k 0).toNat) (by rw[vt];lia),<-map_take];walk_at"f l hl' H7 s7 t7";exists ixLm (SqL.of (s7 _ _ R.e)) (WI (n:=(gs.getD k 0).toNat+1) (by lia) (by rw[vt];lia) (by rw[vv,Nat.add_sub_cancel,aj];rfl)) ?_;exists ixTm (SqT.of (s7 _ _ ax)) rfl ?_;exists⟨uf,?_⟩;walk_at"f p hp H8 s8 t8";have au:=s7.trans s8;refine⟨ds,R.nd,fun d Y=>?_,fun H9 fz=>?_⟩
  ·obtain⟨aA,e⟩:=R.opn Y;exact⟨aA,au _ _ e⟩
  ·obtain⟨k1,k2⟩:=R.run au (s8 _ _ t7) t8 ak hx fz;have er:(sideR (nmsOf f) a fs gs E k h ((gs.getD k 0).toNat+1)).take (gs.getD k 0).toNat=runR (nmsOf f) a fs gs E k h:=by
    unfold sideR runR;rw[<-map_take,List.take_range,Nat.min_eq_left (by lia)]
   rw[er]at k2;exact q p H9 (ar.trans k1) k2
theorem wB(T:Txt K mg t):FnOk P w K mg base CX0 1 t.qy t.qA ["_law_book_here","_law_name","_law_heights"] (sp_runR 0):=by
 refine T.J2.F.ok Jn (fun c H Q E h=>?_) (fun b A a s H c Q E d h=>?_)
 ·exact uh h (j0X)
 ·exact uh h (j0X)
theorem Xu{rd rl:Nat}(T:Txt K mg t)(hrl:1<=rl)(JA:FnOk P w K mg base CX0 1 t.qx t.qz ["_law_form_here","_law_heights"] (sp_climbR))(wz:FnOk P w K mg base CX0 (rl+1) t.zK t.zM ["_law_book_here","_law_names","_law_heights"] (sp_besideR rd))(Qb:FnOk P w K mg base CX0 rl t.qy t.qA ["_law_book_here","_law_name","_law_heights"] (sp_runR rd)):FnOk P w K mg base CX0 (rl+2) t.qy t.qA ["_law_book_here","_law_name","_law_heights"] (sp_runR (rd+1)):=by
 specialize T.J2.F.ok Jn;obtain⟨b,pl,pp,J,a5,O,N,d,fs,M,S,E,h,j,rfl,B,X,jl,jm,Hh,q⟩:=h;refine⟨_,(jb (jr (i:=3) Jn.nd rfl (.inl rfl) (JK (J1 hr) (Jy (KG rfl) (by rfl) T.yQ Zj (ja (jo jz (pv 0) jd) jc)) (pv 1)))
  (jb (j3 (jt Jc (jo jz (pv 3) jd) jJ (nomark _))
   (jg (jB (YG (JA.mono (Nat.le_succ_of_le hrl)) hr (by rfl) T.Qh.m T.Qh.F.kp T.Qh.B .nil pass0 (ja (pv 3) (ja (pv 2) jc)))))
   jA)
  (jb (j3 (PW.pt (XD (jt Jc (jo jz (pv 3) jd) jJ (nomark _)) (xy (jt Jc (jo jz (pv 3) jd) jJ (nomark _)))))
   (jb (YL (i:=4) (ow:=["_law_j"]) (ci:=[2]) rfl (CompScope.of (defScope Zz) ["_law_book_here","_law_name","_law_heights","_law_form_here","_law_rows","_law_inner","_law_one","_law_more"] rfl rfl (by decide +kernel)) (JR (by decide)) Jn.nd rfl (.inl rfl) (JY (by rfl) T.qY (ja (jo jz (pv 3) (jq Jt (jD jW (by rfl) T.JT Jj (ja (pv 3) jc)) jd)) jc)) (fun _ _ _ _ _=>⟨(jw (i:=0) (JU ["_law_book_here","_law_name","_law_heights","_law_form_here","_law_rows","_law_inner","_law_one","_law_more"] rfl (by decide +kernel)) rfl (.inl rfl)),Qq,(jN (ja (pv 1) (ja (jK jc) jc)))⟩))
   (jb (qC (jt Jc (jo jz (pv 3) jd) jJ (nomark _))
    (jg (Z9 (jN (ja (pv 2) (ja (jK (ja (jo jz (pv 3) jd) jc)) jc))) (K1 (pv 4) jd set_list)))
    jA)
   (jg (jB (jN (ja (pv 4) (ja (pv 2) jc)))))))
   jA)
  (jb (j3 (jt Jc (jo jz (pv 3) jd) jJ (nomark _))
   (jg (jB (YG wz hr (by rfl) T.QF.m T.QF.F.kp T.QF.B .nil pass0 (ja (pv 0) (ja (jo jz (pv 3) jd) (ja (pv 2) jc))))))
   jA)
  (jb (jr (i:=5) Jn.nd rfl (.inl rfl) (jo jz (pv 3) jd))
  (jb (qC (jt Jc (jo jz (pv 3) jd) jJ (nomark _))
   (jg (jr (i:=5) Jn.nd rfl (.inl rfl) (jq j52 (jK (ja (jo jz (pv 3) jd) jc)) (jo jz (pv 3) jd))))
   jA)
  (jb (jr (i:=4) Jn.nd rfl (.inl rfl) (jK jc))
  (jb (Jd PassesOwn.never rfl (j4i (pv 5)) (jw (i:=6) Jn.nd rfl (.inl rfl))
   (jb (Z9 (YG (Qb.mono (Nat.le_succ _)) hr (by rfl) T.J2.m T.J2.F.kp T.J2.B .nil pass0 (ja (pv 0) (ja (pv 6) (ja (pv 2) jc)))) (Qc rfl (jL (jw (i:=7) Jn.nd rfl (.inl rfl)) (jL (jw (i:=2) Jn.nd rfl (.inr rfl)) J3))))
   (jg (jr (i:=4) Jn.nd rfl (.inl rfl) (jq Zr (pv 4) (pv 7))))))
  (jg (jB (jN (ja (pv 4) (ja (pv 2) jc))))))))))))),?_⟩
 refine jE (σ':=[some _,some _,some _,none,none,none,none,none]) rfl ?_
 try dsimp only[cxOf,Cx.nox]
 have sz:(10000:Nat)<sizeLine:=by decide
 have ac:O.length=fs.length:=B.pa.1.trans Jo;have ae:=X.f17;have DB:DbK H b pl pp a5 O N d fs M S:=⟨B,X.D,X.nd,X.hnm,by lia,by lia⟩
 obtain⟨g,hg⟩:=DB.forms;have aa:∀j,j<fs.length->fs[j]?=some (fs.getD j (.hold 0)):=fun j hj=>by rw[vy,vz hj];rfl
 exists ixTm (SqT.of B.t) rfl ?_;refine⟨pp,O,fmK d g fs.length,rfl,B.p,by unfold fmK;rw[vt,length_range];exact ac,fun i a q' h1 h2=>?_,?_⟩
 ·have il:i<fs.length:=by have:=(vx.mp h1).1;lia
  rw[j2s il]at h2;cases h2;exact(hg i _ (aa i il)).1 a h1
 walk_at"f fd hfd H1 s1 t1";walk_at"g";have gF:DGet H1 fd (.str (d.getD j ⟨#[]⟩)) (some (.ref (g j))):=by
  have z:=DGet.k (k:=Sum.inr (d.getD j ⟨#[]⟩)) t1;rw[j3X X.nd X.hnm jl]at z;exact z
 refine⟨fd,_,rfl,gF,?_⟩;have C:=aa j jl;obtain⟨Z,mv,ln⟩:=X.D.f j _ C;have hF:=FormAt.same s1 (hg j _ C).2;have gj:=X.D.g j jl;have af:=X.g90 j jl;have A:=Hh.same s1;have D:=Z.js.2;generalize fs.getD j (.hold 0)=f at C Z mv ln hF D;cases f with
 | rise x v n=>
  have l:H1 (g j)=some (.tup _):=hF;obtain⟨ex,v0,v1,n1,n2⟩:=Z;have ln:S.getD j 0=n:=ln;obtain⟨eR,eS⟩:=j1V X C h;exists ixTm (SqT.of l) rfl ?_;exists iteE1 ?_;exists⟨_,_,_,x,v,n,h,rfl,l,A,X.lnd,ex,X.l8,v0,v1,n1,by lia,fun r I s2 RA=>?_⟩;refine q r I (s1.trans s2) ?_;rw[eR,eS];exact RA
 | hold n=>
  have l:H1 (g j)=some (.tup _):=hF;have ln:S.getD j 0=n:=ln;obtain⟨eR,eS⟩:=j1T X C h;exists ixTm (SqT.of l) rfl ?_;exists iteE0 ?_;exists ixTm (SqT.of l) rfl ?_;exists iteE1 ?_;refine iteT ?_;exists⟨_,_,rfl,.inr ⟨_,SqT.of l,rfl⟩,?_⟩;exists ixTm (SqT.of l) rfl ?_;exists⟨_,rfl,by lia,by lia,?_⟩;refine yR (fun u ys I=>IvE1 fun(e:List Addr)=>IvA2 (ys=e.map V.ref) (Same H1 I/\All2 (RwA I (nmsOf N)) e (List.replicate u (h,[])))) ⟨[],rfl,Same.refl _,.nil⟩ ?_ ?_
  ·rintro u ys I hu ⟨e,rfl,p,s⟩;have Y:=s.1;rw[length_replicate]at Y;refine qa (σ':=[none,some (.ref J)]) rfl ?_;exists iteT ?_;exists⟨va _,?_⟩;walk_at"f 3 t";exists⟨uf,?_⟩;walk_at"f 4 t";refine⟨by rw[vt];lia,e++[p4],by rw[vj];rfl,p.trans (s3.trans s4),?_⟩;rw[List.replicate_succ'];exact(s.mono fun a x=>RwA.same (s3.trans s4)).snoc ⟨J,p3,t4,A.same (p.trans (s3.trans s4)),s4 _ _ t3⟩
  rintro ys I ⟨e,rfl,p,s⟩;have Y:=s.1;rw[length_replicate]at Y;refine⟨by rw[vt];lia,?_⟩;walk_at"f rl hrl H3 s3 t3";have a2:=p.trans s3;have a4:=a2 _ _ l;exists⟨fun σ' o=>σ'=[some (.ref b),some (.str (d.getD j ⟨#[]⟩)),some (.ref J),some (.ref (g j)),some (.ref rl),none,none,none]/\H3=o,?_,?_⟩
  rotate_left
  ·exists ixTm (SqT.of a4) rfl ?_;exists iteE0 ?_;walk_at"g";exact⟨rfl,rfl⟩
  rintro σ' o ⟨rfl,rfl⟩;exists⟨uf,?_⟩;walk_at"f 5 t";refine q p5 H5 (s1.trans (a2.trans s5)) ?_;rw[eR,eS];exact⟨rl,J,e,t5,s5 _ _ t3,s.mono fun a x=>RwA.same (s3.trans s5),A.same (a2.trans s5)⟩
 | ring x n=>
  have l:H1 (g j)=some (.tup _):=hF;have ln:S.getD j 0=n:=ln;obtain⟨eR,eS⟩:=j1U X C h;exists ixTm (SqT.of l) rfl ?_;exists iteE0 ?_;exists ixTm (SqT.of l) rfl ?_;exists iteE0 ?_;exists ixTm (SqT.of l) rfl ?_;exists iteE1 ?_;exists⟨_,_,rfl,.inr ⟨_,SqT.of l,rfl⟩,?_⟩;exists ixTm (SqT.of l) rfl ?_;exists⟨_,rfl,by lia,by lia,?_⟩;refine yR (fun u ys I=>IvE1 fun(e:List Addr)=>IvA2 (ys=e.map V.ref) (Same H1 I/\All2 (RwA I (nmsOf N)) e (List.replicate u (h,[])))) ⟨[],rfl,Same.refl _,.nil⟩ ?_ ?_
  ·rintro u ys I hu ⟨e,rfl,p,s⟩;have Y:=s.1;rw[length_replicate]at Y;refine qa (σ':=[none,some (.ref J)]) rfl ?_;exists iteT ?_;exists⟨va _,?_⟩;walk_at"f 3 t";exists⟨uf,?_⟩;walk_at"f 4 t";refine⟨by rw[vt];lia,e++[p4],by rw[vj];rfl,p.trans (s3.trans s4),?_⟩;rw[List.replicate_succ'];exact(s.mono fun a x=>RwA.same (s3.trans s4)).snoc ⟨J,p3,t4,A.same (p.trans (s3.trans s4)),s4 _ _ t3⟩
  rintro ys I ⟨e,rfl,p,s⟩;have Y:=s.1;rw[length_replicate]at Y;refine⟨by rw[vt];lia,?_⟩;walk_at"f rl hrl H3 s3 t3";have a2:=p.trans s3;have a4:=a2 _ _ l;exists⟨fun σ' o=>IvE1 fun L=>IvA3 (σ'=[some (.ref b),some (.str (d.getD j ⟨#[]⟩)),some (.ref J),some (.ref (g j)),some (.ref rl),none,none,none]) (Same H1 o) (o rl=some (.lst (L.map V.ref))/\All2 (RwA o (nmsOf N)) L ((List.replicate n.toNat (h,[])).set 0 (h,[x]))),?_,?_⟩
  rotate_left
  ·exists ixTm (SqT.of a4) rfl ?_;exists iteE1 ?_;exists ixTm (SqT.of a4) rfl ?_;exists⟨ug,?_⟩;walk_at"f w0 hw0 H4 s4 t4";exists⟨uf,?_⟩;walk_at"f c0 hc0 H5 s5 t5";have a9:=s4.trans s5;walk_at"g";have up:∀{b' u},H5 b'=some u->b'≠rl->upd H5 rl (.lst ((e.map V.ref).set 0 (.ref c0))) b'=some u:=fun U n=>(jh n).trans U
   have sU:Same I (upd H5 rl (.lst ((e.map V.ref).set 0 (.ref c0)))):=fun c u hc=>up (a9 _ _ (s3 _ _ hc)) (je hc hrl)
   refine⟨rl,_,_,0,rfl,rfl,a9 _ _ t3,(by unfold ixN;rw[vd (by decide),vd (by rw[vt];lia)];rfl),e.set 0 c0,rfl,fun c u hc=>sU _ _ (p _ _ hc),by rw[jG,List.map_set],?_⟩;refine(s.mono fun a x=>RwA.same sU).set ⟨J,w0,up t5 (fun z=>?_),(A.same p).same sU,up (s5 _ _ t4) (fun z=>?_)⟩
   ·rw[z,a9 _ _ t3]at t5;cases t5
   ·rw[z,t3]at hw0;cases hw0
  rintro σ' H6 ⟨L,rfl,s6,t6,ab⟩;exists⟨uf,?_⟩;walk_at"f 7 t";refine q p7 H7 (s1.trans (s6.trans s7)) ?_;rw[eR,eS];exact⟨rl,J,L,t7,s7 _ _ t6,ab.mono fun a x=>RwA.same s7,A.same (s6.trans s7)⟩
 | side is=>
  obtain⟨R,l,U⟩:=hF;exists ixTm (SqT.of l) rfl ?_;exists iteE0 ?_;exists ixTm (SqT.of l) rfl ?_;exists iteE0 ?_;exists ixTm (SqT.of l) rfl ?_;exists iteE0 ?_;exists ixTm (SqT.of l) rfl ?_;exists iteE1 ?_;exists ixTm (SqT.of l) rfl ?_;exists⟨b,pl,pp,J,R,a5,O,N,d,fs,M,S,E,h,j,is,rfl,B.same s1,X,C,by rw[U,v4];rfl,fun i W=>by have:=D i W;lia,A,fun r I s2 RA=>q r I (s1.trans s2) RA⟩
 | row is=>
  obtain⟨R,l,U⟩:=hF;have ag:is.length<=8:=Z.2.1;have D:∀i∈is,i<j:=D;have U:H1 R=some (.tup (is.map fun j=>V.str (d.getD j ⟨#[]⟩))):=by rw[U,v4];rfl
  obtain⟨eR,eS⟩:=j3f X C h;exists ixTm (SqT.of l) rfl ?_;exists iteE0 ?_;exists ixTm (SqT.of l) rfl ?_;exists iteE0 ?_;exists ixTm (SqT.of l) rfl ?_;exists iteE0 ?_;exists ixTm (SqT.of l) rfl ?_;exists iteE0 ?_;exists ixTm (SqT.of l) rfl ?_;exists⟨fun σ' o=>σ'=[some (.ref b),some (.str (d.getD j ⟨#[]⟩)),some (.ref J),some (.ref (g j)),none,some (.ref R),none,none]/\H1=o,?_,?_⟩
  rotate_left
  ·exists ixTm (SqT.of l) rfl ?_;exists iteE0 ?_;walk_at"g";exact⟨rfl,rfl⟩
  rintro σ' o ⟨rfl,rfl⟩;exists⟨va _,?_⟩;walk_at"f 5 t";have a1:=s1.trans s5;exists XE ?_;exists⟨R,rfl,.inr ⟨⟨_,SqT.of (s5 _ _ U)⟩,?_⟩⟩;refine j3Z (xs:=is.map fun j=>V.str (d.getD j ⟨#[]⟩)) (fun t σ o=>IvE5 fun(o6 o7:Option V) (rl m:Addr) (e:List Addr)=>IvA5 (σ=[some (.ref b),some (.str (d.getD j ⟨#[]⟩)),some (.ref m),some (.ref (g j)),some (.ref rl),some (.ref R),o6,o7]) (Same H5 o) (o rl=some (.lst (e.map V.ref))) (All2 (RwA o (nmsOf N)) e (seqR (nmsOf N) d fs S E ((is).take t) h)) (e.length<=90*t/\HtA o (nmsOf N) m (((is).take t).foldl (fun h j=>setE (E.getD j []) h) h))) ⟨_,_,p5,J,[],rfl,Same.refl _,t5,.nil,va _,A.same s5⟩ ?_ ?_ ?_
  ·rintro t σ o _ ⟨o6,o7,rl,m,e,rfl,Q,_⟩;exact SqT.of (Q _ _ (s5 _ _ U))
  ·rintro t v σ H6 hv ⟨o6,o7,rl,m,e,rfl,Q,e1,s,a7,y⟩;rw[vv]at hv;obtain⟨i,W,rfl⟩:=vg.mp hv;have tl:=(vx.mp W).1;have il:=D i (vm W);exists⟨b,pl,pp,m,a5,O,N,d,fs,M,S,E,_,i,rfl,B.same (a1.trans Q),X,by lia,by lia,y,fun r H7 s7 RA=>?_⟩;obtain⟨a8,a6,a0,k1,k2,k3,k4⟩:=RA;have Y:=k3.1;have g2:=X.g90 i (by lia);rw[JE]at Y;refine QC (SqT.of k1) ?_;exists⟨rl,a8,_,_,rfl,rfl,s7 _ _ e1,k2,by rw[vt,vt];lia,?_⟩;walk_at"f 8 t";have a3:=s7.trans s8;refine⟨_,_,p8,a6,e++a0,rfl,Q.trans a3,by rw[t8,vj],?_,by rw[vn];lia,?_⟩
   ·rw[take_snoc W,wc];exact(s.mono fun a x=>RwA.same a3).app (k3.mono fun a x=>RwA.same s8)
   ·rw[take_snoc W,foldl_append];exact k4.same s8
  ·rintro σ H6 ⟨o6,o7,rl,m,e,rfl,Q,e1,s,a7,y⟩;rw[vt,v3]at s y;exists⟨uf,?_⟩;walk_at"f 9 t";refine q p9 H9 (a1.trans (Q.trans s9)) ?_;rw[eR,eS];exact⟨rl,m,e,t9,s9 _ _ e1,s.mono fun a x=>RwA.same s9,y.same s9⟩
 | again k i=>
  have l:H1 (g j)=some (.tup _):=hF;obtain⟨k1,k2,ik⟩:=Z;have ln:S.getD j 0=k*S.getD i 0:=ln;have gi:=X.D.g i (by lia);have ah:k<=90:=by
   have:=Int.mul_le_mul_of_nonneg_left gi.1 (show 0<=k by lia);lia
  have D:∀i'∈List.replicate k.toNat i,i'<j:=fun i' h'=>by rw[(List.mem_replicate.mp h').2];exact ik
  have ad:(List.replicate k.toNat i).length=k.toNat:=length_replicate;obtain⟨eR,eS⟩:=j0j X C h;exists ixTm (SqT.of l) rfl ?_;exists iteE0 ?_;exists ixTm (SqT.of l) rfl ?_;exists iteE0 ?_;exists ixTm (SqT.of l) rfl ?_;exists iteE0 ?_;exists ixTm (SqT.of l) rfl ?_;exists iteE0 ?_;exists ixTm (SqT.of l) rfl ?_;exists⟨fun σ' o=>IvE1 fun R=>IvA2 (σ'=[some (.ref b),some (.str (d.getD j ⟨#[]⟩)),some (.ref J),some (.ref (g j)),none,some (.ref R),none,none]) (Same H1 o/\o R=some (.lst ((List.replicate k.toNat i).map fun j=>V.str (d.getD j ⟨#[]⟩)))),?_,?_⟩
  rotate_left
  ·exists ixTm (SqT.of l) rfl ?_;exists iteE1 ?_;exists ixTm (SqT.of l) rfl ?_;exists⟨ug,?_⟩;walk_at"f 3 t";exists ixTm (SqT.of (s3 _ _ l)) rfl ?_;refine⟨p3,_,_,rfl,rfl,t3,by lia,by lia,by show 1*_<=_;lia,?_⟩;walk_at"f 4 t";rw[j1q]at t4;walk_at"g";exact⟨p4,rfl,s3.trans s4,by rw[t4,List.map_replicate]⟩
  rintro σ' H4 ⟨R,rfl,s4,U⟩;exists⟨va _,?_⟩;walk_at"f 5 t";have a1:=s1.trans (s4.trans s5);exists XE ?_;exists⟨R,rfl,.inl ⟨⟨_,SqL.of (s5 _ _ U)⟩,?_⟩⟩;refine JW (xs:=(List.replicate k.toNat i).map fun j=>V.str (d.getD j ⟨#[]⟩)) (fun t σ o=>IvE5 fun(o6 o7:Option V) (rl m:Addr) (e:List Addr)=>IvA5 (σ=[some (.ref b),some (.str (d.getD j ⟨#[]⟩)),some (.ref m),some (.ref (g j)),some (.ref rl),some (.ref R),o6,o7]) (Same H5 o) (o rl=some (.lst (e.map V.ref))) (All2 (RwA o (nmsOf N)) e (seqR (nmsOf N) d fs S E ((List.replicate k.toNat i).take t) h)) (e.length<=90*t/\HtA o (nmsOf N) m (((List.replicate k.toNat i).take t).foldl (fun h j=>setE (E.getD j []) h) h))) ⟨_,_,p5,J,[],rfl,Same.refl _,t5,.nil,va _,(A.same s4).same s5⟩ ?_ ?_ ?_
  ·rintro t σ o _ ⟨o6,o7,rl,m,e,rfl,Q,_⟩;exact SqL.of (Q _ _ (s5 _ _ U))
  ·rintro t v σ H6 hv ⟨o6,o7,rl,m,e,rfl,Q,e1,s,a7,y⟩;rw[vv]at hv;obtain⟨i,W,rfl⟩:=vg.mp hv;have tl:=(vx.mp W).1;have il:=D i (vm W);exists⟨b,pl,pp,m,a5,O,N,d,fs,M,S,E,_,i,rfl,B.same (a1.trans Q),X,by lia,by lia,y,fun r H7 s7 RA=>?_⟩;obtain⟨a8,a6,a0,k1,k2,k3,k4⟩:=RA;have Y:=k3.1;have g2:=X.g90 i (by lia);rw[JE]at Y;refine QC (SqT.of k1) ?_;exists⟨rl,a8,_,_,rfl,rfl,s7 _ _ e1,k2,by rw[vt,vt];lia,?_⟩;walk_at"f 8 t";have a3:=s7.trans s8;refine⟨_,_,p8,a6,e++a0,rfl,Q.trans a3,by rw[t8,vj],?_,by rw[vn];lia,?_⟩
   ·rw[take_snoc W,wc];exact(s.mono fun a x=>RwA.same a3).app (k3.mono fun a x=>RwA.same s8)
   ·rw[take_snoc W,foldl_append];exact k4.same s8
  ·rintro σ H6 ⟨o6,o7,rl,m,e,rfl,Q,e1,s,a7,y⟩;rw[vt,v3]at s y;exists⟨uf,?_⟩;walk_at"f 9 t";refine q p9 H9 (a1.trans (Q.trans s9)) ?_;rw[eR,eS];exact⟨rl,m,e,t9,s9 _ _ e1,s.mono fun a x=>RwA.same s9,y.same s9⟩
theorem xf(T:Txt K mg t)(O:FnOk P w K mg base CX0 37 t.qy t.qA ["_law_book_here","_law_name","_law_heights"] (sp_runR 18)):FnOk P w K mg base CX0 38 t.ZW t.Z0 ["_law_book_here"] (sp_toldR):=by
 specialize T.kM.F.ok ZE;obtain⟨b,J,pp,g,j,l,names,fs,M,Z,E,rfl,B,X,U,hb,q⟩:=h;refine⟨_,(jb (Z9 (ju T.J2 O hr (ja (pv 0) (ja (jo jz (jo jv (jo jz (pv 0) jd) (Z8 zq jd)) jd) (ja (xt (Jy (KG rfl) (by rfl) T.yQ Zj (ja (jo jz (pv 0) jd) jc))) jc)))) (Qc rfl (jL (jw (i:=1) ZE.nd rfl (.inl rfl)) (jL (jw (i:=2) ZE.nd rfl (.inl rfl)) J3))))
  (jg (jB (jq Zr (pv 1) (jK (ja (jN (ja (pv 2) (ja (jK jc) jc))) jc)))))),?_⟩
 refine jE (σ':=[some _,none,none]) rfl ?_
 try dsimp only[cxOf,Cx.nox]
 have sz:(200:Nat)<sizeLine:=by decide
 have s:j.length=fs.length:=B.pa.1.trans Jo;have W:=X.f17;have Y:=X.g90 (fs.length-1) (by lia);obtain⟨f,hf⟩:∃f,fs[fs.length-1]?=some f:=⟨_,vz (by lia)⟩
 obtain⟨la,p,fb,R,_⟩:=B.pa.get (qg (names:=names) hf);exists ixTm (SqT.of B.t) rfl ?_;exists ixLm (SqL.of B.p) (WI (n:=fs.length) U (by rw[vt];exact s) (by rw[vv,p];rfl)) ?_;exists ixTm (SqT.of R) rfl ?_;exists xA ?_;exists ixTm (SqT.of B.t) rfl ?_;exists⟨J,g,l.map fun q=>(q.1,V.int q.2),rfl,B.l,by rw[vt];exact B.la.1,fun i a q' h1 D=>?_,?_⟩
 ·rw[vv]at D;obtain⟨y,hy,rfl⟩:=vg.mp D;exact B.la.2 i a y h1 hy
 rw[j2m X.lnd];walk_at"f d hd H1 s1 t1";refine⟨[d],ur.mpr ⟨(fun z=>nomatch z),nodup_nil⟩,fun c hc=>by rw[vo.mp hc];exact⟨_,t1⟩,fun A C=>?_⟩;obtain⟨o,S⟩:=C.2 d vq _ t1;have L:Same H A:=fun c u hc=>(C.1 c fun z=>by rw[vo.mp z,hd]at hc;cases hc).trans (s1 _ _ hc)
 have N:HtA A (nmsOf l) d (l.map (·.2)):=⟨by unfold nmsOf;rw[vt,vt],hb,o,S⟩
 exists⟨b,J,pp,d,g,j,l,names,fs,M,Z,E,_,fs.length-1,rfl,B.same L,X,by lia,by lia,N,fun r H3 s3 Q=>?_⟩;obtain⟨rl,m,v,k1,k2,I,k4⟩:=Q;have l3:=I.1;rw[JE]at l3;refine QC (SqT.of k1) ?_;exists⟨va _,?_⟩;walk_at"f w hw H4 s4 t4";exists⟨uf,?_⟩;walk_at"f c hc H5 s5 t5";exists⟨ug,?_⟩;walk_at"f l1 hl1 H6 s6 t6";have k:=s4.trans (s5.trans s6);refine⟨rl,l1,_,_,rfl,rfl,k _ _ k2,t6,by rw[vt];show _+1<=_;lia,?_⟩;walk_at"f l2 hl2 H7 s7 t7";have e:=k.trans s7;refine q l2 (v++[c]) H7 (L.trans (s3.trans e)) (by rw[t7,vj];rfl) ?_;exact(I.mono fun a x=>RwA.same e).snoc ⟨m,w,s7 _ _ (s6 _ _ t5),k4.same e,s7 _ _ (s6 _ _ (s5 _ _ t4))⟩
theorem j4Z(T:Txt K mg t)(Zd:FnOk P w K mg base CX0 10 t.Zf t.Zk ["book","limb","beat"] (sp_sumL))(jY:FnOk P w K mg base CX0 1 t.JS t.JV ["_law_script","_law_k"] (Pr.sp_cell_at K))(Zb:FnOk P w K mg base CX0 1 t.Q4 t.Q7 ["_law_found"] (Pr.XM))(zr:FnOk P w K mg base CX0 6 t.ZU t.ZY ["_law_script","_law_many","_law_bounds"] (YU bkF8 K))(ZP:FnOk P w K mg base CX0 38 t.ZW t.Z0 ["_law_book_here"] (sp_toldR)):FnOk P w K mg base CX0 39 t.j2d t.j0B ["_law_script"] (Pr.sp_law K):=by
 specialize T.j2a.F.ok zR;obtain⟨a,n,rfl,hS,C,hB,q⟩:=h;refine⟨_,(jb (jr (i:=1) zR.nd rfl (.inl rfl) (jD (Y5 rfl) (by rfl) T.wR Y4 (ja jd (ja (jD (yv rfl) (by rfl) T.j0y WM (ja (jq Jt (jD jW (by rfl) T.JT Jj (ja (pv 0) jc)) jd) (ja jd jc))) jc))))
  (jb (Z9 (ju T.ZL zr hr (ja (pv 0) (ja (pv 1) (ja (jK (ja jd (ja jd (ja jd (ja jd (ja jd jc)))))) jc)))) (Qc rfl (jL (jw (i:=2) zR.nd rfl (.inl rfl)) (jL (jw (i:=3) zR.nd rfl (.inl rfl)) J3))))
  (jb (jr (i:=4) zR.nd rfl (.inl rfl) (jo jz (jo jv (jo jz (pv 2) jd) (jq Ja (ju T.Jz jY hr (ja (pv 0) (ja jd jc))) (jD jW (by rfl) T.JT Jj (ja (jo jz (pv 2) jd) jc)))) jd))
  (jb (jr (i:=5) zR.nd rfl (.inl rfl) (ju T.kM ZP hr (ja (pv 2) jc)))
  (jb (jr (i:=6) zR.nd rfl (.inl rfl) jd)
  (jb (Jd PassesOwn.never rfl (JY (by rfl) T.qY (ja (jq jS (pv 3) jd) jc)) (jw (i:=7) zR.nd rfl (.inl rfl))
   (jb (qC (PW.pt (XD (jt Z5 (pv 3) jd (nomark _)) (XD (jt Jc (jq Ja (pv 7) jd) jd (nomark _)) (xy (jt j4w (pv 7) (pv 3) (nomark _))))))
    (jb (jr (i:=8) zR.nd rfl (.inl rfl) (ju T.Yf Zd hr (ja (pv 2) (ja (pv 4) (ja (pv 7) jc)))))
    (jg (j3 (PW.pt (XD (j37 (j38 (ju T.Yd Zb hr (ja (pv 8) jc)))) (xy (jt j4x (pv 8) (pv 6) (nomark _)))))
     (jg (jB j0Y))
     jA)))
    jA)
   (jg (j3 (jt Xz (pv 7) (pv 3) (nomark _))
    (jg (jr (i:=6) zR.nd rfl (.inl rfl) (jq jS (pv 6) (JK (J1 hr) (jo jz (jo jv (pv 5) (pv 7)) jd) (pv 4)))))
    jA))))
  (jg (jB (j10 (xq hr.units) (pv 2) (jo jz (ju T.ZL zr hr (ja (pv 0) (ja (pv 1) (ja (jK (ja jd (ja jd (ja jd (ja jd (ja jd jc)))))) jc)))) jd) (nomark _)))))))))),?_⟩
 refine jE (σ':=[some _,none,none,none,none,none,none,none,none]) rfl ?_
 try dsimp only[cxOf,Cx.nox]
 have sz:(20000:Nat)<sizeLine:=by decide
 exists⟨_,_,rfl,.inl ⟨_,hS,rfl⟩,?_⟩;rw[vt];exists⟨_,_,rfl,?_⟩;exists⟨_,_,rfl,?_⟩;obtain⟨d,em,a0,y⟩:∃d:Nat,(if(2:Int)<(if(16:Int)<(n.length:Int)-1 then 16 else(n.length:Int)-1)then(if(16:Int)<(n.length:Int)-1 then 16 else(n.length:Int)-1)else 2)=(d:Int)/\2<=d/\d<=16:=by
  refine⟨(if(2:Int)<(if(16:Int)<(n.length:Int)-1 then 16 else(n.length:Int)-1)then(if(16:Int)<(n.length:Int)-1 then 16 else(n.length:Int)-1)else 2).toNat,?_,?_,?_⟩<;>(split<;>split<;>lia)
 rw[em];exists⟨(by show 5<=sizeLine;lia),?_⟩;walk_at"f bd hbd H1 s1 t1";exists⟨a,bd,n,d,4,9,7,4,90,rfl,s1.seq hS,C,a0,y,⟨t1,by decide,by decide,by decide,by decide,by decide,by decide,by decide,by decide,by decide,by decide⟩,fun r b pl pp m u names e fs M gs H2 s2 a3 v D N fl nL nd nW l1 l8 Z lW ag gb eF=>?_⟩;have fw:=j1o D lW nW (by lia);have J:(drawnPs names fs).length=fs.length:=Jo;have ad:(drawnPs names fs)[0]?=some (names.getD 0 ⟨#[]⟩,toldF names (fs.getD 0 (.hold 0))):=qg (by rw[vy,vz (by lia)];rfl);have w0:Ws.isW (names.getD 0 ⟨#[]⟩)=true:=nW _ (getD_in (by lia));obtain⟨E,_,eE⟩:=EN.ex D Z fs.length (vb _);have X:BkR (nmsOf e) names fs M gs E:=⟨D,by lia,nd,Z,by unfold nmsOf;rw[vt];exact l8,by lia,gb,eE,j5c N⟩
 have hb:Rm.hB (e.map (·.2)):=fun x hx=>by obtain⟨q,hq,rfl⟩:=vK.mp hx;exact N.l18 q hq
 have g1:=D.g (fs.length-1) (by lia);have ab:=gb (fs.length-1) (by lia);refine QC (SqT.of a3) ?_;exists ixTm (SqT.of v.t) rfl ?_;exists⟨a,n,_,rfl,(s1.trans s2).seq hS,C,by lia,?_⟩;exists ixTm (SqT.of v.t) rfl ?_;exists⟨_,_,rfl,.inl ⟨_,SqL.of v.l,rfl⟩,?_⟩;rw[vt];have ae:=v.la.1;walk_at"g";have m0:=ve (Pr.cell n 1) (show(m.length:Int)≠0 by lia);have m1:=vf (Pr.cell n 1) (show(0:Int)<(m.length:Int) by lia);obtain⟨k,ek⟩:∃k:Nat,Pr.cell n 1%(m.length:Int)=(k:Int):=⟨(Pr.cell n 1%(m.length:Int)).toNat,by lia⟩
 rw[ek]at m0 m1|-;obtain⟨⟨x,f⟩,R⟩:∃q,e[k]?=some q:=⟨_,vz (by lia)⟩
 obtain⟨c,hc,I⟩:=v.la.get R;have I:H2 c=some (.tup [.str x,.int f]):=I;have hy:(nmsOf e)[k]?=some x:=by unfold nmsOf;rw[vv,R];rfl
 refine ixLm (SqL.of v.l) (jO (j:=k) (by rw[vv,hc];rfl)) ?_;exists ixTm (SqT.of I) rfl ?_;exists⟨b,pl,pp,m,u,e,names,fs,M,gs,E,rfl,v,X,by lia,hb,fun l aj H3 s3 el al=>?_⟩;have s:=v.same s3;have a7:Same H H3:=s1.trans (s2.trans s3);obtain⟨B,eB⟩:∃B:Nat,gs.getD (fs.length-1) 0=(B:Int):=⟨(gs.getD (fs.length-1) 0).toNat,by lia⟩
 exists⟨_,rfl,by lia,by lia,?_⟩;refine qK (fun i σ H'=>IvE2 fun(o7 A:Option V)=>σ=[some (.ref a),some (.int (d:Nat)),some (.ref b),some (.int (gs.getD (fs.length-1) 0)),some (.str x),some (.ref l),some (.int (smP (nmsOf e) names fs gs E (e.map (·.2)) k none (min i (B+1)))),o7,A]/\Same H3 H') ⟨_,_,rfl,Same.refl _⟩ ?_ ?_
 ·rintro i σ H5 hi ⟨o7,A,rfl,g⟩;rw[uz];exists⟨fun σ' H'=>∃(A:Option V),σ'=[some (.ref a),some (.int (d:Nat)),some (.ref b),some (.int (gs.getD (fs.length-1) 0)),some (.str x),some (.ref l),some (.int (smP (nmsOf e) names fs gs E (e.map (·.2)) k none (min i (B+1)))),some (.int (i:Nat)),A]/\Same H3 H',?_,?_⟩
  rotate_left
  ·exists iteD (fun c=>?_) (fun c=>?_)
   ·refine iteT ?_;exists⟨b,pl,pp,m,u,e,_,gs,M,x,f,k,_,rfl,s.same g,N,R,by lia,by rw[J];lia,fun E' H6 s6 Y oE=>?_⟩;rw[j3x X (by lia) Y oE,show((i:Nat):Int).toNat=min i (B+1) by lia];exists⟨_,rfl,?_⟩;refine⟨true,rfl,?_⟩;refine iteF ?_;exists iteN (fun z=>uh rfl z) (fun _=>?_);walk_at"g";exact⟨_,rfl,g.trans s6⟩
   ·exists iteD (fun c2=>?_) (fun c2=>?_)
    ·refine iteT ?_;exists⟨b,pl,pp,m,u,e,_,gs,M,x,f,k,_,rfl,s.same g,N,R,by lia,by rw[J];lia,fun E' H6 s6 Y oE=>?_⟩;rw[j3x X (by lia) Y oE,show((i:Nat):Int).toNat=min i (B+1) by lia];exists⟨_,rfl,?_⟩;refine⟨true,rfl,?_⟩;refine iteF ?_;exists iteN (fun z=>uh rfl z) (fun _=>?_);walk_at"g";exact⟨_,rfl,g.trans s6⟩
    ·exists iteD (fun c3=>?_) (fun c3=>?_)
     ·exists⟨b,pl,pp,m,u,e,_,gs,M,x,f,k,_,rfl,s.same g,N,R,by lia,by rw[J];lia,fun E' H6 s6 Y oE=>?_⟩;rw[j3x X (by lia) Y oE,show((i:Nat):Int).toNat=min i (B+1) by lia];exists⟨_,rfl,?_⟩;refine⟨true,rfl,?_⟩;refine iteF ?_;exists iteN (fun z=>uh rfl z) (fun _=>?_);walk_at"g";exact⟨_,rfl,g.trans s6⟩
     ·walk_at"g";exact⟨_,rfl,g⟩
  rintro σ' H6 ⟨A,rfl,o⟩;exists iteD (fun c=>?_) (fun c=>?_)
  ·have a6:∃(hh:List Int) (W:List Str),(runR (nmsOf e) names fs gs E (fs.length-1) (e.map (·.2))++[(setE (E.getD (fs.length-1) []) (e.map (·.2)),[])])[i]?=some (hh,W)/\hh=plN (nmsOf e) names fs gs E (fs.length-1) (i:Int) (e.map (·.2)):=by
    have rl:=JE (L:=nmsOf e) (names:=names) (fs:=fs) (gs:=gs) (E:=E) (j:=fs.length-1) (h:=e.map (·.2));rcases Nat.lt_or_ge i B with z | z
    ·exact⟨_,_,(vB (by lia)).trans (zF (by lia)),rfl⟩
    ·refine⟨_,[],(vC (by lia)).trans (by rw[rl,show i-(gs.getD (fs.length-1) 0).toNat=0 by lia];rfl),?_⟩;rw[show(i:Int)=gs.getD (fs.length-1) 0 by lia,Qr]
   obtain⟨hh,W,U,eh⟩:=a6;obtain⟨ra,a5,O,ww,n1,n2,_⟩:=al.get U;have n1:=o _ _ n1;have n2:HtA H6 (nmsOf e) O hh:=n2.same o;exists ixLm (SqL.of (o _ _ el)) (jO (j:=i) (by rw[vv,a5];rfl)) ?_;exists ixTm (SqT.of n1) rfl ?_;exists⟨O,_,rfl,n2.get X.lnd hy,?_⟩;exists⟨some (.int (i:Nat)),A,?_,o⟩;rw[Nat.min_eq_left (show i+1<=B+1 by lia),Nat.min_eq_left (show i<=B+1 by lia),j3m,eh];rfl
  ·exists⟨some (.int (i:Nat)),A,?_,o⟩;rw[Nat.min_eq_right (show B+1<=i+1 by lia),Nat.min_eq_right (show B+1<=i by lia)]
 rintro σ H5 ⟨o7,A,rfl,g⟩;exists⟨(by show 5<=sizeLine;lia),?_⟩;walk_at"f bd2 hbd2 H6 s6 t6";exists⟨a,bd2,n,d,4,9,7,4,90,rfl,(a7.trans (g.trans s6)).seq hS,C,a0,y,⟨t6,by decide,by decide,by decide,by decide,by decide,by decide,by decide,by decide,by decide,by decide⟩,fun r2 b2 ah ai a8 a9 a1 af aa M2 ac H7 s7 a4 a2 _ _ _ _ _ _ _ _ _ _ _ _ Q=>?_⟩;rw[eF]at Q;injection Q with e1 e2;injection e2 with e2 e3;subst e1;subst e2;subst e3;exists ixTm (SqT.of a4) rfl ?_;have bo:BkOk e (drawnPs names fs):=⟨l8,fun p S=>⟨lW _ (vK.mpr ⟨p,S,rfl⟩),N.l18 p S⟩,by lia,fun p S=>⟨by
  obtain⟨i,hi,rfl⟩:=vK.mp S;exact nW _ (getD_in (by have:=v2.mp hi;lia)),fw p S⟩⟩
 refine⟨_,_,(s.same ((g.trans s6).trans s7)).dv,a2.dv,(wg bo).ok (by decide),(wg bo).ok (by decide),?_⟩;rw[j2p bo];exact q _
theorem Zw(T:Txt K mg t)(a:FnOk P w K mg base CX0 1 t.qx t.qz ["_law_form_here","_law_heights"] (sp_climbR)):∀n,FnOk P w K mg base CX0 (1+2*n) t.qy t.qA ["_law_book_here","_law_name","_law_heights"] (sp_runR n)
 | 0=>wB T
 | n+1=>Xu T (Nat.le_add_right _ _) a (KY T (Nat.le_add_right _ _) (Zw T a n)) (Zw T a n)
theorem j3G(T:Txt K mg t):FnOk P w K mg base CX0 39 t.j2d t.j0B ["_law_script"] (Pr.sp_law K):=by
 have a:FnOk P w K mg base CX0 1 t.qH t.qJ _ _:=wI T;have R:FnOk P w K mg base CX0 1 t.Zg t.Zl _ _:=Xw T;have b:=j2W T a R;have j:=j4e T a b;have v:=j2X T j;have L:FnOk P w K mg base CX0 1 t.Q5 t.Q8 _ _:=wG T;have E:FnOk P w K mg base CX0 1 t.zu t.zB _ _:=xj T;have y:=j09 T b v L E;have H:FnOk P w K mg base CX0 1 t.zw t.zC _ _:=xm T;have I:=xp T b H;have n:FnOk P w K mg base CX0 1 t.qX t.qZ _ _:=kB T;have q:=yW T a j y I n;have S:FnOk P w K mg base CX0 1 t.Zh t.Zm _ _:=Xx T;have m:FnOk P w K mg base CX0 1 t.qe t.qf _ _:=kA T;have D:FnOk P w K mg base CX0 1 t.zt t.zA _ _:=xi T;have U:=Xy T D;have W:FnOk P w K mg base CX0 1 t.yu t.yw _ _:=j0a T;have z:=j0b T W;have N:=wJ T z;have x:=j0c T U N;have A:FnOk P w K mg base CX0 1 t.Yl t.Yu _ _:=j1J T;have h:=yD T S m x A;have O:=ZJ T q h;have p:=yV T h;have Q:=Xv T p;have M:=wH T O Q;have e:FnOk P w K mg base CX0 1 t.JS t.JV _ _:=Kc T;have J:FnOk P w K mg base CX0 1 t.Q4 t.Q7 _ _:=wF T;have c:FnOk P w K mg base CX0 1 t.qG t.qI _ _:=wC T;have f:FnOk P w K mg base CX0 1 t.QP t.QT _ _:=xg T;have r:FnOk P w K mg base CX0 1 t.Q3 t.Q6 _ _:=wE T;have B:=W9 T r;have g:FnOk P w K mg base CX0 1 t.QN t.QR _ _:=xb T;have k:FnOk P w K mg base CX0 1 t.Ql t.Qm _ _:=wD T;have i:FnOk P w K mg base CX0 1 t.QM t.QQ _ _:=xa T;have d:=xc T c;have X:=KZ T d;have u:=YF T d X;have s:=YE T e c f g k i d u;have Y:=W8 T e c f B g k i s;have l:FnOk P w K mg base CX0 1 t.qx t.qz _ _:=Kd T;have o:FnOk P w K mg base CX0 37 t.qy t.qA _ _:=Zw T (l.mono (by decide)) 18;have C:=xf T o;exact j4Z T M e J Y C
end
@[elab_as_elim] theorem uu1{P:List Value->Prop}(us:List Value)(hl:us.length=1)(h:∀a0,P [a0]):P us:=match us,hl with | [a0],_=>h a0
theorem bb1{K:Frg}{x q:Str}{st:Stmt}{f:Addr}{l:FuncData}{m:Str}(F:Fun K x q st f l)(h:∀(kV j r:Value) (n:Option Addr) (i o:Value) (k:Value),bindArgs (W.fnOf x q (defArgs st) (defBody st) (defScope st) .none kV j r n i o) ⟨[k],[]⟩=pure ([m].zip [k]):=by intros;rfl):Binds K l [m] []:=F.binds fun a b c d e g s p=>uu1 s p (h a b c d e g)
@[elab_as_elim] theorem uu2{P:List Value->Prop}(us:List Value)(hl:us.length=2)(h:∀a0 a1,P [a0,a1]):P us:=match us,hl with | [a0,a1],_=>h a0 a1
theorem bb2{K:Frg}{x q:Str}{st:Stmt}{f:Addr}{m:FuncData}{n o:Str}(F:Fun K x q st f m)(h:∀(kV j t:Value) (p:Option Addr) (i r:Value) (k l:Value),bindArgs (W.fnOf x q (defArgs st) (defBody st) (defScope st) .none kV j t p i r) ⟨[k,l],[]⟩=pure ([n,o].zip [k,l]):=by intros;rfl):Binds K m [n,o] []:=F.binds fun a b c d e g u s=>uu2 u s (h a b c d e g)
@[elab_as_elim] theorem uu3{P:List Value->Prop}(us:List Value)(hl:us.length=3)(h:∀a0 a1 a2,P [a0,a1,a2]):P us:=match us,hl with | [a0,a1,a2],_=>h a0 a1 a2
theorem bb3{K:Frg}{x q:Str}{st:Stmt}{f:Addr}{n:FuncData}{o p r:Str}(F:Fun K x q st f n)(h:∀(kV j v:Value) (s:Option Addr) (i t:Value) (k l m:Value),bindArgs (W.fnOf x q (defArgs st) (defBody st) (defScope st) .none kV j v s i t) ⟨[k,l,m],[]⟩=pure ([o,p,r].zip [k,l,m]):=by intros;rfl):Binds K n [o,p,r] []:=F.binds fun a b c d e g w u=>uu3 w u (h a b c d e g)
@[elab_as_elim] theorem uu4{P:List Value->Prop}(us:List Value)(hl:us.length=4)(h:∀a0 a1 a2 a3,P [a0,a1,a2,a3]):P us:=match us,hl with | [a0,a1,a2,a3],_=>h a0 a1 a2 a3
theorem bb4{K:Frg}{x q:Str}{st:Stmt}{f:Addr}{o:FuncData}{p r s t:Str}(F:Fun K x q st f o)(h:∀(kV j y:Value) (u:Option Addr) (i v:Value) (k l m n:Value),bindArgs (W.fnOf x q (defArgs st) (defBody st) (defScope st) .none kV j y u i v) ⟨[k,l,m,n],[]⟩=pure ([p,r,s,t].zip [k,l,m,n]):=by intros;rfl):Binds K o [p,r,s,t] []:=F.binds fun a b c d e g z w=>uu4 z w (h a b c d e g)
@[elab_as_elim] theorem uu5{P:List Value->Prop}(us:List Value)(hl:us.length=5)(h:∀a0 a1 a2 a3 a4,P [a0,a1,a2,a3,a4]):P us:=match us,hl with | [a0,a1,a2,a3,a4],_=>h a0 a1 a2 a3 a4
theorem bb5{K:Frg}{x q:Str}{st:Stmt}{f:Addr}{p:FuncData}{r s t u v:Str}(F:Fun K x q st f p)(h:∀(kV j A:Value) (w:Option Addr) (i y:Value) (k l m n o:Value),bindArgs (W.fnOf x q (defArgs st) (defBody st) (defScope st) .none kV j A w i y) ⟨[k,l,m,n,o],[]⟩=pure ([r,s,t,u,v].zip [k,l,m,n,o]):=by intros;rfl):Binds K p [r,s,t,u,v] []:=F.binds fun a b c d e g B z=>uu5 B z (h a b c d e g)
abbrev Ng(K:Frg)(x:Str)(f:Addr):Prop:=W.nsIn K mainGlobals x=some (some (.ref f))
abbrev N0(K:Frg)(x:Str):Prop:=W.nsIn K mainGlobals x=some none
abbrev Nn(K:Frg)(C:Addr)(x:Str):Prop:=W.findIn K (.ref C) x=some none
abbrev Nx(K:Frg)(C:Addr)(x:Str)(f:Addr):Prop:=W.findIn K (.ref C) x=some (some (.ref f))
abbrev Fn1(K:Frg)(x:Str)(st:Stmt)(f:Addr)(d:FuncData):Prop:=Fun K x x st f d
set_option autoImplicit true in
theorem j5h{K:Frg}{h:Heap}{mg:Str->Option Value}(X:K.In h)(G:h.Ns mainGlobals mg)
  {a:Addr}
  (c:Ng K "LimbTally" a) (k:W.plainGet K a Str.empty=true) (g:W.hasDictIn K a=true) (l:W.plainOver K a=true) (m:W.findIn K (.ref a) "__setattr__"= some (some (.builtin "object.__setattr__"))) (j:W.makesIn K a=true) (i:W.keepIn K (.ref a)=true) (jH:Nn K a "strand") (qM:Nn K a "last") (Jp:Nn K a "asked") (Jk:Nn K a "wholes")
  {b:Addr}
  (n:Ng K "Strand" b) (r:W.plainGet K b Str.empty=true) (o:W.hasDictIn K b=true) (s:W.plainOver K b=true) (u:W.findIn K (.ref b) "__setattr__"= some (some (.builtin "object.__setattr__"))) (q:W.makesIn K b=true) (p:W.keepIn K (.ref b)=true) (qB:Nn K b "first") (Je:Nn K b "sizes") (qp:Nn K b "left") (Js:Nn K b "pieces") (Qp:Nn K b "begun")
  (a1:Ng K "numbers_of" f1) (F1:Fn1 K "numbers_of" ZC f1 d1)
  (a2:Ng K "names_in" f2) (F2:Fn1 K "names_in" y6 f2 d2)
  (a3:Ng K "inner" f3) (F3:Fn1 K "inner" Kr f3 d3)
  (a4:Ng K "ends" f4) (F4:Fn1 K "ends" j0k f4 d4)
  (a5:Ng K "moved" f5) (F5:Fn1 K "moved" Ks f5 d5)
  (a6:Ng K "check_side" f6) (F6:Fn1 K "check_side" zb f6 d6)
  (a7:Ng K "length_of" f7) (F7:Fn1 K "length_of" yj f7 d7)
  (a8:Ng K "lengths" f8) (F8:Fn1 K "lengths" zY f8 d8)
  (a9:Ng K "floor_sum" f9) (F9:Fn1 K "floor_sum" yi f9 d9)
  (ar:Ng K "ramp_sum" f10) (B:Fn1 K "ramp_sum" y9 f10 d10)
  (as:Ng K "reached" f11) (C:Fn1 K "reached" kG f11 d11)
  (au:Ng K "stretch" f12) (D:Fn1 K "stretch" kH f12 d12)
  (av:Ng K "ramp_count" f13) (E:Fn1 K "ramp_count" ZD f13 d13)
  (aw:Ng K "pieces_in" f14) (H:Fn1 K "pieces_in" yk f14 d14)
  (ax:Ng K "pieces_of" f15) (I:Fn1 K "pieces_of" zG f15 d15)
  (ay:Ng K "progress" f16) (J:Fn1 K "progress" y8 f16 d16)
  (az:Ng K "heights_begun" f17) (L:Fn1 K "heights_begun" Qa f17 d17)
  (an:Nx K b "__init__" f18) (ap:W.isFn K (.ref f18)=true) (v:Fun K "__init__" "Strand.__init__" JM f18 d18)
  (aA:Nx K b "raises" f19) (b0:W.isFn K (.ref f19)=true) (w:Fun K "raises" "Strand.raises" QY f19 d19)
  (aB:Ng K "weighed" f20) (N:Fn1 K "weighed" kI f20 d20)
  (aC:Ng K "stayed" f21) (P:Fn1 K "stayed" K7 f21 d21)
  (ao:Nx K a "__init__" f22) (aq:W.isFn K (.ref f22)=true) (y:Fun K "__init__" "LimbTally.__init__" JL f22 d22)
  (aD:Nx K a "within" f23) (b1:W.isFn K (.ref f23)=true) (z:Fun K "within" "LimbTally.within" Qd f23 d23)
  (aE:Nx K a "ahead" f24) (b2:W.isFn K (.ref f24)=true) (A:Fun K "ahead" "LimbTally.ahead" Qs f24 d24)
  (aF:Ng K "ahead_of" f25) (Q:Fn1 K "ahead_of" yZ f25 d25)
  (aG:Ng K "height_sum" f26) (R:Fn1 K "height_sum" ZB f26 d26)
  (aH:Ng K "_law_cell_at" f27) (S:Fn1 K "_law_cell_at" zo f27 d27)
  (aI:Ng K "_law_mixed" f28) (T:Fn1 K "_law_mixed" Zx f28 d28)
  (aJ:Ng K "_law_whole" f29) (U:Fn1 K "_law_whole" ZA f29 d29)
  (aK:Ng K "_law_word" f30) (Y:Fn1 K "_law_word" yh f30 d30)
  (aL:Ng K "_law_named" f31) (Z:Fn1 K "_law_named" za f31 d31)
  (aM:Ng K "_law_form" f32) (a0:Fn1 K "_law_form" yd f32 d32)
  (aN:Ng K "_law_long" f33) (aa:Fn1 K "_law_long" QU f33 d33)
  (aO:Ng K "_law_moves" f34) (ab:Fn1 K "_law_moves" Zy f34 d34)
  (aP:Ng K "_law_last" f35) (ac:Fn1 K "_law_last" ye f35 d35)
  (aQ:Ng K "_law_take" f36) (ad:Fn1 K "_law_take" yf f36 d36)
  (aR:Ng K "_law_naming" f37) (ae:Fn1 K "_law_naming" qU f37 d37)
  (aS:Ng K "_law_form_told" f38) (af:Fn1 K "_law_form_told" QE f38 d38)
  (aT:Ng K "_law_book_told" f39) (ag:Fn1 K "_law_book_told" QD f39 d39)
  (aU:Ng K "_law_book" f40) (ah:Fn1 K "_law_book" yc f40 d40)
  (aV:Ng K "_law_beside" f41) (ai:Fn1 K "_law_beside" qT f41 d41)
  (aW:Ng K "_law_climbed" f42) (aj:Fn1 K "_law_climbed" zp f42 d42)
  (aX:Ng K "_law_run" f43) (ak:Fn1 K "_law_run" Zz f43 d43)
  (aY:Ng K "_law_told" f44) (al:Fn1 K "_law_told" yg f44 d44)
  (aZ:Ng K "law" f45) (am:Fn1 K "law" j3i f45 d45)
  {qP:Addr}
  (d:Ng K "MOST_NAMES" qP) (kk_MOST_NAMES:TabK K qP [("row",.flat (.int 8)),("side",.flat (.int 4))])
  (z0:N0 K "abs") (z1:N0 K "bool") (z2:N0 K "dict") (z3:N0 K "enumerate") (z4:N0 K "int") (z5:N0 K "isinstance") (z6:N0 K "len") (z7:N0 K "list") (z8:N0 K "max") (z9:N0 K "min") (b3:N0 K "range") (b4:N0 K "reversed") (b5:N0 K "sorted") (b6:N0 K "sum") (b7:N0 K "tuple") (b8:N0 K "zip") :
  ∃t:Ad,Txt K mg t:=by
 have M:∀{x f},Ng K x f->mg x=some (.ref f):=fun e=>W.mg_of X G e
 have O:∀{x},N0 K x->mg x=none:=fun e=>W.mg_none_of X G e
 exact⟨⟨f1,_,f2,_,f3,_,f4,_,f5,_,f6,_,f7,_,f8,_,f9,_,f10,_,f11,_,f12,_,f13,_,f14,_,f15,_,f16,_,f17,_,f18,_,f19,_,f20,_,f21,_,f22,_,f23,_,f24,_,f25,_,f26,_,f27,_,f28,_,f29,_,f30,_,f31,_,f32,_,f33,_,f34,_,f35,_,f36,_,f37,_,f38,_,f39,_,f40,_,f41,_,f42,_,f43,_,f44,_,f45,_,b,a,_⟩,⟨⟨F1,M a1,bb1 F1⟩,⟨F2,M a2,bb1 F2⟩,⟨F3,M a3,bb1 F3⟩,⟨F4,M a4,bb1 F4⟩,⟨F5,M a5,bb1 F5⟩,⟨F6,M a6,bb3 F6⟩,⟨F7,M a7,bb2 F7⟩,⟨F8,M a8,bb1 F8⟩,⟨F9,M a9,bb4 F9⟩,⟨B,M ar,bb4 B⟩,⟨C,M as,bb4 C⟩,⟨D,M au,bb5 D⟩,⟨E,M av,bb5 E⟩,⟨H,M aw,bb3 H⟩,⟨I,M ax,bb2 I⟩,⟨J,M ay,bb3 J⟩,⟨L,M az,bb3 L⟩,v,⟨an,ap,v.kp⟩,bb3 v,w,⟨aA,b0,w.kp⟩,bb2 w,⟨N,M aB,bb5 N⟩,⟨P,M aC,bb3 P⟩,y,⟨ao,aq,y.kp⟩,bb4 y,z,⟨aD,b1,z.kp⟩,bb4 z,A,⟨aE,b2,A.kp⟩,bb2 A,⟨Q,M aF,bb2 Q⟩,⟨R,M aG,bb3 R⟩,⟨S,M aH,bb2 S⟩,⟨T,M aI,bb2 T⟩,⟨U,M aJ,bb1 U⟩,⟨Y,M aK,bb2 Y⟩,⟨Z,M aL,bb4 Z⟩,⟨a0,M aM,bb5 a0⟩,⟨aa,M aN,bb2 aa⟩,⟨ab,M aO,bb3 ab⟩,⟨ac,M aP,bb3 ac⟩,⟨ad,M aQ,bb2 ad⟩,⟨ae,M aR,bb5 ae⟩,⟨af,M aS,bb5 af⟩,⟨ag,M aT,bb3 ag⟩,⟨ah,M aU,bb3 ah⟩,⟨ai,M aV,bb3 ai⟩,⟨aj,M aW,bb2 aj⟩,⟨ak,M aX,bb3 ak⟩,⟨al,M aY,bb1 al⟩,⟨am,M aZ,bb1 am⟩,⟨r,o,s,u⟩,⟨q,an,ap,p⟩,M n,qB,Je,qp,Js,Qp,⟨k,g,l,m⟩,⟨j,ao,aq,i⟩,M c,jH,qM,Jp,Jk,O z0,O z1,O z2,O z3,O z4,O z5,O z6,O z7,O z8,O z9,O b3,O b4,O b5,O b6,O b7,O b8,M d,kk_MOST_NAMES⟩⟩
end K22
open PySem PySem.W PyProof.Rows
set_option maxRecDepth 100000 in
set_option maxHeartbeats 0 in
theorem PySem.Challenge.cw_camplay_k22_heights_summed_holds : PySem.Challenge.rw_camplay_k22_heights_summed.Holds := by
 w_on;o_law;k_head;(case hw=>w_witness2)
 k_fill
 refine L2.j3D (l:=PySem.Challenge.rw_camplay_k22_heights_summed) (n:=63) (k:=39) (x:="_law_script") (CX:=L2.CX0) (sp:=Pr.sp_law) rfl (by decide) rfl ⟨rfl,by decide,by decide⟩ (fun w h Y=>PySem.W.kIn_of Y) ?F (fun K H a ns hl hb hO hS=>⟨a,ns,rfl,hS,hl,hb,fun _=>rfl⟩) (fun _ _ _ _ z=>z)
 case F=>
  intro w mg fa h KX G hmg;have TT:∃t:K22.Ad,K22.Txt (L2.KOf KX) mg t:=by
   dsimp only[L2.KOf];refine' K22.j5h KX G ?_ ?_ ?_ ?_ ?_ ?_ ?_ ?_ ?_ ?_ ?_ ?_ ?_ ?_ ?_ ?_ ?_ ?_ ?_ ?_ ?_ ?_ ?_ ?_ (L2.jQ ?_ ?_ ?_) ?_ (L2.jQ ?_ ?_ ?_) ?_ (L2.jQ ?_ ?_ ?_) ?_ (L2.jQ ?_ ?_ ?_) ?_ (L2.jQ ?_ ?_ ?_) ?_ (L2.jQ ?_ ?_ ?_) ?_ (L2.jQ ?_ ?_ ?_) ?_ (L2.jQ ?_ ?_ ?_) ?_ (L2.jQ ?_ ?_ ?_) ?_ (L2.jQ ?_ ?_ ?_) ?_ (L2.jQ ?_ ?_ ?_) ?_ (L2.jQ ?_ ?_ ?_) ?_ (L2.jQ ?_ ?_ ?_) ?_ (L2.jQ ?_ ?_ ?_) ?_ (L2.jQ ?_ ?_ ?_) ?_ (L2.jQ ?_ ?_ ?_) ?_ (L2.jQ ?_ ?_ ?_) ?_ ?_ (L2.jQ ?_ ?_ ?_) ?_ ?_ (L2.jQ ?_ ?_ ?_) ?_ (L2.jQ ?_ ?_ ?_) ?_ (L2.jQ ?_ ?_ ?_) ?_ ?_ (L2.jQ ?_ ?_ ?_) ?_ ?_ (L2.jQ ?_ ?_ ?_) ?_ ?_ (L2.jQ ?_ ?_ ?_) ?_ (L2.jQ ?_ ?_ ?_) ?_ (L2.jQ ?_ ?_ ?_) ?_ (L2.jQ ?_ ?_ ?_) ?_ (L2.jQ ?_ ?_ ?_) ?_ (L2.jQ ?_ ?_ ?_) ?_ (L2.jQ ?_ ?_ ?_) ?_ (L2.jQ ?_ ?_ ?_) ?_ (L2.jQ ?_ ?_ ?_) ?_ (L2.jQ ?_ ?_ ?_) ?_ (L2.jQ ?_ ?_ ?_) ?_ (L2.jQ ?_ ?_ ?_) ?_ (L2.jQ ?_ ?_ ?_) ?_ (L2.jQ ?_ ?_ ?_) ?_ (L2.jQ ?_ ?_ ?_) ?_ (L2.jQ ?_ ?_ ?_) ?_ (L2.jQ ?_ ?_ ?_) ?_ (L2.jQ ?_ ?_ ?_) ?_ (L2.jQ ?_ ?_ ?_) ?_ (L2.jQ ?_ ?_ ?_) ?_ (L2.jQ ?_ ?_ ?_) ?_ (L2.jQ ?_ ?_ ?_) ?_ ?kk_MOST_NAMES ?_ ?_ ?_ ?_ ?_ ?_ ?_ ?_ ?_ ?_ ?_ ?_ ?_ ?_ ?_ ?_
   any_goals first | (show PySem.W.nsIn _ _ _=_;k_is) | (show PySem.W.findIn _ _ _=_;k_is) | k_is
   (case kk_MOST_NAMES=>(show PyProof.Rows.KTD.tabLook _ _ _ _=true);kernel_rfl)
  obtain⟨t,T⟩:=TT;obtain⟨_,_,kV,dc,pm,an,cd,ct,_,e,_⟩:=T.j2a.F.ex;have e0:=hmg.symm.trans T.j2a.m;cases e0;refine⟨t.j0B,fun s v=>?_,fun base _ _=>K22.j3G T⟩;rw[e];exact .of_eq rfl
#print axioms PySem.Challenge.cw_camplay_k22_heights_summed_holds
