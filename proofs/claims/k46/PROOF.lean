import PyProof.Rows.All
import Wide.All
import OpenK.AllK
import Wide.FinOn
import Lean
import PyProof.EqAt
import PyProof.EqKinds
import PyProof.TupleCall
import PySem.Challenge.RW_camplay_k46_one_book_rings
set_option Elab.async false
set_option linter.all false
set_option maxRecDepth 100000
set_option maxHeartbeats 4000000
open List (all_cons all_eq_true any_cons any_eq_true append_nil eq_nil_or_concat ext_getElem filterMap_append filterMap_cons filterMap_cons_none filterMap_cons_some filter_append filter_cons filter_nil flatMap_append flatMap_cons flatMap_nil getD_eq_getElem?_getD getElem_map getElem_mem getElem_range length_cons length_drop length_eq_zero_iff length_filter_le length_map length_nil length_range length_singleton length_take lookup_cons map_append map_congr_left map_cons map_nil mem_append mem_append_left mem_append_right mem_cons mem_cons_of_mem mem_cons_self mem_filter mem_filterMap mem_flatMap mem_iff_getElem mem_map mem_of_mem_drop mem_of_mem_take mem_range mem_singleton nodup_append nodup_cons nodup_range not_mem_nil of_mem_zip pairwise_cons pairwise_iff_getElem pairwise_map pairwise_singleton range_succ reverse_cons size_toArray sum_append sum_cons sum_nil take_length take_sublist)
abbrev vz:=@List.getElem?_eq_getElem
abbrev vy:=@List.getD_eq_getElem?_getD
abbrev vx:=@List.getElem?_eq_some_iff
abbrev vv:=@List.getElem?_map
abbrev vt:=@List.length_map
abbrev vq:=@List.mem_cons_self
abbrev vp:=@List.mem_cons_of_mem
abbrev vo:=@List.mem_singleton
abbrev vn:=@List.length_append
abbrev vj:=@List.mem_of_getElem?
abbrev vi:=@List.map_append
abbrev vh:=@List.length_take
abbrev vg:=@List.mem_append
abbrev vf:=@Option.map_eq_some_iff
abbrev ve:=@Int.emod_lt_of_pos
abbrev vd:=@Int.emod_nonneg
abbrev vc:=@if_pos
abbrev vb:=@if_neg
abbrev va:=@Nat.le_refl
abbrev vA:=@Nat.zero_le
abbrev vB:=@Int.le_refl
abbrev vC:=@List.getElem?_append_left
abbrev vD:=@List.getElem?_append_right
abbrev vE:=@Nat.lt_of_le_of_lt
abbrev vF:=@Nat.ne_of_lt
abbrev vG:=@Bool.false_ne_true
abbrev vH:=@decide_eq_true
abbrev vI:=@decide_eq_false
abbrev vJ:=@PySem.Heap.lt_size
abbrev vK:=@PySem.Heap.get?_push_of_some
abbrev vL:=@List.mem_map
abbrev vM:=@Option.some.inj
abbrev vO:=@Int.mul_nonneg
abbrev vQ:=@List.mem_filter
abbrev vS:=@List.length_cons
abbrev vU:=@List.length_singleton
abbrev vW:=@Int.mul_le_mul_of_nonneg_right
abbrev vY:=@Nat.le_trans
abbrev vZ:=@Int.le_trans
abbrev v3:=@Nat.le_of_lt
abbrev v4:=@Nat.lt_trans
abbrev v6:=@List.mem_range
abbrev v7:=@List.take_length
abbrev v8:=@List.map_map
abbrev uz:=@List.filter_cons
abbrev uy:=@List.map_cons
abbrev ux:=@List.sum_cons
abbrev uv:=@Int.zero_add
abbrev ut:=@Int.add_zero
abbrev uf:=@List.getElem?_take_of_lt
abbrev ub:=@PySem.wpAny_bind
abbrev uA:=@PySem.wpAny_pure
abbrev uB:=@absurd
theorem uC:1<=PySem.sizeLine:=by decide
theorem uD:2<=PySem.sizeLine:=by decide
theorem uE:3<=PySem.sizeLine:=by decide
theorem uF:4<=PySem.sizeLine:=by decide
abbrev Frg := PySem.W.Frag
namespace L2
open PySem PySem.Spec PyProof.Rows
noncomputable abbrev Key:=Sum Int Str
noncomputable def keyIs:Key->Value->Bool
 | .inl k,v=>Value.isInt k v
 | .inr x,v=>Value.isStrOf x v
noncomputable def keyH(w:World):Key->Int
 | .inl k=>hashInt k
 | .inr x=>hashStr w x
theorem Jl:∀{k:Key} {v:Value},keyIs k v=true->(∃i t,k=Sum.inl i/\v=Value.int i t)\/(∃x t,k=Sum.inr x/\v=Value.str x t)
 | .inl i,v,h=>by
  obtain⟨t,e⟩:=Value.isInt_shape (k:=i) (v:=v) h;exact .inl ⟨i,t,rfl,e⟩
 | .inr x,v,h=>by
  obtain⟨t,e⟩:=Value.isStrOf_shape (x:=x) (v:=v) h;exact .inr ⟨x,t,rfl,e⟩
theorem KO(i:Int)(t:Tok):keyIs (.inl i) (.int i t)=true:=by simp[keyIs,Value.isInt]
theorem j0x(x:Str)(t:Tok):keyIs (.inr x) (.str x t)=true:=by simp[keyIs,Value.isStrOf]
theorem j4i(a b:Int):decide ((Sum.inl a:Key)=Sum.inl b)=(a==b):=by
 by_cases e:a=b
 ·subst e;simp
 ·have h:¬(Sum.inl a:Key)=Sum.inl b:=fun q=>e (Sum.inl.inj q)
  rw[vI h];exact(beq_eq_false_iff_ne.mpr e).symm
theorem j4l(a b:Str):decide ((Sum.inr a:Key)=Sum.inr b)=decide (a=b):=by
 by_cases e:a=b
 ·subst e;simp
 ·have h:¬(Sum.inr a:Key)=Sum.inr b:=fun q=>e (Sum.inr.inj q)
  rw[vI h,vI e]
theorem j4j(a:Int)(b:Str):decide ((Sum.inl a:Key)=Sum.inr b)=false:=vI (fun q=>nomatch q)
theorem j4k(a:Str)(b:Int):decide ((Sum.inr a:Key)=Sum.inl b)=false:=vI (fun q=>nomatch q)
noncomputable def mixKind(prog:Program)(w:World):PySem.KeyKind prog w Key where
 is:=keyIs
 hash:=keyH w
 inj:=fun v a b ha hb=>by
  rcases Jl ha with⟨i,t,rfl,rfl⟩ | ⟨x,t,rfl,rfl⟩
  ·rcases Jl hb with⟨j,u,rfl,e⟩ | ⟨y,u,rfl,e⟩
   ·injection e with e1 _;rw[e1]
   ·exact nomatch e
  ·rcases Jl hb with⟨j,u,rfl,e⟩ | ⟨y,u,rfl,e⟩
   ·exact nomatch e
   ·injection e with e1 _;rw[e1]
 byValue:=fun k v h=>by
  rcases Jl h with⟨i,t,rfl,rfl⟩ | ⟨x,t,rfl,rfl⟩<;>rfl
 pyHash:=fun hv h=>by
  rcases Jl hv with⟨i,t,rfl,rfl⟩ | ⟨x,t,rfl,rfl⟩
  ·exact wpAny_pyHash_int h
  ·exact wpAny_pyHash_str h
 eqBool:=fun hu hv h=>by
  rcases Jl hu with⟨i,t,rfl,rfl⟩ | ⟨x,t,rfl,rfl⟩
  ·rcases Jl hv with⟨j,u,rfl,rfl⟩ | ⟨y,u,rfl,rfl⟩
   ·rw[j4i]at h;exact wpAny_eqBool_int h
   ·rw[j4j]at h;exact SeqAt.EqAt.int_str i t y u _ _ _ _ h
  ·rcases Jl hv with⟨j,u,rfl,rfl⟩ | ⟨y,u,rfl,rfl⟩
   ·rw[j4k]at h;exact SeqAt.EqAt.str_int x t j u _ _ _ _ h
   ·rw[j4l]at h;exact wpAny_eqBool_str h
 «strs»:=fun k x t v h=>by
  rcases Jl h with⟨i,u,rfl,e⟩ | ⟨y,u,rfl,e⟩
  ·exact nomatch e
  ·injection e with e1 _;subst e1;cases v<;>rfl
theorem WX(prog:Program)(w:World)(i:Int)(t:Tok):(mixKind prog w).is (.inl i) (.int i t)=true:=KO i t
theorem WY(prog:Program)(w:World)(x:Str)(t:Tok):(mixKind prog w).is (.inr x) (.str x t)=true:=j0x x t
inductive V where
 | non | bl (b:Bool) | int (i:Int) | str (x:Str) | byt (b:Array UInt8) | flt (b:UInt64) | ref (a:Addr) | ty (n:String)
 deriving DecidableEq
noncomputable def RelV:V->Value->Prop
 | .non,u=>u=Value.none
 | .bl b,u=>u=Value.bool b
 | .int i,u=>∃t,u=Value.int i t
 | .str x,u=>∃t,u=Value.str x t
 | .byt b,u=>∃t,u=Value.bytes b t
 | .flt b,u=>∃t,u=Value.float b t
 | .ref a,u=>u=Value.ref a
 | .ty n,u=>u=Value.type n
noncomputable abbrev Vals:List V->List Value->Prop:=Paired RelV
theorem Vals.length(r:Vals xs us):xs.length=us.length:=Paired.length r
theorem Vals.get:∀{xs:List V} {us:List Value} {i:Nat} {x:V},Vals xs us->xs[i]?=some x->∃u,us[i]?=some u/\RelV x u
 | _,_,_,_,.nil,e=>by simp at e
 | _,_,0,_,.cons r _,e=>by simp at e;subst e;exact⟨_,rfl,r⟩
 | _,_,i+1,x,.cons _ t,e=>by
  obtain⟨u,a,b⟩:=Vals.get (i:=i) (x:=x) t (by simpa using e);exact⟨u,by simpa using a,b⟩
theorem Vals.set(r:RelV x u):∀{xs:List V} {us:List Value} (i:Nat),Vals xs us->Vals (xs.set i x) (us.set i u)
 | _,_,_,.nil=>.nil
 | _,_,0,.cons _ t=>.cons r t
 | _,_,i+1,.cons q t=>.cons q (Vals.set r i t)
theorem Vals.append:∀{xs ys:List V} {us a:List Value},Vals xs us->Vals ys a->Vals (xs++ys) (us++a)
 | _,_,_,_,.nil,s=>s
 | _,_,_,_,.cons r t,s=>.cons r (Vals.append t s)
theorem Vals.take:∀{xs:List V} {us:List Value} (n:Nat),Vals xs us->Vals (xs.take n) (us.take n)
 | _,_,0,_=>.nil
 | _,_,_+1,.nil=>.nil
 | _,_,n+1,.cons r t=>.cons r (Vals.take n t)
theorem Vals.drop:∀{xs:List V} {us:List Value} (n:Nat),Vals xs us->Vals (xs.drop n) (us.drop n)
 | _,_,0,r=>r
 | _,_,_+1,.nil=>.nil
 | _,_,n+1,.cons _ t=>Vals.drop n t
noncomputable def RelO:Option V->Option Value->Prop
 | some v,some u=>RelV v u
 | none,none=>True
 | _,_=>False
noncomputable def KV{κ:Type}:List (κ×V)->List (κ×Value)->Prop:=Paired fun(p:κ×V) (q:κ×Value)=>p.1=q.1/\RelV p.2 q.2
noncomputable def kV:Key->V
 | .inl i=>.int i
 | .inr x=>.str x
inductive HO where
 | lst (xs:List V)
 | tup (xs:List V)
 | dK (kvs:List (Key×V)) | dT (kvs:List (List Key×V))
 | set (S:Int->Bool) (n:Nat)
 | ins (C dx:Addr) (fs:List (Str×V))
 | own (x:Addr)
 | xd (fs:List (Str×V))
 | met (f x:Addr)
 | rng (lo hi:Int)
 | frz (o:Obj) (u:HO)
 | tbl (ps:Array Value)
 | ext (φ:Heap->Prop)
noncomputable abbrev Hp:=Addr->Option HO
noncomputable def upd(H:Hp)(a:Addr)(o:HO):Hp:=fun b=>if b=a then some o else H b
theorem jt{H:Hp}:upd H a o a=some o:=by unfold upd;rw[vc rfl]
theorem jg{H:Hp}(h:b≠a):upd H a o b=H b:=by unfold upd;rw[vb h]
theorem ZF{H:Hp}(h:H a=some o)(h':H b=some u)(d:o≠u):a≠b:=by
 intro e;subst e;rw[h]at h';exact d (vM h')
theorem je{H:Hp}(h:H a=some o)(h':H b=none):a≠b:=by
 intro e;subst e;rw[h]at h';cases h'
section
variable(P:Program)(w:World)
noncomputable def ObjOk(H:Hp)(h:Heap)(a:Addr):HO->Prop
 | .lst xs=>xs.length<=sizeLine/\∃(its:List Value) (n:Nat),Vals xs its/\h.get? a=some {cls:=.type "list",data:=.seq its.toArray n}
 | .tup xs=>xs.length<=sizeLine/\∃its:List Value,Vals xs its/\IsTup h a its.toArray
 | .dK kvs=>kvs.length<=sizeLine/\(a==sysModules)=false/\∃vs,KV kvs vs/\h.DictOf (mixKind P w) a vs
 | .dT kvs=>kvs.length<=sizeLine/\(a==sysModules)=false/\∃xs:List (List Key×Addr×Value),
   Paired (fun(p:List Key×V) (q:List Key×Addr×Value)=>p.1=q.1/\H q.2.1=some (.tup (p.1.map kV))/\RelV p.2 q.2.2) kvs xs/\
   ∃o es ep,h.get? a=some o/\o.ExactDict/\o.data = .dict es ep/\es.toList=xs.map (entryOfKey (tupleKind (mixKind P w)))/\(xs.map (·.1)).Nodup
 | .set S n=>h.SetOf (intKind P w) a S n
 | .ins C dx fs=>H dx=some (.own a)/\fs.length<=1000/\dx≠a/\h.get? a=some (PySem.W.instObj C dx)/\
   ∃mA,h.Ns1 dx mA/\(∀f,RelO (fs.lookup f) (mA f))/\PySem.Within mA (fs.map (·.1))
 | .own _=>∃o,h.get? a=some o
 | .xd fs=>∃mA,h.Ns1 a mA/\∀f,RelO (fs.lookup f) (mA f)
 | .rng lo hi=>∃t u v,h.get? a=some {cls:=.type "range",data:=.fields #[.int lo t,.int hi u,.int 1 v]}
 | .frz o u=>h.get? a=some o/\ObjOk H h a u
 | .tbl ps=>h.get? a=some {cls:=.none,data:=.fields ps}
 | .met f x=>h.get? a=some (PySem.W.methodObj (.ref f) (.ref x))
 | .ext φ=>φ h/\(∃o,h.get? a=some o)/\∀h1 h2:Heap,φ h1->(∀o,h1.get? a=some o->h2.get? a=some o)->φ h2
def HOk(H:Hp)(h:Heap):Prop:=∀a o,H a=some o->ObjOk P w H h a o
end
section
variable{P:Program}{w:World}{H H':Hp}{h h':Heap}{a:Addr}{o:HO}
theorem ObjOk.lt(x:ObjOk P w H h a o):a<h.objs.size:=by
 cases o with
 | lst xs=>obtain⟨_,_,_,_,e⟩:=x;exact vJ e
 | tup xs=>obtain⟨_,_,_,p⟩:=x;exact p.lt
 | dK kvs=>obtain⟨_,_,_,_,o,_,_,e,_⟩:=x;exact vJ e
 | dT kvs=>obtain⟨_,_,_,_,o,_,_,e,_⟩:=x;exact vJ e
 | set S n=>obtain⟨o,_,_,_,e,_⟩:=x;exact vJ e
 | ins C dx fs=>obtain⟨_,_,_,e,_⟩:=x;exact vJ e
 | own y=>obtain⟨_,e⟩:=x;exact vJ e
 | xd fs=>obtain⟨_,⟨_,_,_,e,_⟩,_⟩:=x;exact vJ e
 | rng lo hi=>obtain⟨_,_,_,e⟩:=x;exact vJ e
 | frz ob u=>obtain⟨e,_⟩:=x;exact vJ e
 | tbl ps=>exact vJ (show h.get? a=some _ from x)
 | met f y=>exact vJ (show h.get? a=some _ from x)
 | ext φ=>obtain⟨_,⟨_,e⟩,_⟩:=x;exact vJ e
theorem Paired.mapP{c d:Type}{F G:c->d->Prop}:∀{l₁:List c} {l₂:List d},Paired F l₁ l₂->(∀a b,F a b->G a b)->Paired G l₁ l₂
 | _,_,.nil,_=>.nil
 | _,_,.cons r t,f=>.cons (f _ _ r) (Paired.mapP t f)
theorem ObjOk.stay(x:ObjOk P w H h a o)(k:∀b u,(b=a\/H b=some (.own a))->h.get? b=some u->h'.get? b=some u)
  (D:∀b,H b=some (.own a)->H' b=some (.own a)) (E:∀b xs,H b=some (.tup xs)->H' b=some (.tup xs)):ObjOk P w H' h' a o:=by
 induction o with
 | lst xs=>obtain⟨z,l,n,r,e⟩:=x;exact⟨z,l,n,r,k _ _ (.inl rfl) e⟩
 | tup xs=>obtain⟨z,l,r,g,e,c⟩:=x;exact⟨z,l,r,g,k _ _ (.inl rfl) e,c⟩
 | dK kvs=>obtain⟨z,y,G,r,g,j,i,e,c⟩:=x;exact⟨z,y,G,r,g,j,i,k _ _ (.inl rfl) e,c⟩
 | dT kvs=>
  obtain⟨z,y,xs,r,g,j,i,e,c⟩:=x;exact⟨z,y,xs,Paired.mapP r fun p q z=>⟨z.1,E _ _ z.2.1,z.2.2⟩,g,j,i,k _ _ (.inl rfl) e,c⟩
 | set S n=>obtain⟨g,j,i,t,e,c⟩:=x;exact⟨g,j,i,t,k _ _ (.inl rfl) e,c⟩
 | ins C dx fs=>
  obtain⟨d,z,F,e,m,⟨s,j,i,B,c⟩,r⟩:=x;exact⟨D _ d,z,F,k _ _ (.inl rfl) e,m,⟨s,j,i,k _ _ (.inr d) B,c⟩,r⟩
 | own y=>obtain⟨g,e⟩:=x;exact⟨g,k _ _ (.inl rfl) e⟩
 | xd fs=>obtain⟨m,⟨s,j,i,e,c⟩,r⟩:=x;exact⟨m,⟨s,j,i,k _ _ (.inl rfl) e,c⟩,r⟩
 | rng lo hi=>obtain⟨t,u,v,e⟩:=x;exact⟨t,u,v,k _ _ (.inl rfl) e⟩
 | frz g u ih=>obtain⟨e,q⟩:=x;exact⟨k _ _ (.inl rfl) e,ih q⟩
 | tbl ps=>
  have e:h.get? a=some {cls:=.none,data:=.fields ps}:=x;show h'.get? a=some {cls:=.none,data:=.fields ps};exact k a _ (.inl rfl) e
 | met f y=>
  have e:h.get? a=some (PySem.W.methodObj (.ref f) (.ref y)):=x;show h'.get? a=some (PySem.W.methodObj (.ref f) (.ref y));exact k a _ (.inl rfl) e
 | ext φ=>obtain⟨p,⟨o,e⟩,A⟩:=x;exact⟨A _ _ p fun o q=>k _ _ (.inl rfl) q,⟨o,k _ _ (.inl rfl) e⟩,A⟩
theorem HOk.lt(x:HOk P w H h)(e:H a=some o):a<h.objs.size:=(x a o e).lt
theorem HOk.fresh(x:HOk P w H h)(e:h.objs.size<=a):H a=none:=by
 cases q:H a with
 | none=>rfl
 | some u=>exact uB (Nat.lt_of_lt_of_le (x.lt q) e) (Nat.lt_irrefl _)
theorem HOk.kept(x:HOk P w H h)(k:∀b u,h.get? b=some u->h'.get? b=some u):HOk P w H h':=fun a o e=>
 (x a o e).stay (fun b u _ q=>k b u q) (fun _ q=>q) fun _ _ q=>q
theorem HOk.laid(x:HOk P w H h)(k:∀b u,h.get? b=some u->h'.get? b=some u)(i:h.objs.size<=a)(d:ObjOk P w (upd H a o) h' a o):HOk P w (upd H a o) h':=fun b u e=>by
 have g:=x.fresh i;by_cases f:b=a
 ·subst f;rw[jt]at e;cases e;exact d
 ·rw[jg f]at e;exact(x b u e).stay (fun c v _ q=>k c v q) (fun c q=>by rw[jg (je q g)];exact q) fun c j q=>by rw[jg (je q g)];exact q
end
def Rd(H:Hp)(a:Addr)(u:HO):Prop:=H a=some u\/∃o,H a=some (.frz o u)
theorem Rd.ok{H:Hp}(r:Rd H a u)(x:HOk P w H h):ObjOk P w H h a u:=by
 rcases r with r | ⟨o,r⟩
 ·exact x a u r
 ·obtain⟨_,q⟩:=x a _ r;exact q
noncomputable def Mut:Option HO->Prop
 | some (.lst _)=>True
 | some (.dK _)=>True
 | some (.dT _)=>True
 | some (.set _ _)=>True
 | some (.ins _ _ _)=>True
 | some (.ext _)=>True
 | _=>False
section
variable{P:Program}{w:World}{H:Hp}{h h':Heap}{x e:Addr}{o':HO}
theorem HOk.write(t:HOk P w H h)(j:Mut (H x))(o:e=x\/H e=some (.own x))(k:∀b u,b≠e->h.get? b=some u->h'.get? b=some u)(m:∃u,h'.get? e=some u)
  (n:ObjOk P w (upd H x o') h' x o'):HOk P w (upd H x o') h':=fun b u q=>by
 have d:∀c y,H c=some (.own y)->c≠x:=fun c y r z=>by subst z;rw[r]at j;exact j
 have f:∀c l,H c=some (.tup l)->c≠x:=fun c l r z=>by subst z;rw[r]at j;exact j
 by_cases g:b=x
 ·subst g;rw[jt]at q;cases q;exact n
 ·rw[jg g]at q;by_cases a:b=e
  ·have p:H b=some (.own x):=by
    rcases o with z | z
    ·exact uB (a.trans z) g
    ·rw[a];exact z
   rw[q]at p;cases p;obtain⟨v,s⟩:=m;exact⟨v,by rw[a];exact s⟩
  ·refine(t b u q).stay (fun c v i r=>k c v ?_ r) (fun c r=>by rw[jg (d c b r)];exact r) fun c l r=>by rw[jg (f c l r)];exact r
   rcases i with rfl | i
   ·exact a
   ·rintro rfl;rcases o with z | z
    ·exact d c b i z
    ·rw[i]at z;cases z;exact g rfl
end
structure Un(fs ex:List Addr)(H H':Hp)(h h':Heap):Prop where
 keep:∀b o,h.get? b=some o->H b=none->b∉fs->b∉ex->h'.get? b=some o
 slot:∀b o,h.get? b=some o->H b=none->b∈fs->b∉ex->∃sl,h'.get? b=some {o with slots:=sl}
 free:∀b o,h.get? b=some o->H b=none->b∉ex->H' b=none
 there:∀b o,h.get? b=some o->b∉ex->∃o',h'.get? b=some o'
 tups:∀b xs,H b=some (.tup xs)->H' b=some (.tup xs)
 frzs:∀b o u,H b=some (.frz o u)->H' b=some (.frz o u)
 tbls:∀b ps,H b=some (.tbl ps)->∃more,H' b=some (.tbl (ps++more))
section
variable{fs fs' ex ex':List Addr}{H H1 H2:Hp}{h h1 h2 h':Heap}{a x e:Addr}{o:HO}
theorem Un.any(u:Un fs ex H H1 h h1)(q:h.get? b=some ob)(n:H b=none)(c:b∉ex):∃d,h1.get? b=some {ob with slots:=d}:=by
 by_cases a:b∈fs
 ·exact u.slot b ob q n a c
 ·exact⟨ob.slots,u.keep b ob q n a c⟩
theorem Un.kept(k:∀b u,h.get? b=some u->h'.get? b=some u):Un fs ex H H h h':=
 ⟨fun b a q _ _ _=>k b a q,fun b a q _ _ _=>⟨a.slots,k b a q⟩,fun _ _ _ n _=>n,fun b a q _=>⟨a,k b a q⟩,fun _ _ q=>q,fun _ _ _ q=>q,fun _ c q=>⟨#[],by rw[q];simp⟩⟩
theorem Un.refl:Un fs ex H H h h:=Un.kept fun _ _ q=>q
theorem Un.laid(k:∀b u,h.get? b=some u->h'.get? b=some u)(d:h.objs.size<=a)(c:H a=none):Un fs ex H (upd H a o) h h' where
 keep:=fun b u q _ _ _=>k b u q
 slot:=fun b u q _ _ _=>⟨u.slots,k b u q⟩
 free:=fun b u q n _=>by rw[jg (vF (Nat.lt_of_lt_of_le (vJ q) d))];exact n
 there:=fun b u q _=>⟨u,k b u q⟩
 tups:=fun b e q=>by rw[jg (je q c)];exact q
 frzs:=fun b u e q=>by rw[jg (je q c)];exact q
 tbls:=fun b f q=>⟨#[],by rw[jg (je q c),q];simp⟩
theorem Un.write(c:Mut (H x))(j:e=x\/H e=some (.own x))(k:∀b u,b≠e->h.get? b=some u->h'.get? b=some u)(d:∃u,h'.get? e=some u):Un fs ex H (upd H x o) h h':=by
 have i:∀b,H b=none->b≠x:=fun b n z=>by subst z;rw[n]at c;exact c
 have g:∀b,H b=none->b≠e:=fun b n z=>by
  subst z;rcases j with r | r
  ·exact i b n r
  ·rw[n]at r;cases r
 have f:∀b u,H b=some u->¬Mut (some u)->b≠x:=fun b u q l z=>by subst z;rw[q]at c;exact l c
 refine⟨fun b u q n _ _=>k b u (g b n) q,fun b u q n _ _=>⟨u.slots,k b u (g b n) q⟩,fun b u q n _=>by rw[jg (i b n)];exact n,fun b u q _=>?_,
  fun b m q=>by rw[jg (f b _ q fun z=>z)];exact q,fun b u m q=>by rw[jg (f b _ q fun z=>z)];exact q,fun b p q=>⟨#[],by rw[jg (f b _ q fun z=>z),q];simp⟩⟩
 by_cases a:b=e
 ·subst a;exact d
 ·exact⟨u,k b u a q⟩
end
noncomputable def trk(h:Heap)(H:Hp):List Addr:=(List.range h.objs.size).filter fun a=>(H a).isSome
noncomputable def hidT(h:Heap)(H:Hp):Heap:=PySem.W.hideAll h (trk h H)
theorem j0t(h:Heap)(H:Hp):(hidT h H).objs.size=h.objs.size:=PySem.W.hideAll_size _ _
theorem j1u{H:Hp}(e:h.get? b=some o)(n:H b=none):(hidT h H).get? b=some o:=
 PySem.W.hideAll_get _ e fun a=>by
  have q:(H b).isSome=true:=(vQ.mp a).2;rw[n]at q;simp at q
theorem j3r{H:Hp}(e:(hidT h H).get? b=some o):h.get? b=some o/\H b=none:=by
 have a:h.get? b=some o:=PySem.W.of_hideAll (trk h H) e;refine⟨a,?_⟩;cases q:H b with
 | none=>rfl
 | some x=>
  have c:b∈trk h H:=vQ.mpr ⟨v6.mpr (vJ a),by simp[q]⟩;have z:(hidT h H).get? b=none:=PySem.W.hideAll_none (trk h H) c;rw[z]at e;cases e
structure Mod(K:Frg)(mg:Str->Option Value)(base:Heap):Prop where
 kin:K.In base
 glob:base.Ns mainGlobals mg
 blt:∃mb,base.Ns builtinsNs mb/\∀x:Str,x≠"__name__"->mb x=bootBuiltins x
 nolimit:base.NoLimit
structure Cx where
 prog:Program
 w:World
 K:Frg
 mg:Str->Option Value
 base:Heap
 A:Around
 N:List Str
 s₀:Shared
 H₀:Hp
 env:Env
 outer:List Env
 stack:List Env
 ex:List Addr
 fn:Str->Bool
 calm:Bool
 pn:List (Addr×Obj)
 xe:Value->Shared->Prop
noncomputable def frs(l:List Env):List Addr:=l.filterMap (·.frame)
noncomputable abbrev Cx.fs(X:Cx):List Addr:=frs X.outer
def Vis(sc:Scope)(x:Str):Prop:=sc.names.lookup x=some .local\/sc.names.lookup x=some .cell\/sc.names.lookup x=some .free
def Loc(sc:Scope)(x:Str):Prop:=sc.names.lookup x=some .local\/sc.names.lookup x=some .cell
def Look(env:Env)(h:Heap)(m:Str->Option Value)(x:Str)(u:Value):Prop:=
 (env.kindOf x=some .local/\m x=some u)\/((env.kindOf x=some .cell\/env.kindOf x=some .free)/\∃c,env.cells.lookup x=some c/\h.IsCell c (some u))
structure Cx.Ok(X:Cx):Prop where
 mod:Mod X.K X.mg X.base
 kind:X.env.scope.kind = .function
 glob:X.env.globals=mainGlobals
 blt:X.env.builtins=builtinsNs
 above:X.s₀.heap.objs.size<=X.env.locals
 inj:∀x y c,X.env.cells.lookup x=some c->X.env.cells.lookup y=some c->x=y
 has:∀x,(X.env.kindOf x=some .cell\/X.env.kindOf x=some .free)->∃c,X.env.cells.lookup x=some c
 cab:∀x c,X.fn x=true->X.env.cells.lookup x=some c->X.s₀.heap.objs.size<=c
 hd:X.calm=true->X.A.handled=none
 frames:X.A.frames=some X.stack
 stk:X.stack=X.outer\/(X.stack=X.env::X.outer/\X.env.frame=some X.env.locals)
 exf:∀b∈X.ex,b≠X.env.locals/\∀x c,X.env.cells.lookup x=some c->c≠b
 bs:∀b o,X.base.get? b=some o->X.s₀.heap.get? b=some o/\X.H₀ b=none
 bsz:X.base.objs.size<=X.s₀.heap.objs.size
 noex:∀b o,X.base.get? b=some o->b∉X.ex
 exfs:∀b∈X.ex,b∉X.fs
 funs:X.s₀.heap.FunFrames X.base X.outer
 frf:∀b∈X.fs,X.H₀ b=none
structure Inv(X:Cx)(pins:List (Addr×Obj))(σ:List (Option V))(H:Hp)(s:Shared):Prop where
 ok:X.Ok
 os:s.os=X.s₀.os
 bare:AllBare s.gens
 base:Un X.fs X.ex X.H₀ H X.s₀.heap s.heap
 loc:∃m,s.heap.Ns X.env.locals m/\∀(i:Nat) (x:Str) (v:V),X.N[i]?=some x->σ[i]?=some (some v)->Vis X.env.scope x->∃u,RelV v u/\Look X.env s.heap m x u
 cell:∀x c,X.env.cells.lookup x=some c->∃v,s.heap.IsCell c v
 free:H X.env.locals=none
 freeC:∀x c,X.env.cells.lookup x=some c->H c=none
 pin:∀p∈X.pn++pins,s.heap.get? p.1=some p.2/\H p.1=none/\p.1≠X.env.locals/\p.1∉X.fs/\∀v,p.2.data≠.cell v
 hok:HOk X.prog X.w H s.heap
 len:σ.length=X.N.length
section
variable{X:Cx}{pins:List (Addr×Obj)}{σ:List (Option V)}{H H':Hp}{s:Shared}{h':Heap}
theorem Cx.Ok.nofr(c:X.Ok)(e:X.base.get? b=some o):b∉X.fs:=fun a=>by
 have:=(c.funs.mem a).1;rw[e]at this;cases this
theorem Inv.bs(I:Inv X pins σ H s):∀b o,X.base.get? b=some o->s.heap.get? b=some o/\H b=none:=fun b o e=>
 ⟨I.base.keep b o (I.ok.bs b o e).1 (I.ok.bs b o e).2 (I.ok.nofr e) (I.ok.noex b o e),I.base.free b o (I.ok.bs b o e).1 (I.ok.bs b o e).2 (I.ok.noex b o e)⟩
theorem Inv.bk(I:Inv X pins σ H s):∀b o,X.base.get? b=some o->s.heap.get? b=some o:=fun b o e=>(I.bs b o e).1
theorem Inv.mod(I:Inv X pins σ H s):Mod X.K X.mg X.base:=I.ok.mod
theorem Inv.kIn(I:Inv X pins σ H s):X.K.In s.heap:=I.ok.mod.kin.keeps I.bk
theorem Inv.lt(I:Inv X pins σ H s):X.env.locals<s.heap.objs.size:=let ⟨_,hn,_⟩:=I.loc;hn.lt
theorem Inv.sz(I:Inv X pins σ H s):X.s₀.heap.objs.size<=s.heap.objs.size:=vY I.ok.above (v3 I.lt)
theorem Inv.nofs(I:Inv X pins σ H s)(h:s.heap.objs.size<=a):a∉X.fs:=fun b=>by
 obtain⟨_,o,c,_⟩:=I.ok.funs.mem b;exact uB (Nat.lt_of_lt_of_le (vJ c) (vY I.sz h)) (Nat.lt_irrefl _)
theorem Inv.cne(I:Inv X pins σ H s):∀x c,X.env.cells.lookup x=some c->c≠X.env.locals:=fun x c e z=>by
 obtain⟨v,o,f,d⟩:=I.cell x c e;obtain⟨m,⟨i,h,g,b,a,_⟩,_⟩:=I.loc;rw[z,b]at f;cases f;rw[a]at d;cases d
theorem Inv.funs(I:Inv X pins σ H s):s.heap.FunFrames X.base X.outer:=by
 have a:∀(l:List Env),(∀b∈frs l,b∈X.fs)->X.s₀.heap.FunFrames X.base l->s.heap.FunFrames X.base l:=by
  intro l
  induction l with
  | nil=>intro _ _;trivial
  | cons env r ih=>
   intro g j;obtain⟨i,⟨L,o,f,k,m,h⟩,n⟩:=j;have c:L∈X.fs:=g L (by unfold frs;rw[filterMap_cons,f];exact vq);obtain⟨p,e⟩:=I.base.slot L o m (I.ok.frf L c) c fun z=>I.ok.exfs L z c
   exact⟨i,⟨L,_,f,k,e,h⟩,ih (fun b d=>g b (by unfold frs;rw[filterMap_cons,f];exact vp _ d)) n⟩
 exact a X.outer (fun _ d=>d) I.ok.funs
theorem Inv.stack(I:Inv X pins σ H s):s.heap.FunFrames X.base X.stack:=by
 rcases I.ok.stk with e | ⟨e,a⟩
 ·rw[e];exact I.funs
 ·rw[e];obtain⟨m,b,_⟩:=I.loc;refine .cons (by rw[I.ok.kind];decide) a b ?_ I.funs;exact Heap.get?_none_of_le (vY I.ok.bsz I.ok.above)
theorem Inv.stkSub(I:Inv X pins σ H s):∀b∈frs X.stack,b∈X.env.locals::X.fs:=fun b a=>by
 rcases I.ok.stk with e | ⟨e,c⟩
 ·rw[e]at a;exact vp _ a
 ·rw[e]at a;unfold frs at a;rw[filterMap_cons,c]at a;exact a
theorem Inv.stkFree(I:Inv X pins σ H s):∀b∈frs X.stack,H b=none:=fun b a=>by
 rcases mem_cons.mp (I.stkSub b a)with e | a
 ·rw[e];exact I.free
 ·obtain⟨_,o,c,_⟩:=I.ok.funs.mem a;exact I.base.free b o c (I.ok.frf b a) fun z=>I.ok.exfs b z a
theorem Inv.step{g':Array GenState}{t':Nat}{d':Drawn}{ch:List Addr}(I:Inv X pins σ H s)
  (h:∀b∈ch,(b∈X.ex\/X.s₀.heap.objs.size<=b)/\b≠X.env.locals/\(∀x c,X.env.cells.lookup x=some c->c≠b)/\∀p∈X.pn++pins,p.1≠b)
  (j:∀b o,b≠X.env.locals->b∉X.fs->b∉ch->s.heap.get? b=some o->H b=none->h'.get? b=some o)
  (A:∀b o,b≠X.env.locals->b∈X.fs->b∉ch->s.heap.get? b=some o->H b=none->∃N,h'.get? b=some {o with slots:=N}) (f:∀b o,b∉ch->s.heap.get? b=some o->H b=none->H' b=none)
  (C:∀b o,b∉ch->s.heap.get? b=some o->∃o',h'.get? b=some o')
  (K:∀b xs,H b=some (.tup xs)->H' b=some (.tup xs)) (F:∀b o u,H b=some (.frz o u)->H' b=some (.frz o u)) (J:∀b ps,H b=some (.tbl ps)->∃more,H' b=some (.tbl (ps++more)))
  (ns:∀m,s.heap.Ns X.env.locals m->h'.Ns X.env.locals m) (M:HOk X.prog X.w H' h') (U:AllBare g') :
  Inv X pins σ H' {s with heap:=h',gens:=g',drawn:=d',toks:=t'}:=by
 have G:∀b o,X.s₀.heap.get? b=some o->b≠X.env.locals:=fun b o e=>vF (Nat.lt_of_lt_of_le (vJ e) I.ok.above)
 have y:∀b o,X.s₀.heap.get? b=some o->b∉X.ex->b∉ch:=fun b o e a B=>by
  rcases(h b B).1 with z | z
  ·exact a z
  ·exact uB (Nat.lt_of_lt_of_le (vJ e) z) (Nat.lt_irrefl _)
 have g:∀x c,X.env.cells.lookup x=some c->∀v,s.heap.IsCell c v->h'.IsCell c v:=fun x c e v ⟨o,D,L⟩=>by
  have t:c∉ch:=fun z=>(h c z).2.2.1 x c e rfl
  by_cases P:c∈X.fs
  ·obtain⟨N,q⟩:=A c o (I.cne x c e) P t D (I.freeC x c e);exact⟨_,q,L⟩
  ·exact⟨o,j c o (I.cne x c e) P t D (I.freeC x c e),L⟩
 refine⟨I.ok,I.os,U,⟨fun b o e n B a=>?_,fun b o e n B a=>?_,fun b o e n a=>?_,fun b o e a=>?_,fun b xs e=>K b xs (I.base.tups b xs e),fun b o xs e=>F b o xs (I.base.frzs b o xs e),fun b ps e=>?_⟩,?_,fun x c e=>?_,?_,fun x c e=>?_,fun p Q=>?_,M,I.len⟩
 ·exact j b o (G b o e) B (y b o e a) (I.base.keep b o e n B a) (I.base.free b o e n a)
 ·obtain⟨N,w⟩:=I.base.slot b o e n B a;obtain⟨O,E⟩:=A b _ (G b o e) B (y b o e a) w (I.base.free b o e n a);exact⟨O,E⟩
 ·obtain⟨o',w⟩:=I.base.there b o e a;exact f b o' (y b o e a) w (I.base.free b o e n a)
 ·obtain⟨o',w⟩:=I.base.there b o e a;exact C b o' (y b o e a) w
 ·obtain⟨Z,w⟩:=I.base.tbls b ps e;obtain⟨m2,E⟩:=J b _ w;exact⟨Z++m2,by rw[E,Array.append_assoc]⟩
 ·obtain⟨m,Y,W⟩:=I.loc;refine⟨m,ns m Y,fun i x v w E T=>?_⟩;obtain⟨u,r,l⟩:=W i x v w E T;refine⟨u,r,?_⟩;rcases l with l | ⟨k,c,e,z⟩
  ·exact .inl l
  ·exact .inr ⟨k,c,e,g x c e _ z⟩
 ·obtain⟨v,z⟩:=I.cell x c e;exact⟨v,g x c e v z⟩
 ·obtain⟨m,⟨o,_,_,D,_⟩,_⟩:=I.loc;exact f _ o (fun z=>(h _ z).2.1 rfl) D I.free
 ·obtain⟨v,o,D,L⟩:=I.cell x c e;exact f c o (fun z=>(h c z).2.2.1 x c e rfl) D (I.freeC x c e)
 ·obtain⟨e,n,R,S,d⟩:=I.pin p Q;have t:p.1∉ch:=fun z=>(h p.1 z).2.2.2 p Q rfl
  exact⟨j p.1 p.2 R S t e n,f p.1 p.2 t e n,R,S,d⟩
theorem Inv.un{t':Nat}(I:Inv X pins σ H s)(u:Un X.fs [] H H' s.heap h')(g:HOk X.prog X.w H' h'):Inv X pins σ H' {s with heap:=h',toks:=t'}:=by
 obtain⟨m,⟨o,p,l,h,r⟩,_⟩:=id I.loc;obtain⟨v,i⟩:=u.any h I.free (by simp);exact I.step (g':=s.gens) (d':=s.drawn) (ch:=[]) (fun _ z=>nomatch z) (fun b o _ f _ e n=>u.keep b o e n f (by simp)) (fun b o _ f _ e n=>u.slot b o e n f (by simp)) (fun b o _ e n=>u.free b o e n (by simp)) (fun b o _ e=>u.there b o e (by simp)) u.tups u.frzs u.tbls (fun q j=>by
  obtain⟨t,d,c,a,k⟩:=j;rw[h]at a;cases a;exact⟨_,d,c,i,k⟩) g I.bare
theorem Inv.call{g':Array GenState}{t':Nat}{d':Drawn}{ch:List Addr}(I:Inv X pins σ H s)(u:Un (frs X.stack) ch H H' s.heap h')(j:HOk X.prog X.w H' h')(q:AllBare g')
  (d:∀b∈ch,(b∈X.ex\/X.s₀.heap.objs.size<=b)/\b≠X.env.locals/\(∀x c,X.env.cells.lookup x=some c->c≠b)/\∀p∈X.pn++pins,p.1≠b) :
  Inv X pins σ H' {s with heap:=h',gens:=g',drawn:=d',toks:=t'}:=by
 obtain⟨m,⟨o,y,w,k,r⟩,_⟩:=id I.loc;obtain⟨C,i⟩:=u.any k I.free fun z=>(d _ z).2.1 rfl
 exact I.step (ch:=ch) d (fun b o i l a e n=>u.keep b o e n (fun z=>(mem_cons.mp (I.stkSub b z)).elim i l) a) (fun b o _ _ a e n=>u.any e n a) (fun b o a e n=>u.free b o e n a) (fun b o a e=>u.there b o e a) u.tups u.frzs u.tbls (fun A t=>by
  obtain⟨B,h,g,f,v⟩:=t;rw[k]at f;cases f;exact⟨_,h,g,i,v⟩) j q
theorem Inv.turned{t':Nat}{it:Addr}(I:Inv X pins σ H s)(k:∀b o,b≠it->s.heap.get? b=some o->h'.get? b=some o)(y:H it=none)(f:it≠X.env.locals)
  (i:it∈X.ex\/X.s₀.heap.objs.size<=it) (j:∀x c,X.env.cells.lookup x=some c->c≠it) (l:∀p∈X.pn++pins,p.1≠it):Inv X pins σ H {s with heap:=h',toks:=t'}:=by
 have d:∀b u,H b=some u->b≠it:=fun b u e z=>by rw[z,y]at e;cases e
 refine I.step (g':=s.gens) (d':=s.drawn) (ch:=[it]) (fun b t=>?_) (fun b o _ _ a e _=>k b o (fun z=>a (by simp[z])) e) (fun b o _ _ a e _=>⟨o.slots,k b o (fun z=>a (by simp[z])) e⟩) (fun _ _ _ _ n=>n)
  (fun b o a e=>⟨o,k b o (fun z=>a (by simp[z])) e⟩) (fun _ _ e=>e) (fun _ _ _ e=>e) (fun b B e=>⟨#[],by rw[e];simp⟩) (fun m w=>?_) (fun b u e=>?_) I.bare
 ·have e:b=it:=by simpa using t
  subst e;exact⟨i,f,j,l⟩
 ·obtain⟨o,h,g,A,r⟩:=w;exact⟨o,h,g,k _ o (Ne.symm f) A,r⟩
 ·refine(I.hok b u e).stay (fun c v a q=>k c v ?_ q) (fun _ q=>q) fun _ _ q=>q
  rcases a with z | z
  ·rw[z];exact d b u e
  ·exact d c _ z
theorem Inv.tok(I:Inv X pins σ H s)(t:Nat):Inv X pins σ H {s with toks:=t}:=I.un (h':=s.heap) (t':=t) Un.refl I.hok
theorem Inv.kept(I:Inv X pins σ H s)(k:∀b u,s.heap.get? b=some u->h'.get? b=some u):Inv X pins σ H {s with heap:=h',toks:=t'}:=I.un (Un.kept k) (I.hok.kept k)
theorem Inv.laid(I:Inv X pins σ H s)(k:∀b u,s.heap.get? b=some u->h'.get? b=some u)(c:s.heap.objs.size<=a)(d:ObjOk X.prog X.w (upd H a o) h' a o) :
  Inv X pins σ (upd H a o) {s with heap:=h',toks:=t'}:=I.un (Un.laid k c (I.hok.fresh c)) (I.hok.laid k c d)
theorem Inv.write(I:Inv X pins σ H s)(f:Mut (H x))(d:e=x\/H e=some (.own x))(k:∀b u,b≠e->s.heap.get? b=some u->h'.get? b=some u)(a:∃u,h'.get? e=some u)
  (c:ObjOk X.prog X.w (upd H x o) h' x o):Inv X pins σ (upd H x o) {s with heap:=h',toks:=t'}:=I.un (Un.write f d k a) (I.hok.write f d k a c)
theorem Inv.weak(I:Inv X pins σ H s)(d:σ'.length=σ.length)(w:∀(i:Nat) v,σ'[i]?=some (some v)->σ[i]?=some (some v)):Inv X pins σ' H s:=
 ⟨I.ok,I.os,I.bare,I.base,let ⟨m,hn,hl'⟩:=I.loc;⟨m,hn,fun i x v a b c=>hl' i x v a (w i v b) c⟩,I.cell,I.free,I.freeC,I.pin,I.hok,d.trans I.len⟩
theorem Inv.pins_of(I:Inv X pins σ H s)(h:∀p∈pins',s.heap.get? p.1=some p.2/\H p.1=none/\p.1≠X.env.locals/\p.1∉X.fs/\∀v,p.2.data≠.cell v):Inv X pins' σ H s:=
 ⟨I.ok,I.os,I.bare,I.base,I.loc,I.cell,I.free,I.freeC,fun p a=>(vg.mp a).elim (fun z=>I.pin p (mem_append_left _ z)) (h p),I.hok,I.len⟩
theorem kL{N:List Str}(e:N.Nodup){i j:Nat}{x:Str}(a:N[i]?=some x)(b:N[j]?=some x):i=j:=by
 obtain⟨f,c⟩:=vx.mp a;obtain⟨g,d⟩:=vx.mp b;exact(List.getElem_inj e).mp (c.trans d.symm)
theorem KY{M:Model}{A:Around}{E:Value->Shared->Prop}{i:Nat}{x:Str}{v:V}{u:Value}{Q:Unit->Shared->Prop}(I:Inv X pins σ H s)(hN:X.N.Nodup)(hi:X.N[i]?=some x)(w:Loc X.env.scope x)(r:RelV v u)
  (h:∀s',Inv X pins (σ.set i (some v)) H s'->(∃a,Heap.SameBut a s.heap s'.heap/\(a=X.env.locals\/X.env.cells.lookup x=some a))->Q () s') (hf:X.fn x=true\/X.env.scope.names.lookup x=some .local:=by first | exact .inl rfl | exact .inr rfl | assumption):wpAny M A (storeName X.env x u) Q E s:=by
 obtain⟨m,hn,hl⟩:=id I.loc;have R:(X.env.scope.kind == .class||(X.env.scope.kind == .module&&X.env.locals != X.env.globals))=false:=by rw[I.ok.kind];rfl
 have D:i<σ.length:=by rw[I.len];exact(vx.mp hi).1
 have G:=I.cne;have l:∀{a:Addr} {N:Heap},(∃o,s.heap.get? a=some o/\H a=none)->Heap.SameBut a s.heap N->HOk X.prog X.w H N:=fun {a N} ha f b ob e=>by
  obtain⟨_,_,B⟩:=ha;refine(I.hok b ob e).stay (fun c Y t q=>(f.2 c ?_).trans q) (fun _ q=>q) fun _ _ q=>q
  rintro rfl;rcases t with rfl | t
  ·rw[B]at e;cases e
  ·rw[B]at t;cases t
 rcases w with F | F
 ·refine wpAny_storeName_local F hn (fun N a0 f=>?_) R;obtain⟨oL,_,_,a1,_⟩:=id hn;refine h _ ⟨I.ok,I.os,I.bare,⟨fun b o e n J w=>?_,fun b o e n J w=>?_,I.base.free,fun b o e w=>?_,I.base.tups,I.base.frzs,I.base.tbls⟩,⟨_,a0,fun j y v' g C Z=>?_⟩,fun y c e=>?_,I.free,I.freeC,fun p hp=>?_,l ⟨oL,a1,I.free⟩ f,by simpa using I.len⟩ ⟨_,f,.inl rfl⟩
  ·exact(f.2 b (vF (Nat.lt_of_lt_of_le (vJ e) I.ok.above))).trans (I.base.keep b o e n J w)
  ·obtain⟨sl,g⟩:=I.base.slot b o e n J w;exact⟨sl,(f.2 b (vF (Nat.lt_of_lt_of_le (vJ e) I.ok.above))).trans g⟩
  ·obtain⟨o',g⟩:=I.base.there b o e w;exact⟨o',(f.2 b (vF (Nat.lt_of_lt_of_le (vJ e) I.ok.above))).trans g⟩
  ·by_cases L:j=i
   ·subst L;rw[hi]at g;cases g;rw[List.getElem?_set_self D]at C;cases C;exact⟨u,r,.inl ⟨F,by simp⟩⟩
   ·rw[List.getElem?_set_ne (Ne.symm L)]at C;obtain⟨u',r',q⟩:=hl j y v' g C Z;refine⟨u',r',?_⟩;rcases q with⟨k,e⟩ | ⟨k,c,e,z⟩
    ·refine .inl ⟨k,?_⟩;have:y≠x:=fun e=>L (kL hN g (e▸hi))
     simp[this,e]
    ·exact .inr ⟨k,c,e,z.sameBut f (G y c e)⟩
  ·obtain⟨Y,z⟩:=I.cell y c e;exact⟨Y,z.sameBut f (G y c e)⟩
  ·obtain⟨e,n,W,nf,d⟩:=I.pin p hp;exact⟨(f.2 p.1 W).trans e,n,W,nf,d⟩
 ·have K:X.fn x=true:=by
   rcases hf with z | z
   ·exact z
   ·rw[z]at F;cases F
  obtain⟨c,t⟩:=I.ok.has x (.inl F);obtain⟨Y,z⟩:=I.cell x c t;refine wpAny_storeName_cell I.ok.kind F t z (fun N O f=>?_);obtain⟨oc,S,T⟩:=id z;refine h {s with heap:=N} ⟨I.ok,I.os,I.bare,⟨fun b o e n J w=>?_,fun b o e n J w=>?_,I.base.free,fun b o e w=>?_,I.base.tups,I.base.frzs,I.base.tbls⟩,⟨m,hn.sameBut f (Ne.symm (G x c t)),fun j y v' g C Z=>?_⟩,fun y U e=>?_,I.free,I.freeC,fun p hp=>?_,l ⟨oc,S,I.freeC x c t⟩ f,by simpa using I.len⟩ ⟨c,f,.inr t⟩
  ·exact(f.2 b (vF (Nat.lt_of_lt_of_le (vJ e) (I.ok.cab x c K t)))).trans (I.base.keep b o e n J w)
  ·obtain⟨sl,g⟩:=I.base.slot b o e n J w;exact⟨sl,(f.2 b (vF (Nat.lt_of_lt_of_le (vJ e) (I.ok.cab x c K t)))).trans g⟩
  ·obtain⟨o',g⟩:=I.base.there b o e w;exact⟨o',(f.2 b (vF (Nat.lt_of_lt_of_le (vJ e) (I.ok.cab x c K t)))).trans g⟩
  ·by_cases L:j=i
   ·subst L;rw[hi]at g;cases g;rw[List.getElem?_set_self D]at C;cases C;exact⟨u,r,.inr ⟨.inl F,c,t,O⟩⟩
   ·rw[List.getElem?_set_ne (Ne.symm L)]at C;obtain⟨u',r',q⟩:=hl j y v' g C Z;refine⟨u',r',?_⟩;rcases q with q | ⟨k,U,e,z'⟩
    ·exact .inl q
    ·refine .inr ⟨k,U,e,z'.sameBut f ?_⟩;rintro rfl;exact L (kL hN g (I.ok.inj _ _ _ e t▸hi))
  ·by_cases P:U=c
   ·subst P;exact⟨_,O⟩
   ·obtain⟨w2,z2⟩:=I.cell y U e;exact⟨w2,z2.sameBut f P⟩
  ·obtain⟨e,n,W,nf,d⟩:=I.pin p hp;refine⟨(f.2 p.1 ?_).trans e,n,W,nf,d⟩;intro q;rw[q,S]at e;have q':oc=p.2:=vM e;exact d Y (by rw[<-q'];exact T)
theorem Yd{E:Value->Shared->Prop}{Q:Unit->Shared->Prop}(I:Inv X pins σ H s)(b:X.N.Nodup)(hi:X.N[i]?=some x)(d:Loc X.env.scope x)(r:RelV v u)
  (h:∀s',Inv X pins (σ.set i (some v)) H s'->Q () s') (c:X.fn x=true\/X.env.scope.names.lookup x=some .local:=by first | exact .inl rfl | exact .inr rfl | assumption):wpAny M A (storeName X.env x u) Q E s:=
 KY I b hi d r (fun s' a _=>h s' a) c
theorem Inv.call'(I:Inv X pins σ H s)(g:s'.os=s.os)(u:Un (frs X.stack) ch H H' s.heap s'.heap)(d:HOk X.prog X.w H' s'.heap)(f:AllBare s'.gens)
  (a:∀b∈ch,(b∈X.ex\/X.s₀.heap.objs.size<=b)/\b≠X.env.locals/\(∀x c,X.env.cells.lookup x=some c->c≠b)/\∀p∈X.pn++pins,p.1≠b):Inv X pins σ H' s':=by
 obtain⟨i,g',d',t',h⟩:=s';have e:h=s.os:=g;subst e;exact I.call (g':=g') (t':=t') (d':=d') u d f a
end
noncomputable abbrev XK:=Value->Option Addr->Hp->Prop
noncomputable abbrev St:=List (Option V)
noncomputable abbrev VK:=V->Hp->Prop
noncomputable abbrev TE:=St->Hp->VK->Prop
noncomputable abbrev TT:=St->Hp->(Bool->Hp->Prop)->Prop
noncomputable abbrev TA:=St->Hp->(List V->Hp->Prop)->Prop
structure Ends where
 nx:St->Hp->Prop
 rt:VK
 bk:St->Hp->Prop:=fun _ _=>False
 ct:St->Hp->Prop:=fun _ _=>False
noncomputable abbrev TS:=Ends->St->Hp->Prop
def EP(X:Cx)(pins:List (Addr×Obj))(σ:St)(Q:VK)(u:Value)(s':Shared):Prop:=∃v H',Inv X pins σ H' s'/\RelV v u/\Q v H'
def TP(X:Cx)(pins:List (Addr×Obj))(σ:St)(Q:Bool->Hp->Prop)(b:Bool)(s':Shared):Prop:=∃H',Inv X pins σ H' s'/\Q b H'
def AP(X:Cx)(pins:List (Addr×Obj))(σ:St)(Q:List V->Hp->Prop)(us:List Value)(s':Shared):Prop:=∃vs H',Inv X pins σ H' s'/\Vals vs us/\Q vs H'
def SP(X:Cx)(pins:List (Addr×Obj))(D:Ends)(f:Flow)(s':Shared):Prop:=
 match f with
 | .next=>∃σ' H',Inv X pins σ' H' s'/\D.nx σ' H'
 | .brk=>∃σ' H',Inv X pins σ' H' s'/\D.bk σ' H'
 | .cont=>∃σ' H',Inv X pins σ' H' s'/\D.ct σ' H'
 | .ret u=>∃v σ' H',Inv X pins σ' H' s'/\RelV v u/\D.rt v H'
def PE(X:Cx)(e:Expr)(t:TE):Prop:=
 ∀(pins:List (Addr×Obj)) (s:Shared) (σ:St) (H:Hp) (Q:VK),Inv X pins σ H s->t σ H Q->wpAny (model X.prog X.w) X.A (eval e X.env) (EP X pins σ Q) X.xe s
def PT(X:Cx)(e:Expr)(t:TT):Prop:=
 ∀(pins:List (Addr×Obj)) (s:Shared) (σ:St) (H:Hp) (Q:Bool->Hp->Prop),Inv X pins σ H s->t σ H Q->wpAny (model X.prog X.w) X.A (isTrue e X.env (eval e X.env)) (TP X pins σ Q) X.xe s
def PW(X:Cx)(e:Expr)(t:TT):Prop:=
 ∀(whole:Sem Value) (pins:List (Addr×Obj)) (s:Shared) (σ:St) (H:Hp) (Q:Bool->Hp->Prop),Inv X pins σ H s->t σ H Q->wpAny (model X.prog X.w) X.A (isTrue e X.env whole) (TP X pins σ Q) X.xe s
theorem PW.pt(h:PW X e t):PT X e t:=h _
def PA(X:Cx)(es:List Expr)(t:TA):Prop:=
 ∀(pos:Pos) (pins:List (Addr×Obj)) (s:Shared) (σ:St) (H:Hp) (Q:List V->Hp->Prop),Inv X pins σ H s->t σ H Q->wpAny (model X.prog X.w) X.A (spliced (backTo pos (starEach es X.env))) (AP X pins σ Q) X.xe s
def PS(X:Cx)(st:Stmt)(t:TS):Prop:=
 ∀(pins:List (Addr×Obj)) (s:Shared) (σ:St) (H:Hp) (D:Ends),Inv X pins σ H s->t D σ H->wpAny (model X.prog X.w) X.A (exec st X.env) (SP X pins D) X.xe s
def PSs(X:Cx)(st:List Stmt)(t:TS):Prop:=
 ∀(pins:List (Addr×Obj)) (s:Shared) (σ:St) (H:Hp) (D:Ends),Inv X pins σ H s->t D σ H->wpAny (model X.prog X.w) X.A (execs st X.env) (SP X pins D) X.xe s
theorem thn{c:Type}{t:Sem c}{Q b:c->Shared->Prop}{M:Model}{A:Around}{E:Value->Shared->Prop}{s:Shared}(h:wpAny M A t Q E s)(d:∀a s,Q a s->b a s):wpAny M A t b E s:=wpAny_mono h d fun _ _ x=>x
section
variable{X:Cx}
def tVar(i:Nat):TE:=fun σ H Q=>∃v,σ[i]?=some (some v)/\Q v H
def tC(v:V):TE:=fun _ H Q=>Q v H
theorem j4y(n:X.N[i]?=some x)(t:Vis X.env.scope x)(j:(x==("__debug__" : Str))=false:=by decide)(g:(x==("__classdict__" : Str))=false:=by decide):PE X (.Name x pos) (tVar i):=by
 intro f s w H Q I h;obtain⟨v,e,h⟩:=h;obtain⟨m,q,o⟩:=I.loc;obtain⟨u,r,l⟩:=o i x v n e t;have b:EP X f w Q u s:=⟨v,H,I,r,h⟩
 rcases l with⟨d,p⟩ | ⟨d,c,k,a⟩
 ·exact wpAny_Name (wpAny_loadName_local I.ok.kind d q p b) j
 ·rcases d with d | d
  ·exact wpAny_Name (wpAny_loadName_cell I.ok.kind d k a b) j
  ·exact wpAny_Name (wpAny_loadName_free I.ok.kind d k a b g) j
theorem jd{i j pos}:PE X (.Constant (.int i) j pos) (tC (.int i)):=fun _ _ _ H _ I h=>wpAny_Constant_int ⟨.int i,H,I.tok _,⟨_,rfl⟩,h⟩
theorem j3Z{b j pos}:PE X (.Constant (.bool b) j pos) (tC (.bl b)):=fun _ _ _ H _ I h=>Constant_bool ⟨.bl b,H,I,rfl,h⟩
theorem Qy{j pos}:PE X (.Constant .none j pos) (tC .non):=fun _ _ _ H _ I h=>Constant_none ⟨.non,H,I,rfl,h⟩
theorem jD{x j pos}:PE X (.Constant (.str x) j pos) (tC (.str x)):=fun _ _ _ H _ I h=>Calls.Constant_str ⟨.str x,H,I.tok _,⟨_,rfl⟩,h⟩
def Gl(X:Cx)(x:Str):Prop:=X.env.kindOf x=some .globalImplicit
theorem Z2{E:Value->Shared->Prop}{d:St}{H:Hp}{Q:Value->Shared->Prop}(I:Inv X pins d H s)(b:Gl X x)(c:X.mg x=some u)(h:Q u s)
  (a:(x==("__debug__" : Str))=false:=by decide):wpAny (model X.prog X.w) X.A (eval (.Name x pos) X.env) Q E s:=
 Calls.Name_function_global I.ok.kind b (Calls.loadGlobal_global (by rw[I.ok.glob];exact I.mod.glob.keeps I.bk) c h) a
theorem zP{E:Value->Shared->Prop}{i:St}{H:Hp}{Q:Value->Shared->Prop}(I:Inv X pins i H s)(d:Gl X x)(e:X.mg x=none)(g:bootBuiltins x=some u)(h:Q u s)
  (f:x≠"__name__":=by decide) (c:(x==("__debug__" : Str))=false:=by decide):wpAny (model X.prog X.w) X.A (eval (.Name x pos) X.env) Q E s:=by
 obtain⟨j,a,b⟩:=I.mod.blt;exact Calls.Name_function_global I.ok.kind d (Calls.loadGlobal_builtin (by rw[I.ok.glob];exact I.mod.glob.keeps I.bk) e (by rw[I.ok.blt];exact a.keeps I.bk) ((b x f).trans g) h) c
theorem j02(b:Gl X x)(c:X.mg x=some u)(r:RelV v u)(a:(x==("__debug__" : Str))=false:=by decide):PE X (.Name x pos) (tC v):=
 fun _ _ _ H _ I h=>Z2 I b c ⟨v,H,I,r,h⟩ a
theorem Wb(b:Gl X x)(c:X.mg x=none)(e:bootBuiltins x=some u)(r:RelV v u)(d:x≠"__name__":=by decide)(a:(x==("__debug__" : Str))=false:=by decide):PE X (.Name x pos) (tC v):=
 fun _ _ _ H _ I h=>zP I b c e ⟨v,H,I,r,h⟩ d a
variable{a b:Expr}{ta tb:TE}{pos:Pos}
def tB(t:TE):TT:=fun σ H Q=>t σ H fun x H1=>∃c,x = .bl c/\Q c H1
theorem Xx{e:Expr}{t:TE}(h:PE X e t)(g:∀a,isTrue e X.env a=(do let v <-a;standAt e.pos;holding [v] (truthy v)):=by intro _;rfl):PT X e (tB t):=by
 intro b s l H Q I i;refine isTrue_plain (thn (h b s l H _ I i) fun v m ⟨x,c,f,k,j⟩=>?_) (g _);obtain⟨d,rfl,q⟩:=j;cases k;exact wpAny_truthy_bool ⟨c,f,q⟩
variable{tA tB':TT}{rest:List Expr}
def tAnd(t u:TT):TT:=fun σ H Q=>t σ H fun c H1=>if c=true then u σ H1 Q else Q false H1
def tOr(t u:TT):TT:=fun σ H Q=>t σ H fun c H1=>if c=true then Q true H1 else u σ H1 Q
def tNot(t:TT):TT:=fun σ H Q=>t σ H fun c H1=>Q (!c) H1
theorem zY(d:PT X a tA):PW X (.BoolOp .And [a] pos) tA:=by
 intro i b s f H Q I h;refine isTrue_and (thn (d b s f H Q I h) fun c g e=>?_);cases c with
 | true=>exact isTrue_and_nil e
 | false=>exact e
theorem j25(d:PT X a tA):PW X (.BoolOp .Or [a] pos) tA:=by
 intro i b s f H Q I h;refine isTrue_or (thn (d b s f H Q I h) fun c g e=>?_);cases c with
 | false=>exact isTrue_or_nil e
 | true=>exact e
theorem ZH(j:PT X a tA)(k:PW X (.BoolOp .And (b::rest) pos) tB'):PW X (.BoolOp .And (a::b::rest) pos) (tAnd tA tB'):=by
 intro m d s i H Q I h;refine isTrue_and (thn (j d s i H _ I h) fun c l ⟨e,f,g⟩=>?_);cases c with
 | true=>exact k m d l i e Q f g
 | false=>exact⟨e,f,g⟩
theorem j24(j:PT X a tA)(k:PW X (.BoolOp .Or (b::rest) pos) tB'):PW X (.BoolOp .Or (a::b::rest) pos) (tOr tA tB'):=by
 intro m d s i H Q I h;refine isTrue_or (thn (j d s i H _ I h) fun c l ⟨e,f,g⟩=>?_);cases c with
 | true=>exact⟨e,f,g⟩
 | false=>exact k m d l i e Q f g
theorem Wk(e:PT X a tA):PT X (.UnaryOp .Not a pos) (tNot tA):=by
 intro b s f H Q I h;exact isTrue_not (e b s f H (fun c d=>Q (!c) d) I h)
def tAndV(ta tb:TE):TE:=fun σ H Q=>ta σ H fun x H1=>∃c,x = .bl c/\if c=true then tb σ H1 Q else Q (.bl false) H1
def tNotV(ta:TE):TE:=fun σ H Q=>ta σ H fun x H1=>∃c,x = .bl c/\Q (.bl (!c)) H1
theorem We{op}(h:PE X a t):PE X (.BoolOp op [a] pos) t:=fun b s d H Q I c=>BoolOp_one (h b s d H Q I c)
theorem Wa(j:PE X a ta)(k:PE X (.BoolOp .And (b::rest) pos) tb):PE X (.BoolOp .And (a::b::rest) pos) (tAndV ta tb):=by
 intro d s i H Q I h;refine BoolOp_and (thn (j d s i H _ I h) fun v m ⟨x,f,g,l,e⟩=>?_);obtain⟨c,rfl,e⟩:=e;cases l;refine wpAny_truthy_bool ?_;cases c with
 | true=>exact k d m i f Q g e
 | false=>exact⟨.bl false,f,g,rfl,e⟩
theorem j4w(g:PE X a ta):PE X (.UnaryOp .Not a pos) (tNotV ta):=by
 intro b s j H Q I h;refine UnaryOp_ (thn (g b s j H _ I h) fun v k ⟨x,e,f,i,d⟩=>?_);obtain⟨c,rfl,d⟩:=d;cases i;exact not_of (wpAny_truthy_bool ⟨.bl (!c),e,f,rfl,d⟩)
def tIf(t:TT)(ta tb:TE):TE:=fun σ H Q=>t σ H fun c H1=>if c=true then ta σ H1 Q else tb σ H1 Q
theorem ZG{c:Expr}(n:PT X c tA)(l:PE X a ta)(m:PE X b tb):PE X (.IfExp c a b pos) (tIf tA ta tb):=by
 intro e s f H Q I h;refine wpAny_IfExp (thn (n e s f H _ I h) fun d k ⟨g,i,j⟩=>?_);cases d with
 | true=>exact l e k f g Q i j
 | false=>exact m e k f g Q i j
end
def SqL(K:Frg)(H:Hp)(a:Addr)(xs:List V):Prop:=
 Rd H a (.lst xs)\/
  ∃(o:Obj) (its:Array Value) (n:Nat),K.lookup a=some o/\o.cls = .type "list"/\o.dict=none/\o.data = .seq its n/\its.size<=sizeLine/\Vals xs its.toList
def SqT(K:Frg)(H:Hp)(a:Addr)(xs:List V):Prop:=
 Rd H a (.tup xs)\/
  ∃(o:Obj) (its:Array Value) (n:Nat),K.lookup a=some o/\o.cls = .type "tuple"/\o.data = .seq its n/\its.size<=sizeLine/\Vals xs its.toList
noncomputable def absV:Value->Option V
 | .none=>some .non
 | .bool b=>some (.bl b)
 | .int i _=>some (.int i)
 | .str x _=>some (.str x)
 | .bytes b _=>some (.byt b)
 | .float b _=>some (.flt b)
 | .ref a=>some (.ref a)
 | .type n=>some (.ty n)
 | _=>none
theorem RelV.abs(r:RelV x u):absV u=some x:=by
 cases x with
 | non=>cases r;rfl
 | bl _=>cases r;rfl
 | int _=>obtain⟨t,rfl⟩:=r;rfl
 | str _=>obtain⟨t,rfl⟩:=r;rfl
 | byt _=>obtain⟨t,rfl⟩:=r;rfl
 | flt _=>obtain⟨t,rfl⟩:=r;rfl
 | ref _=>cases r;rfl
 | ty _=>cases r;rfl
theorem RelV.inj(r:RelV x u)(q:RelV y u):x=y:=vM (r.abs.symm.trans q.abs)
theorem Vals.inj:∀{xs ys:List V} {us:List Value},Vals xs us->Vals ys us->xs=ys
 | _,_,_,.nil,.nil=>rfl
 | _,_,_,.cons r t,.cons r' t'=>by rw[r.inj r',Vals.inj t t']
section
variable{X:Cx}{pins:List (Addr×Obj)}{σ:St}{H:Hp}{s:Shared}{a:Addr}{xs ys:List V}
theorem SqL.of{K:Frg}(h:H a=some (.lst xs)):SqL K H a xs:=.inl (.inl h)
theorem SqT.of{K:Frg}(h:H a=some (.tup xs)):SqT K H a xs:=.inl (.inl h)
theorem Inv.list(I:Inv X pins σ H s)(h:SqL X.K H a xs):∃b:List Value,Vals xs b/\PlainL s.heap a b.toArray/\xs.length<=sizeLine:=by
 rcases h with h | ⟨o,b,n,f,c,d,g,i,r⟩
 ·obtain⟨z,b,n,r,e⟩:=h.ok I.hok;exact⟨b,r,⟨_,n,e,rfl,rfl,rfl⟩,z⟩
 ·refine⟨b.toList,r,⟨o,n,I.kIn a o f,c,d,by simpa using g⟩,?_⟩;have e:=r.length;simp only[Array.length_toList]at e;lia
theorem Inv.tuple(I:Inv X pins σ H s)(h:SqT X.K H a xs):∃b:List Value,Vals xs b/\IsTup s.heap a b.toArray/\xs.length<=sizeLine:=by
 rcases h with h | ⟨o,b,n,d,c,f,g,r⟩
 ·obtain⟨z,b,r,p⟩:=h.ok I.hok;exact⟨b,r,p,z⟩
 ·refine⟨b.toList,r,⟨o,I.kIn a o d,c,n,by simpa using f⟩,?_⟩;have e:=r.length;simp only[Array.length_toList]at e;lia
theorem Inv.list_inj(I:Inv X pins σ H s)(h:SqL X.K H a xs)(h':SqL X.K H a ys):xs=ys:=by
 obtain⟨c,r,⟨o,n,e,_,_,d⟩,_⟩:=I.list h;obtain⟨b,i,⟨k,j,g,_,_,f⟩,_⟩:=I.list h';rw[e]at g;cases g;rw[d]at f;injection f with d1 _;have:c=b:=by simpa using congrArg Array.toList d1
 subst this;exact r.inj i
theorem Inv.tuple_inj(I:Inv X pins σ H s)(h:SqT X.K H a xs)(h':SqT X.K H a ys):xs=ys:=by
 obtain⟨c,r,⟨o,e,_,n,d⟩,_⟩:=I.tuple h;obtain⟨b,i,⟨k,g,_,j,f⟩,_⟩:=I.tuple h';rw[e]at g;cases g;rw[d]at f;injection f with d1 _;have:c=b:=by simpa using congrArg Array.toList d1
 subst this;exact r.inj i
end
noncomputable abbrev Cx.wish(X:Cx)(E:Value->Shared->Prop):Cx:={X with xe:=E}
noncomputable abbrev Cx.nox(X:Cx):Cx:=X.wish fun _ _=>False
theorem Cx.Ok.wish{X:Cx}(a:X.Ok)(E:Value->Shared->Prop):(X.wish E).Ok:=
 ⟨a.mod,a.kind,a.glob,a.blt,a.above,a.inj,a.has,a.cab,a.hd,a.frames,a.stk,a.exf,a.bs,a.bsz,a.noex,a.exfs,a.funs,a.frf⟩
theorem Cx.Ok.unwish{X:Cx}{E:Value->Shared->Prop}(a:(X.wish E).Ok):X.Ok:=
 ⟨a.mod,a.kind,a.glob,a.blt,a.above,a.inj,a.has,a.cab,a.hd,a.frames,a.stk,a.exf,a.bs,a.bsz,a.noex,a.exfs,a.funs,a.frf⟩
section
variable{X:Cx}{pins:List (Addr×Obj)}{σ:St}{H:Hp}{s:Shared}{E:Value->Shared->Prop}
theorem Inv.wish(I:Inv X pins σ H s)(E:Value->Shared->Prop):Inv (X.wish E) pins σ H s:=⟨I.ok.wish E,I.os,I.bare,I.base,I.loc,I.cell,I.free,I.freeC,I.pin,I.hok,I.len⟩
theorem Inv.unwish(I:Inv (X.wish E) pins σ H s):Inv X pins σ H s:=⟨I.ok.unwish,I.os,I.bare,I.base,I.loc,I.cell,I.free,I.freeC,I.pin,I.hok,I.len⟩
theorem SP.unwish(h:SP (X.wish E) pins D f s'):SP X pins D f s':=by
 cases f with
 | next=>obtain⟨a,b,I,q⟩:=h;exact⟨a,b,I.unwish,q⟩
 | brk=>obtain⟨a,b,I,q⟩:=h;exact⟨a,b,I.unwish,q⟩
 | cont=>obtain⟨a,b,I,q⟩:=h;exact⟨a,b,I.unwish,q⟩
 | ret u=>obtain⟨v,a,b,I,r,q⟩:=h;exact⟨v,a,b,I.unwish,r,q⟩
theorem PSs.nox{st:List Stmt}{t:TS}(h:PSs X.nox st t):PSs X st t:=fun a s c H D I b=>
 wpAny_mono (h a s c H D (I.wish _) b) (fun _ _ q=>q.unwish) fun _ _ z=>False.elim z
end
section
variable{X:Cx}{st:Stmt}{rest:List Stmt}{t u:TS}{e:Expr}{te:TE}{pos:Pos}
def tNext:TS:=fun D σ H=>D.nx σ H
def tSeq(t u:TS):TS:=fun D σ H=>t {D with nx:=u D} σ H
theorem jy:PSs X [] tNext:=fun _ _ a H _ I h=>wpAny_execs_nil ⟨a,H,I,h⟩
theorem jb(e:PS X st t)(g:PSs X rest u):PSs X (st::rest) (tSeq t u):=by
 intro a s j H D I h;refine wpAny_execs_cons (thn (e a s j H {D with nx:=u D} I h) fun f i q=>?_);cases f with
 | next=>
  obtain⟨b,c,d,q⟩:=q;exact g a i b c D d q
 | ret v=>exact q
 | brk=>exact q
 | cont=>exact q
theorem jf(b:PS X st t):PSs X [st] t:=by
 intro a s c H D I h;refine wpAny_execs_cons (thn (b a s c H D I h) fun f d q=>?_);cases f with
 | next=>exact wpAny_execs_nil q
 | ret v=>exact q
 | brk=>exact q
 | cont=>exact q
theorem Inv.quiet{a:St}{H:Hp}(I:Inv X pins a H s):interactive X.env=false:=by simp[interactive,I.ok.kind]
def tDrop(te:TE):TS:=fun D σ H=>te σ H fun _ H1=>D.nx σ H1
theorem jW(f:PE X e te)(hs:swapsWith e none pos.line X.env=pure false:=by rfl):PS X (.Expr e pos) (tDrop te):=by
 intro a s b H D I h;exact wpAny_Expr_any (thn (f a s b H _ I h) fun v j ⟨x,c,d,i,g⟩=>⟨b,c,d,g⟩) I.quiet hs
def tRet(te:TE):TS:=fun D σ H=>te σ H D.rt
theorem jw(f:PE X e te):PS X (.Return (some e) pos) (tRet te):=by
 intro a s b H D I h;exact wpAny_Return_some (thn (f a s b H _ I h) fun v j ⟨x,c,d,i,g⟩=>⟨x,b,c,d,i,g⟩)
def tIfS(c:TT)(t u:TS):TS:=fun D σ H=>c σ H fun b H1=>if b=true then t D σ H1 else u D σ H1
theorem jY{c:Expr}{a b:List Stmt}{l:TT}(o:PT X c l)(m:PSs X a t)(n:PSs X b u):PS X (.If c a b pos) (tIfS l t u):=by
 intro e s f H D I h;refine wpAny_If (thn (o e s f H _ I h) fun d k ⟨g,i,j⟩=>?_);cases d with
 | true=>exact m e k f g D i j
 | false=>exact n e k f g D i j
def tNever:TS:=fun _ _ _=>False
theorem QB:PS X st tNever:=fun _ _ _ _ _ _ h=>h.elim
end
noncomputable abbrev TG:=V->St->Hp->(St->Hp->Prop)->Prop
noncomputable abbrev TGs:=List V->St->Hp->(St->Hp->Prop)->Prop
def PG(X:Cx)(target:Expr)(t:TG):Prop:=
 ∀(pins:List (Addr×Obj)) (s:Shared) (σ:St) (H:Hp) (v:V) (u:Value) (Q:St->Hp->Prop),Inv X pins σ H s->RelV v u->t v σ H Q->
  wpAny (model X.prog X.w) X.A (assign target X.env u) (fun _ s'=>∃σ' H',Inv X pins σ' H' s'/\Q σ' H') X.xe s
def PGs(X:Cx)(ts:List Expr)(t:TGs):Prop:=
 ∀(pins:List (Addr×Obj)) (s:Shared) (σ:St) (H:Hp) (vs:List V) (us:List Value) (Q:St->Hp->Prop),Inv X pins σ H s->Vals vs us->t vs σ H Q->
  wpAny (model X.prog X.w) X.A (assignInOrder ((assignEach ts X.env).map (·.2)) us) (fun _ s'=>∃σ' H',Inv X pins σ' H' s'/\Q σ' H') X.xe s
noncomputable abbrev TSet:=V->V->V->Hp->(Hp->Prop)->Prop
def PSet(X:Cx)(t:TSet):Prop:=
 ∀(pins:List (Addr×Obj)) (s:Shared) (σ:St) (H:Hp) (o i v:V) (ov iv u:Value) (Q:Hp->Prop),Inv X pins σ H s->RelV o ov->RelV i iv->RelV v u->t o i v H Q->
  wpAny (model X.prog X.w) X.A (setItem ov iv u) (fun _ s'=>∃H',Inv X pins σ H' s'/\Q H') X.xe s
noncomputable abbrev TIp:=V->V->Hp->VK->Prop
def PIp(X:Cx)(op:Operator)(t:TIp):Prop:=
 ∀(pins:List (Addr×Obj)) (s:Shared) (σ:St) (H:Hp) (x y:V) (v u:Value) (Q:VK),Inv X pins σ H s->RelV x v->RelV y u->t x y H Q->
  wpAny (model X.prog X.w) X.A (inplaceOp op v u) (EP X pins σ Q) X.xe s
section
variable{X:Cx}{pos:Pos}
def gName(i:Nat):TG:=fun v σ H Q=>Q (σ.set i (some v)) H
theorem ji(c:X.N.Nodup)(hi:X.N[i]?=some x)(e:Loc X.env.scope x)(d:X.fn x=true\/X.env.scope.names.lookup x=some .local:=by first | exact .inl rfl | exact .inr rfl | assumption):PG X (.Name x pos) (gName i):=by
 intro a s g H v u Q I r h;exact wpAny_assign_Name (Yd I c hi e r (fun f b=>⟨_,H,b,h⟩) d)
def gNil:TGs:=fun vs σ H Q=>vs=[]/\Q σ H
def gCons(t:TG)(u:TGs):TGs:=fun vs σ H Q=>∃v r,vs=v::r/\t v σ H fun σ' H'=>u r σ' H' Q
theorem Jb:PGs X [] gNil:=by
 intro a s b H d c Q I r h;obtain⟨e,h⟩:=h;subst e;cases r;exact assignInOrder_nil ⟨b,H,I,h⟩
theorem jr{e:Expr}{b:List Expr}{t:TG}{u:TGs}(i:PG X e t)(j:PGs X b u)
  (hs:(assignEach (e::b) X.env).map (·.2)=assign e X.env::(assignEach b X.env).map (·.2):=by rfl):PGs X (e::b) (gCons t u):=by
 intro a s m H p n Q I r h;obtain⟨v,o,g,h⟩:=h;subst g;cases r with
 | cons r rr=>
  rw[hs];refine assignInOrder_cons (thn (i a s m H _ _ _ I r h) fun _ l ⟨c,d,f,k⟩=>?_);exact j a l c d _ _ Q f rr k
def gTup(K:Frg)(n:Nat)(t:TGs):TG:=fun v σ H Q=>∃a xs,v = .ref a/\SqT K H a xs/\xs.length=n/\t xs σ H Q
theorem Jy(p:X.calm=true)(h:PGs X es t)
  (w:(assignEach es X.env).length=n:=by rfl) (d:(assignEach es X.env).findIdx? (·.1)=none:=by rfl):PG X (.Tuple es k pos) (gTup X.K n t):=by
 intro c s i H v u Q I r f;obtain⟨a,B,l,x,q,f⟩:=f;subst l;cases r;obtain⟨A,g,y,C⟩:=I.tuple x;refine assign_Tuple_tuple (I.ok.hd p) y (by simp[w,<-q,g.length]) d fun m z=>?_
 have j:Inv X c i H {s with heap:=m}:=I.kept (t':=s.toks) fun b o e=>z b o (vF (vJ e)) e
 exact h c _ i H B _ Q j (by simpa using g) f
def gSub(to ti:TE)(t:TSet):TG:=fun v σ H Q=>to σ H fun o H1=>ti σ H1 fun i H2=>t o i v H2 fun H3=>Q σ H3
theorem j1Z{o i:Expr}{e d:TE}{t:TSet}(p:PE X o e)(hi:PE X i d)(hs:PSet X t)
  (n:∀v,assign (.Subscript o i pos) X.env v=(do
   let ov <-holding [v] (eval o X.env)
   let b <-holding [v,ov] (eval i X.env)
   standAt pos
   holding [v,ov,b] (setItem ov b v)
   release [v,ov,b] []):=by intro _;rfl):PG X (.Subscript o i pos) (gSub e d t):=by
 intro a s c H v u Q I r h;rw[n];refine ub (wpAny_holding (thn (p a s c H _ I h) fun ov C ⟨x,f,k,A,q⟩=>?_));refine ub (wpAny_holding (thn (hi a C c f _ k q) fun b D ⟨y,g,l,B,w⟩=>?_));refine ub (wpAny_standAt (ub (wpAny_holding (thn (hs a D c g x y v ov b u _ l A B r w) fun _ E ⟨j,m,z⟩=>?_))));exact wpAny_release ⟨c,j,m,z⟩
def tAsg(te:TE)(g:TG):TS:=fun D σ H=>te σ H fun x H1=>g x σ H1 D.nx
theorem Wj{b e:Expr}{c:TE}{g:TG}(k:PE X e c)(l:PG X b g)(hs:swapsWithSole [b] e pos.line X.env=pure false:=by rfl)(hw:swappedStores [b] e X.env=pure none:=by rfl)
  (j:(assignEach [b] X.env).map (·.2)=[assign b X.env]:=by rfl):PS X (.Assign [b] e pos) (tAsg c g):=by
 intro a s d H D I h;refine wpAny_Assign_stores (thn (k a s d H _ I h) fun v o ⟨x,f,i,n,m⟩=>?_) hs hw;rw[j];exact thn (l a o d f x v _ i n m) fun _ p q=>q
theorem jm{i:Nat}{x:Str}{e:Expr}{c:TE}{a:Pos}(j:X.N.Nodup)(hi:X.N[i]?=some x)(m:Loc X.env.scope x)(k:PE X e c)(hs:swapsWith e (some (.Name x a)) pos.line X.env=pure false:=by rfl)(l:X.fn x=true\/X.env.scope.names.lookup x=some .local:=by first | exact .inl rfl | exact .inr rfl | assumption) :
  PS X (.Assign [.Name x a] e pos) (tAsg c (gName i)):=by
 intro b s p H D I h;refine wpAny_Assign_Name (thn (k b s p H _ I h) fun v q ⟨y,d,f,o,n⟩=>?_) hs;exact Yd f j hi m o (fun r g=>⟨_,d,g,n⟩) l
def tAug(i:Nat)(te:TE)(ti:TIp):TS:=fun D σ H=>∃x,σ[i]?=some (some x)/\te σ H fun y H1=>ti x y H1 fun z H2=>D.nx (σ.set i (some z)) H2
theorem Xw{i:Nat}{x:Str}{e:Expr}{q:TE}{op:Operator}{t:TIp}{f:Pos}(K:X.N.Nodup)(hi:X.N[i]?=some x)(n:Loc X.env.scope x)(M:PE X e q)(R:PIp X op t)(N:X.fn x=true\/X.env.scope.names.lookup x=some .local:=by first | exact .inl rfl | exact .inr rfl | assumption) :
  PS X (.AugAssign (.Name x f) op e pos) (tAug i q t):=by
 intro a s A H D I h;obtain⟨v,J,h⟩:=h;obtain⟨m,Q,O⟩:=I.loc;have o:Vis X.env.scope x:=by rcases n with k | k;exact .inl k;exact .inr (.inl k)
 obtain⟨u,r,l⟩:=O i x v hi J o;refine wpAny_AugAssign_Name ?_;have p:wpAny (model X.prog X.w) X.A (eval e X.env) (fun w g=>wpAny (model X.prog X.w) X.A (inplaceOp op u w) (fun r j=>wpAny (model X.prog X.w) X.A (storeName X.env x r) (fun _=>SP X a D .next) X.xe j) X.xe g) X.xe s:=by
  refine thn (M a s A H _ I h) fun w Y ⟨y,B,E,U,S⟩=>?_
  refine thn (R a Y A B v y u w _ E r U S) fun z Z ⟨zv,C,F,W,T⟩=>?_
  exact Yd F K hi n W (fun s3 G=>⟨_,C,G,T⟩) N
 rcases l with⟨b,P⟩ | ⟨b,c,L,d⟩
 ·exact wpAny_loadName_local I.ok.kind b Q P p
 ·rcases b with b | b
  ·exact wpAny_loadName_cell I.ok.kind b L d p
  ·rcases n with k | k
   ·have:X.env.scope.names.lookup x=some .free:=b;rw[k]at this;cases this
   ·have:X.env.scope.names.lookup x=some .free:=b;rw[k]at this;cases this
noncomputable def ipI(f:Int->Int->Int):TIp:=fun x y H Q=>∃i j,x = .int i/\y = .int j/\Q (.int (f i j)) H
theorem Xd:PIp X .Add (ipI fun i j=>i+j):=by
 intro a s g H x y v u Q I d e h;obtain⟨i,j,b,c,q⟩:=h;subst b;subst c;obtain⟨t,rfl⟩:=d;obtain⟨f,rfl⟩:=e;exact iadd_int ⟨.int _,H,I.tok _,⟨_,rfl⟩,q⟩
end
section
variable{X:Cx}{pos:Pos}
def tWhile(c:TT)(tb:TS):TS:=fun D σ H=>∃W:Nat->St->Hp->Prop,(∃m,W m σ H)/\∀m σ H,W m σ H->
 c σ H fun b H1=>if b=true then∃N:St->Hp->Prop,(∀σ' H',N σ' H'->∃m',m'<m/\W m' σ' H')/\tb {D with nx:=N,ct:=N,bk:=D.nx} σ H1 else D.nx σ H1
theorem yW{c:Expr}{g:List Stmt}{C:TT}{B:TS}(A:PassesOwn (model X.prog X.w) X.A X.env X.xe)(G:PT X c C)(F:PSs X g B):PS X (.While c g [] pos) (tWhile C B):=by
 intro a s Q H D I h;obtain⟨W,⟨J,O⟩,j⟩:=h;refine wpAny_While (codeAny_whileLoop (fun n K=>∃k u,Inv X a k u K/\W n k u) ?_ J ⟨Q,H,I,O⟩);rintro n L ⟨e,w,E,P⟩;refine wpAny_passesOwn A (thn (G a L e w _ E (j n e w P)) fun b M ⟨x,y,l⟩=>?_);cases b with
 | true=>
  obtain⟨N,z,l⟩:=l;rw[vc rfl];refine wpAny_passesOwn A (thn (F a M e x _ y l) fun f R m=>?_);cases f with
  | next=>
   obtain⟨d,i,o,r⟩:=m;obtain⟨q,p,t⟩:=z d i r;exact⟨q,p,d,i,o,t⟩
  | cont=>
   obtain⟨d,i,o,r⟩:=m;obtain⟨q,p,t⟩:=z d i r;exact⟨q,p,d,i,o,t⟩
  | brk=>exact m
  | ret v=>exact m
 | false=>
  rw[vb vG];exact wpAny_execs_nil ⟨e,x,y,l⟩
end
structure It where
 go:Nat->Hp->Prop
 yld:Nat->Hp->V->Hp->Prop
 stop:Nat->Hp->Prop
def FpOk(X:Cx)(pins:List (Addr×Obj))(H:Hp)(b:Addr):Prop:=
 H b=none/\b≠X.env.locals/\b∉X.fs/\(b∈X.ex\/X.s₀.heap.objs.size<=b)/\(∀x c,X.env.cells.lookup x=some c->c≠b)/\∀p∈X.pn++pins,p.1≠b
theorem Inv.fpOk{g:St}{H H':Hp}(I:Inv X pins g H s)(a:s.heap.objs.size<=b)(d:H' b=none):FpOk X pins H' b:=by
 refine⟨d,Nat.ne_of_gt (Nat.lt_of_lt_of_le I.lt a),I.nofs a,.inr (vY I.sz a),fun x c e z=>?_,fun p f z=>?_⟩
 ·obtain⟨v,q⟩:=I.cell x c e;exact uB (Nat.lt_of_lt_of_le q.lt (by rw[z];exact a)) (Nat.lt_irrefl _)
 ·exact uB (Nat.lt_of_lt_of_le (vJ (I.pin p f).1) (by rw[z];exact a)) (Nat.lt_irrefl _)
structure Turn(P:Program)(w:World)(K:Frg)(tg:Expr)(J:It)(fp:List Addr)(it:Addr)(tn:Nat->Heap->Prop):Prop where
 mem:it∈fp
 obj:∀i h,tn i h->∀b∈fp,∃o,h.get? b=some o/\∀v,o.data≠.cell v
 keep:∀i h h',tn i h->(∀b∈fp,∀o,h.get? b=some o->h'.get? b=some o)->tn i h'
 item:∀(X:Cx),X.prog=P->X.w=w->X.K=K->X.calm=true->∀(i:Nat) (pins:List (Addr×Obj)) (s:Shared) (σ:St) (H:Hp) (E:Value->Shared->Prop),Inv X pins σ H s->(∀b∈fp,FpOk X pins H b)->tn i s.heap->J.go i H->
  wpAny (model P w) X.A (pyNext (.ref it)) (fun r s1=>∃u,r=some u/\
   wpAny (model P w) X.A (letOwnedTupleGo tg (.ref it) u) (fun _ s2=>∃x H',Inv X pins σ H' s2/\RelV x u/\J.yld i H x H'/\tn (i+1) s2.heap/\∀b∈fp,H' b=none) E s1) E s
 done:∀(X:Cx),X.prog=P->X.w=w->X.K=K->X.calm=true->∀(i:Nat) (pins:List (Addr×Obj)) (s:Shared) (σ:St) (H:Hp) (E:Value->Shared->Prop),Inv X pins σ H s->(∀b∈fp,FpOk X pins H b)->tn i s.heap->J.stop i H->
  wpAny (model P w) X.A (pyNext (.ref it)) (fun r s1=>r=none/\Inv X pins σ H s1) E s
 self:∀(A:Around) (i:Nat) (s:Shared) (Q:Value->Shared->Prop) (E:Value->Shared->Prop),tn i s.heap->Q (.ref it) s->wpAny (model P w) A (pyIter (.ref it)) Q E s
noncomputable abbrev TI:=St->Hp->(It->Hp->Prop)->Prop
def PIE(X:Cx)(pins:List (Addr×Obj))(σ:St)(tg:Expr)(R:It->Hp->Prop)(itv:Value)(s2:Shared):Prop:=
 ∃(it:Addr) (fp:List Addr) (tn:Nat->Heap->Prop) (J:It) (H':Hp),itv = .ref it/\Inv X pins σ H' s2/\Turn X.prog X.w X.K tg J fp it tn/\tn 0 s2.heap/\(∀b∈fp,FpOk X pins H' b)/\R J H'
def PI(X:Cx)(tg iter:Expr)(wi:TI):Prop:=
 ∀(pins:List (Addr×Obj)) (s:Shared) (σ:St) (H:Hp) (R:It->Hp->Prop),Inv X pins σ H s->wi σ H R->
  wpAny (model X.prog X.w) X.A (eval iter X.env) (fun v s1=>wpAny (model X.prog X.w) X.A (pyIter v) (PIE X pins σ tg R) X.xe s1) X.xe s
theorem j1s{E:Value->Shared->Prop}{Q:Unit->Shared->Prop}(e:s.heap.get? it=some o)(b:o.cls = .type n)(c:o.data = .fields vs)
    (d:["enumerate","zip","dict_itemiterator","dict_reverseitemiterator","odict_iterator","itertools.zip_longest","itertools.pairwise"].contains n=false) (a:Q () s):wpAny M A (letOwnedTupleGo tg (.ref it) u) Q E s:=by
  unfold letOwnedTupleGo;cases tg<;>first
    | exact uA a
    | (cases u<;>first
        | exact uA a
        | (refine ub (wpAny_load e ?_)
           rw[b,c];show wpAny M A (if(["enumerate","zip","dict_itemiterator","dict_reverseitemiterator","odict_iterator","itertools.zip_longest","itertools.pairwise"].contains n&&vs[0]?==some (rawInt _))=true then _ else _) Q E s;rw[vb (by intro h;rw[d,Bool.false_and]at h;cases h)];exact uA a))
def Itl(K:Frg)(a:Addr):It:=
 ⟨fun i H=>∃xs x,SqL K H a xs/\xs[i]?=some x,fun i H x H'=>H'=H/\∀xs,SqL K H a xs->xs[i]?=some x,fun i H=>∃xs,SqL K H a xs/\xs.length<=i⟩
def Itt(K:Frg)(a:Addr):It:=
 ⟨fun i H=>∃xs x,SqT K H a xs/\xs[i]?=some x,fun i H x H'=>H'=H/\∀xs,SqT K H a xs->xs[i]?=some x,fun i H=>∃xs,SqT K H a xs/\xs.length<=i⟩
def Itr(lo:Int)(n:Nat):It:=⟨fun i _=>i<n,fun i H x H'=>H'=H/\x = .int (lo+i),fun i _=>n<=i⟩
theorem j12{P:Program}{w:World}{K:Frg}{tg:Expr}(a it:Addr):Turn P w K tg (Itl K a) [it] it (fun i h=>h.IsListIter it a i) where
 mem:=by simp
 obj:=fun i h f b j=>by
  have e:b=it:=by simpa using j
  subst e;obtain⟨o,e,c,d⟩:=f;exact⟨o,e,fun v z=>by rw[d]at z;cases z⟩
 keep:=fun i h m f k=>f.at fun o e=>k it (by simp) o e
 item:=by
  intro X D G C N i g s O H E I n f F;subst D G C;obtain⟨xs,x,q,J⟩:=F;obtain⟨L,M,p,W⟩:=I.list q;obtain⟨u,T,Y⟩:=M.get J;obtain⟨r,t,S,y,A,B⟩:=n it (by simp);refine wpAny_pyNext_list_item f p.isList (x:=u) (by simpa using T) fun m l Z=>?_
  have Q:Inv X g O H {s with heap:=m}:=I.turned (t':=s.toks) (fun b o j e=>(Z.2 b j).trans e) r t y A B;obtain⟨o,e,c,d⟩:=id l;exact⟨u,rfl,j1s (s:={s with heap:=m}) e c d (by decide) ⟨x,H,Q,Y,⟨rfl,fun ys U=>by rw[I.list_inj U q];exact J⟩,l,fun b j=>(n b j).1⟩⟩
 done:=by
  intro X D G C N i g s O H E I n f F;subst D G C;obtain⟨xs,q,J⟩:=F;obtain⟨L,M,p,W⟩:=I.list q;obtain⟨r,t,S,y,A,B⟩:=n it (by simp);have hl:=M.length;exact wpAny_pyNext_list_end (I.ok.hd N) f p.isList (by simp;lia) fun m R=>⟨rfl,I.turned (t':=s.toks) (fun b o j e=>R b o j e) r t y A B⟩
 self:=fun _ _ _ _ _ f h=>wpAny_pyIter_listiter f h
theorem XH{P:Program}{w:World}{K:Frg}{tg:Expr}(a it:Addr):Turn P w K tg (Itt K a) [it] it (fun i h=>h.IsTupleIter it a i) where
 mem:=by simp
 obj:=fun i h f b j=>by
  have e:b=it:=by simpa using j
  subst e;obtain⟨o,e,c,d⟩:=f;exact⟨o,e,fun v z=>by rw[d]at z;cases z⟩
 keep:=fun i h n f k=>f.at fun o e=>k it (by simp) o e
 item:=by
  intro X F J D N i g s O H E I q f G;subst F J D;obtain⟨xs,x,r,L⟩:=G;obtain⟨l,M,p,W⟩:=I.tuple r;obtain⟨u,T,Y⟩:=M.get L;obtain⟨t,y,S,A,B,C⟩:=q it (by simp);refine wpAny_pyNext_tuple_item f (show s.heap.IsTuple a l.toArray from p) (x:=u) (by simpa using T) fun n m Z=>?_
  have Q:Inv X g O H {s with heap:=n}:=I.turned (t':=s.toks) (fun b o j e=>(Z.2 b j).trans e) t y A B C;obtain⟨o,e,c,d⟩:=id m;exact⟨u,rfl,j1s (s:={s with heap:=n}) e c d (by decide) ⟨x,H,Q,Y,⟨rfl,fun ys U=>by rw[I.tuple_inj U r];exact L⟩,m,fun b j=>(q b j).1⟩⟩
 done:=by
  intro X F J D N i g s O H E I q f G;subst F J D;obtain⟨xs,r,L⟩:=G;obtain⟨l,M,p,W⟩:=I.tuple r;obtain⟨t,y,S,A,B,C⟩:=q it (by simp);have hl:=M.length;exact wpAny_pyNext_tuple_end (I.ok.hd N) f (show s.heap.IsTuple a l.toArray from p) (by simp;lia) fun n R=>⟨rfl,I.turned (t':=s.toks) (fun b o j e=>R b o j e) t y A B C⟩
 self:=fun _ _ _ _ _ f h=>wpAny_pyIter_tupleiter f h
theorem XG{P:Program}{w:World}{K:Frg}{N:Expr}(it:Addr)(lo:Int)(n:Nat):Turn P w K N (Itr lo n) [it] it (fun i h=>IsRangeIter h it (lo+(i:Nat)*1) ((n:Int)-(i:Nat)) 1) where
 mem:=by simp
 obj:=fun i h a b d=>by
  have e:b=it:=by simpa using d
  subst e;exact⟨_,a,fun v z=>by
   have O:Data.fields _=Data.cell v:=z;cases O⟩
 keep:=fun i h g a k=>k it (by simp) _ a
 item:=by
  intro X x B u y i c s D H E I j a A;subst x B u;obtain⟨l,m,J,p,q,r⟩:=j it (by simp);have W:=Walks.range (prog:=X.prog) (w:=X.w) (I.ok.hd y) it lo 1 n;refine W.item i s _ _ A a fun v g C L f M=>?_
  obtain⟨t,rfl⟩:=L;have F:Inv X c D H {s with heap:=g,toks:=C}:=I.turned (fun b o d e=>M b o (by simpa using d) e) l m p q r;refine⟨_,rfl,j1s (s:={s with heap:=g,toks:=C}) (n:="range_iterator") f rfl rfl (by decide) ⟨.int (lo+i),H,F,⟨t,?_⟩,⟨rfl,rfl⟩,f,fun b d=>(j b d).1⟩⟩;rw[Int.mul_one]
 done:=by
  intro X x B u y i c s D H E I j a A;subst x B u;obtain⟨l,m,J,p,q,r⟩:=j it (by simp);exact wpAny_pyNext_range_end (I.ok.hd y) a (by have:n<=i:=A;lia) fun g G=>⟨rfl,I.turned (t':=s.toks) (fun b o d e=>G b o d e) l m p q r⟩
 self:=fun _ _ _ _ _ a h=>wpAny_pyIter_rangeiter a h
section
variable{X:Cx}{tg:Expr}
def iList(K:Frg)(tl:TE):TI:=fun σ H R=>tl σ H fun x H1=>∃a,x = .ref a/\(∃xs,SqL K H1 a xs)/\R (Itl K a) H1
def iTup(K:Frg)(tl:TE):TI:=fun σ H R=>tl σ H fun x H1=>∃a,x = .ref a/\(∃xs,SqT K H1 a xs)/\R (Itt K a) H1
theorem jI{l:Expr}{g:TE}(k:PE X l g):PI X tg l (iList X.K g):=by
 intro c s u H R I h;refine thn (k c s u H _ I h) fun v f ⟨x,i,d,t,r⟩=>?_
 obtain⟨a,e,⟨z,m⟩,q⟩:=r;subst e;cases t;obtain⟨n,y,p,w⟩:=d.list m;refine wpAny_pyIter_list p.isList ?_;refine⟨f.heap.objs.size,[f.heap.objs.size],_,_,i,rfl,d.kept (t':=f.toks) fun b o e=>vK _ e,j12 a _,⟨_,Heap.get?_push_size _ rfl,rfl,rfl⟩,fun b j=>?_,q⟩;have e:b=f.heap.objs.size:=by simpa using j
 subst e;exact d.fpOk (va _) (d.hok.fresh (va _))
theorem Xu{l:Expr}{i:TE}(m:PE X l i):PI X tg l (iTup X.K i):=by
 intro c s u H R I h;refine thn (m c s u H _ I h) fun v d ⟨x,j,f,t,r⟩=>?_
 obtain⟨a,e,⟨z,n⟩,q⟩:=r;subst e;cases t;obtain⟨g,y,p,w⟩:=f.tuple n;refine wpAny_pyIter_tuple (show d.heap.IsTuple a g.toArray from p) ?_;refine⟨d.heap.objs.size,[d.heap.objs.size],_,_,j,rfl,f.kept (t':=d.toks) fun b o e=>vK _ e,XH a _,⟨_,Heap.get?_push_size _ rfl,rfl,rfl⟩,fun b k=>?_,q⟩;have e:b=d.heap.objs.size:=by simpa using k
 subst e;exact f.fpOk (va _) (f.hok.fresh (va _))
theorem j27{a:List (Addr×Obj)}{f:St}{H:Hp}{s:Shared}{R:It->Hp->Prop}{E:Value->Shared->Prop}{lo hi:Int}{t u v:Tok}{d:Nat}(I:Inv X a f H s)(i : -(2^62)<=lo)(j:lo<2^62)(k : -(2^62)<=hi)(l:hi<2^62)
  (q:R (Itr lo (hi-lo).toNat) H):wpAny (model X.prog X.w) X.A (pyIter (.ref s.heap.objs.size)) (PIE X a f tg R) E {s with heap:=s.heap.push {cls:=.type "range",data:=.fields #[.int lo t,.int hi u,.int 1 v]},toks:=d}:=by
 refine wpAny_pyIter_range (IsRange.new ..) (small_one i j k l) ?_;have c:Inv X a f H {s with heap:=s.heap.push {cls:=.type "range",data:=.fields #[.int lo t,.int hi u,.int 1 v]},toks:=d}:=I.kept fun b o e=>vK _ e
 refine⟨(s.heap.push {cls:=.type "range",data:=.fields #[.int lo t,.int hi u,.int 1 v]}).objs.size,[(s.heap.push {cls:=.type "range",data:=.fields #[.int lo t,.int hi u,.int 1 v]}).objs.size],_,_,H,rfl,
  c.kept (t':=d) fun b o e=>vK _ e,XG _ lo (hi-lo).toNat,?_,fun b m=>?_,q⟩
 ·have g:lo+((0:Nat):Int)*1=lo:=by simp
  have h:(((hi-lo).toNat:Nat):Int)-((0:Nat):Int)=Builtin.Range.rangeSize lo hi 1:=by rw[rangeSize_one];split<;>lia
  show IsRangeIter _ _ (lo+((0:Nat):Int)*1) ((((hi-lo).toNat:Nat):Int)-((0:Nat):Int)) 1;rw[g,h];exact Heap.get?_push_size _ rfl
 ·have e:b=(s.heap.push {cls:=.type "range",data:=.fields #[.int lo t,.int hi u,.int 1 v]}).objs.size:=by simpa using m
  subst e;exact c.fpOk (va _) (c.hok.fresh (va _))
def iRng1(ta:TA):TI:=fun σ H R=>ta σ H fun vs H1=>∃j:Int,vs=[.int j]/\-(2^62)<=j/\j<2^62/\R (Itr 0 j.toNat) H1
theorem qe{a:Expr}{f:TA}{p c:Pos}(k:Gl X "range")(l:X.mg "range"= none)(i:PA X [a] f)(hs:starEach [a] X.env=[(false,eval a X.env)]:=by rfl):PI X tg (.Call (.Name "range" p) [a] [] c) (iRng1 f):=by
 intro b s o H R I h;refine Call_ (zP I k l boot_range (PyProof.Rows.callWith_type1 (thn (i c b s o H _ I h) fun w v ⟨x,u,g,n,d⟩=>?_) hs rfl));obtain⟨j,e,d,m,q⟩:=d;subst e;cases n with
 | cons r rr=>
  cases rr;obtain⟨t,rfl⟩:=r;exact call_range_1 (j27 g (by lia) (by lia) d m (by simpa using q))
def tFor(wi:TI)(g:TG)(tb:TS):TS:=fun D σ H=>wi σ H fun J H1=>∃W:Nat->Nat->St->Hp->Prop,(∃m,W 0 m σ H1)/\∀i m σ H,W i m σ H->
 (J.stop i H/\D.nx σ H)\/(J.go i H/\∃N:St->Hp->Prop,(∀σ' H',N σ' H'->∃m',m'<m/\W (i+1) m' σ' H')/\∀x H',J.yld i H x H'->g x σ H' fun σ2 H2=>tb {D with nx:=N,ct:=N,bk:=D.nx} σ2 H2)
noncomputable def pinsAt(fp:List Addr)(h:Heap):List (Addr×Obj):=fp.filterMap fun b=>(h.get? b).map fun o=>(b,o)
theorem zQ(a:b∈fp)(e:h.get? b=some o):(b,o)∈pinsAt fp h:=mem_filterMap.mpr ⟨b,a,by rw[e];rfl⟩
theorem j0L(d:p∈pinsAt fp h):p.1∈fp/\h.get? p.1=some p.2:=by
 obtain⟨b,c,e⟩:=mem_filterMap.mp d;cases q:h.get? b with
 | none=>rw[q]at e;cases e
 | some o=>
  rw[q]at e;have a:(b,o)=p:=vM e;subst a;exact⟨c,q⟩
theorem Inv.pinned{f:St}{H:Hp}(I:Inv X pins f H s)(j:∀b∈fp,FpOk X pins H b)(k:∀b∈fp,∃o,s.heap.get? b=some o/\∀v,o.data≠.cell v):Inv X (pins++pinsAt fp s.heap) f H s:=
 I.pins_of fun p l=>(vg.mp l).elim (fun z=>I.pin p (mem_append_right _ z)) fun z=>by
  obtain⟨c,e⟩:=j0L z;obtain⟨g,h,i,_⟩:=j p.1 c;obtain⟨o,a,d⟩:=k p.1 c;rw[e]at a;cases a;exact⟨e,g,h,i,d⟩
theorem Inv.unpinned{a:St}{H:Hp}(I:Inv X (pins++pl) a H s):Inv X pins a H s:=I.pins_of fun p b=>I.pin p (mem_append_right _ (mem_append_left _ b))
theorem Jt{q:Expr}{A:List Stmt}{wi:TI}{g:TG}{tb:TS}{Y:Pos}(G:PassesOwn (model X.prog X.w) X.A X.env X.xe)(hc:X.calm=true)(hi:PI X tg q wi)(hg:PG X tg g)(p:PSs X A tb)
  (hs:∀x,foldedSetIterable q X.env x=pure x:=by intro _;rfl):PS X (.For tg q A [] Y) (tFor wi g tb):=by
 intro a s σ H D I h;refine wpAny_For (thn (hi a s σ H _ I h) fun v s1 h1=>thn h1 fun a2 s2 h2=>?_) hs;obtain⟨it,E,tn,J,H2,e,I2,T,a0,f2,W,⟨m0,w0⟩,P⟩:=h2;subst e;have t:∀{z:Hp},(∀b∈E,z b=none)->∀b∈E,FpOk X a z b:=fun hn b p=>⟨hn b p,(f2 b p).2⟩
 refine codeAny_forLoop_any (fun n s'=>∃i w z,Inv X a w z s'/\tn i s'.heap/\(∀b∈E,z b=none)/\W i n w z) ?_ m0 ⟨0,σ,H2,I2,a0,fun b p=>(f2 b p).1,w0⟩;rintro n s3 ⟨i,y,Q,I3,L,F,w3⟩;rcases P i n y Q w3 with⟨O,qn⟩ | ⟨go,N,hN,M⟩
 ·refine wpAny_passesOwn G (thn (T.done X rfl rfl rfl hc i a s3 y Q X.xe I3 (t F) L O) fun r s4 ⟨U,I4⟩=>?_);subst U;exact wpAny_execs_nil ⟨y,Q,I4,qn⟩
 ·refine wpAny_passesOwn G (thn (T.item X rfl rfl rfl hc i a s3 y Q X.xe I3 (t F) L go) fun r s4 ⟨u,U,h4⟩=>?_);subst U;refine wpAny_passesOwn G (thn h4 fun _ s5 ⟨x,H5,I5,r5,y5,C,S⟩=>?_);have R:=I5.pinned (t S) (T.obj _ _ C);refine wpAny_passesOwn G (thn (hg _ s5 y H5 x u _ R r5 (M x H5 y5)) fun _ s6 ⟨a1,H6,I6,q6⟩=>?_);refine wpAny_passesOwn G (thn (p _ s6 a1 H6 _ I6 q6) fun f Z B=>?_);have l:∀{c:St} {j:Hp},Inv X (a++pinsAt E s5.heap) c j Z->N c j->∃m,m<n/\∃i w z,Inv X a w z Z/\tn i Z.heap/\(∀b∈E,z b=none)/\W i m w z:=fun {c j} k K=>by
   obtain⟨m',hm,w7⟩:=hN c j K;refine⟨m',hm,i+1,c,j,k.unpinned,T.keep _ _ _ C fun b p o e=>(k.pin (b,o) (mem_append_right _ (mem_append_right _ (zQ p e)))).1,fun b p=>?_,w7⟩;obtain⟨o,e,d⟩:=T.obj _ _ C b p;exact(k.pin (b,o) (mem_append_right _ (mem_append_right _ (zQ p e)))).2.1
  cases f with
  | next=>obtain⟨c,j,k,K⟩:=B;exact l k K
  | cont=>obtain⟨c,j,k,K⟩:=B;exact l k K
  | brk=>obtain⟨c,j,k,B⟩:=B;exact⟨c,j,k.unpinned,B⟩
  | ret v=>obtain⟨x7,c,j,k,r7,B⟩:=B;exact⟨x7,c,j,k.unpinned,r7,B⟩
end
theorem Ju{K:Frg}{a:Addr}{xs:List V}{g:TG}{j:TS}{D:Ends}{b:St}{H:Hp}(c:Nat->St->Hp->Prop)(k:c 0 b H)(o:∀i b H,i<=xs.length->c i b H->SqL K H a xs)
  (hs:∀i x b H,xs[i]?=some x->c i b H->g x b H fun d H2=>j {D with nx:=c (i+1),ct:=c (i+1),bk:=D.nx} d H2) (l:∀b H,c xs.length b H->D.nx b H) :
  ∃W:Nat->Nat->St->Hp->Prop,(∃m,W 0 m b H)/\∀i m b H,W i m b H->
   ((Itl K a).stop i H/\D.nx b H)\/((Itl K a).go i H/\∃N:St->Hp->Prop,(∀σ' H',N σ' H'->∃h,h<m/\W (i+1) h σ' H')/\∀x H',(Itl K a).yld i H x H'->g x b H' fun d H2=>j {D with nx:=N,ct:=N,bk:=D.nx} d H2):=by
 refine⟨fun i m b H=>m=xs.length-i/\i<=xs.length/\c i b H,⟨xs.length,by simp,vA _,k⟩,?_⟩;rintro i m b H ⟨rfl,n,p⟩;have q:=o i b H n p;by_cases f:i<xs.length
 ·refine .inr ⟨⟨xs,xs[i],q,by simp[f]⟩,c (i+1),fun σ' H' r=>⟨xs.length-(i+1),by lia,rfl,f,r⟩,fun x H' y=>?_⟩;obtain⟨e,y⟩:=y;subst e;exact hs i x b _ (y xs q) p
 ·have e:i=xs.length:=by lia
  subst e;exact .inl ⟨⟨xs,q,va _⟩,l b H p⟩
theorem Yu{lo:Int}{n:Nat}{g:TG}{h:TS}{D:Ends}{a:St}{H:Hp}(b:Nat->St->Hp->Prop)(j:b 0 a H)
  (hs:∀i a H,i<n->b i a H->g (.int (lo+i)) a H fun d H2=>h {D with nx:=b (i+1),ct:=b (i+1),bk:=D.nx} d H2) (k:∀a H,b n a H->D.nx a H) :
  ∃W:Nat->Nat->St->Hp->Prop,(∃m,W 0 m a H)/\∀i m a H,W i m a H->
   ((Itr lo n).stop i H/\D.nx a H)\/((Itr lo n).go i H/\∃N:St->Hp->Prop,(∀σ' H',N σ' H'->∃f,f<m/\W (i+1) f σ' H')/\∀x H',(Itr lo n).yld i H x H'->g x a H' fun d H2=>h {D with nx:=N,ct:=N,bk:=D.nx} d H2):=by
 refine⟨fun i m a H=>m=n-i/\i<=n/\b i a H,⟨n,by simp,vA _,j⟩,?_⟩;rintro i m a H ⟨rfl,o,p⟩;by_cases c:i<n
 ·refine .inr ⟨c,b (i+1),fun σ' H' l=>⟨n-(i+1),by lia,rfl,c,l⟩,fun x H' y=>?_⟩;obtain⟨e,y⟩:=y;subst e y;exact hs i a _ c p
 ·have e:i=n:=by lia
  subst e;exact .inl ⟨va _,k a H p⟩
noncomputable abbrev R2:=V->V->Hp->VK->Prop
def OpR(X:Cx)(f:Value->Value->Sem Value)(r:R2):Prop:=
 ∀(pins:List (Addr×Obj)) (s:Shared) (σ:St) (H:Hp) (x y:V) (v u:Value) (Q:VK),Inv X pins σ H s->RelV x v->RelV y u->r x y H Q->
  wpAny (model X.prog X.w) X.A (f v u) (EP X pins σ Q) X.xe s
def UnR(X:Cx)(f:Value->Sem Value)(r:V->Hp->VK->Prop):Prop:=
 ∀(pins:List (Addr×Obj)) (s:Shared) (σ:St) (H:Hp) (x:V) (v:Value) (Q:VK),Inv X pins σ H s->RelV x v->r x H Q->
  wpAny (model X.prog X.w) X.A (f v) (EP X pins σ Q) X.xe s
def CallR(X:Cx)(f:Value)(r:List V->Hp->VK->Prop):Prop:=
 ∀(pins:List (Addr×Obj)) (s:Shared) (σ:St) (H:Hp) (xs:List V) (us:List Value) (Q:VK),Inv X pins σ H s->Vals xs us->r xs H Q->
  wpAny (model X.prog X.w) X.A (call f us) (EP X pins σ Q) X.xe s
def TruR(X:Cx)(r:V->Hp->(Bool->Hp->Prop)->Prop):Prop:=
 ∀(pins:List (Addr×Obj)) (s:Shared) (σ:St) (H:Hp) (x:V) (v:Value) (Q:Bool->Hp->Prop),Inv X pins σ H s->RelV x v->r x H Q->
  wpAny (model X.prog X.w) X.A (truthy v) (TP X pins σ Q) X.xe s
def tOp(r:R2)(ta tb:TE):TE:=fun σ H Q=>ta σ H fun x H1=>tb σ H1 fun y H2=>r x y H2 Q
def tUn(r:V->Hp->VK->Prop)(ta:TE):TE:=fun σ H Q=>ta σ H fun x H1=>r x H1 Q
def rI(C:Int->Int->Prop)(g:Int->Int->V):R2:=fun x y H Q=>∃i j,x = .int i/\y = .int j/\C i j/\Q (g i j) H
def rI0(g:Int->Int->V):R2:=fun x y H Q=>∃i j,x = .int i/\y = .int j/\Q (g i j) H
noncomputable def rU(g:Int->V):V->Hp->VK->Prop:=fun x H Q=>∃i,x = .int i/\Q (g i) H
section
variable{X:Cx}{a b c:Expr}{ta tb tc:TE}{pos:Pos}
theorem binT(k:PE X a ta)(l:PE X b tb){c:St}{H:Hp}{R:V->V->Hp->Prop}(I:Inv X pins c H s)
  (h:ta c H fun x H1=>tb c H1 fun y H2=>R x y H2) {Q:Value->Shared->Prop} {f:Value->Value->Sem Value}
  (m:∀v u g x y H2,Inv X pins c H2 g->RelV x v->RelV y u->R x y H2->wpAny (model X.prog X.w) X.A (f v u) Q X.xe g) :
  wpAny (model X.prog X.w) X.A (eval a X.env) (fun v d=>wpAny (model X.prog X.w) X.A (eval b X.env) (fun u e=>wpAny (model X.prog X.w) X.A (f v u) Q X.xe e) X.xe d) X.xe s:=by
 refine thn (k pins s c H _ I h) fun v r ⟨x,H1,i,p,n⟩=>?_
 refine thn (l pins r c H1 _ i n) fun u g ⟨y,H2,j,q,o⟩=>?_
 exact m v u g x y H2 j p q o
theorem jq(i:OpR X (binaryOp op) r)(f:PE X a ta)(g:PE X b tb):PE X (.BinOp a op b pos) (tOp r ta tb):=by
 intro c s m H Q I h;exact wpAny_BinOp (binT f g I h fun v u l x y d e j k q=>i c l m d x y v u Q e j k q)
theorem zn{r:V->Hp->VK->Prop}(g:UnR X (unaryOp op) r)(f:PE X a ta):PE X (.UnaryOp op a pos) (tUn r ta):=by
 intro b s c H Q I h;exact UnaryOp_ (thn (f b s c H _ I h) fun v k ⟨x,d,e,j,i⟩=>g b k c d x v Q e j i)
theorem opI{f:Value->Value->Sem Value}{C:Int->Int->Prop}{g:Int->Int->Int}
  (a:∀(i j:Int) (t u:Tok) (s:Shared) (Q:Value->Shared->Prop) (E:Value->Shared->Prop),C i j->Q (.int (g i j) s.toks) {s with toks:=s.toks+1}->wpAny (model X.prog X.w) X.A (f (.int i t) (.int j u)) Q E s) :
  OpR X f (rI C fun i j=>.int (g i j)):=by
 intro b s l H x y v u Q I d e h;obtain⟨i,j,rfl,rfl,c,q⟩:=h;obtain⟨t,rfl⟩:=d;obtain⟨k,rfl⟩:=e;exact a i j t k s _ _ c ⟨.int (g i j),H,I.tok _,⟨_,rfl⟩,q⟩
theorem opI0{f:Value->Value->Sem Value}{g:Int->Int->Int}
  (a:∀(i j:Int) (t u:Tok) (s:Shared) (Q:Value->Shared->Prop) (E:Value->Shared->Prop),Q (.int (g i j) s.toks) {s with toks:=s.toks+1}->wpAny (model X.prog X.w) X.A (f (.int i t) (.int j u)) Q E s) :
  OpR X f (rI0 fun i j=>.int (g i j)):=by
 intro b s k H x y v u Q I c d h;obtain⟨i,j,rfl,rfl,q⟩:=h;obtain⟨t,rfl⟩:=c;obtain⟨e,rfl⟩:=d;exact a i j t e s _ _ ⟨.int (g i j),H,I.tok _,⟨_,rfl⟩,q⟩
theorem opB0{f:Value->Value->Sem Value}{g:Int->Int->Bool}
  (a:∀(i j:Int) (t u:Tok) (s:Shared) (Q:Value->Shared->Prop) (E:Value->Shared->Prop),Q (.bool (g i j)) s->wpAny (model X.prog X.w) X.A (f (.int i t) (.int j u)) Q E s) :
  OpR X f (rI0 fun i j=>.bl (g i j)):=by
 intro b s k H x y v u Q I c d h;obtain⟨i,j,rfl,rfl,q⟩:=h;obtain⟨t,rfl⟩:=c;obtain⟨e,rfl⟩:=d;exact a i j t e s _ _ ⟨.bl (g i j),H,I,rfl,q⟩
def CPow(i j:Int):Prop:=0<=j/\j<=1000000/\i.natAbs<2^64
def CMul(i j:Int):Prop:=(-(2^64)<i/\i<2^64)\/(-(2^64)<j/\j<2^64)
theorem CMul.ok{i j:Int}(h:CMul i j):IntMulOk i j:=by
 rcases h with⟨a,b⟩ | ⟨a,b⟩
 ·exact .of_left (intBits_le_64 a b)
 ·exact .of_right (intBits_le_64 a b)
theorem j7:OpR X (binaryOp .Add) (rI0 fun i j=>.int (i+j)):=opI0 fun _ _ _ _ _ _ _ q=>add_int q
theorem qZ:OpR X (binaryOp .Sub) (rI0 fun i j=>.int (i-j)):=opI0 fun _ _ _ _ _ _ _ q=>sub_int q
theorem Jp:OpR X (binaryOp .Mod) (rI (fun _ j=>0<j) fun i j=>.int (i%j)):=opI fun i j _ _ _ _ _ a q=>by
 have b:(0:Int)<j:=a;exact mod_int' (by lia) (by rw[Int.fmod_eq_emod_of_nonneg i (by lia)];exact q)
theorem YB:OpR X (binaryOp .Pow) (rI CPow fun i j=>.int (i^j.toNat)):=opI fun _ _ _ _ _ _ _ a q=>pow_int_small a.1 a.2.1 a.2.2 q
theorem unI{f:Value->Sem Value}{g:Int->Int}
  (a:∀(i:Int) (t:Tok) (s:Shared) (Q:Value->Shared->Prop) (E:Value->Shared->Prop),Q (.int (g i) s.toks) {s with toks:=s.toks+1}->wpAny (model X.prog X.w) X.A (f (.int i t)) Q E s) :
  UnR X f (rU fun i=>.int (g i)):=by
 intro b s d H x v Q I c h;obtain⟨i,rfl,q⟩:=h;obtain⟨t,rfl⟩:=c;exact a i t s _ _ ⟨.int (g i),H,I.tok _,⟨_,rfl⟩,q⟩
theorem qO:UnR X (unaryOp .USub) (rU fun i=>.int (-i)):=unI fun _ _ _ _ _ q=>neg_int q
end
noncomputable def scal:V->V->Bool
 | .non,.non=>true | .non,.int _=>true | .int _,.non=>true | .non,.bl _=>true | .bl _,.non=>true | .non,.str _=>true | .str _,.non=>true
 | .int _,.int _=>true | .bl _,.bl _=>true | .str _,.str _=>true | .byt _,.byt _=>true
 | .int _,.str _=>true | .str _,.int _=>true | .bl _,.str _=>true | .str _,.bl _=>true
 | _,_=>false
def rEq:R2:=fun x y H Q=>scal x y=true/\Q (.bl (decide (x=y))) H
def rNe:R2:=fun x y H Q=>scal x y=true/\Q (.bl (!decide (x=y))) H
theorem XU:decide (V.int i=V.int j)=(i==j):=by
 rw[Bool.eq_iff_iff];simp
theorem j1d:decide (V.bl i=V.bl j)=(i==j):=by
 rw[Bool.eq_iff_iff];simp
theorem XV:decide (V.str i=V.str j)=(i==j):=by
 rw[Bool.eq_iff_iff];simp
theorem XT:decide (V.byt i=V.byt j)=(i.toList==j.toList):=by
 rw[Bool.eq_iff_iff];cases i;cases j;simp
section
variable{X:Cx}{a b c:Expr}{ta tb tc:TE}{pos:Pos}
theorem jS{a:St}{H:Hp}(I:Inv X pins a H s)(q:Q (.bl k) H)(e:k=k'):EP X pins a Q (.bool k') s:=by
 subst e;exact⟨.bl k,H,I,rfl,q⟩
theorem Jo:OpR X (compareOp .Eq) rEq:=by
 intro e s f H x y v u Q I d a h;obtain⟨c,q⟩:=h;cases x with
 | non=>
  cases d;cases y with
  | non=>cases a;exact PySem.EqNone.eq_none_none (jS I q (by simp))
  | bl j=>cases a;exact PySem.EqNone.eq_none_bool (jS I q (by simp))
  | int j=>obtain⟨b,rfl⟩:=a;exact PySem.EqNone.eq_none_int (jS I q (by simp))
  | str j=>obtain⟨b,rfl⟩:=a;exact PySem.EqNone.eq_none_str (jS I q (by simp))
  | _=>exact uB (show false=true from c) vG
 | bl i=>
  cases d;cases y with
  | non=>cases a;exact PySem.EqNone.eq_bool_none (jS I q (by simp))
  | bl j=>cases a;exact eq_bool (jS I q j1d)
  | str j=>obtain⟨b,rfl⟩:=a;exact PySem.EqMixed.eq_bool_str (jS I q (by simp))
  | _=>exact uB (show false=true from c) vG
 | int i=>
  obtain⟨t,rfl⟩:=d;cases y with
  | non=>cases a;exact PySem.EqNone.eq_int_none (jS I q (by simp))
  | int j=>obtain⟨b,rfl⟩:=a;exact eq_int (jS I q XU)
  | str j=>obtain⟨b,rfl⟩:=a;exact PySem.EqMixed.eq_int_str (jS I q (by simp))
  | _=>exact uB (show false=true from c) vG
 | str i=>
  obtain⟨t,rfl⟩:=d;cases y with
  | non=>cases a;exact PySem.EqNone.eq_str_none (jS I q (by simp))
  | bl j=>cases a;exact PySem.EqMixed.eq_str_bool (jS I q (by simp))
  | int j=>obtain⟨b,rfl⟩:=a;exact PySem.EqMixed.eq_str_int (jS I q (by simp))
  | str j=>obtain⟨b,rfl⟩:=a;exact eq_str (jS I q XV)
  | _=>exact uB (show false=true from c) vG
 | byt i=>
  obtain⟨t,rfl⟩:=d;cases y with
  | byt j=>obtain⟨b,rfl⟩:=a;exact PySem.W.eq_bytes (jS I q XT)
  | _=>exact uB (show false=true from c) vG
 | _=>cases y<;>exact uB (show false=true from c) vG
theorem j4X:OpR X (compareOp .NotEq) rNe:=by
 intro e s f H x y v u Q I d a h;obtain⟨c,q⟩:=h;cases x with
 | non=>
  cases d;cases y with
  | non=>cases a;exact PySem.EqNone.ne_none_none (jS I q (by simp))
  | bl j=>cases a;exact PySem.EqNone.ne_none_bool (jS I q (by simp))
  | int j=>obtain⟨b,rfl⟩:=a;exact PySem.EqNone.ne_none_int (jS I q (by simp))
  | str j=>obtain⟨b,rfl⟩:=a;exact PySem.EqNone.ne_none_str (jS I q (by simp))
  | _=>exact uB (show false=true from c) vG
 | bl i=>
  cases d;cases y with
  | non=>cases a;exact PySem.EqNone.ne_bool_none (jS I q (by simp))
  | bl j=>cases a;exact ne_bool (jS I q (congrArg not j1d))
  | str j=>obtain⟨b,rfl⟩:=a;exact PySem.EqMixed.ne_bool_str (jS I q (by simp))
  | _=>exact uB (show false=true from c) vG
 | int i=>
  obtain⟨t,rfl⟩:=d;cases y with
  | non=>cases a;exact PySem.EqNone.ne_int_none (jS I q (by simp))
  | int j=>obtain⟨b,rfl⟩:=a;exact ne_int (jS I q (congrArg not XU))
  | str j=>obtain⟨b,rfl⟩:=a;exact PySem.EqMixed.ne_int_str (jS I q (by simp))
  | _=>exact uB (show false=true from c) vG
 | str i=>
  obtain⟨t,rfl⟩:=d;cases y with
  | non=>cases a;exact PySem.EqNone.ne_str_none (jS I q (by simp))
  | bl j=>cases a;exact PySem.EqMixed.ne_str_bool (jS I q (by simp))
  | int j=>obtain⟨b,rfl⟩:=a;exact PySem.EqMixed.ne_str_int (jS I q (by simp))
  | str j=>obtain⟨b,rfl⟩:=a;exact ne_str (jS I q (congrArg not XV))
  | _=>exact uB (show false=true from c) vG
 | byt i=>
  obtain⟨t,rfl⟩:=d;cases y with
  | byt j=>obtain⟨b,rfl⟩:=a;exact PySem.W.ne_bytes (jS I q (congrArg not XT))
  | _=>exact uB (show false=true from c) vG
 | _=>cases y<;>exact uB (show false=true from c) vG
theorem YU:OpR X (compareOp .Lt) (rI0 fun i j=>.bl (decide (i<j))):=opB0 fun _ _ _ _ _ _ _ q=>lt_int q
theorem W7:OpR X (compareOp .LtE) (rI0 fun i j=>.bl (decide (i<=j))):=opB0 fun _ _ _ _ _ _ _ q=>le_int q
theorem Q0:OpR X (compareOp .Gt) (rI0 fun i j=>.bl (decide (j<i))):=opB0 fun _ _ _ _ _ _ _ q=>gt_int q
theorem j1T:OpR X (compareOp .GtE) (rI0 fun i j=>.bl (decide (j<=i))):=opB0 fun _ _ _ _ _ _ _ q=>ge_int q
theorem Xr:OpR X (compareOp .Is) (fun x y H Q=>y = .non/\Q (.bl (decide (x = .non))) H):=by
 intro a s d H x y v u Q I b c h;obtain⟨rfl,q⟩:=h;cases c;refine is_none_gen (jS I q ?_);cases x<;>first
  | (cases b;rfl)
  | (obtain⟨t,rfl⟩:=b;rfl)
theorem w6:OpR X (compareOp .IsNot) (fun x y H Q=>y = .non/\Q (.bl (!decide (x = .non))) H):=by
 intro a s d H x y v u Q I b c h;obtain⟨rfl,q⟩:=h;cases c;refine isnot_none_gen (jS I q ?_);cases x<;>first
  | (cases b;rfl)
  | (obtain⟨t,rfl⟩:=b;rfl)
theorem nomark(b:Expr)(h:op≠.In:=by decide)(d:op≠.NotIn:=by decide):behindInMarks op b=false:=by
 have a:(op==CmpOp.In)=false:=by cases op<;>first | rfl | exact uB rfl h
 have c:(op==CmpOp.NotIn)=false:=by cases op<;>first | rfl | exact uB rfl d
 cases b<;>simp[behindInMarks,a,c]
theorem zU(j:OpR X (compareOp op) r)(f:PE X a ta)(g:PE X b tb)(i:behindInMarks op b=false):PE X (.Compare a [op] [b] pos) (tOp r ta tb):=by
 intro c s n H Q I h;exact wpAny_Compare1 (binT f g I h fun v u m x y d e k l q=>j c m n d x y v u Q e k l q) i
def tTest(t:TE):TT:=fun σ H Q=>t σ H fun x H'=>∃k,x = .bl k/\Q k H'
theorem jp(t:OpR X (compareOp op) r)(o:PE X a ta)(p:PE X b tb)(q:behindInMarks op b=false):PT X (.Compare a [op] [b] pos) (tTest (tOp r ta tb)):=by
 intro d s f H Q I h;refine wpAny_isTrue_Compare1 (thn (o d s f H _ I h) fun v F ⟨x,g,l,C,w⟩=>thn (p d F f g _ l w) fun u G ⟨y,i,m,D,A⟩=>
  thn (t d G f i x y v u _ m C D A) fun c J ⟨z,j,n,E,k,e,B⟩=>?_) q
 subst e;cases E;exact wpAny_truthy_bool ⟨j,n,B⟩
def tChain(r r':R2)(ta tb tc:TE):TE:=fun σ H Q=>ta σ H fun x H1=>tb σ H1 fun y H2=>r x y H2 fun z H3=>∃k,z = .bl k/\
 (if k=true then tc σ H3 fun w' H4=>r' y w' H4 Q else Q (.bl false) H3)
theorem xa(L:OpR X (compareOp op) r)(i:OpR X (compareOp op') r')(F:PE X a ta)(G:PE X b tb)(J:PE X c tc)
  (K:lastMarks [op,op'] [b,c]=false:=by with_unfolding_all rfl):PT X (.Compare a [op,op'] [b,c] pos) (tTest (tChain r r' ta tb tc)):=by
 intro f s g H Q I h;refine isTrue_chain (thn (F f s g H _ I h) fun v Y ⟨x,o,w,S,N⟩=>test_link (thn (G f Y g o _ w N) fun u Z ⟨y,p,A,n,O⟩=>
  thn (L f Z g p x y v u _ A S n O) fun d s3 ⟨z,j,l,T,k,e,m⟩=>?_)) K
 subst e;cases T;refine wpAny_truthy_bool ?_;cases k with
 | false=>
  obtain⟨k',D,M⟩:=m;cases D;exact ite_ff ⟨j,l,M⟩
 | true=>
  refine ite_tt (test_last (thn (J f s3 g j _ l m) fun w' s4 ⟨z',q,B,U,P⟩=>thn (i f s4 g q y z' u w' _ B n U P) fun d' s5 ⟨z2,t,C,W,k2,E,R⟩=>?_));subst E;cases W;exact wpAny_truthy_bool ⟨t,C,R⟩
def TruV(K:Frg)(x:V)(H:Hp)(k:Bool):Prop:=
 match x with
 | .non=>k=false
 | .bl b=>k=b
 | .int i=>k=(i != 0)
 | .str y=>y.length<=sizeLine/\k=((y.length:Int) != 0)
 | .byt y=>y.size<=sizeLine/\k=((y.size:Int) != 0)
 | .ref p=>(∃xs,SqL K H p xs/\k = !xs.isEmpty)\/(∃xs,SqT K H p xs/\k = !xs.isEmpty)\/∃kvs,H p=some (.dK kvs)/\k = !kvs.isEmpty
 | _=>False
theorem Xe{κ:Type}{kvs:List (κ×V)}{vs:List (κ×Value)}(r:KV kvs vs):(!vs.isEmpty) = !kvs.isEmpty:=by
 cases r<;>rfl
theorem kF{xs:List V}{a:List Value}(r:Vals xs a):(!a.toArray.isEmpty) = !xs.isEmpty:=by
 cases r<;>simp
theorem line63:(sizeLine:Nat)<2^63:=by rw[sizeLine_eq];decide
theorem j4N:TruR X (fun x H Q=>∃k,TruV X.K x H k/\Q k H):=by
 intro w s D H x v Q I g h;obtain⟨k,e,q⟩:=h;have B:=line63;have C:sizeLine=16777216:=sizeLine_eq;cases x with
 | non=>
  cases g;have a:k=false:=e;subst a;exact truthy_none ⟨H,I,q⟩
 | bl b=>
  cases g;have a:k=b:=e;subst a;exact wpAny_truthy_bool ⟨H,I,q⟩
 | int i=>
  obtain⟨t,rfl⟩:=g;have a:k=(i != 0):=e;subst a;exact PySem.P.truthy_int ⟨H,I,q⟩
 | str y=>
  obtain⟨t,rfl⟩:=g;obtain⟨A,a⟩:y.length<=sizeLine/\k=((y.length:Int) != 0):=e;subst a;exact PySem.P.truthy_str (by lia) ⟨H,I.tok _,q⟩
 | byt y=>
  obtain⟨t,rfl⟩:=g;obtain⟨A,a⟩:y.size<=sizeLine/\k=((y.size:Int) != 0):=e;subst a;exact PySem.W.truthy_bytes (by lia) ⟨H,I.tok _,q⟩
 | ref p=>
  cases g;have a:(∃f,SqL X.K H p f/\k = !f.isEmpty)\/(∃f,SqT X.K H p f/\k = !f.isEmpty)\/∃c,H p=some (.dK c)/\k = !c.isEmpty:=e;rcases a with⟨f,j,a⟩ | ⟨f,j,a⟩ | ⟨c,j,a⟩
  ·subst a;obtain⟨n,r,o,u⟩:=I.list j;have d:=r.length;exact wpAny_truthy_list o.isList (by simp only[size_toArray];lia) ⟨H,I.tok _,by rw[kF r];exact q⟩
  ·subst a;obtain⟨n,r,o,u⟩:=I.tuple j;have d:=r.length;exact truthy_tuple o (by simp only[size_toArray];lia) ⟨H,I.tok _,by rw[kF r];exact q⟩
  ·subst a;obtain⟨u,z,l,r,m⟩:c.length<=sizeLine/\(p==sysModules)=false/\∃l,KV c l/\s.heap.DictOf (mixKind X.prog X.w) p l:=I.hok p _ j;have d:c.length=l.length:=Paired.length r;exact wpAny_truthy_dict z m (by lia) ⟨H,I.tok _,by rw[Xe r];exact q⟩
 | _=>exact(show False from e).elim
theorem j21(f:PE X a ta)(g:∀b,isTrue a X.env b=(do let v <-b;standAt a.pos;holding [v] (truthy v))) :
  PT X a (fun σ H Q=>ta σ H fun x H'=>∃k,TruV X.K x H' k/\Q k H'):=by
 intro c s σ H Q I h;exact isTrue_plain (thn (f c s σ H _ I h) fun v l ⟨x,d,e,j,i⟩=>j4N c l σ d x v Q e j i) (g _)
theorem yu:OpR X (binaryOp .Add) (fun x y H Q=>∃i j,x = .str i/\y = .str j/\i.length+j.length<=sizeLine/\Q (.str (i++j)) H):=by
 intro a s g H x y v u Q I c d h;obtain⟨i,j,rfl,rfl,b,q⟩:=h;obtain⟨t,rfl⟩:=c;obtain⟨e,rfl⟩:=d;exact add_str (fun e f=>⟨.str (i++j),H,I.tok _,⟨_,rfl⟩,q⟩) b
theorem vals1(r:Vals [x] us):∃u,us=[u]/\RelV x u:=by
 cases r with
 | cons r1 r2=>cases r2;exact⟨_,rfl,r1⟩
theorem vals2(r:Vals [x,y] us):∃u a,us=[u,a]/\RelV x u/\RelV y a:=by
 cases r with
 | cons r1 r2=>
  cases r2 with
  | cons r3 r4=>cases r4;exact⟨_,_,rfl,r1,r3⟩
theorem j0m(c:X.calm=true):CallR X (.builtin "max") (fun xs H Q=>∃i j,xs=[.int i,.int j]/\Q (.int (if j>i then j else i)) H):=by
 intro b s m H xs g Q I r h;obtain⟨i,j,rfl,q⟩:=h;obtain⟨u,l,rfl,⟨t,rfl⟩,⟨e,rfl⟩⟩:=vals2 r;refine max_two_ints (I.ok.hd c) fun d f k=>⟨_,H,I.kept k,?_,q⟩
 by_cases a:j>i
 ·rw[vc a,vc a];exact⟨_,rfl⟩
 ·rw[vb a,vb a];exact⟨_,rfl⟩
theorem Ym(c:X.calm=true):CallR X (.builtin "min") (fun xs H Q=>∃i j,xs=[.int i,.int j]/\Q (.int (if j<i then j else i)) H):=by
 intro b s m H xs g Q I r h;obtain⟨i,j,rfl,q⟩:=h;obtain⟨u,l,rfl,⟨t,rfl⟩,⟨e,rfl⟩⟩:=vals2 r;refine min_two_ints (I.ok.hd c) fun d f k=>⟨_,H,I.kept k,?_,q⟩
 by_cases a:j<i
 ·rw[vc a,vc a];exact⟨_,rfl⟩
 ·rw[vb a,vb a];exact⟨_,rfl⟩
def LenV(K:Frg)(x:V)(H:Hp)(n:Nat):Prop:=
 match x with
 | .str y=>y.length<=sizeLine/\n=y.length
 | .byt y=>y.size<=sizeLine/\n=y.size
 | .ref p=>(∃xs,SqL K H p xs/\n=xs.length)\/∃xs,SqT K H p xs/\n=xs.length
 | _=>False
theorem Jg:CallR X (.builtin "len") (fun xs H Q=>∃x n,xs=[x]/\LenV X.K x H n/\Q (.int n) H):=by
 intro j s w H xs v Q I r h;obtain⟨x,n,rfl,e,q⟩:=h;obtain⟨u,rfl,i⟩:=vals1 r;have m:=line63;have o:sizeLine=16777216:=sizeLine_eq;cases x with
 | str y=>
  obtain⟨t,rfl⟩:=i;obtain⟨k,b⟩:y.length<=sizeLine/\n=y.length:=e;subst b;exact len_str (by lia) ⟨.int _,H,I.tok _,⟨_,rfl⟩,q⟩
 | byt y=>
  obtain⟨t,rfl⟩:=i;obtain⟨k,b⟩:y.size<=sizeLine/\n=y.size:=e;subst b;exact PySem.W.len_bytes (by lia) ⟨.int _,H,I.tok _,⟨_,rfl⟩,q⟩
 | ref p=>
  cases i;have b:(∃xs,SqL X.K H p xs/\n=xs.length)\/∃xs,SqT X.K H p xs/\n=xs.length:=e;rcases b with⟨xs,c,b⟩ | ⟨xs,c,b⟩
  ·subst b;obtain⟨d,g,f,l⟩:=I.list c;have a:=g.length;exact Calls.call_len_list f.isList (by simp only[size_toArray];lia) ⟨.int xs.length,H,I.tok _,⟨_,by simp only[size_toArray];rw[a]⟩,q⟩
  ·subst b;obtain⟨d,g,f,l⟩:=I.tuple c;have a:=g.length;exact len_tuple f (by simp only[size_toArray];lia) ⟨.int xs.length,H,I.tok _,⟨_,by simp only[size_toArray];rw[a]⟩,q⟩
 | _=>exact(show False from e).elim
end
structure ObjM(h:Heap)(x dx C:Addr)(mA:Str->Option Value):Prop where
 obj:h.get? x=some (PySem.W.instObj C dx)
 ns:h.Ns1 dx mA
 ne:dx≠x
theorem j0D{h:Heap}{c:Addr}{f:Str->Option Value}(n:h.Ns1 c f):∃g,h.get? c=some g/\∀name,PySem.W.lookIn name g=some (f name):=by
 obtain⟨o,d,r,m,j,k,_,l⟩:=n;refine⟨o,m,fun name=>?_⟩;have e:=l name;unfold nsFind findBy at e;rw[<-Array.find?_toList]at e;unfold PySem.W.lookIn;rw[j];dsimp only;split
 ·rename_i y q;rw[q]at e;exact congrArg some e
 ·rename_i q;rw[q]at e;have a:d.toList.any (·.refKey)=false:=by
   rw[List.any_eq_false];intro y p;obtain⟨z,t,b⟩:=k y (Array.mem_toList_iff.mp p);simp[DictEntry.refKey,b]
  have i:¬d.toList.any (·.refKey)=true:=by rw[a];exact vG
  rw[vb i];exact congrArg some e
theorem ObjM.look{b:Str->Option Value}(I:ObjM h x dx C b):∃a,PySem.W.InstAt h x (PySem.W.instObj C dx) C (some a)/\∀name,PySem.W.lookIn name a=some (b name):=
 let ⟨a,ho,hl⟩:=j0D I.ns
 ⟨a,⟨I.obj,rfl,rfl,ho⟩,hl⟩
section
variable{prog:Program}{w:World}{A:Around}{E:Value->Shared->Prop}{s:Shared}{K:Frg}{x dx C f:Addr}{mA:Str->Option Value}{name:Str}{v:Value}
theorem j36{Q:Value->Shared->Prop}(X:K.In s.heap)(I:ObjM s.heap x dx C mA)(c:PySem.W.plainGet K C name=true)(d:PySem.W.hasDictIn K C=true)
  (b:PySem.W.findIn K (.ref C) name=some none) (f:mA name=some v) (a:PySem.W.handedIn v=true) (h:Q v {s with toks:=s.toks+1}) :
  wpAny (model prog w) A (getAttr (.ref x) name expr) Q E s:=by
 obtain⟨g,J,e⟩:=I.look;exact PySem.W.get_value X J (PySem.W.plainGet_of c).1 (PySem.W.findObj_own d b rfl (by rw[e,f])) a h
theorem j1r{Q:Value×List Value->Shared->Prop}(X:K.In s.heap)(I:ObjM s.heap x dx C mA)(a:PySem.W.plainGet K C name=true)
  (b:PySem.W.findIn K (.ref C) name=some (some (.ref f))) (d:PySem.W.isFn K (.ref f)=true) (e:mA name=none) (h:Q (.ref f,[.ref x]) s) :
  wpAny (model prog w) A (getMethod (.ref x) name pl) Q E s:=by
 obtain⟨g,J,c⟩:=I.look;exact PySem.W.method_fn X J (PySem.W.plainGet_of a).1 (PySem.W.plainGet_of a).2 b (beq_iff_eq.mp d) (by show(PySem.W.lookIn name g).map (·.isSome)=some false;rw[c,e];rfl) h
theorem j3G{Q:Unit->Shared->Prop}(X:K.In s.heap)(I:ObjM s.heap x dx C mA)
  (hs:PySem.W.findIn K (.ref C) "__setattr__"= some (some (.builtin "object.__setattr__"))) (n:PySem.W.plainOver K C=true) (o:PySem.W.takerIn K C name=some none) (m:PySem.W.hasDictIn K C=true)
  (hw:PySem.Within mA ns) (hsz:ns.length<=sizeLine)
  (h:∀h',ObjM h' x dx C (fun y=>if y=name then some v else mA y)->Heap.SameBut dx s.heap h'->Q () {s with heap:=h',toks:=s.toks+2}) :
  wpAny (model prog w) A (setAttr (.ref x) name v) Q E s:=by
 obtain⟨z,J,t⟩:=I.look;refine PySem.W.set_plain X J hs (PySem.W.osa_open (s:={s with toks:=s.toks+1}) (r:=none) X J n o fun b=>?_);obtain⟨q,l,f⟩:=PySem.W.any_some m;have p:s.heap.get? x=some ⟨.ref C,some dx,.plain,#[]⟩:=I.obj;refine ub (uA (ub (ub (wpAny_loadPart p (ub (PySem.W.Looks.here (s:={s with toks:=s.toks+1}) (PySem.W.looks_clsIn X l) ?_))))));rw[f];refine uA (a:=some dx) (ub (uA (ub ?_)));refine wpAny_nsSet1 (s:={s with toks:=s.toks+1}) I.ns fun h' c d=>?_
 obtain⟨u,k,j,i,g,e⟩:=c.count (PySem.Within.cons name v hw);refine ub (wpAny_lookBehind i (by rw[g];exact pastItsLine_dict (vY e (by rw[vS];lia))) ?_);exact uA (h _ ⟨(d.2 _ (Ne.symm I.ne)).trans I.obj,c,I.ne⟩ d)
theorem j1E{R:Result->Shared->Prop}(X:K.In s.heap)(c:PySem.W.makesIn K C=true)
  (hi:PySem.W.findIn K (.ref C) "__init__"= some (some (.ref f))) (b:PySem.W.typeIn K (.ref f)=some (.type "function"))
  (h:codeAny (model prog w) (A.under (.builtin "type.__call__" ⟨.ref C::vs,kw⟩)) (.call (.ref f) ⟨.ref (s.heap.objs.size+1)::vs,kw⟩) (PySem.W.InitBack (s.heap.objs.size+1) R)
   {s with heap:=(s.heap.push PySem.W.emptyDict).push (PySem.W.instObj C s.heap.objs.size)}) :
  codeAny (model prog w) A (.call (.ref C) ⟨vs,kw⟩) R s:=by
 obtain⟨e,g,d,t,i⟩:=s;exact PySem.W.make_core (PySem.W.makes_of X c) (PySem.W.looks_findIn X hi) (fun a=>PySem.W.bind_fn X a b) (.inl rfl) h
end
noncomputable def putF(f:Str)(v:V):List (Str×V)->List (Str×V)
 | []=>[(f,v)]
 | (g,x)::r=>if g=f then(g,v)::r else(g,x)::putF f v r
theorem QZ(f g:Str)(v:V):∀fs:List (Str×V),(putF f v fs).lookup g=if g=f then some v else fs.lookup g
 | []=>by
  show List.lookup g [(f,v)]=_;by_cases h:g=f
  ·have a:(g==f)=true:=beq_iff_eq.mpr h;simp only[List.lookup,a,if_pos h]
  ·have a:(g==f)=false:=beq_eq_false_iff_ne.mpr h;simp only[List.lookup,a,if_neg h]
 | (k,x)::r=>by
  have c:=QZ f g v r;rw[show putF f v ((k,x)::r)=(if k=f then(k,v)::r else(k,x)::putF f v r)from rfl];by_cases b:k=f
  ·rw[vc b];by_cases h:g=k
   ·have a:(g==k)=true:=beq_iff_eq.mpr h;simp only[List.lookup,a,if_pos (h.trans b)]
   ·have a:(g==k)=false:=beq_eq_false_iff_ne.mpr h;simp only[List.lookup,a,if_neg (fun e:g=f=>h (e.trans b.symm))]
  ·rw[vb b];by_cases h:g=k
   ·have a:(g==k)=true:=beq_iff_eq.mpr h;simp only[List.lookup,a,if_neg (fun e:g=f=>b (h.symm.trans e))]
   ·have a:(g==k)=false:=beq_eq_false_iff_ne.mpr h;simp only[List.lookup,a];exact c
theorem Yv(f:Str)(v:V):∀fs:List (Str×V),f∈(putF f v fs).map (·.1)/\∀g,g∈fs.map (·.1)->g∈(putF f v fs).map (·.1)
 | []=>⟨by simp[putF],fun g h=>by simp at h⟩
 | (k,x)::r=>by
  obtain⟨b,c⟩:=Yv f v r;rw[show putF f v ((k,x)::r)=(if k=f then(k,v)::r else(k,x)::putF f v r)from rfl];by_cases a:k=f
  ·rw[vc a];subst a;exact⟨by simp,fun g h=>by simpa using h⟩
  ·rw[vb a];refine⟨?_,fun g h=>?_⟩
   ·rw[uy];exact vp _ b
   ·rw[uy]at h|-;rcases mem_cons.mp h with e | e
    ·exact mem_cons.mpr (.inl e)
    ·exact vp _ (c g e)
theorem YT(f:Str)(v:V):∀fs:List (Str×V),(putF f v fs).length<=fs.length+1
 | []=>by simp[putF]
 | (k,x)::r=>by
  have b:=YT f v r;rw[show putF f v ((k,x)::r)=(if k=f then(k,v)::r else(k,x)::putF f v r)from rfl];by_cases a:k=f
  ·rw[vc a,vS,vS];lia
  ·rw[vb a,vS,vS];lia
theorem RelO.some_of(r:RelO (some v) o):∃u,o=some u/\RelV v u:=by
 cases o with
 | none=>exact(show False from r).elim
 | some u=>exact⟨u,rfl,r⟩
theorem RelO.none_of(r:RelO none o):o=none:=by
 cases o with
 | none=>rfl
 | some u=>exact(show False from r).elim
theorem j0s(r:RelV v u):PySem.W.handedIn u=true:=by
 cases v with
 | non=>cases(show u=Value.none from r);rfl
 | bl b=>cases(show u=Value.bool b from r);rfl
 | int i=>obtain⟨t,e⟩:=(show∃t,u=Value.int i t from r);cases e;rfl
 | str x=>obtain⟨t,e⟩:=(show∃t,u=Value.str x t from r);cases e;rfl
 | byt b=>obtain⟨t,e⟩:=(show∃t,u=Value.bytes b t from r);cases e;rfl
 | flt b=>obtain⟨t,e⟩:=(show∃t,u=Value.float b t from r);cases e;rfl
 | ref a=>cases(show u=Value.ref a from r);rfl
 | ty n=>cases(show u=Value.type n from r);rfl
section
variable{P:Program}{w:World}{H H':Hp}{h h':Heap}{a C dx:Addr}{fs fs':List (Str×V)}
theorem Y3(b:HOk P w H h)(e:H a=some (.ins C dx fs)):∃mA,ObjM h a dx C mA/\(∀f,RelO (fs.lookup f) (mA f))/\PySem.Within mA (fs.map (·.1))/\fs.length<=1000/\H dx=some (.own a):=by
 obtain⟨d,z,c,g,mA,n,r,q⟩:=(show ObjOk P w H h a (.ins C dx fs)from b a _ e)
 exact⟨mA,⟨g,n,c⟩,r,q,z,d⟩
end
structure Cls(K:Frg)(C:Addr):Prop where
 pg:PySem.W.plainGet K C Str.empty=true
 hd:PySem.W.hasDictIn K C=true
 po:PySem.W.plainOver K C=true
 sa:PySem.W.findIn K (.ref C) "__setattr__"= some (some (.builtin "object.__setattr__"))
theorem Cls.get{K:Frg}{C:Addr}(c:Cls K C)(f:Str):PySem.W.plainGet K C f=true:=c.pg
def NoAttr(K:Frg)(C:Addr)(f:Str):Prop:=PySem.W.findIn K (.ref C) f=some none
theorem NoAttr.taker{K:Frg}{C:Addr}{f:Str}(n:NoAttr K C f):PySem.W.takerIn K C f=some none:=by
 unfold PySem.W.takerIn;rw[show PySem.W.findIn K (.ref C) f=some none from n];rfl
structure Meth(K:Frg)(C:Addr)(m:Str)(f:Addr):Prop where
 at_:PySem.W.findIn K (.ref C) m=some (some (.ref f))
 fn:PySem.W.isFn K (.ref f)=true
 kp:PySem.W.keepIn K (.ref f)=true
section
variable{X:Cx}{pins:List (Addr×Obj)}{σ:St}{H:Hp}{s:Shared}{a C dx:Addr}{fs:List (Str×V)}{f:Str}{v:V}{A:Around}{E:Value->Shared->Prop}
theorem Xa{Q:Value->Shared->Prop}(I:Inv X pins σ H s)(e:H a=some (.ins C dx fs))(c:Cls X.K C)(n:NoAttr X.K C f)(l:fs.lookup f=some v)
  (h:∀u s',Inv X pins σ H s'->RelV v u->Q u s'):wpAny (model X.prog X.w) A (getAttr (.ref a) f b) Q E s:=by
 obtain⟨i,O,r,_,_,_⟩:=Y3 I.hok e;obtain⟨u,g,d⟩:=RelO.some_of (v:=v) (o:=i f) (by rw[<-l];exact r f);exact j36 I.kIn O (c.get f) c.hd n g (j0s d) (h u _ (I.tok _) d)
theorem Xb{Q:Value×List Value->Shared->Prop}(I:Inv X pins σ H s)(e:H a=some (.ins C dx fs))(c:Cls X.K C)(k:Meth X.K C m g)(l:fs.lookup m=none)
  (h:Q (.ref g,[.ref a]) s):wpAny (model X.prog X.w) A (getMethod (.ref a) m pl) Q E s:=by
 obtain⟨d,O,r,_,_,_⟩:=Y3 I.hok e;have b:d m=none:=RelO.none_of (by rw[<-l];exact r m);exact j1r I.kIn O (c.get m) k.at_ k.fn b h
theorem XC{Q:Unit->Shared->Prop}(I:Inv X pins σ H s)(e:H a=some (.ins C dx fs))(c:Cls X.K C)(n:NoAttr X.K C f)(D:fs.length<1000)(w:RelV y u)
  (h:∀s',Inv X pins σ (upd H a (.ins C dx (putF f y fs))) s'->Q () s'):wpAny (model X.prog X.w) A (setAttr (.ref a) f u) Q E s:=by
 obtain⟨j,O,r,k,_,i⟩:=Y3 I.hok e;have v:(fs.map (·.1)).length<=sizeLine:=by rw[vt,sizeLine_eq];lia
 refine j3G I.kIn O c.sa c.po n.taker c.hd k v fun l d B=>h _ ?_
 have p:∃o,l.get? dx=some o:=let ⟨o,_,_,e',_⟩:=d.ns;⟨o,e'⟩;refine I.write (x:=a) (e:=dx) (by rw[e];exact True.intro) (.inr i) (fun b q m z=>(B.2 b m).trans z) p ?_;refine⟨by rw[jg O.ne];exact i,?_,O.ne,d.obj,_,d.ns,fun g=>?_,fun g t=>?_⟩
 ·have:=YT f y fs;lia
 ·show RelO ((putF f y fs).lookup g) (if g=f then some u else j g);rw[QZ];by_cases q:g=f
  ·rw[vc q,vc q];exact w
  ·rw[vb q,vb q];exact r g
 ·by_cases q:g=f
  ·rw[q];exact(Yv f y fs).1
  ·refine(Yv f y fs).2 g (k g fun z=>t ?_);show(if g=f then some u else j g)=none;rw[vb q];exact z
theorem Inv.made(I:Inv X pins σ H s):Inv X pins σ (upd (upd H s.heap.objs.size (.own (s.heap.objs.size+1))) (s.heap.objs.size+1) (.ins C s.heap.objs.size []))
  {s with heap:=(s.heap.push PySem.W.emptyDict).push (PySem.W.instObj C s.heap.objs.size)}:=by
 have c:(s.heap.push PySem.W.emptyDict).get? s.heap.objs.size=some PySem.W.emptyDict:=Heap.get?_push_size s.heap rfl;have g:((s.heap.push PySem.W.emptyDict).push (PySem.W.instObj C s.heap.objs.size)).get? (s.heap.objs.size+1)=some (PySem.W.instObj C s.heap.objs.size):=by
  have:=Heap.get?_push_size (s.heap.push PySem.W.emptyDict) (o:=PySem.W.instObj C s.heap.objs.size) rfl
  rwa [Heap.size_push]at this
 have h:(s.heap.push PySem.W.emptyDict).Ns s.heap.objs.size (fun _=>none):=⟨PySem.W.emptyDict,#[],_,c,rfl,(fun e i=>uB i (by simp)),fun _=>rfl⟩
 have f:=I.laid (a:=s.heap.objs.size) (o:=.own (s.heap.objs.size+1)) (h':=s.heap.push PySem.W.emptyDict) (t':=s.toks) (fun b u q=>vK _ q) (va _) ⟨_,c⟩;refine f.laid (a:=s.heap.objs.size+1) (o:=.ins C s.heap.objs.size []) (t':=s.toks) (fun b u q=>vK _ q) (Nat.le_of_eq (Heap.size_push _ _)) ?_;have d:s.heap.objs.size≠s.heap.objs.size+1:=vF (Nat.lt_succ_self _);refine⟨by rw[jg d,jt],vA _,d,g,fun _=>none,(Heap.Ns1.of_empty h).at fun o q=>vK _ q,fun _=>True.intro,fun y j=>uB rfl j⟩
theorem j2W{f:Str}{s:Shared}{Q:Value->Shared->Prop}(b:attributeBase e f env (eval e env)=eval e env)
  (h:wpAny (model prog w) A (eval e env) (fun o a=>wpAny (model prog w) A (getAttr o f true) Q E a) E s):wpAny (model prog w) A (eval (.Attribute e f pos) env) Q E s:=
 Attribute_any_ h (by rw[arm_eval_Attribute,b])
end
def tFld(K:Frg)(ta:TE)(f:Str):TE:=fun σ H Q=>ta σ H fun x H1=>∃a C dx fs v,x = .ref a/\H1 a=some (.ins C dx fs)/\Cls K C/\NoAttr K C f/\fs.lookup f=some v/\Q v H1
def sFld(K:Frg)(ta tv:TE)(f:Str):TS:=fun D σ H=>tv σ H fun y H1=>ta σ H1 fun x H2=>∃a C dx fs,x = .ref a/\H2 a=some (.ins C dx fs)/\Cls K C/\NoAttr K C f/\fs.length<1000/\
 D.nx σ (upd H2 a (.ins C dx (putF f y fs)))
section
variable{X:Cx}{o e value:Expr}{f:Str}{pos pos' tpos:Pos}{ta tv:TE}
theorem Je(o:PE X e ta)(m:attributeBase e f X.env (eval e X.env)=eval e X.env):PE X (.Attribute e f pos) (tFld X.K ta f):=by
 intro b s t H Q I h;refine j2W m (thn (o b s t H _ I h) fun u z ⟨x,d,g,r,a,C,w,y,v,k,j,c,n,l,q⟩=>?_);subst k;obtain rfl:u=Value.ref a:=r;exact Xa g j c n l fun B A i p=>⟨v,d,i,p,q⟩
theorem ze(p:PE X o ta)(r:PE X value tv)(hs:swapsWith value (some (.Attribute o f pos')) pos.line X.env=pure false):PS X (.Assign [.Attribute o f pos'] value pos) (sFld X.K ta tv f):=by
 intro b s d H D I h;refine plainObj_wpAny_Assign_Attribute (thn (r b s d H _ I h) fun u z ⟨y,e,g,w,q⟩=>thn (p b z d e _ g q) fun ov F ⟨x,A,i,v,a,C,B,E,m,k,c,n,l,t⟩=>?_) hs;subst m;obtain rfl:ov=Value.ref a:=v;exact XC i k c n l w fun G j=>⟨d,_,j,t⟩
end
section
variable{X:Cx}{pins:List (Addr×Obj)}{σ:St}{H:Hp}{s:Shared}{A:Around}{E:Value->Shared->Prop}{Q:Value->Shared->Prop}{c:Value}{b:Bool}
inductive TyOf(K:Frg)(H:Hp):V->Value->Prop where
 | non:TyOf K H .non (.type "NoneType")
 | bl (x:Bool):TyOf K H (.bl x) (.type "bool")
 | int (i:Int):TyOf K H (.int i) (.type "int")
 | str (x:Str):TyOf K H (.str x) (.type "str")
 | flt (x:UInt64):TyOf K H (.flt x) (.type "float")
 | lst {a:Addr} {xs:List V} (e:H a=some (.lst xs)):TyOf K H (.ref a) (.type "list")
 | frz {a:Addr} {o:Obj} {xs:List V} (e:H a=some (.frz o (.lst xs))):TyOf K H (.ref a) (.type "list")
 | tup {a:Addr} {xs:List V} (e:H a=some (.tup xs)):TyOf K H (.ref a) (.type "tuple")
 | dK {a:Addr} {kvs:List (Key×V)} (e:H a=some (.dK kvs)):TyOf K H (.ref a) (.type "dict")
 | dT {a:Addr} {kvs:List (List Key×V)} (e:H a=some (.dT kvs)):TyOf K H (.ref a) (.type "dict")
 | ins {a C dx:Addr} {fs:List (Str×V)} (e:H a=some (.ins C dx fs)) (cl:Cls K C) (ha:PySem.W.findIn K (.ref C) "__class__"= some (some (.builtin "object.__class__")))
   (hn:PySem.W.specialIn K (.builtin "object.__class__") "__get__"= some (some (.builtin "getset_descriptor.__get__"))) (htk:PySem.W.takesIn K (.builtin "object.__class__")=some true)
   (hm:PySem.W.mroIn K C (.type "object")=some true):TyOf K H (.ref a) (.ref C)
theorem j0w(I:Inv X pins σ H s)(d:RelV x u)(m:TyOf X.K H x t)(e:PySem.W.kitOne X.K t c=some b)(h:∀tk,Q (.bool b) {s with toks:=tk}) :
  wpAny (model X.prog X.w) A (call (.builtin "isinstance") [u,c]) Q E s:=by
 cases m with
 | non=>cases(show u=Value.none from d);exact PySem.W.kia_one PySem.W.kitx_none I.kIn True.intro e (fun z=>nomatch z) h
 | bl y=>cases(show u=Value.bool y from d);exact PySem.W.kia_one PySem.W.kitx_bool I.kIn True.intro e (fun z=>nomatch z) h
 | int i=>obtain⟨t,q⟩:=(show∃t,u=Value.int i t from d);cases q;exact PySem.W.kia_one PySem.W.kitx_int I.kIn True.intro e (fun z=>nomatch z) h
 | str y=>obtain⟨t,q⟩:=(show∃t,u=Value.str y t from d);cases q;exact PySem.W.kia_one PySem.W.kitx_str I.kIn True.intro e (fun z=>nomatch z) h
 | flt y=>obtain⟨t,q⟩:=(show∃t,u=Value.float y t from d);cases q;exact PySem.W.kia_one PySem.W.kitx_float I.kIn True.intro e (fun z=>nomatch z) h
 | @lst a g ea=>
  cases(show u=Value.ref a from d);obtain⟨_,_,n,_,f⟩:=(show ObjOk X.prog X.w H s.heap a (.lst g)from I.hok a _ ea)
  exact PySem.W.kia_one PySem.W.kitx_list I.kIn ⟨_,f,rfl⟩ e (fun z=>nomatch z) h
 | @frz a ob g ea=>
  cases(show u=Value.ref a from d);obtain⟨_,_,_,n,_,f⟩:=(show ObjOk X.prog X.w H s.heap a (.frz ob (.lst g))from I.hok a _ ea)
  exact PySem.W.kia_one PySem.W.kitx_list I.kIn ⟨_,f,rfl⟩ e (fun z=>nomatch z) h
 | @tup a g ea=>
  cases(show u=Value.ref a from d);obtain⟨_,_,_,p⟩:=(show ObjOk X.prog X.w H s.heap a (.tup g)from I.hok a _ ea)
  obtain⟨o,f,j,_⟩:=p;exact PySem.W.kia_one PySem.W.kitx_tuple I.kIn ⟨o,f,j⟩ e (fun z=>nomatch z) h
 | @dK a kvs ea=>
  cases(show u=Value.ref a from d);obtain⟨_,_,w,_,p⟩:=(show ObjOk X.prog X.w H s.heap a (.dK kvs)from I.hok a _ ea)
  obtain⟨o,l,k,f,j,_⟩:=p;exact PySem.W.kia_one PySem.W.kitx_dict I.kIn ⟨o,f,j.1⟩ e (fun z=>nomatch z) h
 | @dT a kvs ea=>
  cases(show u=Value.ref a from d);obtain⟨_,_,g,_,o,l,k,f,j,_⟩:=(show ObjOk X.prog X.w H s.heap a (.dT kvs)from I.hok a _ ea)
  exact PySem.W.kia_one PySem.W.kitx_dict I.kIn ⟨o,f,j.1⟩ e (fun z=>nomatch z) h
 | @ins a C dx fs ea cl ha hn htk hm=>
  cases(show u=Value.ref a from d);obtain⟨r,O,_⟩:=Y3 I.hok ea;obtain⟨v,J,_⟩:=O.look;exact PySem.W.kia_one (PySem.W.kitx_own (cl.get _) cl.hd ha hn htk hm) I.kIn J e (fun z=>nomatch z) h
end
structure Room(k:Nat)(A:Around):Prop where
 hd:A.handled=none
 dp:A.depth+3*k+5<recursionLimit
 un:A.units+16*k+200<cLine
theorem Room.mono(r:Room k A)(h:j<=k):Room j A:=⟨r.hd,by have:=r.dp;lia,by have:=r.un;lia⟩
theorem Room.deeper(r:Room (k+1) A)(env:Env):Room k (A.deeper env):=
 ⟨r.hd,by have:=r.dp;show A.depth+1+3*k+5<_;lia,by have:=r.un;show A.units+3+16*k+200<_;lia⟩
theorem Xh{A:Around}{C:Addr}{us:List Value}{a:List (Str×Value)}:(A.under (.builtin "type.__call__" ⟨.ref C::us,a⟩)).depth=A.depth+1:=by
 first | rfl | simp[Around.under,Code.weight,Code.isCreation,Code.isGuard,Code.isCaller,Code.frames,Code.isFrame,guardIds]
theorem Xi{A:Around}{C:Addr}{us:List Value}{a:List (Str×Value)}:(A.under (.builtin "type.__call__" ⟨.ref C::us,a⟩)).units=A.units+1:=by
 first | rfl | simp[Around.under,Code.cUnits,Code.frames,Code.isFrame]
theorem Room.make(r:Room (k+1) A)(C:Addr)(us:List Value)(a:List (Str×Value)):Room k (A.under (.builtin "type.__call__" ⟨.ref C::us,a⟩)):=
 ⟨r.hd,by have:=r.dp;rw[Xh];lia,by have:=r.un;rw[Xi];lia⟩
theorem Room.depth(r:Room k A):A.depth<recursionLimit:=by have:=r.dp;lia
theorem Room.units(r:Room k A):A.units+64<cLine:=by have:=r.un;lia
def tNil:TA:=fun _ H Q=>Q [] H
def tCons(ta:TE)(tr:TA):TA:=fun σ H Q=>ta σ H fun x H1=>tr σ H1 fun xs H2=>Q (x::xs) H2
section
variable{X:Cx}{e:Expr}{es:List Expr}{te:TE}{t:TA}{pos:Pos}
theorem jc:PA X [] tNil:=fun _ _ _ _ H Q I h=>Calls.spliced_nil ⟨[],H,I,.nil,h⟩
theorem ja(j:PE X e te)(k:PA X es t)(hs:starEach (e::es) X.env=(false,eval e X.env)::starEach es X.env:=by rfl):PA X (e::es) (tCons te t):=by
 intro b a s c H Q I h;rw[hs];show wpAny _ _ (spliced ((false,eval e X.env)::backTo b (starEach es X.env))) _ _ s;refine Calls.spliced_cons (thn (j a s c H _ I h) fun u p ⟨x,d,g,n,l⟩=>?_);exact thn (k b a p c d _ g l) fun v r ⟨q,f,i,o,m⟩=>⟨x::q,f,i,.cons n o,m⟩
def tTup(t:TA):TE:=fun σ H Q=>t σ H fun xs H1=>xs.length<=sizeLine/\∀p,H1 p=none->Q (.ref p) (upd H1 p (.tup xs))
def tLst(t:TA):TE:=fun σ H Q=>t σ H fun xs H1=>xs.length<=sizeLine/\∀p,H1 p=none->Q (.ref p) (upd H1 p (.lst xs))
theorem jN{x1}(h:PA X es t):PE X (.Tuple es x1 pos) (tTup t):=by
 intro a s l H Q I i;refine wpAny_Tuple_spliced (thn (h pos a s l H _ I i) fun j c ⟨k,d,f,r,z,q⟩=>⟨by rw[<-r.length];exact z,?_⟩);have g:d c.heap.objs.size=none:=f.hok.fresh (va _);refine⟨.ref c.heap.objs.size,upd d c.heap.objs.size (.tup k),f.laid (t':=c.toks) (fun b u e=>vK _ e) (va _) ?_,rfl,q _ g⟩;exact⟨z,j,r,⟨_,Heap.get?_push_size _ rfl,rfl,_,rfl⟩⟩
theorem jE(h:PA X es t):PE X (.List es pos) (tLst t):=by
 intro a s l H Q I i;refine wpAny_List_spliced (thn (h pos a s l H _ I i) fun j c ⟨k,d,f,r,z,q⟩=>⟨by rw[<-r.length];exact z,?_⟩);have g:d c.heap.objs.size=none:=f.hok.fresh (va _);refine⟨.ref c.heap.objs.size,upd d c.heap.objs.size (.lst k),f.laid (t':=c.toks) (fun b u e=>vK _ e) (va _) ?_,rfl,q _ g⟩;exact⟨z,j,0,r,Heap.get?_push_size _ rfl⟩
end
noncomputable abbrev Sp:=List V->Hp->VK->XK->Prop
noncomputable abbrev CXT:=List Env->Hp->Shared->XK->Value->Shared->Prop
structure Env0(P:Program)(w:World)(K:Frg)(mg:Str->Option Value)(base:Heap)(A:Around)(outer:List Env)(s:Shared)(H:Hp):Prop where
 frames:A.frames=some outer
 mod:Mod K mg base
 bs:∀b o,base.get? b=some o->s.heap.get? b=some o/\H b=none
 bsz:base.objs.size<=s.heap.objs.size
 funs:s.heap.FunFrames base outer
 frf:∀b∈frs outer,H b=none
 hok:HOk P w H s.heap
 bare:AllBare s.gens
def CE(outer:List Env)(P:Program)(w:World)(H:Hp)(s:Shared)(Q:VK)(u:Value)(s':Shared):Prop:=
 ∃v H',s'.os=s.os/\AllBare s'.gens/\Un (frs outer) [] H H' s.heap s'.heap/\HOk P w H' s'.heap/\RelV v u/\Q v H'
def CR(CX:CXT)(outer:List Env)(P:Program)(w:World)(H:Hp)(s:Shared)(Q:VK)(E:XK)(r:Result)(s':Shared):Prop:=
 match r with
 | .ok (.ret u)=>CE outer P w H s Q u s'
 | .ok _=>False
 | .error e=>CX outer H s E e s'
structure FnOk(P:Program)(w:World)(K:Frg)(mg:Str->Option Value)(base:Heap)(CX:CXT)(k:Nat)(f:Addr)(fd:FuncData)(ps:List Str)(sp:Sp):Prop where
 len:∀vs H Q E,sp vs H Q E->vs.length=ps.length
 run:∀(A:Around) (outer:List Env) (s:Shared) (H:Hp) (args:Args) (us:List Value) (vs:List V) (Q:VK) (E:XK),Room k A->Env0 P w K mg base A outer s H->BindsTo s fd args (ps.zip us)->Vals vs us->sp vs H Q E->
  codeAny (model P w) A (.call (.ref f) args) (CR CX outer P w H s Q E) s
theorem FnOk.mono{P:Program}{w:World}{K:Frg}{e:Str->Option Value}{a:Heap}{CX:CXT}{j k:Nat}{f:Addr}{d:FuncData}{ps:List Str}{sp:Sp}(F:FnOk P w K e a CX j f d ps sp)(h:j<=k) :
  FnOk P w K e a CX k f d ps sp:=⟨F.len,fun A b s H c i l Q E g=>F.run A b s H c i l Q E (g.mono h)⟩
theorem Env0.make{P:Program}{w:World}{K:Frg}{c:Str->Option Value}{b:Heap}{A:Around}{a:List Env}{s:Shared}{H:Hp}(e:Env0 P w K c b A a s H)(C:Addr)(us:List Value)(d:List (Str×Value)) :
  Env0 P w K c b (A.under (.builtin "type.__call__" ⟨.ref C::us,d⟩)) a s H:=⟨by first | exact e.frames | (simpa [Around.under,Code.envs,Code.isFrame,pushEnvs]using e.frames),e.mod,e.bs,e.bsz,e.funs,e.frf,e.hok,e.bare⟩
section
variable{X:Cx}{pins:List (Addr×Obj)}{σ:St}{H:Hp}{s s':Shared}
theorem Inv.env0(I:Inv X pins σ H s):Env0 X.prog X.w X.K X.mg X.base X.A X.stack s H:=
 ⟨I.ok.frames,I.ok.mod,I.bs,vY I.ok.bsz I.sz,I.stack,I.stkFree,I.hok,I.bare⟩
theorem Inv.after(I:Inv X pins σ H s)(h:CE X.stack X.prog X.w H s Q u s'):EP X pins σ Q u s':=by
 obtain⟨v,f,j,a,k,c,r,q⟩:=h;obtain⟨i,g,d,t,e⟩:=s';obtain rfl:e=s.os:=j;exact⟨v,f,I.call (h':=i) (g':=g) (d':=d) (t':=t) (ch:=[]) k c a (fun b z=>uB z (by simp)),r,q⟩
end
def tCall(sp:Sp)(dvs:List V)(E:XK)(t:TA):TE:=fun σ H Q=>t σ H fun vs H1=>sp (vs++dvs) H1 Q E
def tMeth(C:Addr)(m:Str)(sp:Sp)(dvs:List V)(E:XK)(ta:TE)(t:TA):TE:=fun σ H Q=>ta σ H fun x H1=>∃a dx fs,x = .ref a/\H1 a=some (.ins C dx fs)/\fs.lookup m=none/\
 t σ H1 fun vs H2=>sp (x::(vs++dvs)) H2 Q E
def tMake(C:Addr)(sp:Sp)(dvs:List V)(E:XK)(t:TA):TE:=fun σ H Q=>t σ H fun vs H1=>∀x dx,H1 x=none->H1 dx=none->dx≠x->
 sp (.ref x::(vs++dvs)) (upd (upd H1 dx (.own x)) x (.ins C dx [])) (fun v H2=>v = .non/\Q (.ref x) H2) E
def Binds(K:Frg)(fd:FuncData)(ps:List Str)(ds:List Value):Prop:=
 ∀(s:Shared) (us:List Value),K.In s.heap->(us++ds).length=ps.length->BindsTo s fd ⟨us,[]⟩ (ps.zip (us++ds))
theorem Binds.all{K:Frg}{a:FuncData}{ps:List Str}(h:∀us:List Value,us.length=ps.length->bindArgs a ⟨us,[]⟩=pure (ps.zip us)):Binds K a ps []:=fun s us _ b=>by
 rw[append_nil]at b|-;exact .of_eq (h us b)
def Passes(CX:CXT)(X:Cx)(E:XK):Prop:=∀(pins:List (Addr×Obj)) (σ:St) (H:Hp) (s:Shared) (e:Value) (s':Shared),Inv X pins σ H s->CX X.stack H s E e s'->X.xe e s'
section
variable{X:Cx}{CX:CXT}{k:Nat}{f C:Addr}{fd:FuncData}{ps:List Str}{sp:Sp}{dvs:List V}{ds:List Value}{E:XK}{x m:Str}{p pos apos:Pos}{e o:Expr}{es:List Expr}{ta:TE}{t:TA}
theorem j2f{b:St}{H:Hp}(F:FnOk X.prog X.w X.K X.mg X.base CX k f fd ps sp)(j:Room k X.A)(d:Binds X.K fd ps ds)(g:Vals dvs ds)(l:Passes CX X E)
  (I:Inv X pins b H s) (r:Vals vs us) (h:sp (vs++dvs) H Q E):wpAny (model X.prog X.w) X.A (call (.ref f) us) (EP X pins b Q) X.xe s:=by
 have c:Vals (vs++dvs) (us++ds):=r.append g;have i:(us++ds).length=ps.length:=by rw[<-c.length];exact F.len _ _ _ _ h
 refine wpAny_call (codeAny_mono (F.run X.A X.stack s H ⟨us,[]⟩ (us++ds) (vs++dvs) Q E j I.env0 (d s us I.kIn i) c h) fun r m a=>?_);cases r with
 | error e=>exact l pins b H s e m I a
 | ok fl=>
  cases fl with
  | ret u=>exact I.after a
  | next=>exact False.elim a
  | brk=>exact False.elim a
  | cont=>exact False.elim a
theorem Y5(F:FnOk X.prog X.w X.K X.mg X.base CX k f fd ps sp)(u:Room k X.A)(m:Gl X x)(o:X.mg x=some (.ref f))(n:PySem.W.keepIn X.K (.ref f)=true)(i:Binds X.K fd ps ds)(j:Vals dvs ds)(v:Passes CX X E)
  (g:PA X (e::es) t) (b:(x==("__debug__" : Str))=false:=by decide) (l:starEach (e::es) X.env=(false,eval e X.env)::starEach es X.env:=by rfl) (c:(backTo pos (starEach es X.env)).any (·.1)=false:=by rfl) :
  PE X (.Call (.Name x p) (e::es) [] pos) (tCall sp dvs E t):=by
 intro a s w H Q I h;refine wpAny_Call_Name_kw (Z2 I m o ?_ b);refine PySem.W.callWith_K (h₀:=X.base) I.ok.mod.kin n (thn (g pos a s w H _ I h) fun B z ⟨C,y,d,r,q⟩=>⟨d.kIn,?_⟩) l c;exact j2f F u i j v d r q
theorem Wd(G:PE X o ta)(c:Cls X.K C)(n:Meth X.K C m f)(F:FnOk X.prog X.w X.K X.mg X.base CX k f fd ps sp)(J:Room k X.A)(B:Binds X.K fd ps ds)(D:Vals dvs ds)(L:Passes CX X E)(z:PA X (e::es) t)
  (g:starEach (e::es) X.env=(false,eval e X.env)::starEach es X.env:=by rfl) (d:(backTo pos (starEach es X.env)).any (·.1)=false:=by rfl)
  (K:eval (.Call (.Attribute o m apos) (e::es) [] pos) X.env=(do
   let ov <-eval o X.env
   standAt apos.atName
   let (f,first) <-holding [ov] (getMethod ov m pl)
   callWith pos f first (backTo pos (starEach (e::es) X.env)) (backToKw pos (keywordEach [] X.env))):=by rfl) :
  PE X (.Call (.Attribute o m apos) (e::es) [] pos) (tMeth C m sp dvs E ta t):=by
 intro b s p H Q I h;refine PySem.W.methodCall_KW (pl:=pl) (thn (G b s p H _ I h) fun u O ⟨x,v,i,N,a,R,S,y,w,l,q⟩=>?_) K;subst y;obtain rfl:u=Value.ref a:=N;refine Xb i w c n l ?_;refine PySem.W.callWith_K (first:=[.ref a]) (h₀:=X.base) I.ok.mod.kin n.kp (thn (z pos b O p v _ i q) fun us T ⟨vs,P,j,r,M⟩=>⟨j.kIn,?_⟩) g d;exact j2f (us:=.ref a::us) (vs:=.ref a::vs) F J B D L j (.cons rfl r) M
structure Mk(K:Frg)(C f:Addr):Prop where
 makes:PySem.W.makesIn K C=true
 init:PySem.W.findIn K (.ref C) "__init__"= some (some (.ref f))
 fn:PySem.W.isFn K (.ref f)=true
 kp:PySem.W.keepIn K (.ref C)=true
theorem j2g{c:St}{H:Hp}(M:Mk X.K C f)(F:FnOk X.prog X.w X.K X.mg X.base CX k f fd ps sp)(p:Room (k+1) X.A)(m:Binds X.K fd ps ds)(n:Vals dvs ds)
  (q:Passes CX X E) (I:Inv X pins c H s) (r:Vals vs us)
  (h:∀x dx,H x=none->H dx=none->dx≠x->sp (.ref x::(vs++dvs)) (upd (upd H dx (.own x)) x (.ins C dx [])) (fun v H2=>v = .non/\Q (.ref x) H2) E) :
  wpAny (model X.prog X.w) X.A (call (.ref C) us) (EP X pins c Q) X.xe s:=by
 have d:=h (s.heap.objs.size+1) s.heap.objs.size (I.hok.fresh (Nat.le_succ _)) (I.hok.fresh (va _)) (vF (Nat.lt_succ_self _));have b:=Inv.made (C:=C) I;have g:Vals (V.ref (s.heap.objs.size+1)::(vs++dvs)) (Value.ref (s.heap.objs.size+1)::(us++ds)):=.cons rfl (r.append n);have o:(Value.ref (s.heap.objs.size+1)::us++ds).length=ps.length:=by
  have e:=g.length;rw[F.len _ _ _ _ d]at e;exact e.symm
 refine wpAny_call (j1E (f:=f) I.kIn M.makes M.init (beq_iff_eq.mp M.fn) (codeAny_mono (F.run _ X.stack _ _ ⟨Value.ref (s.heap.objs.size+1)::us,[]⟩ (Value.ref (s.heap.objs.size+1)::(us++ds)) _ _ E (p.make C us [])
  (b.env0.make C us []) (m _ (Value.ref (s.heap.objs.size+1)::us) b.kIn o) g d) fun r y a=>?_))
 cases r with
 | error e=>exact q pins c _ _ e y b a
 | ok fl=>
  cases fl with
  | ret u=>
   obtain⟨v,i,j,w,l,t⟩:=b.after a;subst l;exact⟨w,⟨V.ref (s.heap.objs.size+1),i,j,rfl,t⟩⟩
  | next=>exact False.elim a
  | brk=>exact False.elim a
  | cont=>exact False.elim a
theorem Y7(M:Mk X.K C f)(F:FnOk X.prog X.w X.K X.mg X.base CX k f fd ps sp)(o:Room (k+1) X.A)(m:Gl X x)(n:X.mg x=some (.ref C))(i:Binds X.K fd ps ds)(j:Vals dvs ds)(u:Passes CX X E)
  (g:PA X (e::es) t) (b:(x==("__debug__" : Str))=false:=by decide) (l:starEach (e::es) X.env=(false,eval e X.env)::starEach es X.env:=by rfl) (c:(backTo pos (starEach es X.env)).any (·.1)=false:=by rfl) :
  PE X (.Call (.Name x p) (e::es) [] pos) (tMake C sp dvs E t):=by
 intro a s v H Q I h;refine wpAny_Call_Name_kw (Z2 I m n ?_ b);refine PySem.W.callWith_K (h₀:=X.base) I.ok.mod.kin M.kp (thn (g pos a s v H _ I h) fun z y ⟨B,w,d,r,q⟩=>⟨d.kIn,?_⟩) l c;exact j2g M F o i j u d r q
end
section
variable{X:Cx}{CX:CXT}{k:Nat}{f C:Addr}{fd:FuncData}{ps ks:List Str}{sp:Sp}{E:XK}{x m:Str}{p pos apos kpos:Pos}{e o:Expr}{es:List Expr}{kws:List Keyword}{te ta:TE}{t tk:TA}{nm:Option Str}
variable{g:List Value->List Value->List Value}{gV:List V->List V->List V}
end
structure FnScope(N P:List Str)(sc:Scope):Prop where
 kind:sc.kind = .function
 co:sc.isCoroutine=false
 gen:sc.isGenerator=false
 nd:N.Nodup
 pre:N.take P.length=P
 par:∀x∈P,sc.names.lookup x=some .local\/sc.names.lookup x=some .cell
 nofree:∀y∈sc.names,y.2≠.free
theorem KC{b:Str->Option NameKind}:∀{a:List (Str×Value)} {m:Str->Option Value},(∀v,(x,v)∉a)->bindL b a m x=m x
 | [],_,_=>rfl
 | (n,v)::r,m,h=>by
  unfold bindL;rw[KC fun w c=>h w (vp _ c)];split
  ·have:x≠n:=by rintro rfl;exact h v vq
   simp[this]
  ·rfl
theorem KA{b:Str->Option NameKind}:∀{a:List (Str×Value)} {m:Str->Option Value},(∀v,(x,v)∉a)->bindC b a m x=m x
 | [],_,_=>rfl
 | (n,v)::r,m,h=>by
  unfold bindC;rw[KA fun w c=>h w (vp _ c)];split
  ·rfl
  ·have:x≠n:=by rintro rfl;exact h v vq
   simp[this]
theorem KB{a:Str->Option NameKind}:∀{P:List Str} {vs:List Value} {i:Nat} {m:Str->Option Value},P.Nodup->P[i]?=some x->vs[i]?=some v->a x=some .local->
  bindL a (P.zip vs) m x=some v
 | [],_,_,_,_,h,_,_=>by simp at h
 | _::_,[],_,_,_,_,h,_=>by simp at h
 | p::P,w::vs,0,m,nd,h1,h2,hk=>by
  simp at h1 h2;subst h1;subst h2;show bindL a ((p,w)::P.zip vs) m p=_;unfold bindL;rw[KC fun v b=>(nodup_cons.mp nd).1 (of_mem_zip b).1,vc hk];simp
 | p::P,w::vs,i+1,m,nd,h1,h2,hk=>by
  show bindL a ((p,w)::P.zip vs) m x=_;unfold bindL;exact KB (i:=i) (nodup_cons.mp nd).2 (by simpa using h1) (by simpa using h2) hk
theorem Kz{a:Str->Option NameKind}:∀{P:List Str} {vs:List Value} {i:Nat} {m:Str->Option Value},P.Nodup->P[i]?=some x->vs[i]?=some v->a x≠some .local->
  bindC a (P.zip vs) m x=some v
 | [],_,_,_,_,h,_,_=>by simp at h
 | _::_,[],_,_,_,_,h,_=>by simp at h
 | p::P,w::vs,0,m,nd,h1,h2,hk=>by
  simp at h1 h2;subst h1;subst h2;show bindC a ((p,w)::P.zip vs) m p=_;unfold bindC;rw[KA fun v b=>(nodup_cons.mp nd).1 (of_mem_zip b).1,vb hk];simp
 | p::P,w::vs,i+1,m,nd,h1,h2,hk=>by
  show bindC a ((p,w)::P.zip vs) m x=_;unfold bindC;exact Kz (i:=i) (nodup_cons.mp nd).2 (by simpa using h1) (by simpa using h2) hk
noncomputable def start(N:List Str)(vs:List V):St:=vs.map some++List.replicate (N.length-vs.length) none
noncomputable def cxOf(CX:CXT)(P:Program)(w:World)(K:Frg)(mg:Str->Option Value)(base:Heap)(N:List Str)(qual:Str)(scope:Scope)(f:Addr)(cd:Value)(A:Around)(outer:List Env)(s:Shared)(H:Hp)(E:XK):Cx where
 prog:=P
 w:=w
 K:=K
 mg:=mg
 base:=base
 A:=A.deeper (envOfC qual scope s.heap.objs.size f cd)
 N:=N
 s₀:=s
 H₀:=H
 env:=envOfC qual scope s.heap.objs.size f cd
 outer:=outer
 stack:=envOfC qual scope s.heap.objs.size f cd::outer
 ex:=[]
 calm:=true
 fn:=fun _=>true
 pn:=[]
 xe:=fun e s'=>wpAny (model P w) (A.deeper (envOfC qual scope s.heap.objs.size f cd)) (leaving (envOfC qual scope s.heap.objs.size f cd) e) (fun _ s''=>CX outer H s E e s'') (fun e' s''=>CX outer H s E e' s'') s'
theorem WL{a:Scope}{n:Nat}{x:Str}(h:a.names.lookup x=some .cell):∃c,(cellsFrom n a.names []).lookup x=some c:=by
 have q:=PySem.W.cellsFrom_some a.names n [] (.inl h);exact Option.isSome_iff_exists.mp q
theorem KM{CX:CXT}{P:Program}{w:World}{K:Frg}{J:Str->Option Value}{m:Heap}{N ps:List Str}{j:Str}{d:Scope}{f:Addr}{F:Value}{A:Around}{g:List Env}{s O:Shared}{H:Hp}{E:XK}{us:List Value}{vs:List V}
  (S:FnScope N ps d) (R:A.handled=none) (o:Env0 P w K J m A g s H) (X:vs.length=ps.length) (r:Vals vs us)
  (x:InCallC s s.heap.objs.size (bindL (envOfC j d s.heap.objs.size f F).kindOf (ps.zip us) fun _=>none) (cellsFrom (s.heap.objs.size+1) d.names []) (bindC (envOfC j d s.heap.objs.size f F).kindOf (ps.zip us) fun _=>none) O) :
  Inv (cxOf CX P w K J m N j d f F A g s H E) [] (start N vs) H O:=by
 have T:ps.length<=N.length:=by have:=congrArg List.length S.pre;rw[vh]at this;lia
 obtain⟨G,Y,rfl,L⟩:=x.done;have B:∀b:Addr,b∉(cxOf CX P w K J m N j d f F A g s H E).ex:=fun b z=>uB (show b∈([]:List Addr)from z) (by simp)
 refine⟨⟨o.mod,S.kind,rfl,rfl,va _,fun y z c G l=>?_,fun y t=>?_,fun y c _ h=>?_,fun _=>R,Around.frames_deeper o.frames,.inr ⟨rfl,rfl⟩,fun b z=>uB z (B b),o.bs,o.bsz,fun b _ _=>B b,fun b z=>uB z (B b),o.funs,o.frf⟩,
  rfl,o.bare,Un.kept L,⟨_,x.toInCall.ns,fun i y v G l W=>?_⟩,fun y c h=>⟨_,x.cell y c h⟩,o.hok.fresh (va _),fun y c h=>?_,fun p C=>uB (show p∈([]:List (Addr×Obj))from C) (by simp),o.hok.kept L,?_⟩
 ·exact name_of_addr x.apart (PySem.mem_of_lookup G) (PySem.mem_of_lookup l)
 ·have t:d.names.lookup y=some .cell\/d.names.lookup y=some .free:=t;rcases t with t | t
  ·exact WL t
  ·exact uB rfl (S.nofree _ (PySem.mem_of_lookup t))
 ·exact v3 (x.above y c (PySem.mem_of_lookup h))
 ·have I:i<vs.length:=by
   unfold start at l;by_cases I:i<vs.length
   ·exact I
   ·rw[vD (by simpa using I)]at l;rw[List.getElem?_replicate]at l;split at l<;>cases l
  have Q:vs[i]?=some v:=by
   unfold start at l;rw[vC (by simpa using I),vv]at l;cases e:vs[i]? with
   | none=>rw[e]at l;cases l
   | some a=>rw[e]at l;cases l;rfl
  obtain⟨u,M,U⟩:=r.get Q;have C:ps[i]?=some y:=by
   rw[<-S.pre,uf (by lia)];exact G
  have D:ps.Nodup:=by rw[<-S.pre];exact S.nd.sublist (take_sublist _ _)
  refine⟨u,U,?_⟩;rcases S.par y (vj C)with k | k
  ·exact .inl ⟨k,KB D C M k⟩
  ·obtain⟨c,e⟩:=WL (n:=s.heap.objs.size+1) k;refine .inr ⟨.inl k,c,e,?_⟩;have q:=x.cell y c e;rw[Kz D C M (by show d.names.lookup y≠_;rw[k];decide)]at q;exact q
 ·exact o.hok.fresh (v3 (x.above y c (PySem.mem_of_lookup h)))
 ·unfold start;show _=N.length;rw[vn,vt,List.length_replicate];lia
theorem j3V{CX:CXT}{P:Program}{w:World}{K:Frg}{L:Str->Option Value}{g:Heap}{k:Nat}{f:Addr}{name c:Str}{i:Arguments}{j:List Stmt}{a:Scope}{dV kV B pm d ct oc:Value}{Y od:Option Addr}
  {T:Array (Option Value)} {N ps:List Str} {sp:Sp} (lk:K.lookup f=some ⟨oc,od,.func (PySem.W.fnOf name c i j a dV kV B pm Y d ct),T⟩) (M:PySem.W.codeIn K d c=true) (S:FnScope N ps a)
  (G:∀vs H Q E,sp vs H Q E->vs.length=ps.length)
  (m:∀(A:Around) (outer:List Env) (s:Shared) (H:Hp) (vs:List V) (Q:VK) (E:XK),Room k (A.deeper (envOfC c a s.heap.objs.size f d))->sp vs H Q E->
   ∃t,PSs (cxOf CX P w K L g N c a f d A outer s H E) j t/\t {nx:=fun _ H'=>Q .non H',rt:=Q} (start N vs) H) :
  FnOk P w K L g CX (k+1) f (PySem.W.fnOf name c i j a dV kV B pm Y d ct) ps sp:=by
 refine⟨G,fun A outer s H Z us vs Q E O C hb r F=>?_⟩;have hl:=G _ _ _ _ F;have X:K.In s.heap:=C.mod.kin.keeps fun b o e=>(C.bs b o e).1
 have R:s.heap.NoLimit:=C.mod.nolimit.keeps fun b o e=>(C.bs b o e).1
 have p:∀y∈ps.zip us,a.names.lookup y.1=some .local\/(a.names.lookup y.1=some .cell/\((cellsFrom (s.heap.objs.size+1) a.names []).lookup y.1).isSome=true):=fun⟨n,v⟩ hy=>by
  rcases S.par n (of_mem_zip hy).1 with q | q
  ·exact .inl q
  ·exact .inr ⟨q,PySem.W.cellsFrom_some _ _ _ (.inl q)⟩
 refine codeAny_call_function O.depth (X _ _ lk) rfl S.co S.gen rfl (PySem.W.codeRec_of X M) (hb _ _ _ _ ?_);refine wpAny_newFunctionEnv_cells S.kind p fun a0 he s1 x=>?_
 subst he;refine⟨R.keeps x.toInCall.keep,codeAny_func ?_⟩;obtain⟨t,ht,hq⟩:=m A outer s H vs Q E (O.deeper _) F;have I:Inv (cxOf CX P w K L g N c a f d A outer s H E) [] (start N vs) H s1:=KM S O.hd C hl r x;refine wpAny_mono (ht [] s1 (start N vs) H _ I hq) (fun fl W z=>?_) fun e W z=>z
 have D:∀{l:St} {H':Hp} {v:V} {u:Value},Inv (cxOf CX P w K L g N c a f d A outer s H E) [] l H' W->RelV v u->Q v H'->CE outer P w H s Q u W:=
  fun {l H' v u} J U q=>⟨v,H',J.os,J.bare,J.base,J.hok,U,q⟩
 cases fl with
 | ret u=>
  obtain⟨v,l,H',J,U,q⟩:=z;exact D J U q
 | next=>
  obtain⟨l,H',J,q⟩:=z;exact D (v:=V.non) (u:=Value.none) J rfl q
 | brk=>
  obtain⟨_,_,_,q⟩:=z;exact False.elim q
 | cont=>
  obtain⟨_,_,_,q⟩:=z;exact False.elim q
section
variable{X:Cx}{x:Str}{p pos:Pos}{e:Expr}{es:List Expr}{t:TA}{id T:String}{r:List V->Hp->VK->Prop}
def tCB(r:List V->Hp->VK->Prop)(t:TA):TE:=fun σ H Q=>t σ H fun vs H1=>r vs H1 Q
theorem jB(j:CallR X (.builtin id) r)(l:Gl X x)(m:X.mg x=none)(o:bootBuiltins x=some (.builtin id))(i:PA X (e::es) t)(n:x≠"__name__":=by decide)(b:(x==("__debug__" : Str))=false:=by decide)
  (k:starEach (e::es) X.env=(false,eval e X.env)::starEach es X.env:=by rfl) (c:(backTo pos (starEach es X.env)).any (·.1)=false:=by rfl):PE X (.Call (.Name x p) (e::es) [] pos) (tCB r t):=by
 intro a s d H Q I h;refine wpAny_Call_Name_kw (zP I l m o ?_ n b);exact PyProof.Rows.callWith_builtin1 (thn (i pos a s d H _ I h) fun w v ⟨y,f,g,u,q⟩=>j a v d f y w Q g u q) k c
theorem zl(j:CallR X (.type T) r)(l:Gl X x)(m:X.mg x=none)(o:bootBuiltins x=some (.type T))(i:PA X (e::es) t)(n:x≠"__name__":=by decide)(b:(x==("__debug__" : Str))=false:=by decide)
  (k:starEach (e::es) X.env=(false,eval e X.env)::starEach es X.env:=by rfl) (c:(backTo pos (starEach es X.env)).any (·.1)=false:=by rfl):PE X (.Call (.Name x p) (e::es) [] pos) (tCB r t):=by
 intro a s d H Q I h;refine wpAny_Call_Name_kw (zP I l m o ?_ n b);exact PyProof.Rows.callWith_type1 (thn (i pos a s d H _ I h) fun w v ⟨y,f,g,u,q⟩=>j a v d f y w Q g u q) k c
end
end L2
namespace HT
open PySem PyProof.Rows
section
open PySem.SeqAt
open PySem.AutoSeq1 (wpAny_loadPart')
open PySem.MeetsSeq PySem.MeetsSeq2 PySem.MeetsSeq3
end
section
variable{prog:Program}{w:World}{A:Around}{E:Value->Shared->Prop}{s:Shared}
noncomputable def sIx(n d:Nat):Option Int->Nat
 | none=>d
 | some v=>if v<0 then(v+(n:Int)).toNat else min v.toNat n
theorem j2h(n d:Nat):sIx n d none=d:=rfl
theorem j3F(n d k:Nat):sIx n d (some (k:Int))=min k n:=by
 show(if(k:Int)<0 then((k:Int)+(n:Int)).toNat else min (k:Int).toNat n)=min k n;rw[vb (by lia),Int.toNat_natCast]
theorem j4F(n d:Nat)(b:d<=n)(o:Option Int):sIx n d o<=n:=by
 cases o with
 | none=>exact b
 | some v=>
  show(if v<0 then(v+(n:Int)).toNat else min v.toNat n)<=n;by_cases a:v<0
  ·rw[vc a];lia
  ·rw[vb a];exact Nat.min_le_right _ _
theorem wz(v:Int)(n d:Nat):(if v<0 then max (v+(n:Int)) 0 else min v (n:Int))=((sIx n d (some v):Nat):Int):=by
 show(if v<0 then max (v+(n:Int)) 0 else min v (n:Int))=(((if v<0 then(v+(n:Int)).toNat else min v.toNat n):Nat):Int)
 by_cases a:v<0
 ·simp only[if_pos a];lia
 ·simp only[if_neg a];lia
theorem xI(lo hi:Option Int)(n:Nat):Builtin.Slice.sliceAdjust lo hi 1 (n:Int)=(((sIx n 0 lo:Nat):Int),((sIx n n hi:Nat):Int)):=by
 have a:¬((1:Int)<0):=by lia
 unfold Builtin.Slice.sliceAdjust;simp only[a,if_false];refine Prod.ext ?_ ?_
 ·cases lo with
  | none=>rfl
  | some v=>exact wz v n 0
 ·cases hi with
  | none=>rfl
  | some v=>exact wz v n n
theorem Xv(i j:Nat):Builtin.Slice.slicePlaces (i:Int) (j:Int) 1=j-i:=by
 unfold Builtin.Slice.slicePlaces;have a:(1:Int)>0:=by lia
 simp only[a,if_true,Int.ediv_one];split<;>lia
theorem slicePart_{Q:Option Int->Shared->Prop}(p:IsPart v o)(h:Q o s):wpAny (model prog w) A (Builtin.Slice.slicePartIndex v) Q E s:=by
 cases p with
 | none=>exact slicePart_none h
 | int i t=>exact slicePart_int h
theorem zq{e:Addr}{c d:Value}{lo hi:Option Int}{n:Nat}{Q:Int×Int×Nat->Shared->Prop}(hs:s.heap.IsSliceOf e c d .none)(pl:IsPart c lo)(g:IsPart d hi)
  (h:Q (((sIx n 0 lo:Nat):Int),1,sIx n n hi-sIx n 0 lo) s):wpAny (model prog w) A (Builtin.Slice.sliceApplied (.ref e) (pure (n:Int))) Q E s:=by
 obtain⟨i,b,f,a⟩:=id hs;unfold Builtin.Slice.sliceApplied Builtin.Slice.sliceFields;refine ub (ub (wpAny_field b a (x:=c) rfl (ub (wpAny_field b a (x:=d) rfl (ub (wpAny_field b a (x:=.none) rfl (uA ?_)))))));refine ub (slicePart_none ?_);show wpAny _ _ (if((1:Int)==0)=true then _ else _) _ _ s;rw[vb (by decide)];refine ub (slicePart_ pl (ub (slicePart_ g (ub (uA ?_)))));show wpAny _ _ (match Builtin.Slice.sliceAdjust lo hi 1 (n:Int)with | (lo,hi)=>pure (lo,(1:Int),Builtin.Slice.slicePlaces lo hi 1)) _ _ s;rw[xI lo hi n];show wpAny _ _ (pure (((sIx n 0 lo:Nat):Int),(1:Int),Builtin.Slice.slicePlaces ((sIx n 0 lo:Nat):Int) ((sIx n n hi:Nat):Int) 1)) _ _ s;rw[Xv];exact uA h
theorem j20(xs:Array Value)(i k:Nat):((List.range k).filterMap fun(m:Nat)=>xs[((i:Int)+(m:Int)*1).toNat]?).toArray=((xs.toList.drop i).take k).toArray:=by
 have e:(fun(m:Nat)=>xs[((i:Int)+(m:Int)*1).toNat]?)=fun m=>xs[i+m]?:=by
  funext m;have:((i:Int)+(m:Int)*1).toNat=i+m:=by lia
  rw[this]
 rw[e];have:=pick_run xs i k;rw[List.filterMap_map]at this;have a:((fun x=>xs[x]?)∘fun x=>i+x)=fun m=>xs[i+m]?:=rfl
 rw[a]at this;rw[this]
theorem yQ{t g:Addr}{items:Array Value}{i j:Value}{lo hi:Option Int}{Q:Value->Shared->Prop}(b:IsTup s.heap t items)(hs:s.heap.IsSliceOf g i j .none)(pl:IsPart i lo)(n:IsPart j hi)
  (hw:¬(sIx items.size 0 lo=0/\sIx items.size items.size hi=items.size))
  (h:Q (.ref s.heap.objs.size) {s with heap:=s.heap.push {cls:=.type "tuple",data:=.seq ((items.toList.drop (sIx items.size 0 lo)).take (sIx items.size items.size hi-sIx items.size 0 lo)).toArray}})
  (hsz:items.size<=sizeLine):wpAny (model prog w) A (getItem (.ref t) (.ref g)) Q E s:=by
 have a:sizeOk (.seq ((items.toList.drop (sIx items.size 0 lo)).take (sIx items.size items.size hi-sIx items.size 0 lo)).toArray):=by
  show((items.toList.drop (sIx items.size 0 lo)).take (sIx items.size items.size hi-sIx items.size 0 lo)).toArray.size<=sizeLine;rw[size_toArray,vh,length_drop,Array.length_toList];lia
 have o:sIx items.size items.size hi<=items.size:=j4F _ _ (va _) hi;obtain⟨l,f,d,k⟩:=id hs;have c:s.TypeIs (.ref g) "slice":=⟨l,f,d⟩
 unfold getItem
 try with_reducible refine wpAny_holding ?_
 first | refine ub (uA ?_) | skip
 refine ub (wpAny_sequenceKey b.typeIs (by decide) ?_);refine ub (wpAny_callSpecial?_slot (name:=Str.ofString "__getitem__") b.typeIs PyProof.Rows.slot_tuple_getitem
  (wpAny_call_entry PyProof.Rows.slot_tuple_getitem b.typeIs entry_tuple_getitem ?_ (args_tuple_getitem _ _)))
 show wpAny _ _ (Builtin.Tuple.tupleItemsOf (.ref t) >>= _) _ _ s;refine ub (tupleItemsOf_ b ?_);refine ub (wpAny_typeOf c ?_);rw[vc (by decide)];refine ub (zq hs pl n ?_);have e:¬((((sIx items.size 0 lo:Nat):Int)==0&&(1:Int)==1&&(sIx items.size items.size hi-sIx items.size 0 lo)==items.size)=true):=by
  intro q;rw[Bool.and_eq_true,Bool.and_eq_true]at q;have p:((sIx items.size 0 lo:Nat):Int)=0:=eq_of_beq q.1.1;have r:sIx items.size items.size hi-sIx items.size 0 lo=items.size:=eq_of_beq q.2;exact hw ⟨by lia,by lia⟩
 show wpAny _ _ (if(((sIx items.size 0 lo:Nat):Int)==0&&(1:Int)==1&&(sIx items.size items.size hi-sIx items.size 0 lo)==items.size)=true then _ else _) _ _ s;rw[vb e,j20]
 first
  | exact ub (m:=Builtin.Tuple.tupleExact _) (wpAny_newObj_type (uA ⟨_,rfl,uA h⟩) a)
  | exact ub (m:=Builtin.Tuple.tupleExact _) (wpAny_newObj_type (ub (uA (uA ⟨_,rfl,uA h⟩))) a)
  | exact ub (ub (m:=Builtin.Tuple.tupleExact _) (wpAny_newObj_type (uA (uA ⟨_,rfl,uA h⟩)) a))
  | exact ub (ub (m:=Builtin.Tuple.tupleExact _) (wpAny_newObj_type (uA ⟨_,rfl,uA h⟩) a))
end
end HT
namespace L2
open PySem PySem.Spec PyProof.Rows
noncomputable abbrev TO:=St->Hp->(Option Int->Hp->Prop)->Prop
def PO(X:Cx)(e:Option Expr)(t:TO):Prop:=
 ∀(pins:List (Addr×Obj)) (s:Shared) (σ:St) (H:Hp) (Q:Option Int->Hp->Prop),Inv X pins σ H s->t σ H Q->
  wpAny (model X.prog X.w) X.A (evalPart e X.env) (fun u s'=>∃o H',Inv X pins σ H' s'/\IsPart u o/\Q o H') X.xe s
def tNoPart:TO:=fun _ H Q=>Q none H
def tPart(t:TE):TO:=fun σ H Q=>t σ H fun x H1=>∃i,x = .int i/\Q (some i) H1
theorem intsAre_of:∀{us:List Value},Vals (ns.map V.int) us->IntsAre us ns:=by
 induction ns with
 | nil=>intro us r;rw[map_nil]at r;cases r;exact .nil
 | cons n ns ih=>
  intro us r;rw[uy]at r;cases r with
  | cons r1 r2=>
   obtain⟨t,e⟩:=r1;subst e;exact .cons n t (ih r2)
section
variable{X:Cx}{e:Expr}{te:TE}{lo hi:Option Expr}{tl th:TO}{pos p2:Pos}
theorem zW:PO X none tNoPart:=by
 intro a s b H Q I h;rw[evalPart_none];exact uA ⟨none,H,I,.none,h⟩
theorem Q1(h:PE X e te):PO X (some e) (tPart te):=by
 intro a s j H Q I d;rw[evalPart_some];refine thn (h a s j H _ I d) fun u k ⟨x,b,c,g,f⟩=>?_
 obtain⟨i,rfl,q⟩:=f;obtain⟨t,rfl⟩:=g;exact⟨some i,b,c,.int i t,q⟩
def SlR(X:Cx)(r:V->Option Int->Option Int->Hp->VK->Prop):Prop:=
 ∀(pins:List (Addr×Obj)) (s:Shared) (σ:St) (H:Hp) (x:V) (v vl vu:Value) (lo hi:Option Int) (sl:Addr) (Q:VK),Inv X pins σ H s->RelV x v->s.heap.IsSliceOf sl vl vu .none->IsPart vl lo->IsPart vu hi->r x lo hi H Q->
  ∃T id,typeLookup (.type T) "__getitem__"= pure (some (.builtin id))/\s.TypeIs v T/\wpAny (model X.prog X.w) X.A (getItem v (.ref sl)) (EP X pins σ Q) X.xe s
theorem SlR.or{r e:V->Option Int->Option Int->Hp->VK->Prop}(h:SlR X r)(h':SlR X e):SlR X (fun x lo hi H Q=>r x lo hi H Q\/e x lo hi H Q):=by
 intro a s k H x v i j lo hi g Q I f b c d q;rcases q with q | q
 ·exact h a s k H x v i j lo hi g Q I f b c d q
 ·exact h' a s k H x v i j lo hi g Q I f b c d q
def tSl(r:V->Option Int->Option Int->Hp->VK->Prop)(te:TE)(tl th:TO):TE:=fun σ H Q=>te σ H fun x H1=>tl σ H1 fun l H2=>th σ H2 fun u H3=>r x l u H3 Q
theorem Qz{r:V->Option Int->Option Int->Hp->VK->Prop}(A:SlR X r)(w:PE X e te)(z:PO X lo tl)(C:PO X hi th):PE X (.Subscript e (.Slice lo hi none p2) pos) (tSl r te tl th):=by
 intro a s d H Q I h;refine Subscript_ (thn (w a s d H _ I h) fun v L ⟨x,j,m,K,F⟩=>?_);refine wpAny_Slice (thn (z a L d j _ m F) fun f M ⟨l,k,n,D,G⟩=>thn (C a M d k _ n G) fun g c ⟨u,i,o,E,J⟩=>?_);rw[evalPart_none];refine uA ?_;have p:Inv X a d i {c with heap:=c.heap.push {cls:=.type "slice",data:=.fields #[f,g,.none]}}:=o.kept (t':=c.toks) fun b O q=>vK _ q
 obtain⟨T,N,t,B,y⟩:=A a {c with heap:=c.heap.push {cls:=.type "slice",data:=.fields #[f,g,.none]}} d i x v f g l u c.heap.objs.size Q p K (Heap.IsSliceOf.new ..) D E J;show wpAny (model X.prog X.w) X.A (subscriptTail e (.Slice lo hi none p2) v (.ref c.heap.objs.size)) (EP X a d Q) X.xe {c with heap:=c.heap.push {cls:=.type "slice",data:=.fields #[f,g,.none]}};exact tail_any (ops:=[.ref c.heap.objs.size,v]) B t y (by with_unfolding_all rfl)
noncomputable def cutV(xs:List V)(lo hi:Option Int):List V:=(xs.drop (HT.sIx xs.length 0 lo)).take (HT.sIx xs.length xs.length hi-HT.sIx xs.length 0 lo)
theorem Zz(xs:List V)(lo hi:Option Int):(cutV xs lo hi).length<=xs.length:=by
 unfold cutV;rw[vh,length_drop];lia
noncomputable def rSlT(K:Frg):V->Option Int->Option Int->Hp->VK->Prop:=fun x lo hi H Q=>∃a xs,x = .ref a/\SqT K H a xs/\
 ¬(HT.sIx xs.length 0 lo=0/\HT.sIx xs.length xs.length hi=xs.length)/\∀p,H p=none->Q (.ref p) (upd H p (.tup (cutV xs lo hi)))
theorem j2q:SlR X (rSlT X.K):=by
 intro k s B H x v z A e f y Q I u l p t h;obtain⟨a,d,rfl,n,m,q⟩:=h;cases u;obtain⟨g,r,i,j⟩:=I.tuple n;have c:g.toArray.size=d.length:=by rw[size_toArray];exact r.length.symm
 refine⟨"tuple",_,PyProof.Rows.slot_tuple_getitem.lookup,i.typeIs,?_⟩;refine HT.yQ i l p t (by rw[c];exact m) ?_ (by rw[c];exact j);rw[c];refine⟨.ref s.heap.objs.size,_,I.laid (t':=s.toks) (o:=.tup (cutV d e f)) (fun b w q=>vK _ q) (va _) ?_,rfl,q _ (I.hok.fresh (va _))⟩;exact⟨vY (Zz d e f) j,_,(r.drop (HT.sIx d.length 0 e)).take (HT.sIx d.length d.length f-HT.sIx d.length 0 e),IsTup.new _ _⟩
end
noncomputable def ixN(n:Nat)(i:Int):Option Nat:=if 0<=i then(if i<n then some i.toNat else none)else if -(n:Int)<=i then some (i+n).toNat else none
noncomputable def atI{α:Type}(xs:List α)(i:Int):Option α:=(ixN xs.length i).bind fun j=>xs[j]?
theorem X2(h:ixN n i=some j):seqIndex? i n=some j/\j<n/\-(n:Int)<=i/\i<n:=by
 unfold ixN at h;by_cases b:0<=i
 ·rw[vc b]at h;by_cases a:i<n
  ·rw[vc a]at h;have e:i.toNat=j:=vM h;exact⟨by rw[seqIndex_of b a,e],by lia,by lia,a⟩
  ·rw[vb a]at h;cases h
 ·rw[vb b]at h;by_cases a : -(n:Int)<=i
  ·rw[vc a]at h;have e:(i+n).toNat=j:=vM h;exact⟨by rw[seqIndex_neg (by lia) a,e],by lia,a,by lia⟩
  ·rw[vb a]at h;cases h
theorem wc{a:Type}{xs:List a}{i:Int}{v:a}(h:atI xs i=some v):∃j,seqIndex? i xs.length=some j/\xs[j]?=some v/\j<xs.length/\-(xs.length:Int)<=i/\i<xs.length:=by
 unfold atI at h;cases e:ixN xs.length i with
 | none=>rw[e]at h;cases h
 | some j=>
  rw[e]at h;obtain⟨b,c,d,f⟩:=X2 e;exact⟨j,b,h,c,d,f⟩
theorem jL{a:Type}{xs:List a}{j:Nat}{v:a}(h:xs[j]?=some v):atI xs (j:Int)=some v:=by
 have b:j<xs.length:=(vx.mp h).1;have e:ixN xs.length (j:Int)=some j:=by
  unfold ixN;rw[vc (by lia),vc (by lia)];simp
 unfold atI;rw[e];exact h
def PlainIx(b:Expr):Prop:=∀o i,subscripted b false o i=operate [o,i] (getItem o i)
def IxR(X:Cx)(r:R2):Prop:=
 ∀(value slice:Expr) (pins:List (Addr×Obj)) (s:Shared) (σ:St) (H:Hp) (x y:V) (v u:Value) (Q:VK),Inv X pins σ H s->RelV x v->RelV y u->r x y H Q->
  subscripted slice false v u=operate [v,u] (getItem v u)->wpAny (model X.prog X.w) X.A (subscriptTail value slice v u) (EP X pins σ Q) X.xe s
def MtR(X:Cx)(id:String)(r:V->List V->Hp->VK->Prop):Prop:=
 ∀(pins:List (Addr×Obj)) (s:Shared) (σ:St) (H:Hp) (x:V) (xs:List V) (v:Value) (us:List Value) (Q:VK),Inv X pins σ H s->RelV x v->Vals xs us->r x xs H Q->
  wpAny (model X.prog X.w) X.A (call (.builtin id) (v::us)) (EP X pins σ Q) X.xe s
section
variable{X:Cx}{a b:Expr}{ta tb:TE}{pos:Pos}
theorem jh(i:IxR X r)(f:PE X a ta)(g:PE X b tb)(hs:PlainIx b:=by exact fun _ _=>rfl):PE X (.Subscript a b pos) (tOp r ta tb):=by
 intro c s m H Q I h;exact Subscript_ (binT f g I h fun v u l x y d e j k q=>i a b c l m d x y v u Q e j k q (hs _ _))
def rIxL(K:Frg):R2:=fun x y H Q=>∃p xs i v,x = .ref p/\y = .int i/\SqL K H p xs/\atI xs i=some v/\Q v H
def rIxT(K:Frg):R2:=fun x y H Q=>∃p xs i v,x = .ref p/\y = .int i/\SqT K H p xs/\atI xs i=some v/\Q v H
def rIxS:R2:=fun x y H Q=>∃z i c,x = .str z/\y = .int i/\z.length<=sizeLine/\atI z.cps.toList i=some c/\Q (.str ⟨#[c]⟩) H
theorem jA:IxR X (rIxL X.K):=by
 intro l k a s A H x y v u Q I J K h o;obtain⟨p,P,i,z,rfl,rfl,G,E,q⟩:=h;cases J;obtain⟨t,rfl⟩:=K;obtain⟨e,r,f,O⟩:=I.list G;obtain⟨j,c,B,M,C,D⟩:=wc E;obtain⟨w,m,g⟩:=r.get B;have F:=r.length;have N:=line63;have b:EP X a A Q w s:=⟨z,H,I,g,q⟩
 by_cases n:0<=i
 ·have d:i.toNat=j:=by
   rw[seqIndex_of n D]at c;exact vM c
  exact item_listR f.isList n (by lia) (by rw[d];simpa using m) b o
 ·have d:(i+(e.toArray.size:Int)).toNat=j:=by
   rw[seqIndex_neg (by lia) C]at c;rw[size_toArray,<-F];exact vM c
  exact subscriptTail_builtinR (x:=w) f.isList.typeIs slot_list_getitem.lookup
   (wpAny_getItem_list_neg (Q:=fun r L=>r=w/\EP X a A Q r L) f.isList (by lia) (by rw[size_toArray]<;>lia) (by lia) (by rw[d];simpa using m) ⟨rfl,b⟩) o
theorem jo:IxR X (rIxT X.K):=by
 intro e d a s g H x y v u Q I D E h B;obtain⟨p,N,i,z,rfl,rfl,A,n,q⟩:=h;cases D;obtain⟨t,rfl⟩:=E;obtain⟨C,r,f,M⟩:=I.tuple A;obtain⟨j,l,m,G,J,K⟩:=wc n;obtain⟨w,k,c⟩:=r.get m;have o:=r.length;have L:=line63;have b:EP X a g Q w s:=⟨z,H,I,c,q⟩
 exact subscriptTail_builtinR (x:=w) f.typeIs slot_tuple_getitem.lookup
  (getItem_tuple (j:=j) (Q:=fun r F=>r=w/\EP X a g Q r F) f (by lia) (by lia) (by rw[size_toArray,<-o];exact l) (by simpa using k) ⟨rfl,b⟩) B
theorem j4g:IxR X rIxS:=by
 intro b a e s E H x y v u Q I r w h p;obtain⟨z,i,c,rfl,rfl,C,n,q⟩:=h;obtain⟨t,rfl⟩:=r;obtain⟨D,rfl⟩:=w;obtain⟨j,d,k,A,l,m⟩:=wc n;have o:z.cps.toList.length=z.length:=by simp[Str.length]
 rw[o]at d l m;have B:=line63;exact tail_any (typeIs_str s z t) slot_str_getitem.lookup (getItem_str (c:=c) (by
  have f:decide (i < -(2^63:Int))=false:=vI (by lia);have g:decide (i>=2^63)=false:=vI (by lia);rw[f,g,Bool.or_false]) (by rw[d];simpa using k) ⟨.str ⟨#[c]⟩,H,I.tok _,⟨_,rfl⟩,q⟩) p
theorem Xj(a:List Value)(n j:Nat)(u:Value):Obj.mapSeq (·.setIfInBounds j u) {cls:=.type "list",data:=.seq a.toArray n}={cls:=.type "list",data:=.seq (a.set j u).toArray n}:=by
 simp[Obj.mapSeq]
theorem Inv.lst{b:St}{H:Hp}(I:Inv X pins b H s)(h:H p=some (.lst xs)) :
  ∃(a:List Value) (n:Nat),Vals xs a/\s.heap.get? p=some {cls:=.type "list",data:=.seq a.toArray n}/\xs.length<=sizeLine:=by
 obtain⟨z,a,n,r,e⟩:=I.hok p _ h;exact⟨a,n,r,e,z⟩
theorem Inv.lstUpd{a:List (Addr×Obj)}{i:St}{H:Hp}{s:Shared}{p:Addr}{xs ys:List V}{c its':List Value}{n d:Nat}{f:Obj->Obj}(I:Inv X a i H s)(h:H p=some (.lst xs))
  (k:s.heap.get? p=some {cls:=.type "list",data:=.seq c.toArray n}) (g:f {cls:=.type "list",data:=.seq c.toArray n}={cls:=.type "list",data:=.seq its'.toArray d}) (r:Vals ys its') (l:ys.length<=sizeLine) (t:Nat) :
  Inv X a i (upd H p (.lst ys)) {s with heap:=s.heap.update p f,toks:=t}:=by
 have e:(s.heap.update p f).get? p=some {cls:=.type "list",data:=.seq its'.toArray d}:=by
  rw[Heap.get?_update_self f k (by rw[g]<;>rfl),g]
 refine I.write (x:=p) (e:=p) (by rw[h];trivial) (.inl rfl) (fun b u j q=>(Heap.get?_update_other _ _ (Ne.symm j)).trans q) ⟨_,e⟩ ?_;exact⟨l,its',d,r,e⟩
noncomputable def rSetL:V->V->V->Hp->(Hp->Prop)->Prop:=fun o i v H Q=>∃p xs k j,o = .ref p/\i = .int k/\H p=some (.lst xs)/\ixN xs.length k=some j/\Q (upd H p (.lst (xs.set j v)))
theorem set_list:PSet X rSetL:=by
 intro b s E H o i v ov J u Q I B A C h;obtain⟨p,D,k,j,rfl,rfl,x,y,q⟩:=h;cases B;obtain⟨t,rfl⟩:=A;obtain⟨a,n,r,f,z⟩:=I.lst x;obtain⟨c,F,m,w⟩:=X2 y;have e:=r.length;have G:=line63;have g:Inv X b E (upd H p (.lst (D.set j v))) {s with heap:=s.heap.update p (Obj.mapSeq (·.setIfInBounds j u))}:=
  I.lstUpd x f (Xj a n j u) (r.set C j) (by rw[List.length_set];exact z) s.toks
 by_cases l:0<=k
 ·have d:k.toNat=j:=by
   rw[seqIndex_of l w]at c;exact vM c
  exact PySem.W.ki_setAt f l (by lia) (by rw[size_toArray,<-e];exact w) (by rw[d];exact⟨_,g,q⟩)
 ·have d:(k+(a.toArray.size:Int)).toNat=j:=by
   rw[seqIndex_neg (by lia) m]at c;rw[size_toArray,<-e];exact vM c
  exact PySem.W.ki_setBack f (by lia) (by rw[size_toArray,<-e];exact m) (by lia) (by rw[d];exact⟨_,g,q⟩)
theorem Ww(lo hi:Option Int)(n:Nat):(sliceBounds lo hi none n).1=((HT.sIx n 0 lo:Nat):Int)/\(sliceBounds lo hi none n).2.1=((HT.sIx n n hi:Nat):Int)/\(sliceBounds lo hi none n).2.2=1:=by
 refine⟨?_,?_,rfl⟩
 ·cases lo with
  | none=>simp[sliceBounds,HT.sIx]
  | some i=>
   simp only[sliceBounds,HT.sIx,Option.getD_none,show(1:Int)>0 by decide,if_true];by_cases h:i<0
   ·simp only[h,if_true]<;>lia
   ·simp only[h,if_false]<;>lia
 ·cases hi with
  | none=>simp[sliceBounds,HT.sIx]
  | some i=>
   simp only[sliceBounds,HT.sIx,Option.getD_none,show(1:Int)>0 by decide,if_true];by_cases h:i<0
   ·simp only[h,if_true]<;>lia
   ·simp only[h,if_false]<;>lia
theorem Kw(a:List Value)(lo hi:Option Int):slicePick a.toArray lo hi none=((a.drop (HT.sIx a.length 0 lo)).take (HT.sIx a.length a.length hi-HT.sIx a.length 0 lo)).toArray:=by
 obtain⟨b,c,d⟩:=Ww lo hi a.toArray.size;unfold slicePick;rw[b,c,d];simp only[sliceRange_one,pick_run,size_toArray]<;>rfl
noncomputable def rSlL(K:Frg):V->Option Int->Option Int->Hp->VK->Prop:=fun x lo hi H Q=>∃a xs,x = .ref a/\SqL K H a xs/\∀p,H p=none->Q (.ref p) (upd H p (.lst (cutV xs lo hi)))
theorem Wv:SlR X (rSlL X.K):=by
 intro i s A H x v y z e f w Q I t j n p h;obtain⟨a,c,rfl,k,q⟩:=h;cases t;obtain⟨m,r,g,l⟩:=I.list k;have d:=r.length;refine⟨"list",_,slot_list_getitem.lookup,g.isList.typeIs,?_⟩;refine wpAny_getItem_list_slice g.isList j n p .none (by simp) ?_ (by rw[size_toArray]<;>lia);rw[Kw,<-d];refine⟨.ref s.heap.objs.size,_,I.laid (t':=s.toks) (o:=.lst (cutV c e f)) (fun b u q=>vK _ q) (va _) ?_,rfl,q _ (I.hok.fresh (va _))⟩;exact⟨vY (Zz c e f) l,_,0,(r.drop (HT.sIx c.length 0 e)).take (HT.sIx c.length c.length f-HT.sIx c.length 0 e),Heap.get?_push_size _ rfl⟩
noncomputable def flatV:V->Bool
 | .non=>true
 | .bl _=>true
 | .int _=>true
 | .str _=>true
 | _=>false
noncomputable def eqV:V->V->Bool
 | .non,.non=>true
 | .bl a,.bl b=>a==b
 | .bl a,.int b=>(if a then 1 else 0)==b
 | .int a,.bl b=>a==(if b then 1 else 0)
 | .int a,.int b=>a==b
 | .str a,.str b=>a==b
 | _,_=>false
theorem j4e(f:RelV y u)(c:RelV x v)(g:flatV y=true)(e:flatV x=true):SeqAt.EqAt A s u v (eqV y x):=by
 cases y with
 | non=>
  cases f;cases x with
  | non=>cases c;exact SeqAt.EqAt.same _
  | bl b=>cases c;exact SeqAt.EqAt.none_bool b
  | int b=>obtain⟨t,rfl⟩:=c;exact SeqAt.EqAt.none_int b t
  | str b=>obtain⟨t,rfl⟩:=c;exact SeqAt.EqAt.none_str b t
  | _=>exact uB (show false=true from e) vG
 | bl a=>
  cases f;cases x with
  | non=>cases c;exact SeqAt.EqAt.bool_none a
  | bl b=>cases c;exact SeqAt.EqAt.bool_bool a b
  | int b=>obtain⟨t,rfl⟩:=c;exact SeqAt.EqAt.bool_int a b t
  | str b=>obtain⟨t,rfl⟩:=c;exact SeqAt.EqAt.bool_str a b t
  | _=>exact uB (show false=true from e) vG
 | int a=>
  obtain⟨d,rfl⟩:=f;cases x with
  | non=>cases c;exact SeqAt.EqAt.int_none a d
  | bl b=>cases c;exact SeqAt.EqAt.int_bool a d b
  | int b=>obtain⟨t,rfl⟩:=c;exact SeqAt.EqAt.int_int a d b t
  | str b=>obtain⟨t,rfl⟩:=c;exact SeqAt.EqAt.int_str a d b t
  | _=>exact uB (show false=true from e) vG
 | str a=>
  obtain⟨d,rfl⟩:=f;cases x with
  | non=>cases c;exact SeqAt.EqAt.str_none a d
  | bl b=>cases c;exact SeqAt.EqAt.str_bool a d b
  | int b=>obtain⟨t,rfl⟩:=c;exact SeqAt.EqAt.str_int a d b t
  | str b=>obtain⟨t,rfl⟩:=c;exact SeqAt.EqAt.str_str a d b t
  | _=>exact uB (show false=true from e) vG
 | _=>exact uB (show false=true from g) vG
noncomputable def eqU(x:V)(u:Value):Bool:=match u with
 | .none=>eqV .non x
 | .bool b=>eqV (.bl b) x
 | .int i _=>eqV (.int i) x
 | .str z _=>eqV (.str z) x
 | _=>false
theorem j1j(r:RelV y u)(f:flatV y=true):eqU x u=eqV y x:=by
 cases y with
 | non=>cases r;rfl
 | bl b=>cases r;rfl
 | int i=>obtain⟨t,rfl⟩:=r;rfl
 | str z=>obtain⟨t,rfl⟩:=r;rfl
 | _=>exact uB (show false=true from f) vG
theorem yJ:∀{xs:List V} {us:List Value},Vals xs us->xs.all flatV=true->us.any (eqU x)=xs.any fun y=>eqV y x
 | _,_,.nil,_=>rfl
 | y::xs,u::us,.cons r t,f=>by
  rw[all_cons,Bool.and_eq_true]at f;rw[any_cons,any_cons,j1j r f.1,yJ t f.2]
theorem ZE(c:RelV x v)(b:flatV x=true):∀{xs:List V} {us:List Value},Vals xs us->xs.all flatV=true->∀u∈us,SeqAt.EqAt A s u v (eqU x u)
 | _,_,.nil,_=>fun u a=>by cases a
 | y::xs,u::us,.cons r t,f=>fun d a=>by
  rw[all_cons,Bool.and_eq_true]at f;rcases mem_cons.mp a with rfl | a
  ·rw[j1j r f.1];exact j4e r c f.1 b
  ·exact ZE c b t f.2 d a
noncomputable def inV(x:V)(xs:List V):Bool:=xs.any fun y=>eqV y x
def rIn(K:Frg)(neg:Bool):R2:=fun x y H Q=>∃p xs,y = .ref p/\(SqL K H p xs\/SqT K H p xs)/\flatV x=true/\xs.all flatV=true/\Q (.bl (if neg then !inV x xs else inV x xs)) H
theorem j0O:OpR X (compareOp .In) (rIn X.K false):=by
 intro g s m H x y v u Q I i k h;obtain⟨p,l,rfl,b,f,c,q⟩:=h;cases k;rcases b with b | b
 ·obtain⟨a,r,e,j⟩:=I.list b;refine SeqAt.in_listAt (eqU x) e.isList (fun w d=>ZE i f r c w (by simpa using d)) ⟨.bl _,H,I,rfl,?_⟩;rw[show a.toArray.any (eqU x)=a.any (eqU x) by simp,yJ r c];exact q
 ·obtain⟨a,r,e,j⟩:=I.tuple b;refine SeqAt.in_tupleAt (eqU x) e (fun w d=>ZE i f r c w (by simpa using d)) ⟨.bl _,H,I,rfl,?_⟩;rw[show a.toArray.any (eqU x)=a.any (eqU x) by simp,yJ r c];exact q
theorem yV:OpR X (compareOp .NotIn) (rIn X.K true):=by
 intro g s m H x y v u Q I i k h;obtain⟨p,l,rfl,b,f,c,q⟩:=h;cases k;rcases b with b | b
 ·obtain⟨a,r,e,j⟩:=I.list b;refine SeqAt.notIn_listAt (eqU x) e.isList (fun w d=>ZE i f r c w (by simpa using d)) ⟨.bl _,H,I,rfl,?_⟩;rw[show a.toArray.any (eqU x)=a.any (eqU x) by simp,yJ r c];exact q
 ·obtain⟨a,r,e,j⟩:=I.tuple b;refine SeqAt.notIn_tupleAt (eqU x) e (fun w d=>ZE i f r c w (by simpa using d)) ⟨.bl _,H,I,rfl,?_⟩;rw[show a.toArray.any (eqU x)=a.any (eqU x) by simp,yJ r c];exact q
theorem wo:CallR X (.type "list") (fun xs H Q=>∃p ys,xs=[.ref p]/\(SqL X.K H p ys\/SqT X.K H p ys)/\∀l,H l=none->Q (.ref l) (upd H l (.lst ys))):=by
 intro t s B H xs C Q I r h;obtain⟨p,ys,rfl,j,q⟩:=h;obtain⟨u,rfl,A⟩:=vals1 r;cases A;have g:∀(a:List Value),Vals ys a->ys.length<=sizeLine->∀(c:Heap) (d:Nat),(∀b z,s.heap.get? b=some z->c.get? b=some z)->
   c.get? s.heap.objs.size=some {cls:=.type "list",dict:=none,data:=.seq a.toArray d,slots:=#[]}->EP X t B Q (.ref s.heap.objs.size) {s with heap:=c}:=fun a f k c d m e=>
  ⟨.ref s.heap.objs.size,_,I.laid (t':=s.toks) m (va _) (show ObjOk X.prog X.w _ c _ (.lst ys)from⟨k,a,d,f,e⟩),rfl,q _ (I.hok.fresh (va _))⟩
 rcases j with j | j
 ·obtain⟨a,f,y,k⟩:=I.list j;have i:=f.length;obtain⟨o,x,v,n,w⟩:=y.isList;exact call_list_seq p (.inl rfl) x v w (fun c d m e=>g a f k c d m e) (by simp only[size_toArray]<;>lia)
 ·obtain⟨a,f,y,k⟩:=I.tuple j;have i:=f.length;obtain⟨o,x,v,n,w⟩:=y;exact call_list_seq p (.inr rfl) x v w (fun c d m e=>g a f k c d m e) (by simp only[size_toArray]<;>lia)
theorem Q9:CallR X (.type "tuple") (fun xs H Q=>∃p ys,xs=[.ref p]/\((SqL X.K H p ys/\∀l,H l=none->Q (.ref l) (upd H l (.tup ys)))\/(SqT X.K H p ys/\Q (.ref p) H))):=by
 intro a s n H xs x Q I r h;obtain⟨p,ys,rfl,h⟩:=h;obtain⟨u,rfl,w⟩:=vals1 r;cases w;rcases h with⟨f,q⟩ | ⟨f,q⟩
 ·obtain⟨c,i,g,m⟩:=I.list f;have k:=i.length;refine call_tuple_list g.isList (fun d v=>?_) (by simp only[size_toArray]<;>lia);have j:Inv X a n H {s with heap:=d}:=I.kept (t':=s.toks) v;have t:Inv X a n (upd H d.objs.size (.tup ys)) {s with heap:=d.push {cls:=.type "tuple",data:=.seq c.toArray}}:=
   j.laid (t':=s.toks) (fun b o e=>vK _ e) (va _) (show ObjOk X.prog X.w _ _ _ (.tup ys)from⟨m,c,i,IsTup.new _ _⟩)
  exact⟨.ref d.objs.size,_,t,rfl,q _ (j.hok.fresh (va _))⟩
 ·obtain⟨c,i,g,m⟩:=I.tuple f;exact call_tuple_same g ⟨.ref p,H,I,rfl,q⟩
def tyV(K:Frg)(T:String)(x:V)(H:Hp):Prop:=match x with
 | .str _=>T = "str"
 | .int _=>T = "int"
 | .ref p=>(T = "list"/\∃xs,SqL K H p xs)\/(T = "tuple"/\∃o,K.lookup p=some o/\o.cls = .type "tuple"/\o.dict=none)\/
   (T = "dict"/\((∃kvs,H p=some (.dK kvs))\/∃kvs,H p=some (.dT kvs)))\/(T = "set"/\∃S n,H p=some (.set S n))
 | _=>False
theorem j2D{w:St}{H:Hp}(I:Inv X pins w H s)(r:RelV x v)(f:tyV X.K T x H) :
  s.TypeIs v T/\∀a,v = .ref a->∃k,s.heap.get? a=some k/\k.dict=none:=by
 cases x with
 | str z=>
  obtain⟨t,rfl⟩:=r;cases(show T = "str" from f);exact⟨typeIs_str s z t,fun _ e=>nomatch e⟩
 | int i=>
  obtain⟨t,rfl⟩:=r;cases(show T = "int" from f);exact⟨typeIs_int s i t,fun _ e=>nomatch e⟩
 | ref p=>
  cases r;rcases f with⟨rfl,y,q⟩ | ⟨rfl,o,b,m,h⟩ | ⟨rfl,b⟩ | ⟨rfl,S,n,b⟩
  ·obtain⟨u,_,l,_⟩:=I.list q;refine⟨l.isList.typeIs,fun a e=>?_⟩;cases e;obtain⟨o,n,e,c,h,_⟩:=l;exact⟨o,e,h⟩
  ·refine⟨⟨o,I.kIn p o b,m⟩,fun a e=>?_⟩;cases e;exact⟨o,I.kIn _ o b,h⟩
  ·have z:∃o,s.heap.get? p=some o/\o.ExactDict:=by
    rcases b with⟨j,b⟩ | ⟨j,b⟩
    ·obtain⟨_,_,_,_,o,_,_,e,d,_⟩:=I.hok p _ b;exact⟨o,e,d⟩
    ·obtain⟨_,_,_,_,o,_,_,e,d,_⟩:=I.hok p _ b;exact⟨o,e,d⟩
   obtain⟨o,e,d⟩:=z;refine⟨⟨o,e,d.1⟩,fun a g=>?_⟩;cases g;exact⟨o,e,d.2.1⟩
  ·obtain⟨o,_,_,_,e,d,_⟩:=I.hok p _ b;refine⟨⟨o,e,d.1⟩,fun a g=>?_⟩;cases g;exact⟨o,e,d.2.1⟩
 | _=>exact False.elim f
def tBM0(K:Frg)(T:String)(r:V->List V->Hp->VK->Prop)(to:TE):TE:=fun σ H Q=>to σ H fun x H1=>tyV K T x H1/\r x [] H1 Q
def tBM(K:Frg)(T:String)(r:V->List V->Hp->VK->Prop)(to:TE)(t:TA):TE:=fun σ H Q=>to σ H fun x H1=>tyV K T x H1/\t σ H1 fun xs H2=>r x xs H2 Q
variable{o e:Expr}{es:List Expr}{to:TE}{t:TA}{name:Str}{apos cpos:Pos}{T id:String}{r:V->List V->Hp->VK->Prop}
theorem Wc(p:PlainAttrs T)(d:Slot T name id)(e:typeOf (.builtin id)=pure (.type "method_descriptor"))(m:MtR X id r)(n:PE X o to)
  (b:attributeBase o name X.env (eval o X.env)=eval o X.env:=by rfl) (c:(apos.endLine==cpos.line)=true:=by rfl):PE X (.Call (.Attribute o name apos) [] [] cpos) (tBM0 X.K T r to):=by
 intro a s i H Q I h;refine wpAny_Call_method0_late b c (thn (n a s i H _ I h) fun v t ⟨x,j,f,g,u,q⟩=>?_);obtain⟨k,l⟩:=j2D f g u;exact⟨T,id,p,d,e,k,l,Calls.callWith_builtin rfl (PySem.evalArgs_none (m a t i j x [] v [] Q f g .nil q))⟩
theorem qp(B:PlainAttrs T)(g:Slot T name id)(i:typeOf (.builtin id)=pure (.type "method_descriptor"))(z:MtR X id r)(A:PE X o to)(y:PA X (e::es) t)
  (c:attributeBase o name X.env (eval o X.env)=eval o X.env:=by rfl)
  (f:((backTo cpos (starEach (e::es) X.env)).all (fun x=>!x.1)&&(backToKw cpos (keywordEach [] X.env)).all (fun x=>x.1.isSome)
   && decide ((e::es).length+([]:List Keyword).length+(if([]:List Keyword).isEmpty then 0 else 1)<30))=true:=by rfl)
  (d:(apos.endLine==cpos.line)=true:=by rfl) (hs:starEach (e::es) X.env=(false,eval e X.env)::starEach es X.env:=by rfl) (b:(backTo cpos (starEach es X.env)).any (·.1)=false:=by rfl) :
  PE X (.Call (.Attribute o name apos) (e::es) [] cpos) (tBM X.K T r to t):=by
 intro a s j H Q I h;refine wpAny_Call_method_late c f d rfl (thn (A a s j H _ I h) fun v F ⟨x,n,k,m,J,C⟩=>?_);obtain⟨u,w⟩:=j2D k m J;refine⟨T,id,B,g,i,u,w,?_⟩;have l:=y cpos a F j n _ k C;rw[hs]at l|-;refine Calls.callWith_builtin (by show(false||(backTo cpos (starEach es X.env)).any (·.1))=false;rw[b]<;>rfl) (Calls.evalArgs_plain ?_);exact thn l fun K G ⟨L,p,q,E,D⟩=>z a G j p x L v K Q q m E D
end
def MtM(X:Cx)(id:String)(r:V->List V->Hp->VK->Prop):Prop:=
 ∀(pins:List (Addr×Obj)) (s:Shared) (σ:St) (H:Hp) (x:V) (xs:List V) (v:Value) (us:List Value) (Q:VK),Inv X pins σ H s->RelV x v->Vals xs us->r x xs H Q->
  wpAny (model X.prog X.w) X.A (call (.builtin id) (v::us)) (EP X pins σ Q) X.xe s
theorem Vals.one:∀{x:V} {us:List Value},Vals [x] us->∃u,us=[u]/\RelV x u
 | _,_,.cons r .nil=>⟨_,rfl,r⟩
theorem Vals.zero:∀{us:List Value},Vals [] us->us=[]
 | _,.nil=>rfl
theorem Vals.dropLast{xs:List V}{us:List Value}(h:Vals xs us):Vals xs.dropLast us.dropLast:=by
 induction h with
 | nil=>exact .nil
 | cons r t ih=>
  cases t with
  | nil=>exact .nil
  | cons q t'=>exact .cons r ih
theorem xY{c:Type}(l:List c):l.eraseIdx (l.length-1)=l.dropLast:=by
 induction l with
 | nil=>rfl
 | cons a r ih=>
  cases r with
  | nil=>rfl
  | cons b r=>
   have e:(a::b::r).length-1=((b::r).length-1)+1:=by
    have d:(a::b::r).length=r.length+2:=rfl;have f:(b::r).length=r.length+1:=rfl;lia
   rw[e,List.eraseIdx_cons_succ,ih]
   all_goals rfl
section
variable{X:Cx}{pins:List (Addr×Obj)}{σ:St}{H:Hp}{s:Shared}{l b:Addr}{xs ys zs:List V}
theorem Inv.lset{a its':List Value}{n:Nat}{f:Array Value->Array Value}{t':Nat}(I:Inv X pins σ H s)(b:H l=some (.lst xs))
  (e:s.heap.get? l=some {cls:=.type "list",data:=.seq a.toArray n}) (d:f a.toArray=its'.toArray) (h:Vals ys its') (i:ys.length<=sizeLine) :
  Inv X pins σ (upd H l (.lst ys)) {s with heap:=s.heap.update l (Obj.mapSeq f),toks:=t'}:=by
 have q:=PySem.IsL.update e f;rw[d]at q;refine I.write (x:=l) (e:=l) (by rw[b];exact trivial) (.inl rfl) (fun j u c g=>(Heap.get?_update_other s.heap (Obj.mapSeq f) (Ne.symm c)).trans g) ⟨_,q⟩ ?_;exact⟨i,its',_,h,q⟩
theorem Inv.lnew(I:Inv X pins σ H s)(a:Vals ys its)(b:ys.length<=sizeLine) :
  Inv X pins σ (upd H s.heap.objs.size (.lst ys)) {s with heap:=s.heap.push {cls:=.type "list",data:=.seq its.toArray},toks:=t'}:=
 I.laid (fun _ _ q=>vK _ q) (va _) ⟨b,its,0,a,Heap.get?_push_size _ rfl⟩
theorem Inv.fresh(I:Inv X pins σ H s):H s.heap.objs.size=none:=I.hok.fresh (va _)
theorem Inv.lstM(I:Inv X pins σ H s)(b:H l=some (.lst xs)):xs.length<=sizeLine/\∃(a:List Value) (n:Nat),Vals xs a/\xs.length=a.length/\s.heap.get? l=some {cls:=.type "list",data:=.seq a.toArray n}:=by
 obtain⟨z,a,n,r,e⟩:=I.hok l _ b;exact⟨z,a,n,r,r.length,e⟩
theorem notLongL(h:n<=sizeLine):Builtin.List.listTooLong n=false:=by
 unfold Builtin.List.listTooLong;exact vI (by lia)
end
section
variable{X:Cx}
noncomputable def rAppend:V->List V->Hp->VK->Prop:=fun x vs H Q=>∃l xs y,x = .ref l/\vs=[y]/\H l=some (.lst xs)/\xs.length<sizeLine/\Q .non (upd H l (.lst (xs++[y])))
theorem jV:MtM X "list.append" rAppend:=by
 intro c s p H x m v k Q I g f h;obtain⟨l,o,y,rfl,rfl,b,j,q⟩:=h;cases g;obtain⟨u,rfl,d⟩:=f.one;obtain⟨z,a,n,r,i,e⟩:=I.lstM b;refine call_meets F.slot_list_append ⟨_,e,rfl⟩ F.entry_list_append (F.args_list_append_2 _ _) (PySem.list_append l a.toArray n u (by rw[size_toArray];lia)) ⟨e,?_⟩;refine⟨.non,_,I.lset (its':=a++[u]) b e (by simp) (r.append (.cons d .nil)) ?_,rfl,q⟩;rw[vn,vU];lia
noncomputable def rExtend:V->List V->Hp->VK->Prop:=fun x vs H Q=>∃l b xs zs,x = .ref l/\vs=[.ref b]/\H l=some (.lst xs)/\H b=some (.lst zs)/\xs.length+zs.length<=sizeLine/\Q .non (upd H l (.lst (xs++zs)))
theorem Yy:MtM X "list.extend" rExtend:=by
 intro i s K H x D v C Q I y w h;obtain⟨l,b,E,J,rfl,rfl,g,k,B,q⟩:=h;cases y;obtain⟨u,rfl,t⟩:=w.one;cases t;obtain⟨z,c,n,r,A,e⟩:=I.lstM g;obtain⟨G,a,o,p,m,j⟩:=I.lstM k;have f:c.toArray.size+a.toArray.size<=sizeLine:=by rw[size_toArray,size_toArray];lia
 have d:¬(!c.toArray.isEmpty&&Builtin.List.listTooLong (c.toArray.size+a.toArray.size))=true:=by
  rw[notLongL f,Bool.and_false];exact vG
 refine call_meets F.slot_list_extend ⟨_,e,rfl⟩ F.entry_list_extend (F.args_list_extend_2 _ _)
  (AutoSeq1.list_extend_list_list_0 l c.toArray n b a.toArray o d (by rw[size_toArray];lia) (by lia)) ⟨e,j,?_⟩
 refine⟨.non,_,I.lset (its':=c++a) g e (by simp) (r.append p) ?_,rfl,q⟩;rw[vn];lia
noncomputable def rPop:V->List V->Hp->VK->Prop:=fun x vs H Q=>∃l xs y,x = .ref l/\vs=[]/\H l=some (.lst xs)/\xs[xs.length-1]?=some y/\Q y (upd H l (.lst xs.dropLast))
theorem Xm:MtM X "list.pop" rPop:=by
 intro f s A H x t v p Q I o m h;obtain⟨l,w,y,rfl,rfl,d,j,q⟩:=h;cases o;have b:=m.zero;subst b;obtain⟨z,a,n,r,g,e⟩:=I.lstM d;obtain⟨u,i,k⟩:=r.get j;have c:a.toArray[a.toArray.size-1]?=some u:=by
  show a.toArray[a.length-1]?=some u;rw[<-Array.getElem?_toList,<-g];exact i
 refine call_meets F.slot_list_pop ⟨_,e,rfl⟩ F.entry_list_pop (F.args_list_pop_1 _) (MeetsSeq.list_pop_last l a.toArray n u c (by rw[size_toArray];lia)) ⟨e,?_⟩;refine⟨y,_,I.lset (its':=a.dropLast) d e ?_ r.dropLast ?_,k,q⟩
 ·show a.toArray.eraseIdxIfInBounds (a.toArray.size-1)=a.dropLast.toArray;rw[size_toArray,List.eraseIdxIfInBounds_toArray,xY]
 ·rw[List.length_dropLast];lia
def rCat:R2:=fun x y H Q=>∃l b xs zs,x = .ref l/\y = .ref b/\H l=some (.lst xs)/\H b=some (.lst zs)/\xs.length+zs.length<=sizeLine/\∀p,H p=none->Q (.ref p) (upd H p (.lst (xs++zs)))
theorem w4:OpR X (binaryOp .Add) rCat:=by
 intro d s E H x y v u Q I o p h;obtain⟨l,b,B,D,rfl,rfl,j,i,w,q⟩:=h;cases o;cases p;obtain⟨z,c,n,r,t,e⟩:=I.lstM j;obtain⟨C,a,A,m,k,f⟩:=I.lstM i;refine PySem.P.add_list e f ?_ (by rw[size_toArray,size_toArray];lia);have g:c.toArray++a.toArray=(c++a).toArray:=by simp
 rw[g];exact⟨.ref _,_,I.lnew (t':=s.toks) (r.append m) (by rw[vn];lia),rfl,q _ I.fresh⟩
end
section
variable{prog:Program}{w:World}{A:Around}{E:Value->Shared->Prop}{s:Shared}
end
section
variable{X:Cx}
end
end L2
namespace Att
open PySem PySem.W PySem.Calls PyProof.Rows
theorem YW:∀(ns:List Int) (vs:List Value),WellAll P h vs (ns.map WData.int)->IntsAre vs ns:=by
 intro ns
 induction ns with
 | nil=>
  intro vs w;rw[map_nil]at w;cases w;exact .nil
 | cons n ns ih=>
  intro vs w;rw[uy]at w;cases w with
  | cons a b=>
   cases a;exact .cons _ _ (ih _ b)
theorem j0W{l:OpenLaw}{n:Nat}(s:l.most=some n){P:Params}{h:Heap}{args:List WData}{c:List Value}
  (b:l.row.toRowW.claim.pre args=true) (j:WellAll P h c args) :
  ∃a vs ns,c=[Value.ref a]/\args=[WData.list (ns.map WData.int)]/\h.get? a=some {cls:=.type "list",data:=.seq vs.toArray}/\IntsAre vs ns/\ns.length<=n:=by
 have i:WShape.hasAll [] args [.list .int]=true:=(pre_splitW b).1;have k:l.pre.holds [] {args:=args}=true:=(pre_splitW b).2;obtain⟨d,r,rfl,m,o⟩:=hasAllW_cons i;obtain rfl:=hasAllW_nil o;obtain⟨u,rfl,p⟩:=hasW_list m;obtain⟨ns,rfl⟩:=items_int p;have e:ns.length<=n:=by
  unfold OpenLaw.pre at k;have f:(WTm.not (.lt (.lit (.int (n:Int))) (.len (.arg 0)))).holds [] {args:=[.list (ns.map .int)]}=true:=by
   have f:=(holds_andW k).1;rw[s]at f;exact f
  have g:=condW_of f (w_not (w_lt w_lit (w_len_list (w_arg rfl))));rw[vt]at g;refine Nat.le_of_not_lt fun q=>?_
  have t:(n:Int)<((ns.length:Nat):Int):=by lia
  first
   | (rw[vH t]at g;exact uB g (by decide))
   | (simp at g;lia)
 cases j with
 | cons w1 w2=>
  cases w2;cases w1 with
  | list ho hall=>exact⟨_,_,ns,rfl,rfl,ho,YW ns _ hall,e⟩
theorem j0P(l:OpenLaw)(args:List WData):l.row.toRowW.claim.post args (.bool true) args=true:=
 postW_of (r:=l.row.toRowW) (X:=(true==true))
  (show WShape.has [] (.bool true) .bool=true by first | rfl | decide | simp[WShape.has,WShape.arms,WShape.armsAll])
  (show(WTm.eq .res (.lit (.bool true))).value [] {args:=args,res:=some (.bool true),after:=args}=some (.bool (true==true))from w_eq_bool (w_res rfl) w_lit) rfl
section
variable{prog:Program}{w:World}{A:Around}{E:Value->Shared->Prop}{s:Shared}{K:Frag}
end
end Att
namespace L2
open PySem PySem.Spec PyProof.Rows
theorem K0:∀{vs:List Value} {ns:List Int},IntsAre vs ns->Vals (ns.map V.int) vs
 | _,_,.nil=>.nil
 | _,_,.cons n t h=>.cons ⟨t,rfl⟩ (K0 h)
def Only(H:Hp):Prop:=∀b,H b=none\/∃o xs,H b=some (.frz o (.lst xs))
theorem j1A{P:Program}{w:World}{K:Frg}{L W:Str->Option Value}{CX:CXT}{k:Nat}{R a:Addr}{fd:FuncData}{x:Str}{sp:Sp}{c:Shared}{vs:List Value}{ns:List Int}
  (Y:K.In c.heap) (D:c.heap.Ns mainGlobals L) (g:c.heap.Ns builtinsNs W) (T:∀x:Str,x≠"__name__"->W x=bootBuiltins x) (C:c.heap.NoLimit) (hg:c.gens = #[])
  (N:c.heap.get? a=some {cls:=.type "list",data:=.seq vs.toArray}) (hi:IntsAre vs ns) (hl:ns.length<=sizeLine) (hr:Room k callerA)
  (F:∀base:Heap,K.In base->base.Ns mainGlobals L->FnOk P w K L base CX k R fd [x] sp) (l:∀(s:Shared) (u:Value),BindsTo s fd ⟨[u],[]⟩ [(x,u)])
  (U:∀H:Hp,Only H->SqL K H a (ns.map V.int)->sp [.ref a] H (fun v _=>v = .bl true) fun _ _ _=>False)
  (S:∀H e s',CX [] H c (fun _ _ _=>False) e s'->False) :
  codeAny (model P w) callerA (.call (.ref R) ⟨[.ref a],[]⟩) (fun r s'=>r = .ok (.ret (.bool true))/\OldK c.heap s'.heap/\s'.os=c.os/\AllBare s'.gens) c:=by
 have rv:=K0 hi;have J:=hi.length;have j:∀H:Hp,Only H->SqL K H a (ns.map V.int)->HOk P w H c.heap->(∀b,H b≠none->b=a)->(H a≠none->K.lookup a=none)->
   codeAny (model P w) callerA (.call (.ref R) ⟨[.ref a],[]⟩) (fun r s'=>r = .ok (.ret (.bool true))/\OldK c.heap s'.heap/\s'.os=c.os/\AllBare s'.gens) c:=by
  intro H hO hS G hA hK;have f:∀{b:Addr} {o:Obj},c.heap.get? b=some o->H b=none->(hidT c.heap H).get? b=some o:=fun e n=>j1u e n
  have X:∀{b:Addr} {o:Obj} {y:Array DictEntry} {t:Nat},c.heap.get? b=some o->o.data = .dict y t->H b=none:=fun {b o y t} e d=>by
   cases q:H b with
   | none=>rfl
   | some u=>
    have O:b=a:=hA b (by rw[q];simp);subst O;rw[N]at e;cases e;have d':Data.seq vs.toArray _=Data.dict y t:=d;cases d'
  have i:∀{b:Addr} {m:Str->Option Value},c.heap.Ns b m->(hidT c.heap H).Ns b m:=fun {b m} ⟨o,y,t,e,d,r⟩=>⟨o,y,t,f e (X e d),d,r⟩
  have B:K.In (hidT c.heap H):=fun b o e=>f (Y b o e) (by
   cases q:H b with
   | none=>rfl
   | some u=>
    have O:b=a:=hA b (by rw[q];simp);subst O;rw[hK (by rw[q];simp)]at e;cases e)
  have hM:Mod K L (hidT c.heap H):=⟨B,i D,⟨W,i g,T⟩,let ⟨mc,h1,h2⟩:=C;⟨mc,i h1,h2⟩⟩
  have e0:Env0 P w K L (hidT c.heap H) callerA [] c H:=⟨rfl,hM,fun b o e=>j3r e,Nat.le_of_eq (j0t _ _),trivial,fun b g=>uB (show b∈([]:List Addr)from g) (by simp),G,.of_eq hg⟩
  refine codeAny_mono ((F _ B (i D)).run callerA [] c H ⟨[.ref a],[]⟩ [.ref a] [.ref a] _ _ hr e0 (l c (.ref a)) (.cons rfl .nil) (U H hO hS)) fun r s' h=>?_
  cases r with
  | error e=>exact(S H e s' h).elim
  | ok fl=>
   cases fl with
   | next=>exact False.elim h
   | brk=>exact False.elim h
   | cont=>exact False.elim h
   | ret u=>
    obtain⟨v,H',os,p,un,I,r',q⟩:=h;have q':v = .bl true:=q;subst q';obtain rfl:u=Value.bool true:=r';refine⟨rfl,OldK.of_keep fun b o e=>?_,os,p⟩;cases q:H b with
    | none=>exact un.keep b o e q (by intro z;exact uB (show b∈([]:List Addr)from z) (by simp)) (by simp)
    | some u=>
     rcases hO b with z | ⟨ob,xs,z⟩
     ·rw[q]at z;cases z
     ·have z2:=un.frzs b ob _ z;obtain⟨Z,_⟩:=G b _ z;obtain⟨e2,_⟩:=I b _ z2;rw[e]at Z;cases Z;exact e2
 cases hk:K.lookup a with
 | some o=>
  have e:=Y a o hk;rw[N]at e;cases e;refine j (fun _=>none) (fun _=>.inl rfl) (.inr ⟨_,vs.toArray,_,hk,rfl,rfl,rfl,by rw[size_toArray,J];exact hl,by simpa using rv⟩) (fun b u z=>by have M:(none:Option HO)=some u:=z;cases M) (fun b z=>uB rfl z) fun z=>uB rfl z
 | none=>
  refine j (fun b=>if b=a then some (.frz {cls:=.type "list",data:=.seq vs.toArray} (.lst (ns.map V.int)))else none) (fun b=>?_) (.inl (.inr ⟨{cls:=.type "list",data:=.seq vs.toArray},vc rfl⟩)) (fun b u z=>?_) (fun b z=>?_) fun _=>hk
  ·by_cases g:b=a
   ·exact .inr ⟨_,_,vc g⟩
   ·exact .inl (vb g)
  ·by_cases g:b=a
   ·have M:=(vc g).symm.trans z;cases M;subst g;exact⟨N,by rw[vt];exact hl,vs,_,rv,N⟩
   ·have M:=(vb g).symm.trans z;cases M
  ·by_cases g:b=a
   ·exact g
   ·exact uB (vb g) z
noncomputable abbrev KOf{K:Frg}{h:Heap}(_:K.In h):Frg:=K
noncomputable def inClass(s:Stmt)(j:Nat):Stmt:=match s with
 | .ClassDef _ _ _ body _ _ _ _ _ _ _=>body.getD j (.Pass ⟨0,0,0,0⟩)
 | _=>.Pass ⟨0,0,0,0⟩
noncomputable def defArgs(s:Stmt):Arguments:=match s with
 | .FunctionDef _ a _ _ _ _ _ _ _ _=>a
 | _=>{posonlyargs:=[],args:=[],vararg:=none,kwonlyargs:=[],kw_defaults:=[],kwarg:=none,defaults:=[]}
noncomputable def defBody(s:Stmt):List Stmt:=match s with
 | .FunctionDef _ _ b _ _ _ _ _ _ _=>b
 | _=>[]
noncomputable def defScope(s:Stmt):Scope:=match s with
 | .FunctionDef _ _ _ _ _ _ sc _ _ _=>sc
 | _=>{kind:=.function,names:=[],isGenerator:=false,isCoroutine:=false}
noncomputable abbrev CX0:CXT:=fun _ _ _ _ _ _=>False
noncomputable abbrev E0:XK:=fun _ _ _=>False
theorem pass0:Passes CX0 X E0:=fun _ _ _ _ _ _ _ h=>h.elim
structure Fun(K:Frg)(x qual:Str)(st:Stmt)(f:Addr)(fd:FuncData):Prop where
 ex:∃(oc:Value) (od:Option Addr) (kV doc pm:Value) (an:Option Addr) (cdv ct:Value) (osl:Array (Option Value)),
  fd=PySem.W.fnOf x qual (defArgs st) (defBody st) (defScope st) .none kV doc pm an cdv ct/\K.lookup f=some ⟨oc,od,.func fd,osl⟩/\PySem.W.codeIn K cdv qual=true
 kp:PySem.W.keepIn K (.ref f)=true
section
variable{P:Program}{w:World}{K:Frg}{mg:Str->Option Value}{base:Heap}
theorem Fun.ok{x a:Str}{st:Stmt}{f:Addr}{i:FuncData}{N ps:List Str}{k:Nat}{sp:Sp}(F:Fun K x a st f i)(S:FnScope N ps (defScope st))(g:∀vs H Q E,sp vs H Q E->vs.length=ps.length)
  (c:∀(b:Value) (A:Around) (outer:List Env) (s:Shared) (H:Hp) (vs:List V) (Q:VK) (E:XK),Room k (A.deeper (envOfC a (defScope st) s.heap.objs.size f b))->sp vs H Q E->
   ∃t,PSs (cxOf CX0 P w K mg base N a (defScope st) f b A outer s H E).nox (defBody st) t/\t {nx:=fun _ H'=>Q .non H',rt:=Q} (start N vs) H):FnOk P w K mg base CX0 (k+1) f i ps sp:=by
 obtain⟨r,u,kV,j,v,o,b,p,n,rfl,m,d⟩:=F.ex;refine j3V m d S g fun A outer s H vs Q E l e=>?_
 obtain⟨t,h,q⟩:=c b A outer s H vs Q E l e;exact⟨t,h.nox,q⟩
theorem Fun.binds{x a:Str}{st:Stmt}{f:Addr}{i:FuncData}{ps:List Str}(F:Fun K x a st f i)
  (h:∀(kV c g:Value) (d:Option Addr) (b e:Value) (us:List Value),us.length=ps.length->bindArgs (PySem.W.fnOf x a (defArgs st) (defBody st) (defScope st) .none kV c g d b e) ⟨us,[]⟩=pure (ps.zip us)):Binds K i ps []:=by
 obtain⟨m,n,kV,c,g,d,b,e,k,rfl,l,j⟩:=F.ex;exact .all (h kV c g d b e)
theorem jG{x a:Str}{st:Stmt}{f:Addr}{j:Value}{m g:Option Addr}{e:Array (Option Value)}{kV d i b h:Value}(l:K.lookup f=some ⟨j,m,.func (PySem.W.fnOf x a (defArgs st) (defBody st) (defScope st) .none kV d i g b h),e⟩)
  (c:PySem.W.codeIn K b a=true) (k:PySem.W.keepIn K (.ref f)=true):Fun K x a st f (PySem.W.fnOf x a (defArgs st) (defBody st) (defScope st) .none kV d i g b h):=⟨⟨j,m,kV,d,i,g,b,h,e,rfl,l,c⟩,k⟩
end
theorem X1(a:Room k A):A.units+1<cLine:=vE (Nat.add_le_add_left (by decide:1<=64) _) a.units
section
variable{X:Cx}
theorem pv(i:Nat)(b:X.N[i]?=some x:=by rfl)(d:Vis X.env.scope x:=by first | exact Or.inl rfl | exact Or.inr (Or.inl rfl) | exact Or.inr (Or.inr rfl))(c:(x==("__debug__" : Str))=false:=by decide)
  (a:(x==("__classdict__" : Str))=false:=by decide):PE X (.Name x pos) (tVar i):=j4y b d c a
end
theorem iteF{A B:Prop}(h:B):if false=true then A else B:=by
 rw[vb vG];exact h
theorem iteT{A B:Prop}(h:A):if true=true then A else B:=by
 rw[vc rfl];exact h
def Same(H H':Hp):Prop:=∀b o,H b=some o->H' b=some o
theorem Same.refl(H:Hp):Same H H:=fun _ _ h=>h
theorem Same.trans{H d e:Hp}(a:Same H d)(b:Same d e):Same H e:=fun c o h=>b c o (a c o h)
theorem Same.seq{K:Frg}{H H':Hp}{a:Addr}{xs:List V}(e:Same H H')(h:SqL K H a xs):SqL K H' a xs:=by
 rcases h with(h | ⟨o,h⟩) | h
 ·exact .inl (.inl (e _ _ h))
 ·exact .inl (.inr ⟨o,e _ _ h⟩)
 ·exact .inr h
section
variable{κ:Type}[DecidableEq κ]
noncomputable def valV(kvs:List (κ×V))(k:κ):Option V:=(kvs.find? fun kv=>decide (kv.1=k)).map (·.2)
noncomputable def putK(kvs:List (κ×V))(k:κ)(v:V):List (κ×V):=
 if(kvs.any fun kv=>decide (kv.1=k))=true then kvs.map (fun kv=>if kv.1=k then(kv.1,v)else kv)else kvs++[(k,v)]
theorem Ke{p:κ×V}{r:List (κ×V)}{k:κ}(e:p.1=k):valV (p::r) k=some p.2:=by simp[valV,List.find?_cons,e]
theorem Kd{p:κ×V}{r:List (κ×V)}{k:κ}(e:¬p.1=k):valV (p::r) k=valV r k:=by simp[valV,List.find?_cons,e]
theorem xw(k:κ):∀kvs:List (κ×V),(kvs.any fun kv=>decide (kv.1=k))=(valV kvs k).isSome
 | []=>rfl
 | p::r=>by
  rw[any_cons];by_cases e:p.1=k
  ·simp only[Ke e,decide_eq_true e,Bool.true_or,Option.isSome_some]
  ·rw[Kd e,vI e,Bool.false_or];exact xw k r
theorem ZD(kvs:List (κ×V))(k:κ)(v:V):(putK kvs k v).length<=kvs.length+1:=by
 unfold putK;split
 ·rw[vt];lia
 ·rw[vn,vS,length_nil];lia
theorem RelO.isSome_eq(r:RelO o u):o.isSome=u.isSome:=by
 cases o with
 | none=>cases u with
  | none=>rfl
  | some _=>exact(show False from r).elim
 | some _=>cases u with
  | none=>exact(show False from r).elim
  | some _=>rfl
theorem KV.val{kvs:List (κ×V)}{vs:List (κ×Value)}(r:KV kvs vs)(k:κ):RelO (valV kvs k) (valueAt vs k):=by
 unfold KV at r
 induction r with
 | nil=>exact True.intro
 | @cons p q ps qs h t ih=>
  obtain⟨c,d⟩:=h;by_cases e:p.1=k
  ·have a:q.1=k:=c.symm.trans e;have b:valueAt (q::qs) k=some q.2:=by simp[valueAt,List.find?_cons,a]
   rw[Ke e,b];exact d
  ·have a:¬q.1=k:=fun z=>e (c.trans z)
   have b:valueAt (q::qs) k=valueAt qs k:=by simp[valueAt,List.find?_cons,a]
   rw[Kd e,b];exact ih
theorem KV.any(r:KV kvs vs)(k:κ):(kvs.any fun kv=>decide (kv.1=k))=vs.any fun kv=>decide (kv.1=k):=by
 unfold KV at r
 induction r with
 | nil=>rfl
 | cons h t ih=>rw[any_cons,any_cons,ih,h.1]
theorem KV.repl(r:KV kvs vs)(k:κ)(c:RelV y u) :
  KV (kvs.map fun kv=>if kv.1=k then(kv.1,y)else kv) (vs.map fun kv=>if kv.1=k then(kv.1,u)else kv):=by
 unfold KV at r|-
 induction r with
 | nil=>exact .nil
 | @cons p q ps qs h t ih=>
  rw[uy,uy];refine .cons ?_ ih;obtain⟨a,b⟩:=h;by_cases e:p.1=k
  ·rw[vc e,vc (a.symm.trans e)];exact⟨a,c⟩
  ·rw[vb e,vb (fun z=>e (a.trans z))];exact⟨a,b⟩
theorem KV.put(r:KV kvs vs)(k:κ)(a:RelV y u):KV (putK kvs k y) (stored vs k u):=by
 unfold putK stored;rw[r.any k];by_cases e:(vs.any fun kv=>decide (kv.1=k))=true
 ·rw[vc e,vc e];exact r.repl k a
 ·rw[vb e,vb e];exact Paired.snoc r ⟨rfl,a⟩
theorem KV.keys{kvs:List (κ×V)}{vs:List (κ×Value)}(r:KV kvs vs):kvs.map (·.1)=vs.map (·.1):=by
 unfold KV at r
 induction r with
 | nil=>rfl
 | cons h t ih=>rw[uy,uy,ih,h.1]
theorem KV.length(r:KV kvs vs):kvs.length=vs.length:=Paired.length r
end
theorem j1v(r:RelV (kV k) u):(mixKind P w).is k u=true:=by
 cases k with
 | inl i=>obtain⟨t,e⟩:=(show∃t,u=Value.int i t from r);subst e;exact WX P w i t
 | inr x=>obtain⟨t,e⟩:=(show∃t,u=Value.str x t from r);subst e;exact WY P w x t
theorem KN:∀{ks:List Key} {us:List Value},Vals (ks.map kV) us->ItemsAre (mixKind P w) ks us
 | [],_,r=>by rw[map_nil]at r;cases r;exact .nil
 | k::ks,_,r=>by
  rw[uy]at r;cases r with
  | cons h t=>exact .cons (j1v h) (KN t)
noncomputable abbrev KT(H:Hp):List (List Key×V)->List (List Key×Addr×Value)->Prop:=Paired fun p q=>p.1=q.1/\H q.2.1=some (.tup (p.1.map kV))/\RelV p.2 q.2.2
theorem KT.val{H:Hp}{kvs:List (List Key×V)}{xs:List (List Key×Addr×Value)}(r:KT H kvs xs)(k:List Key):RelO (valV kvs k) ((atKey xs k).map (·.2)):=by
 induction r with
 | nil=>exact True.intro
 | @cons p q ps qs h t ih=>
  obtain⟨c,_,d⟩:=h;by_cases e:p.1=k
  ·have a:q.1=k:=c.symm.trans e;have b:atKey (q::qs) k=some q.2:=by simp[atKey,List.find?_cons,a]
   rw[Ke e,b];exact d
  ·have a:¬q.1=k:=fun z=>e (c.trans z)
   have b:atKey (q::qs) k=atKey qs k:=by simp[atKey,List.find?_cons,a]
   rw[Kd e,b];exact ih
theorem KT.repl{H:Hp}(r:KT H kvs xs)(k:List Key)(d:RelV y u) :
  KT H (kvs.map fun kv=>if kv.1=k then(kv.1,y)else kv) (xs.map (putAt k u)):=by
 induction r with
 | nil=>exact .nil
 | @cons p q ps qs h t ih=>
  rw[uy,uy];refine .cons ?_ ih;obtain⟨a,b,c⟩:=h;unfold putAt;by_cases e:p.1=k
  ·rw[vc e,vc (a.symm.trans e)];exact⟨a,b,d⟩
  ·rw[vb e,vb (fun z=>e (a.trans z))];exact⟨a,b,c⟩
theorem KT.put{H:Hp}(r:KT H kvs xs)(k:List Key)(c:H b=some (.tup (k.map kV)))(a:RelV y u) :
  KT H (putK kvs k y) (storedH xs k b u):=by
 have e:(kvs.any fun kv=>decide (kv.1=k))=(atKey xs k).isSome:=by
  rw[xw,(r.val k).isSome_eq,Option.isSome_map]
 unfold putK storedH;rw[e];by_cases q:(atKey xs k).isSome=true
 ·rw[vc q,vc q];exact r.repl k a
 ·rw[vb q,vb q];exact Paired.snoc r ⟨rfl,c,a⟩
theorem KT.keeps{H H':Hp}(r:KT H kvs xs)(a:∀b ys,H b=some (.tup ys)->H' b=some (.tup ys)):KT H' kvs xs:=
 Paired.mapP r fun _ _ z=>⟨z.1,a _ _ z.2.1,z.2.2⟩
section
variable{P:Program}{w:World}{H:Hp}{h:Heap}{a:Addr}
theorem j40(b:HOk P w H h)(e:Rd H a u):ObjOk P w H h a u:=e.ok b
theorem j1f(b:HOk P w H h)(e:Rd H a (.dK kvs)):kvs.length<=sizeLine/\(a==sysModules)=false/\∃vs,KV kvs vs/\h.DictOf (mixKind P w) a vs:=
 show ObjOk P w H h a (.dK kvs)from j40 b e
theorem WN(b:HOk P w H h)(e:H a=some (.dK kvs)):kvs.length<=sizeLine/\(a==sysModules)=false/\∃vs,KV kvs vs/\h.DictOf (mixKind P w) a vs:=j1f b (.inl e)
theorem Xf(g:HOk P w H h)(e:H a=some (.tup (ks.map kV))):(tupleKind (mixKind P w)).is h ks a:=by
 obtain⟨_,b,r,o,c,d,n,f⟩:=(show ObjOk P w H h a (.tup (ks.map kV))from g a _ e)
 exact⟨o,b.toArray,n,c,d,f,by simpa using KN r⟩
theorem j1h(d:HOk P w H h)(e:Rd H a (.dT kvs)):kvs.length<=sizeLine/\(a==sysModules)=false/\
  ∃xs,KT H kvs xs/\h.DictOfH (tupleKind (mixKind P w)) a xs:=by
 obtain⟨z,y,xs,r,o,g,f,i,j,k,n,s⟩:=(show ObjOk P w H h a (.dT kvs)from j40 d e)
 refine⟨z,y,xs,r,o,g,f,i,j,k,n,fun x b=>?_,s⟩;have c:∀{l:List (List Key×V)} {m:List (List Key×Addr×Value)},KT H l m->∀x∈m,(tupleKind (mixKind P w)).is h x.1 x.2.1:=by
  intro l m q
  induction q with
  | nil=>intro x b;exact nomatch b
  | @cons p q ps qs hq t ih=>
   intro x b;rcases mem_cons.mp b with e | b
   ·subst e;exact Xf d (by rw[<-hq.1];exact hq.2.1)
   ·exact ih x b
 exact c r x b
theorem j4T(b:HOk P w H h)(e:H a=some (.dT kvs)):kvs.length<=sizeLine/\(a==sysModules)=false/\
  ∃xs,KT H kvs xs/\h.DictOfH (tupleKind (mixKind P w)) a xs:=j1h b (.inl e)
end
def DGet(H:Hp)(a:Addr)(y:V)(r:Option V):Prop:=
 (∃kvs k,Rd H a (.dK kvs)/\y=kV k/\r=valV kvs k)\/∃kvs k b,Rd H a (.dT kvs)/\y = .ref b/\H b=some (.tup (k.map kV))/\r=valV kvs k
def DPut(H:Hp)(a:Addr)(y v:V)(H':Hp):Prop:=
 (∃kvs k,H a=some (.dK kvs)/\y=kV k/\kvs.length<sizeLine/\H'=upd H a (.dK (putK kvs k v)))\/
 ∃kvs k b,H a=some (.dT kvs)/\y = .ref b/\H b=some (.tup (k.map kV))/\kvs.length<sizeLine/\H'=upd H a (.dT (putK kvs k v))
theorem DGet.k{H:Hp}{a:Addr}{kvs:List (Key×V)}{k:Key}(e:H a=some (.dK kvs)):DGet H a (kV k) (valV kvs k):=.inl ⟨kvs,k,.inl e,rfl,rfl⟩
theorem DPut.k{H:Hp}{a:Addr}{kvs:List (Key×V)}{k:Key}{v:V}(e:H a=some (.dK kvs))(b:kvs.length<sizeLine):DPut H a (kV k) v (upd H a (.dK (putK kvs k v))):=.inl ⟨kvs,k,e,rfl,b,rfl⟩
section
variable{X:Cx}{pins:List (Addr×Obj)}{σ:St}{H:Hp}{s:Shared}{a:Addr}{y v:V}{u r:Value}{o:Option V}{A:Around}{E:Value->Shared->Prop}
theorem Inv.big(I:Inv X pins σ H s):sysModules<s.heap.objs.size:=by
 have h:mainGlobals<s.heap.objs.size:=(I.mod.glob.keeps I.bk).lt;exact v4 (by decide) h
theorem j0o{Q:Value->Shared->Prop}(B:A.units+1<cLine)(I:Inv X pins σ H s)(g:DGet H a y (some v))(r:RelV y u)(h:∀f s',Inv X pins σ H s'->RelV v f->Q f s') :
  wpAny (model X.prog X.w) A (getItem (.ref a) u) Q E s:=by
 rcases g with⟨q,k,e,j,l⟩ | ⟨q,k,b,e,j,t,l⟩
 ·subst j;obtain⟨z,w,C,c,i⟩:=j1f I.hok e;obtain⟨f,n,d⟩:=RelO.some_of (v:=v) (o:=valueAt C k) (by rw[l];exact c.val k);exact wpAny_getItem_of (j1v r) i.mapOf n (h f _ (I.tok _) d)
 ·subst j;cases(show u=Value.ref b from r);obtain⟨z,w,D,c,i⟩:=j1h I.hok e;obtain⟨f,n,d⟩:=RelO.some_of (v:=v) (o:=(atKey D k).map (·.2)) (by rw[l];exact c.val k);obtain⟨p,x,m⟩:=vf.mp n;refine wpAny_getItem_heap (tupleKind_room_in1 B) (Xf I.hok t) i x ?_;rw[m];exact h f _ (I.tok _) d
theorem wE(I:Inv X pins σ H s)(g:Mut (H a))(hs:Heap.SameBut a s.heap h')(f:∃q,h'.get? a=some q)(c:ObjOk X.prog X.w (upd H a ob) h' a ob) :
  Inv X pins σ (upd H a ob) {s with heap:=h',toks:=t'}:=
 I.write (x:=a) (e:=a) g (.inl rfl) (fun b q d z=>(hs.2 b d).trans z) f c
theorem xU{H':Hp}(z:kvs.length<=sizeLine)(c:(a==sysModules)=false)(b:KV kvs vs)(dd:h'.DictOf (mixKind P w) a vs) :
  ObjOk P w H' h' a (.dK kvs):=⟨z,c,vs,b,dd⟩
theorem j0p{H':Hp}{Q:Unit->Shared->Prop}(R:A.units+1<cLine)(I:Inv X pins σ H s)(g:DPut H a y v H')(G:RelV y u)(F:RelV v r)(h:∀s',Inv X pins σ H' s'->Q () s') :
  wpAny (model X.prog X.w) A (setItem (.ref a) u r) Q E s:=by
 rcases g with⟨d,k,e,o,l,n⟩ | ⟨d,k,b,e,o,B,l,n⟩
 ·subst o n;obtain⟨z,p,S,f,m⟩:=WN I.hok e;have x:S.length<=sizeLine:=by rw[<-f.length];exact z
  have t:(putK d k v).length<=sizeLine:=by have:=ZD d k v;lia
  refine wpAny_setItem_pairs (hsz:=x) (j1v G) m fun D i w=>h _ ?_
  have P:∃q,D.get? a=some q:=let ⟨q,_,_,j,_⟩:=i;⟨q,j⟩;exact wE I (by rw[e];exact True.intro) w P (xU t p (f.put k F) i)
 ·subst o n;cases(show u=Value.ref b from G);obtain⟨z,p,T,f,m⟩:=j4T I.hok e;have x:T.length<=sizeLine:=by rw[<-Paired.length f];exact z
  have t:(putK d k v).length<=sizeLine:=by have:=ZD d k v;lia
  refine wpAny_setItem_heap (hsz:=x) (tupleKind_room_in1 R) (Xf I.hok B) m fun D i w=>h _ ?_
  obtain⟨q,K,J,j,L,M,N,_,O⟩:=i;refine wE I (by rw[e];exact True.intro) w ⟨q,j⟩ ⟨t,p,_,(f.put k B F).keeps fun c U C=>?_,q,K,J,j,L,M,N,O⟩;rw[jg (ZF C e (fun z=>nomatch z))];exact C
end
section
variable{X:Cx}{pins:List (Addr×Obj)}{σ:St}{H:Hp}{s:Shared}{a:Addr}{kvs:List (Key×V)}{k:Key}{u:Value}{A:Around}{E:Value->Shared->Prop}
end
def NoSl(i:Expr):Prop:=∀ov iv,subscripted i false ov iv=operate [ov,iv] (getItem ov iv)
theorem j3J{prog:Program}{w:World}{A:Around}{E:Value->Shared->Prop}{s:Shared}{env:Env}{b a:Expr}{l:Pos}{T id:String}{Q:Value->Shared->Prop}
  (n:typeLookup (.type T) "__getitem__"= pure (some (.builtin id))) (hs:NoSl a)
  (h:wpAny (model prog w) A (eval b env) (fun o e=>wpAny (model prog w) A (eval a env) (fun i c=>c.TypeIs o T/\wpAny (model prog w) A (getItem o i) Q E c) E e) E s) :
  wpAny (model prog w) A (eval (.Subscript b a l) env) Q E s:=by
 refine Subscript_ (wpAny_mono h (fun o e j=>wpAny_mono j (fun i c d=>?_) fun _ _ x=>x) fun _ _ x=>x);obtain⟨m,d⟩:=d;unfold subscriptTail;refine ub ?_;rw[getitemInPython_of_ne m.not_modules];refine ub (wpAny_specialOf m n ?_);have g:wpAny (model prog w) A (subscripted a false o i) (fun r f=>wpAny (model prog w) A (letTemporaryGo b o r >>= fun _=>pure r) Q E f) E c:=by
  rw[hs o i];exact wpAny_operating (wpAny_mono d (fun r f k=>ub (wpAny_letTemporaryGo (uA k))) fun _ _ x=>x)
 first
  | exact uA (ub g)
  | exact ub (uA (ub g))
  | exact ub g
theorem WM{f:St}{H:Hp}(I:Inv X pins f H s)(g:DGet H a y o):s.TypeIs (.ref a) "dict":=by
 rcases g with⟨d,k,e,_,_⟩ | ⟨d,k,b,e,_,_,_⟩
 ·obtain⟨_,_,h,_,c⟩:=j1f I.hok e;exact c.typeIs
 ·obtain⟨_,_,i,_,c⟩:=j1h I.hok e;exact c.typeIs
def tDGet(td ty:TE):TE:=fun σ H Q=>td σ H fun x H1=>ty σ H1 fun y H2=>∃a v,x = .ref a/\DGet H2 a y (some v)/\Q v H2
def sDPut(td ty tv:TE):TS:=fun D σ H=>tv σ H fun v H1=>td σ H1 fun x H2=>ty σ H2 fun y H3=>∃a H4,x = .ref a/\DPut H3 a y v H4/\D.nx σ H4
section
variable{X:Cx}{o i e value:Expr}{pos pos' tpos:Pos}{td ty tv:TE}
theorem j01(p:X.A.units+1<cLine)(n:PE X o td)(hi:PE X i ty)(hs:NoSl i:=by exact fun _ _=>rfl):PE X (.Subscript o i pos) (tDGet td ty):=by
 intro b s e H Q I h;refine j3J PySem.F.slot_dict_getitem.lookup hs (thn (n b s e H _ I h) fun u z ⟨x,f,k,t,q⟩=>thn (hi b z e f _ k q) fun A B ⟨y,j,d,w,a,v,m,g,r⟩=>?_);subst m;obtain rfl:u=Value.ref a:=t;exact⟨WM d g,j0o p d g w fun D C l c=>⟨v,j,l,c,r⟩⟩
theorem j05(q:X.A.units+1<cLine)(p:PE X o td)(hi:PE X i ty)(t:PE X value tv)(hs:swapsWith value (some (.Subscript o i pos')) pos.line X.env=pure false) :
  PS X (.Assign [.Subscript o i pos'] value pos) (sDPut td ty tv):=by
 intro b s c H D I h;refine wpAny_Assign_Subscript (thn (t b s c H _ I h) fun r F ⟨v,d,j,B,w⟩=>thn (p b F c d _ j w) fun u G ⟨x,e,k,C,z⟩=>thn (hi b G c e _ k z) fun K L ⟨y,J,l,E,a,f,n,g,A⟩=>?_) hs;subst n;obtain rfl:u=Value.ref a:=C;exact j0p q l g E B fun M m=>⟨c,f,m,A⟩
end
theorem j1e{H:Hp}(h:Heap)(a:sysModules<h.objs.size):ObjOk P w H (h.push {cls:=.type "dict",data:=.dict #[]}) h.objs.size (.dK []):=
 ⟨vA _,beq_eq_false_iff_ne.mpr (Ne.symm (vF a)),[],.nil,Heap.DictOf.new h⟩
def tDNewK:TE:=fun _ H Q=>∀p,H p=none->Q (.ref p) (upd H p (.dK []))
section
variable{X:Cx}{pos:Pos}
theorem W9:PE X (.Dict [] [] pos) tDNewK:=fun b s c H Q I h=>
 wpAny_Dict_empty ⟨.ref s.heap.objs.size,_,I.laid (a:=s.heap.objs.size) (o:=.dK []) (t':=s.toks) (fun _ _ q=>vK _ q) (va _) (j1e s.heap I.big),rfl,h _ (I.hok.fresh (va _))⟩
end
noncomputable def mergeK(kvs more:List (Key×V)):List (Key×V):=more.foldl (fun acc kv=>putK acc kv.1 kv.2) kvs
theorem KV.merge:∀{more:List (Key×V)} {a:List (Key×Value)} {kvs:List (Key×V)} {vs:List (Key×Value)},KV more a->KV kvs vs->KV (mergeK kvs more) (merged vs a):=by
 intro more a kvs vs r;unfold KV at r
 induction r generalizing kvs vs with
 | nil=>intro q;exact q
 | @cons p q ps qs h t ih=>
  intro b;have e:KV (putK kvs p.1 p.2) (stored vs q.1 q.2):=by
   have:=b.put p.1 h.2;rw[<-h.1];exact this
  exact ih e
theorem zb:∀(more kvs:List (Key×V)),(mergeK kvs more).length<=kvs.length+more.length
 | [],kvs=>by show kvs.length<=kvs.length+0;lia
 | p::r,kvs=>by
  have a:=zb r (putK kvs p.1 p.2);have b:=ZD kvs p.1 p.2;show(mergeK (putK kvs p.1 p.2) r).length<=_;rw[vS];lia
section
variable{X:Cx}{pins:List (Addr×Obj)}{σ:St}{H:Hp}{s:Shared}{a:Addr}{y d:V}{u r:Value}{o:Option V}{A:Around}{E:Value->Shared->Prop}
end
section
variable{X:Cx}{o e f:Expr}{apos cpos:Pos}{td ty tx:TE}
end
section
variable{X:Cx}{pins:List (Addr×Obj)}{σ:St}{H:Hp}{s:Shared}{a:Addr}{kvs:List (Key×V)}{A:Around}{E:Value->Shared->Prop}
end
section
variable{X:Cx}{pins:List (Addr×Obj)}{σ:St}{H:Hp}{s:Shared}{a:Addr}{y:V}{u:Value}{A:Around}{E:Value->Shared->Prop}
end
section
variable{X:Cx}
end
section
variable{κ:Type}[DecidableEq κ]
end
theorem compLoopT{R:Result->Shared->Prop}(I:Nat->Shared->Prop)
  (u:∀n s,I n s->wpAny (model prog w) A (pyNext it) (fun r b=>match r with
   | none=>R (.ok .next) b
   | some v=>wpAny (model prog w) A (letOwnedTupleGo target it v) (fun _ g=>wpAny (model prog w) A (assign target env v) (fun _ i=>
     wpAny (model prog w) A (forIn ifs true fun c r=>if r=true then do let t <-isTrue c env (eval c env);pure (ForInStep.yield t)else pure (ForInStep.yield r)) (fun t d=>
      if t=true then wpAny (model prog w) A (eval elt env) (fun x j=>
       wpAny (model prog w) A (call (.builtin "list.append") [acc,x]) (fun _ k=>∃m,m<n/\I m k) (fun _ _=>False) j) (fun _ _=>False) d
      else∃m,m<n/\I m d) (fun _ _=>False) i) (fun _ _=>False) g) (fun _ _=>False) b) (fun _ _=>False) s)
  (n:Nat) (h:I n s) :
  codeAny (model prog w) A (.compLoop (.ListComp elt [⟨target,iter,ifs,0⟩] scope pos) 0 it acc env) R s:=by
 refine codeAny_loop rfl I (fun n s y=>?_) n h;show wpAny _ A ((compTurn (.ListComp elt [⟨target,iter,ifs,0⟩] scope pos) 0 it acc env).onRaise (fun x=>do noteFrame x env;theTreesLotGoes x)) _ _ s;refine wpAny_noted ?_;rw[compTurn_list];refine ub (wpAny_standAt (ub (wpAny_mono (u n s y) (fun r b e=>?_) fun _ _ a=>a.elim)));cases r with
 | none=>exact uA e
 | some v=>
  refine ub (wpAny_mono e (fun _ g l=>?_) fun _ _ a=>a.elim);refine ub (wpAny_mono l (fun _ i o=>ub (wpAny_mono o (fun t d f=>?_) fun _ _ a=>a.elim)) fun _ _ a=>a.elim);cases t with
  | false=>exact uA ⟨rfl,f⟩
  | true=>
   exact ub (ub (wpAny_mono f (fun x j p=>ub (wpAny_mono p (fun _ k q=>uA (uA ⟨rfl,q⟩)) fun _ _ a=>a.elim)) fun _ _ a=>a.elim))
def PF(X:Cx)(ifs:List Expr)(t:TT):Prop:=
 ∀(pins:List (Addr×Obj)) (s:Shared) (σ:St) (H:Hp) (Q:Bool->Hp->Prop),Inv X pins σ H s->t σ H Q->
  wpAny (model X.prog X.w) X.A (forIn ifs true fun c r=>if r=true then do let ok <-isTrue c X.env (eval c X.env);pure (ForInStep.yield ok)else pure (ForInStep.yield r)) (TP X pins σ Q) X.xe s
def tYes:TT:=fun _ H Q=>Q true H
theorem Jx:PF X [] tYes:=fun _ _ _ H _ I h=>wpAny_tests_nil ⟨H,I,h⟩
theorem zV(b:PT X c t):PF X [c] t:=fun a s d H Q I h=>wpAny_tests_one (b a s d H Q I h)
noncomputable def closL(env:Env):List (Str×NameKind)->List (Str×Addr)->List (Str×Addr)
 | [],acc=>acc
 | (n,k)::r,acc=>closL env r (if k == .free then(n,(env.cells.lookup n).getD 0)::acc else acc)
theorem yK(h:∀y∈scope.names,y.2 = .free->∃c,env.cells.lookup y.1=some c):closureFor scope env=pure (closL env scope.names []):=by
 have l:∀(names:List (Str×NameKind)) (b:List (Str×Addr)),(∀y∈names,y.2 = .free->∃c,env.cells.lookup y.1=some c)->
   (forIn (m:=Sem) names b fun x r=>(match x with | (name,kind)=>if(kind == .free)=true then do let a <-cellOf env name;pure (ForInStep.yield ((name,a)::r))else pure (ForInStep.yield r)))=pure (closL env names b):=by
  intro names
  induction names with
  | nil=>intro b _;rfl
  | cons y r ih=>
   obtain⟨n,k⟩:=y;intro b d;rw[List.forIn_cons];cases hk:(k==NameKind.free)with
   | true=>
    have e:k = .free:=by simpa using hk
    obtain⟨c,i⟩:=d (n,k) vq e;have j:cellOf env n=pure c:=by unfold cellOf;rw[i]
    simp only[hk,if_true,j,pure_bind,closL,i,Option.getD_some];exact ih _ fun y f=>d y (vp _ f)
   | false=>
    simp only[hk,Bool.false_eq_true,if_false,pure_bind,closL];exact ih _ fun y f=>d y (vp _ f)
 have g:=l scope.names [] h;unfold closureFor;simp only[g,pure_bind]
theorem KI:∀(names:List (Str×NameKind)) (a:List (Str×Addr)),(∀y∈names,y.2 = .free->∃c,env.cells.lookup y.1=some c)->(∀x c,a.lookup x=some c->env.cells.lookup x=some c)->
  ∀x c,(closL env names a).lookup x=some c->env.cells.lookup x=some c
 | [],_,_,ha,x,c,h=>ha x c h
 | (n,k)::r,a,hh,ha,x,c,h=>by
  refine KI r _ (fun y f=>hh y (vp _ f)) (fun x c e=>?_) x c h;cases hk:(k==NameKind.free)with
  | false=>rw[hk]at e;exact ha x c e
  | true=>
   rw[hk]at e;have b:k = .free:=by simpa using hk
   obtain⟨g,d⟩:=hh (n,k) vq b;simp only[if_true,d,Option.getD_some]at e;rw[lookup_cons]at e;cases hx:(x==n)with
   | true=>
    rw[hx]at e;have:x=n:=by simpa using hx
    rw[this,d];exact e
   | false=>rw[hx]at e;exact ha x c e
theorem KH:∀(names:List (Str×NameKind)) (a:List (Str×Addr)) (x:Str),(∃c,a.lookup x=some c)->∃c,(closL env names a).lookup x=some c
 | [],_,_,h=>h
 | (n,k)::r,a,x,h=>by
  refine KH r _ x ?_;cases hk:(k==NameKind.free)with
  | false=>exact h
  | true=>
   simp only[if_true];rw[lookup_cons];cases hx:(x==n)with
   | true=>exact⟨_,rfl⟩
   | false=>exact h
theorem Yp:∀(names:List (Str×NameKind)) (a:List (Str×Addr)) (x:Str),(x,NameKind.free)∈names->∃c,(closL env names a).lookup x=some c
 | [],_,_,h=>by simp at h
 | (n,k)::r,a,x,h=>by
  rcases mem_cons.mp h with e | h
  ·cases e;refine KH r _ _ ?_;simp
  ·exact Yp r _ x h
theorem Qx{env:Env}:∀{names:List (Str×NameKind)} {x:Str} {k:NameKind},(names.map fun(n,k)=>if(k==NameKind.free&&env.scope.kind == .function&&env.kindOf n==some .cell)then(n,NameKind.cell)else(n,k)).lookup x=some k->
  ∃b,(x,b)∈names/\names.lookup x=some b/\(b=k\/(b = .free/\k = .cell))
 | [],_,_,h=>by simp at h
 | (n,k₀)::r,x,k,h=>by
  have i:=@Qx env r x k;rw[uy]at h;dsimp only at h;cases hx:x==n with
  | true=>
   have e:x=n:=by simpa using hx
   subst e;refine⟨k₀,vq,by simp,?_⟩;by_cases a:(k₀==NameKind.free&&env.scope.kind == .function&&env.kindOf x==some .cell)=true
   ·rw[vc a]at h;simp only[lookup_cons,beq_self_eq_true]at h;simp only[Bool.and_eq_true,beq_iff_eq]at a;exact .inr ⟨a.1.1,(vM h).symm⟩
   ·rw[vb a]at h;simp only[lookup_cons,beq_self_eq_true]at h;exact .inl (vM h)
  | false=>
   have c:(r.map fun(n,k)=>if(k==NameKind.free&&env.scope.kind == .function&&env.kindOf n==some .cell)then(n,NameKind.cell)else(n,k)).lookup x=some k:=by
    by_cases a:(k₀==NameKind.free&&env.scope.kind == .function&&env.kindOf n==some .cell)=true
    ·rw[vc a]at h;simpa only[lookup_cons,hx]using h
    ·rw[vb a]at h;simpa only[lookup_cons,hx]using h
   obtain⟨b,d,f,g⟩:=i c;exact⟨b,vp _ d,by simpa only[lookup_cons,hx]using f,g⟩
theorem Yo:∀(names:List (Str×NameKind)) (n:Nat) (a:List (Str×Addr)) (x:Str) (c:Addr),(cellsFrom n names a).lookup x=some c->n<=c\/a.lookup x=some c
 | [],_,_,_,_,h=>.inr h
 | (y,k)::r,n,a,x,c,h=>by
  unfold cellsFrom at h;split at h
  ·rcases Yo r (n+1) _ x c h with q | q
   ·exact .inl (by lia)
   ·rw[lookup_cons]at q;cases hx:x==y with
    | true=>rw[hx]at q;cases q;exact .inl (va _)
    | false=>rw[hx]at q;exact .inr q
  ·exact Yo r n a x c h
theorem xO:∀(names:List (Str×NameKind)) (n:Nat) (a:List (Str×Addr)),(∀x c,a.lookup x=some c->c<n)->(∀x y c,a.lookup x=some c->a.lookup y=some c->x=y)->
  ∀x y c,(cellsFrom n names a).lookup x=some c->(cellsFrom n names a).lookup y=some c->x=y
 | [],_,_,_,hi,x,y,c,h1,h2=>hi x y c h1 h2
 | (z,k)::r,n,a,hb,hi,x,y,c,h1,h2=>by
  unfold cellsFrom at h1 h2;split at h1
  ·rename_i hk;rw[vc hk]at h2;refine xO r (n+1) _ (fun x c e=>?_) (fun x y c d b=>?_) x y c h1 h2
   ·rw[lookup_cons]at e;cases hx:x==z with
    | true=>rw[hx]at e;cases e;exact Nat.lt_succ_self _
    | false=>rw[hx]at e;exact Nat.lt_succ_of_lt (hb x c e)
   ·rw[lookup_cons]at d b;cases hx:x==z with
    | true=>
     rw[hx]at d;cases d;cases hy:y==z with
     | true=>rw[beq_iff_eq.mp hx,beq_iff_eq.mp hy]
     | false=>rw[hy]at b;exact uB (hb y n b) (Nat.lt_irrefl _)
    | false=>
     rw[hx]at d;cases hy:y==z with
     | true=>rw[hy]at b;cases b;exact uB (hb x n d) (Nat.lt_irrefl _)
     | false=>rw[hy]at b;exact hi x y c d b
  ·rename_i hk;rw[vb hk]at h2;exact xO r n a hb hi x y c h1 h2
theorem wy:∀(names:List (Str×NameKind)) (n:Nat) (a:List (Str×Addr)) (x:Str),(∃c,a.lookup x=some c)->∃c,(cellsFrom n names a).lookup x=some c
 | [],_,_,_,h=>h
 | (y,k)::r,n,a,x,h=>by
  unfold cellsFrom;split
  ·refine wy r (n+1) _ x ?_;rw[lookup_cons];cases hx:x==y with
   | true=>exact⟨_,rfl⟩
   | false=>exact h
  ·exact wy r n a x h
theorem xN:∀(names:List (Str×NameKind)) (n:Nat) (a:List (Str×Addr)) (x:Str),(x,NameKind.cell)∈names->∃c,(cellsFrom n names a).lookup x=some c
 | [],_,_,_,h=>by simp at h
 | (y,k)::r,n,a,x,h=>by
  unfold cellsFrom;rcases mem_cons.mp h with e | h
  ·cases e;simp only[beq_self_eq_true,if_true];exact wy r _ _ _ (by simp)
  ·split
   ·exact xN r _ _ x h
   ·exact xN r _ _ x h
theorem xT:∀(names:List (Str×NameKind)) (n:Nat) (a:List (Str×Addr)) (x:Str),(x,NameKind.cell)∉names->(cellsFrom n names a).lookup x=a.lookup x
 | [],_,_,_,_=>rfl
 | (y,k)::r,n,a,x,h=>by
  have b:(x,NameKind.cell)∉r:=fun q=>h (vp _ q)
  unfold cellsFrom;split
  ·rename_i hk;rw[xT r _ _ x b,lookup_cons];cases hx:x==y with
   | true=>rw[beq_iff_eq.mp hx,beq_iff_eq.mp hk]at h;exact uB vq h
   | false=>rfl
  ·exact xT r n a x b
theorem xS:∀(names:List (Str×NameKind)) (a n:Nat) (b:List (Str×Addr)) (x:Str) (c:Addr),a<=n->((x,NameKind.cell)∈names\/∀c,b.lookup x=some c->a<=c)->(cellsFrom n names b).lookup x=some c->a<=c
 | [],_,_,_,_,c,_,h,e=>h.elim (fun z=>by simp at z) fun z=>z c e
 | (y,k)::r,a,n,b,x,c,hn,h,e=>by
  unfold cellsFrom at e;split at e
  ·refine xS r a (n+1) _ x c (by lia) ?_ e;rcases h with h | h
   ·rcases mem_cons.mp h with q | q
    ·cases q;exact .inr fun c q=>by rw[lookup_cons,beq_self_eq_true]at q;cases q;exact hn
    ·exact .inl q
   ·refine .inr fun c q=>?_
    rw[lookup_cons]at q;cases hx:x==y with
    | true=>rw[hx]at q;cases q;exact hn
    | false=>rw[hx]at q;exact h c q
  ·rename_i hk;refine xS r a n b x c hn ?_ e;rcases h with h | h
   ·rcases mem_cons.mp h with q | q
    ·cases q;exact uB rfl hk
    ·exact .inl q
   ·exact .inr h
theorem ko:∀(names:List (Str×NameKind)) (h:Heap) (a:List (Str×Addr)) (x:Str) (c:Addr),(cellsFrom h.objs.size names a).lookup x=some c->a.lookup x=some c\/(pushCells h names).IsCell c none
 | [],_,_,_,_,e=>.inl e
 | (y,k)::r,h,a,x,c,e=>by
  unfold cellsFrom at e;unfold pushCells;split
  ·rename_i hk;rw[vc hk]at e;rw[<-Heap.size_push h {cls:=.type "cell",data:=.cell none}]at e;rcases ko r _ _ x c e with q | q
   ·rw[lookup_cons]at q;cases hx:x==y with
    | true=>
     rw[hx]at q;cases q;exact .inr ⟨_,pushCells_keeps _ _ _ _ (Heap.get?_push_size _ rfl),rfl⟩
    | false=>rw[hx]at q;exact .inl q
   ·exact .inr q
  ·rename_i hk;rw[vb hk]at e;exact ko r h a x c e
theorem envC{E:Value->Shared->Prop}{Q:Env->Shared->Prop}
  (h:Q (newEnv scope s.heap.objs.size globals (cellsFrom (s.heap.objs.size+1) scope.names cl) qual none .none (some env) builtinsNs) {s with heap:=pushCells (s.heap.push {cls:=.type "dict",data:=.dict #[]}) scope.names}) :
  wpAny M A (newFunctionEnv scope globals cl [] qual none .none (some env)) Q E s:=by
 simp only[newFunctionEnv,Option.isSome_some,if_true];refine ub (wpAny_alloc ?_);refine ub (wpAny_layCells _ (fun c a b=>by cases hkc:a==NameKind.cell<;>simp[hkc]) _ _ _ _ ?_);rw[show({s with heap:=s.heap.push {cls:=.type "dict",data:=.dict #[]}}:Shared).heap.objs.size=s.heap.objs.size+1 from Heap.size_push ..];rw[List.forIn_nil];exact ub (uA (uA h))
noncomputable def blk(X:Cx)(scope:Scope)(ow:List Str)(ci:List Nat)(C:Addr)(s₀:Shared)(H₀:Hp)(ex:List Addr)(pn:List (Addr×Obj)):Cx:=
 {X with N:=ow++ci.map fun j=>X.N.getD j "",s₀:=s₀,H₀:=H₀,env:=compEnvC scope (cellsFrom (C+1) scope.names (closL X.env scope.names [])) C X.env,outer:=X.stack,stack:=X.stack,ex:=ex,fn:=fun x=>scope.names.lookup x==some .cell,pn:=pn,xe:=fun _ _=>False}
structure CompScope(X:Cx)(scope:Scope)(ow:List Str)(ci:List Nat):Prop where
 kind:scope.kind = .function
 cell:∀y∈scope.names,y.2 = .cell->scope.names.lookup y.1=some .cell
 names:∀y∈scope.names,y.2 = .local->scope.names.lookup y.1=some .local
 free:∀y∈scope.names,y.2 = .free->X.env.kindOf y.1=some .cell\/X.env.kindOf y.1=some .free
 ix:∀j∈ci,j<X.N.length/\scope.names.lookup (X.N.getD j "")=some .free
noncomputable def compOk(fsc:Scope)(N:List Str)(scope:Scope)(ci:List Nat):Bool:=
 scope.kind == .function&&scope.names.all (fun y=>y.2 != .cell||scope.names.lookup y.1==some .cell)&&scope.names.all (fun y=>y.2 != .local||scope.names.lookup y.1==some .local) &&
 scope.names.all (fun y=>y.2 != .free||fsc.names.lookup y.1==some .cell||fsc.names.lookup y.1==some .free)&&ci.all (fun j=>decide (j<N.length)&&scope.names.lookup (N.getD j "")==some .free)
theorem CompScope.of(a:Scope)(N:List Str)(c:X.env.scope=a)(d:X.N=N)(h:compOk a N scope ci=true):CompScope X scope ow ci:=by
 subst c d;unfold compOk at h;simp only[Bool.and_eq_true,all_eq_true,Bool.or_eq_true,bne_iff_ne,ne_eq,beq_iff_eq,decide_eq_true_eq]at h;obtain⟨⟨⟨⟨f,g⟩,i⟩,k⟩,l⟩:=h;refine⟨f,fun y b e=>(g y b).resolve_left fun z=>z e,fun y b e=>?_,fun y b e=>?_,fun j m=>l j m⟩
 ·rcases i y b with z | z
  ·exact uB e z
  ·exact z
 ·rcases k y b with(z | z) | z
  ·exact uB e z
  ·exact .inl z
  ·exact .inr z
theorem jK{a:Hp}(N:List Str)(e:X.N=N)(h:(ow++ci.map fun j=>N.getD j "").Nodup):(blk X scope ow ci C s₀ a ex pn).N.Nodup:=by
 subst e;exact h
theorem kG{env:Env}:∀{names:List (Str×NameKind)} {x:Str},(names.lookup x=some .cell\/names.lookup x=some .free)->
  (names.map fun(n,k)=>if(k==NameKind.free&&env.scope.kind == .function&&env.kindOf n==some .cell)then(n,NameKind.cell)else(n,k)).lookup x=some .cell\/
  (names.map fun(n,k)=>if(k==NameKind.free&&env.scope.kind == .function&&env.kindOf n==some .cell)then(n,NameKind.cell)else(n,k)).lookup x=some .free
 | [],_,h=>by simp at h
 | (n,k)::r,x,h=>by
  have b:=@kG env r x;rw[uy];dsimp only;cases hx:x==n with
  | true=>
   simp only[lookup_cons,hx]at h;by_cases a:(k==NameKind.free&&env.scope.kind == .function&&env.kindOf n==some .cell)=true
   ·rw[vc a];exact .inl (by simp only[lookup_cons,hx])
   ·rw[vb a];simp only[lookup_cons,hx];exact h
  | false=>
   simp only[lookup_cons,hx]at h;by_cases a:(k==NameKind.free&&env.scope.kind == .function&&env.kindOf n==some .cell)=true
   ·rw[vc a];simp only[lookup_cons,hx];exact b h
   ·rw[vb a];simp only[lookup_cons,hx];exact b h
theorem CompScope.ofB{X:Cx}{a d:Scope}{c ow:List Str}{b ci:List Nat}{C:Addr}{g:Shared}{f:Hp}{k:List Addr}{pn:List (Addr×Obj)}(N:List Str)(e:(blk X a c b C g f k pn).N=N)
  (h:compOk a N d ci=true):CompScope (blk X a c b C g f k pn) d ow ci:=by
 unfold compOk at h;simp only[Bool.and_eq_true,all_eq_true,Bool.or_eq_true,bne_iff_ne,ne_eq,beq_iff_eq,decide_eq_true_eq]at h;obtain⟨⟨⟨⟨l,m⟩,n⟩,o⟩,p⟩:=h;refine⟨l,fun y i e=>(m y i).resolve_left fun z=>z e,fun y i e=>(n y i).resolve_left fun z=>z e,fun y i q=>?_,fun j r=>by rw[e];exact p j r⟩;refine kG ?_;rcases o y i with(z | z) | z
 ·exact uB q z
 ·exact .inl z
 ·exact .inr z
noncomputable def capAt(σ:St)(j:Nat):Option V:=match σ[j]? with | some o=>o | none=>none
noncomputable def capS(n:Nat)(ci:List Nat)(σ:St):St:=List.replicate n none++ci.map (capAt σ)
def tComp(wi:TI)(n:Nat)(ci:List Nat)(g:TG)(tf:TT)(te:TE):TE:=fun σ H Q=>wi σ H fun J H1=>∃W:Nat->Nat->List V->Hp->Prop,(∃m,W 0 m [] H1)/\∀i m ys H,W i m ys H->
 (J.stop i H/\ys.length<=sizeLine/\∀p,H p=none->Q (.ref p) (upd H p (.lst ys)))\/
 (J.go i H/\∃N:List V->Hp->Prop,(∀ys' H',N ys' H'->∃m',m'<m/\W (i+1) m' ys' H')/\∀x H',J.yld i H x H'->g x (capS n ci σ) H' fun σ2 H2=>tf σ2 H2 fun b H3=>
  if b=true then te σ2 H3 fun v H4=>ys.length<sizeLine/\N (ys++[v]) H4 else N ys H3)
section
variable{X:Cx}{pins:List (Addr×Obj)}{σ:St}{H:Hp}{s:Shared}{elt iter tg:Expr}{ifs:List Expr}{scope:Scope}{pos:Pos}{ow:List Str}{ci:List Nat}{g:TG}{tf:TT}{te:TE}
theorem CompScope.cells(S:CompScope X scope ow ci)(b:X.Ok):∀y∈scope.names,y.2 = .free->∃c,X.env.cells.lookup y.1=some c:=fun y a e=>b.has y.1 (S.free y a e)
theorem CompScope.sub(S:CompScope X scope ow ci)(a:X.Ok):∀x c,(closL X.env scope.names []).lookup x=some c->X.env.cells.lookup x=some c:=
 KI scope.names [] (S.cells a) fun _ _ e=>by simp at e
theorem CompScope.cel(S:CompScope X scope ow ci)(a:X.Ok)(h:(cellsFrom (C+1) scope.names (closL X.env scope.names [])).lookup x=some c):C+1<=c\/X.env.cells.lookup x=some c:=
 (Yo _ _ _ _ _ h).imp id (S.sub a x c)
theorem j47(S:CompScope X scope ow ci)(I:Inv X pins σ H s)(f:s.heap.objs.size<=C)
  (a:∀b∈ex,b<s.heap.objs.size/\FpOk X pins H b):(blk X scope ow ci C s H ex pn).Ok where
 mod:=I.ok.mod
 kind:=S.kind
 glob:=I.ok.glob
 blt:=I.ok.blt
 above:=f
 inj:=xO scope.names (C+1) _ (fun x c e=>by
   obtain⟨v,q⟩:=I.cell x c (S.sub I.ok x c e);exact Nat.lt_succ_of_le (v3 (Nat.lt_of_lt_of_le q.lt f))) fun x y c i j=>I.ok.inj x y c (S.sub I.ok x c i) (S.sub I.ok y c j)
 has:=fun x h=>by
  have n:∃k,(relabel scope X.env).names.lookup x=some k/\(k = .cell\/k = .free):=by
   rcases h with h | h
   ·exact⟨_,h,.inl rfl⟩
   ·exact⟨_,h,.inr rfl⟩
  obtain⟨k,t,r⟩:=n;obtain⟨m,l,_,e⟩:=Qx (env:=X.env) t;have g:m = .cell\/m = .free:=by
   rcases e with e | ⟨e,_⟩
   ·subst e;exact r
   ·exact .inr e
  rcases g with g | g
  ·subst g;exact xN scope.names _ _ x l
  ·subst g;exact wy scope.names _ _ x (Yp scope.names [] x l)
 cab:=fun x c h e=>vY (vY f (Nat.le_succ _)) (xS scope.names (C+1) (C+1) _ x c (va _) (.inl (PySem.mem_of_lookup (beq_iff_eq.mp h))) e)
 hd:=I.ok.hd
 frames:=I.ok.frames
 stk:=.inl rfl
 exf:=fun b d=>⟨vF (Nat.lt_of_lt_of_le (a b d).1 f),fun x c e=>(S.cel I.ok e).elim (fun q z=>Nat.lt_irrefl _ (Nat.lt_of_lt_of_le (z▸(a b d).1) (vY f (vY (Nat.le_succ _) q)))) fun q=>(a b d).2.2.2.2.2.1 x c q⟩
 bs:=I.bs
 bsz:=vY I.ok.bsz I.sz
 noex:=fun b o e d=>by
  obtain⟨_,_,_,p,_⟩:=(a b d).2;rcases p with z | z
  ·exact I.ok.noex b o e z
  ·exact uB (Nat.lt_of_lt_of_le (vJ e) (vY I.ok.bsz z)) (Nat.lt_irrefl _)
 exfs:=fun b d z=>by
  obtain⟨_,i,j,_⟩:=(a b d).2;rcases mem_cons.mp (I.stkSub b z)with e | e
  ·exact i e
  ·exact j e
 funs:=I.stack
 frf:=I.stkFree
theorem j0k(S:CompScope X scope ow ci)(I:Inv X pins σ H s){h:Str->Option Value}(D:s.heap.objs.size<=C)
  (F:∀b∈ex,b<s.heap.objs.size/\FpOk X pins H b) (Z:h₁.Ns C h) (k:∀b o,s.heap.get? b=some o->h₁.get? b=some o)
  (A:∀x c,(cellsFrom (C+1) scope.names (closL X.env scope.names [])).lookup x=some c->(closL X.env scope.names []).lookup x=some c\/h₁.IsCell c none) :
  Inv (blk X scope ow ci C s H ex (X.pn++pins)) [] (capS ow.length ci σ) H {s with heap:=h₁,toks:=t₁}:=by
 have ok:=j47 (pn:=X.pn++pins) S I D F;refine⟨ok,rfl,I.bare,Un.kept k,⟨h,Z,fun i x v Q f R=>?_⟩,fun x c e=>?_,I.hok.fresh D,fun x c e=>(S.cel I.ok e).elim (fun q=>I.hok.fresh (vY D (vY (Nat.le_succ _) q))) (I.freeC x c),fun p hp=>?_,I.hok.kept k,?_⟩
 ·have l:(ow++ci.map fun j=>X.N.getD j "")[i]?=some x:=Q;unfold capS at f;by_cases G:i<ow.length
  ·rw[vC (by simpa using G),List.getElem?_replicate,vc G]at f;cases f
  ·rw[vD (by simpa using G),vv,List.length_replicate]at f;rw[vD (by lia),vv]at l;cases hj:ci[i-ow.length]? with
   | none=>rw[hj]at f;cases f
   | some j=>
    rw[hj]at l f;obtain⟨Y,E⟩:=S.ix j (vj hj);have w:X.N.getD j ""= x:=vM l;have T:X.N[j]?=some x:=by
     rw[<-w,vy,vz Y];rfl
    have U:σ[j]?=some (some v):=by
     have a:capAt σ j=some v:=vM f;unfold capAt at a;cases q:σ[j]? with
     | none=>rw[q]at a;cases a
     | some o=>rw[q]at a;rw[show o=some v from a]
    rw[w]at E;have g:(x,NameKind.free)∈scope.names:=PySem.mem_of_lookup E;have N:=S.free _ g rfl;obtain⟨m,_,J⟩:=I.loc;have L:Vis X.env.scope x:=by
     rcases N with q | q
     ·exact .inr (.inl q)
     ·exact .inr (.inr q)
    obtain⟨u,r,lk⟩:=J j x v T U L;refine⟨u,r,.inr ⟨?_,?_⟩⟩
    ·rcases R with q | q | q
     ·obtain⟨k',_,M,B⟩:=Qx (env:=X.env) q;rw[E]at M;cases M;rcases B with B | ⟨_,B⟩<;>cases B
     ·exact .inl q
     ·exact .inr q
    ·rcases lk with⟨q,_⟩ | ⟨_,c,W,t⟩
     ·have O:X.env.kindOf x=some .local:=q;rcases N with z | z<;>(rw[z]at O;cases O)
     ·obtain⟨P,y⟩:=Yp (env:=X.env) scope.names [] x g;have e:=S.sub I.ok x P y;rw[W]at e;cases e;refine⟨c,?_,t.keeps k⟩;show(cellsFrom (C+1) scope.names (closL X.env scope.names [])).lookup x=some c;rw[xT scope.names _ _ x fun z=>?_]
      ·exact y
      ·have:=S.cell _ z rfl;rw[E]at this;cases this
 ·rcases A x c e with q | q
  ·obtain⟨v,q⟩:=I.cell x c (S.sub I.ok x c q);exact⟨v,q.keeps k⟩
  ·exact⟨_,q⟩
 ·have K:p∈X.pn++pins:=by
   rcases vg.mp hp with z | z
   ·exact z
   ·cases z
  obtain⟨e,n,ne,nf,d⟩:=I.pin p K;refine⟨k _ _ e,n,vF (Nat.lt_of_lt_of_le (vJ e) D),fun z=>?_,d⟩;rcases mem_cons.mp (I.stkSub p.1 z)with q | q
  ·exact ne q
  ·exact nf q
 ·show(capS ow.length ci σ).length=(ow++ci.map fun j=>X.N.getD j "").length;simp[capS]
theorem Inv.forget{σ':St}(I:Inv X pins σ' H s)(n:Nat)(ci:List Nat)(a:St)(c:(capS n ci a).length=X.N.length)(h:∀i v,n<=i->(capS n ci a)[i]?=some (some v)->σ'[i]?=some (some v)):Inv X pins (capS n ci a) H s:=
 I.weak (by rw[c,I.len]) fun i v e=>by
  by_cases b:n<=i
  ·exact h i v b e
  ·unfold capS at e;rw[vC (by simpa using b),List.getElem?_replicate,vc (by lia)]at e;cases e
def GKeeps(n:Nat)(g:TG):Prop:=∀x σ H (Q:St->Hp->Prop),g x σ H Q->g x σ H fun σ2 H2=>(∀(i:Nat) v,n<=i->σ[i]?=some (some v)->σ2[i]?=some (some v))/\Q σ2 H2
theorem jZ(h:i<n):GKeeps n (gName i):=fun x b H Q q=>⟨fun j v a e=>by rw[List.getElem?_set_ne (by lia)];exact e,q⟩
theorem Z1{K:Frg}{n i j:Nat}(hi:i<n)(p:j<n):GKeeps n (gTup K 2 (gCons (gName i) (gCons (gName j) gNil))):=fun x t H Q q=>by
 obtain⟨a,o,b,c,d,v,r,f,m,l,g,h,q⟩:=q;refine⟨a,o,b,c,d,v,r,f,m,l,g,h,fun k u s e=>?_,q⟩;rw[List.getElem?_set_ne (by lia),List.getElem?_set_ne (by lia)];exact e
theorem kq{E:Value->Shared->Prop}{tn:Nat->Heap->Prop}{RR:Value->Addr->Result->Shared->Prop}(hc:X.calm=true)(S:CompScope X scope ow ci)(hk:GKeeps ow.length g)
  (a:∀C F y ex pn,PG (blk X scope ow ci C F y ex pn) tg g/\PF (blk X scope ow ci C F y ex pn) ifs tf/\PE (blk X scope ow ci C F y ex pn) elt te)
  (I:Inv X pins σ H s) (T:Turn X.prog X.w X.K tg J fp it tn) (st:tn 0 s.heap) (hf:∀b∈fp,FpOk X pins H b) (Z:List V->Hp->Prop)
  (W:Nat->Nat->List V->Hp->Prop) (w0:∃m,W 0 m [] H)
  (aP:∀i m ys H,W i m ys H->(J.stop i H/\ys.length<=sizeLine/\Z ys H)\/
   (J.go i H/\∃N:List V->Hp->Prop,(∀aQ H',N aQ H'->∃m',m'<m/\W (i+1) m' aQ H')/\∀x H',J.yld i H x H'->g x (capS ow.length ci σ) H' fun aR H2=>tf aR H2 fun b H3=>
    if b=true then te aR H3 fun v H4=>ys.length<sizeLine/\N (ys++[v]) H4 else N ys H3))
  (aY:∀D C s' H' m ys,Inv X pins σ (upd H' D (.lst ys)) s'->H' D=none->Z ys H'->s'.heap.Ns C m->s.heap.objs.size<=C->C≠D->H' C=none->RR (.ref D) C (.ok .next) s') :
  wpAny (model X.prog X.w) X.A (newList []) (fun an aN=>wpAny (model X.prog X.w) X.A (newFunctionEnv scope X.env.globals (closL X.env scope.names []) [] X.env.qual none .none (some X.env)) (fun a6 aO=>
   codeAny (model X.prog X.w) X.A (.compStart (.ListComp elt [⟨tg,iter,ifs,0⟩] scope pos) 0 (.ref it) an {a6 with scope:=relabel scope X.env}) (RR an a6.locals) aO) E aN) E s:=by
 refine wpAny_newObj_type (envC ?_);dsimp only;generalize O:({s with heap:=s.heap.push {cls:=.type "list",dict:=none,data:=.seq ([]:List Value).toArray}}:Shared)=s3;have e3:s3.heap=s.heap.push {cls:=.type "list",dict:=none,data:=.seq ([]:List Value).toArray}:=by rw[<-O]
 rw[<-e3];generalize ad:pushCells (s3.heap.push {cls:=.type "dict",data:=.dict #[]}) scope.names=h₁;have k3:∀b o,s.heap.get? b=some o->s3.heap.get? b=some o:=fun b o e=>by rw[e3];exact vK _ e
 have hsz:s3.heap.objs.size=s.heap.objs.size+1:=by rw[e3,Heap.size_push]
 have I3:Inv X pins σ H s3:=by rw[<-O];exact I.kept (t':=s.toks) fun b o e=>vK _ e
 have b4:s3.heap.get? s.heap.objs.size=some {cls:=.type "list",dict:=none,data:=.seq ([]:List Value).toArray}:=by rw[e3];exact Heap.get?_push_size _ rfl
 generalize ac:s.heap.objs.size=D at *;generalize l:s3.heap.objs.size=C at *;have A:D<C:=by lia
 have ar:H D=none:=I.hok.fresh (Nat.le_of_eq ac);have aZ:FpOk X pins H D:=I.fpOk (Nat.le_of_eq ac) ar;have ae:∀(b:Addr) o,s.heap.get? b=some o->b<D:=fun b o e=>by rw[<-ac];exact vJ e
 have bd:∀(b:Addr) o,s3.heap.get? b=some o->b<C:=fun b o e=>by rw[<-l];exact vJ e
 have a8:∀b∈fp,b<D:=fun b a=>by
  obtain⟨o,e,_⟩:=T.obj 0 _ st b a;exact ae b o e
 have G:∀b∈D::fp,b<s3.heap.objs.size/\FpOk X pins H b:=fun b a=>by
  rw[l];rcases mem_cons.mp a with rfl | a
  ·exact⟨A,aZ⟩
  ·exact⟨v4 (a8 b a) A,hf b a⟩
 have kk:∀b o,s3.heap.get? b=some o->h₁.get? b=some o:=fun b o e=>by rw[<-ad];exact pushCells_keeps _ _ b o (vK _ e)
 have M:h₁.Ns C fun _=>none:=by rw[<-ad,<-l];exact(Heap.Ns.new s3.heap (.type "dict")).keeps (pushCells_keeps _ _)
 have ay:∀x c,(cellsFrom (C+1) scope.names (closL X.env scope.names [])).lookup x=some c->(closL X.env scope.names []).lookup x=some c\/h₁.IsCell c none:=fun x c e=>by
  rw[<-ad];refine ko scope.names _ _ x c ?_;rw[Heap.size_push,l];exact e
 obtain⟨hg,av,he⟩:=a C s3 H (D::fp) (X.pn++pins);generalize w:blk X scope ow ci C s3 H (D::fp) (X.pn++pins)=Y at hg av he;have f:Y.prog=X.prog:=by rw[<-w];rfl
 have Yw:Y.w=X.w:=by rw[<-w];rfl
 have YK:Y.K=X.K:=by rw[<-w];rfl
 have YA:Y.A=X.A:=by rw[<-w];rfl
 have Yc:Y.calm=true:=by rw[<-w];exact hc
 have h:Y.env=compEnvC scope (cellsFrom (C+1) scope.names (closL X.env scope.names [])) C X.env:=by rw[<-w];rfl
 have aa:Y.xe=fun _ _=>False:=by rw[<-w];rfl
 have am:Y.fs=frs X.stack:=by rw[<-w];rfl
 have al:Y.ex=D::fp:=by rw[<-w];rfl
 have aW:Y.pn=X.pn++pins:=by rw[<-w];rfl
 have Ys:Y.s₀=s3:=by rw[<-w];rfl
 have YH:Y.H₀=H:=by rw[<-w];rfl
 have YN:(capS ow.length ci σ).length=Y.N.length:=by rw[<-w];show(capS ow.length ci σ).length=(ow++ci.map fun j=>X.N.getD j "").length;simp[capS]
 have af:∀b∈D::fp,b≠Y.env.locals/\b∉Y.fs/\b∈Y.ex/\(∀x c,Y.env.cells.lookup x=some c->c≠b)/\∀p∈Y.pn,p.1≠b:=fun b a=>by
  obtain⟨h0,h1,h2,h3,h4,h5⟩:=(G b a).2;refine⟨by rw[h];exact vF (l▸(G b a).1),fun z=>?_,by rw[al];exact a,fun x c e=>?_,by rw[aW];exact h5⟩
  ·rw[am]at z;rcases mem_cons.mp (I.stkSub b z)with q | q
   ·exact h1 q
   ·exact h2 q
  ·rw[h]at e;rcases S.cel I.ok e with q | q
   ·exact fun z=>Nat.lt_irrefl _ (Nat.lt_of_lt_of_le (l▸(G b a).1) (vY (Nat.le_succ _) (z▸q)))
   ·exact h4 x c q
 have aE:D∉fp:=fun z=>Nat.lt_irrefl _ (a8 D z)
 have aC:∀s4:Shared,Inv Y [] (capS ow.length ci σ) H s4->tn 0 s4.heap->s4.heap.PlainList D #[]->
   codeAny (model X.prog X.w) X.A (.compLoop (.ListComp elt [⟨tg,iter,ifs,0⟩] scope pos) 0 (.ref it) (.ref D) (compEnvC scope (cellsFrom (C+1) scope.names (closL X.env scope.names [])) C X.env)) (RR (.ref D) C) s4:=by
  intro s4 J4 Q ag;obtain⟨m0,w0⟩:=w0;refine compLoopT (fun n s'=>∃i ys k H',Inv Y [] (capS ow.length ci σ) H' s'/\tn i s'.heap/\(∀b∈fp,H' b=none)/\H' D=none/\s'.heap.PlainList D k/\Vals ys k.toList/\W i n ys H') ?_ m0
   ⟨0,[],#[],H,J4,Q,fun b a=>(hf b a).1,ar,ag,.nil,w0⟩
  rintro n s5 ⟨i,ys,k,U,J5,aK,ap,t,⟨aH,b9⟩,R,w5⟩;have vl:ys.length=k.size:=by have:=R.length;simpa using this
  have aF:∀{H':Hp} {s':Shared} {ai:St},Inv Y [] ai H' s'->H' D=none->∀{o:Obj},s'.heap.get? D=some o->(∀v,o.data≠.cell v)->Inv Y [(D,o)] ai H' s':=fun {H' s' ai} K hD o e d=>
   K.pins_of fun p hp=>by
    have ep:p=(D,o):=by simpa using hp
    subst ep;obtain⟨a1,a2,_⟩:=af D vq;exact⟨e,hD,a1,a2,d⟩
  have P5:=aF J5 t b9 (fun v z=>by cases z);have ab:∀{H':Hp},(∀b∈fp,H' b=none)->∀{o:Obj},∀b∈fp,FpOk Y [(D,o)] H' b:=fun {H'} hn {o} b a=>by
   obtain⟨a1,a2,a3,a4,a5⟩:=af b (vp _ a);refine⟨hn b a,a1,a2,.inl a3,a4,fun p hp=>?_⟩;rcases vg.mp hp with q | q
   ·exact a5 p q
   ·have ep:p=(D,o):=by simpa using q
    subst ep;exact fun z=>aE (by have z':D=b:=z;rw[z'];exact a)
  rcases aP i n ys U w5 with⟨aM,aB,z5⟩ | ⟨go,NN,as,aL⟩
  ·have d:=T.done Y f Yw YK Yc i [(D,_)] s5 _ U (fun _ _=>False) P5 (ab ap) aK aM;rw[YA]at d;refine thn d fun r s6 ⟨hr,J6⟩=>?_
   subst hr;have D6:=(J6.pin (D,_) (mem_append_right _ vq)).1;obtain⟨mC,aw,_⟩:=J6.loc;rw[h]at aw;have ax:s6.heap.Ns C mC:=aw;have b3:U C=none:=by have:=J6.free;rw[h]at this;exact this
   refine aY D C s6 U mC ys ?_ t z5 ax (v3 A) (Nat.ne_of_gt A) b3;have B:=J6.base;rw[am,al,YH,Ys]at B;have aD:∀b o,s.heap.get? b=some o->b≠D/\b≠C:=fun b o e=>⟨vF (ae b o e),vF (v4 (ae b o e) A)⟩
   have P:∀b o,s.heap.get? b=some o->b∉fp->b∉D::fp:=fun b o e a z=>by
    rcases mem_cons.mp z with q | q
    ·exact(aD b o e).1 q
    ·exact a q
   have uN:Un (frs X.stack) fp H (upd U D (.lst ys)) s.heap s6.heap:=by
    refine⟨fun b o e n a hx=>B.keep b o (k3 b o e) n a (P b o e hx),fun b o e n a hx=>B.slot b o (k3 b o e) n a (P b o e hx),fun b o e n hx=>?_,fun b o e hx=>B.there b o (k3 b o e) (P b o e hx),fun b xs q=>?_,fun b o u q=>?_,fun b ps q=>?_⟩
    ·rw[jg (aD b o e).1];exact B.free b o (k3 b o e) n (P b o e hx)
    ·rw[jg (je (B.tups b xs q) t)];exact B.tups b xs q
    ·rw[jg (je (B.frzs b o u q) t)];exact B.frzs b o u q
    ·obtain⟨mo,q'⟩:=B.tbls b ps q;exact⟨mo,by rw[jg (je q' t)];exact q'⟩
   have az:HOk X.prog X.w U s6.heap:=by rw[<-f,<-Yw];exact J6.hok
   have aA:HOk X.prog X.w (upd U D (.lst ys)) s6.heap:=fun b u e=>by
    by_cases au:b=D
    ·subst au;rw[jt]at e;cases e;exact⟨aB,k.toList,_,R,by simpa using D6⟩
    ·rw[jg au]at e;exact(az b u e).stay (fun c v _ q=>q) (fun c q=>by rw[jg (je q t)];exact q) fun c xs q=>by rw[jg (je q t)];exact q
   refine I.call' (by rw[J6.os,Ys,<-O]) uN aA J6.bare fun b a=>?_
   obtain⟨h0,h1,h2,h3,h4,h5⟩:=hf b a;exact⟨h3,h1,h4,h5⟩
  ·have d:=T.item Y f Yw YK Yc i [(D,_)] s5 _ U (fun _ _=>False) P5 (ab ap) aK go;rw[YA]at d;refine thn d fun r s6 ⟨u,hr,h6⟩=>?_
   subst hr;refine thn h6 fun _ s7 ⟨x,H7,J7,r7,y7,ah,b0⟩=>?_
   have aT:=J7.pinned (ab b0) (T.obj _ _ ah);have h8:=hg _ s7 _ H7 x u _ aT r7 (hk _ _ _ _ (aL x H7 y7));rw[f,Yw,YA,h,aa]at h8;refine thn h8 fun _ s8 ⟨aj,H8,J8,b7,q8⟩=>?_
   have h9:=av _ s8 aj H8 _ J8 q8;rw[f,Yw,YA,h,aa]at h9;refine thn h9 fun b s9 ⟨H9,J9,q9⟩=>?_
   have a0:∀{H':Hp} {s':Shared},Inv Y ([(D,({cls:=.type "list",data:=.seq k aH}:Obj))]++pinsAt fp s7.heap) aj H' s'->Inv Y [] (capS ow.length ci σ) H' s'/\tn (i+1) s'.heap/\(∀b∈fp,H' b=none)/\H' D=none/\s'.heap.get? D=some {cls:=.type "list",data:=.seq k aH}:=fun {H' s'} K=>by
    have pD:=K.pin (D,_) (mem_append_right _ (mem_append_left _ vq));refine⟨(K.pins_of (pins':=[]) (by simp)).forget _ _ _ YN (fun j v hj e=>b7 j v hj e),T.keep _ _ _ ah fun b a o e=>(K.pin (b,o) (mem_append_right _ (mem_append_right _ (zQ a e)))).1,fun b a=>?_,pD.2.1,pD.1⟩;obtain⟨o,e,_⟩:=T.obj _ _ ah b a;exact(K.pin (b,o) (mem_append_right _ (mem_append_right _ (zQ a e)))).2.1
   cases b with
   | false=>
    rw[vb vG]at q9|-;obtain⟨m',hm,w9⟩:=as _ _ q9;obtain⟨K9,bb,b1,b5,e9⟩:=a0 J9;exact⟨m',hm,i+1,ys,k,H9,K9,bb,b1,b5,⟨_,e9⟩,R,w9⟩
   | true=>
    rw[vc rfl]at q9|-;have aq:=he _ s9 aj H9 _ J9 q9;rw[f,Yw,YA,h,aa]at aq;refine thn aq fun z aI ⟨v,ak,aS,ba,b6,b8⟩=>?_
    obtain⟨m',hm,bc⟩:=as _ _ b8;obtain⟨aU,aJ,ao,a7,aX⟩:=a0 aS;refine wpAny_list_append_plain (hsz:=by rw[<-vl];exact v3 b6) ⟨_,aX⟩ fun b2 aG a9=>?_
    obtain⟨a1,a2,a3,a4,a5⟩:=af D vq;have aV:Inv Y [] (capS ow.length ci σ) ak {aI with heap:=b2}:=aU.turned (t':=aI.toks) (fun b o a e=>(a9.2 b a).trans e) a7 a1 (.inl a3) a4 (fun p hp=>a5 p (by simpa using hp));refine⟨m',hm,i+1,ys++[v],k.push z,ak,aV,T.keep _ _ _ aJ fun b a o e=>(a9.2 b (fun q=>aE (q▸a))).trans e,ao,a7,aG,?_,bc⟩;rw[Array.toList_push];exact R.append (.cons ba .nil)
 have J4:Inv Y [] (capS ow.length ci σ) H {s3 with heap:=h₁}:=by
  rw[<-w];exact j0k (t₁:=s3.toks) S I3 (Nat.le_of_eq l) G M kk ay
 have Q:tn 0 h₁:=T.keep _ _ _ st fun b _ o e=>kk b o (k3 b o e)
 have ag:h₁.PlainList D #[]:=⟨_,kk _ _ b4⟩
 have L:=aC _ J4 Q ag;subst O;exact codeAny_compStart_list L (T.self _ 0 _ _ _ Q L)
variable{wi:TI}
theorem j5(P:X.calm=true)(S:CompScope X scope ow ci)(R:GKeeps ow.length g)(hi:PI X tg iter wi)
  (n:∀C c a ex pn,PG (blk X scope ow ci C c a ex pn) tg g/\PF (blk X scope ow ci C c a ex pn) ifs tf/\PE (blk X scope ow ci C c a ex pn) elt te)
  (hs:∀x,foldedSetIterable iter X.env x=pure x:=by intro _;rfl):PE X (.ListComp elt [⟨tg,iter,ifs,0⟩] scope pos) (tComp wi ow.length ci g tf te):=by
 intro d s u H Q I h;rw[eval_ListComp];refine wpAny_comprehension_free (use:=none) rfl hs (yK (S.cells I.ok)) S.kind S.names (thn (hi d s u H _ I h) fun v s1 L=>thn L fun Y s2 M=>?_);obtain⟨it,fp,tn,J,H2,e,t,T,r,A,W,w0,f⟩:=M;subst e;refine kq (RR:=fun j C=>compPost (model X.prog X.w) X.A X.xe none (EP X d u Q) j C) P S R n t T r A (fun i H=>∀p,H p=none->Q (.ref p) (upd H p (.lst i))) W w0 f fun D C Z H' m i K O z U N l k=>?_
 refine⟨m,U,fun h' q=>⟨.ref D,upd H' D (.lst i),?_,rfl,z D O⟩⟩;obtain⟨w,y,B,E,F,G⟩:=t.fpOk (H':=upd H' D (.lst i)) N (by rw[jg l];exact k);exact K.turned (t':=Z.toks) (fun b o n e=>(q.2 b n).trans e) w y E F G
theorem zX(hc:X.calm=true)(S:CompScope X scope ow ci)(hk:GKeeps ow.length g)(hN:X.N.Nodup)(A:X.N[i]?=some x)(hx:Loc X.env.scope x)(hi:PI X tg iter wi)
  (t:∀C f c ex pn,PG (blk X scope ow ci C f c ex pn) tg g/\PF (blk X scope ow ci C f c ex pn) ifs tf/\PE (blk X scope ow ci C f c ex pn) elt te)
  (y:swapsWith (.ListComp elt [⟨tg,iter,ifs,0⟩] scope pos) (some (.Name x px)) spos.line X.env=pure true:=by rfl)
  (hf:X.fn x=true\/X.env.scope.names.lookup x=some .local:=by first | exact .inl rfl | exact .inr rfl | assumption)
  (hs:∀x,foldedSetIterable iter X.env x=pure x:=by intro _;rfl):PS X (.Assign [.Name x px] (.ListComp elt [⟨tg,iter,ifs,0⟩] scope pos) spos) (tAsg (tComp wi ow.length ci g tf te) (gName i)):=by
 intro d s M H D I h;rw[exec_Assign_Name_used _ _ _ _ y];refine ub (wpAny_standAt (ub ?_));show wpAny _ X.A (do let _ <-comprehension (.ListComp elt [⟨tg,iter,ifs,0⟩] scope pos) scope X.env _ (newList []) false (eval iter X.env) (some (assign (.Name x px) X.env))) _ _ s;refine ub (wpAny_mono (wpAny_comprehension_free (use:=some (assign (.Name x px) X.env)) (Q:=fun _ j=>SP X d D .next j) rfl hs (yK (S.cells I.ok)) S.kind S.names
  (thn (hi d s M H _ I h) fun v s1 h1=>thn h1 fun a0 s2 h2=>?_)) (fun _ j hq=>uA (uA hq)) fun _ _ e=>e)
 obtain⟨it,fp,tn,J,H2,e,F,T,B,R,W,w0,k⟩:=h2;subst e;refine kq (RR:=fun l C=>compPost (model X.prog X.w) X.A X.xe (some (assign (.Name x px) X.env)) (fun _ j=>SP X d D .next j) l C) hc S hk t F T B R
  (fun E H=>∀p,H p=none->gName i (.ref p) M (upd H p (.lst E)) D.nx) W w0 k fun P C j H' m E K hD z hn hC r n=>?_
 obtain⟨O,G,U,Y,L,Z⟩:=F.fpOk (H':=upd H' P (.lst E)) hC (by rw[jg r];exact n);show wpAny _ X.A (assign (.Name x px) X.env (.ref P)) _ _ j;refine wpAny_assign_Name (KY K hN A hx (v:=.ref P) rfl (fun s3 N ⟨a,w,ha⟩=>⟨m,hn.sameBut w ?_,fun h' u=>?_⟩) hf)
 ·rcases ha with q | q
  ·rw[q];exact G
  ·exact fun z=>L x a q z.symm
 ·exact⟨_,_,N.turned (t':=s3.toks) (fun b o t e=>(u.2 b t).trans e) O G Y L Z,z P hD⟩
theorem qM{lo:Int}{n k:Nat}{ci:List Nat}{g:TG}{q:TT}{o:TE}{r:St}{H:Hp}{Z:Addr->List V->Hp->Prop}(c:Nat->List V->Hp->Prop)(s:c 0 [] H)
  (hs:∀i ys H,i<n->c i ys H->g (.int (lo+i)) (capS k ci r) H fun a H2=>q a H2 fun b h=>if b=true then o a h fun v j=>ys.length<sizeLine/\c (i+1) (ys++[v]) j else c (i+1) ys h)
  (t:∀ys H,c n ys H->ys.length<=sizeLine/\∀p,H p=none->Z p ys H) :
  ∃W:Nat->Nat->List V->Hp->Prop,(∃m,W 0 m [] H)/\∀i m ys H,W i m ys H->
   ((Itr lo n).stop i H/\ys.length<=sizeLine/\∀p,H p=none->Z p ys H)\/
   ((Itr lo n).go i H/\∃N:List V->Hp->Prop,(∀f H',N f H'->∃l,l<m/\W (i+1) l f H')/\∀x H',(Itr lo n).yld i H x H'->g x (capS k ci r) H' fun a H2=>q a H2 fun b h=>
    if b=true then o a h fun v j=>ys.length<sizeLine/\N (ys++[v]) j else N ys h):=by
 refine⟨fun i m ys H=>m=n-i/\i<=n/\c i ys H,⟨n,by simp,vA _,s⟩,?_⟩;rintro i m ys H ⟨rfl,w,p⟩;by_cases d:i<n
 ·refine .inr ⟨d,c (i+1),fun f H' u=>⟨n-(i+1),by lia,rfl,d,u⟩,fun x H' y=>?_⟩;obtain⟨e,y⟩:=y;subst e y;exact hs i ys _ d p
 ·have e:i=n:=by lia
  subst e;exact .inl ⟨va _,t ys H p⟩
theorem jR{K:Frg}{a:Addr}{xs:List V}{k:Nat}{ci:List Nat}{g:TG}{r:TT}{o:TE}{s:St}{H:Hp}{Z:Addr->List V->Hp->Prop}(d:Nat->List V->Hp->Prop)(t:d 0 [] H)(z:∀i ys H,i<=xs.length->d i ys H->SqL K H a xs)
  (hs:∀i x ys H,xs[i]?=some x->d i ys H->g x (capS k ci s) H fun c H2=>r c H2 fun b h=>if b=true then o c h fun v l=>ys.length<sizeLine/\d (i+1) (ys++[v]) l else d (i+1) ys h)
  (u:∀ys H,d xs.length ys H->ys.length<=sizeLine/\∀p,H p=none->Z p ys H) :
  ∃W:Nat->Nat->List V->Hp->Prop,(∃m,W 0 m [] H)/\∀i m ys H,W i m ys H->
   ((Itl K a).stop i H/\ys.length<=sizeLine/\∀p,H p=none->Z p ys H)\/
   ((Itl K a).go i H/\∃N:List V->Hp->Prop,(∀f H',N f H'->∃n,n<m/\W (i+1) n f H')/\∀x H',(Itl K a).yld i H x H'->g x (capS k ci s) H' fun c H2=>r c H2 fun b h=>
    if b=true then o c h fun v l=>ys.length<sizeLine/\N (ys++[v]) l else N ys h):=by
 refine⟨fun i m ys H=>m=xs.length-i/\i<=xs.length/\d i ys H,⟨xs.length,by simp,vA _,t⟩,?_⟩;rintro i m ys H ⟨rfl,w,p⟩;have q:=z i ys H w p;by_cases j:i<xs.length
 ·refine .inr ⟨⟨xs,xs[i],q,by simp[j]⟩,d (i+1),fun f H' A=>⟨xs.length-(i+1),by lia,rfl,j,A⟩,fun x H' y=>?_⟩;obtain⟨e,y⟩:=y;subst e;exact hs i x ys _ (y xs q) p
 ·have e:i=xs.length:=by lia
  subst e;exact .inl ⟨⟨xs,q,va _⟩,u ys H p⟩
end
theorem j03:(10:Nat)^250<2^831:=by decide +kernel
theorem WJ(a : -10^250<=x)(b:x<=10^250):Builtin.Int.intBits x<=1048576:=by
 refine vY (PySem.intBits_le_iff.mpr ?_:Builtin.Int.intBits x<=831) (by decide);have:x.natAbs<=10^250:=by lia
 exact vE this j03
theorem mulOk(a : -10^250<=x)(b:x<=10^250)(c : -10^250<=y)(d:y<=10^250):IntMulOk x y:=.of_bits (WJ a b) (WJ c d)
section
variable{X:Cx}
theorem Ja:OpR X (binaryOp .Mult) (rI IntMulOk fun i j=>.int (i*j)):=opI fun _ _ _ _ _ _ _ a q=>mul_int q a
def CDivB(_ j:Int):Prop:=0<j/\j<=10^250
theorem cdivB(a:0<j)(b:j<=10^250):CDivB i j:=⟨a,b⟩
theorem qo:OpR X (binaryOp .FloorDiv) (rI CDivB fun i j=>.int (i/j)):=opI fun i j _ _ _ _ _ a q=>by
 have b:(0:Int)<j:=a.1;have c:j<=10^250:=a.2;refine floordiv_int (by lia) ?_ (.inl (PyProof.noPylong_of_log2 ?_))
 ·rw[Int.fdiv_eq_ediv_of_nonneg _ (by lia)];exact q
 ·have e:j.natAbs<=10^250:=by lia
  have g:j.natAbs.log2<831:=(Nat.log2_lt (by lia)).mpr (vE e j03);lia
theorem WK:CallR X (.builtin "isinstance") (fun xs H Q=>∃x T t b,xs=[x,.ty T]/\TyOf X.K H x t/\PySem.W.kitOne X.K t (.type T)=some b/\Q (.bl b) H):=by
 intro a s j H xs i Q I r h;obtain⟨x,T,t,b,rfl,ty,e,q⟩:=h;obtain⟨u,f,rfl,d,c⟩:=vals2 r;cases(show f=Value.type T from c);exact j0w I d ty e fun g=>⟨.bl b,H,I.tok _,rfl,q⟩
theorem j0Z{E:Value->Shared->Prop}{Q:Value->Shared->Prop}(y:A.handled=none)(d:s.heap.IsList l (intItems xs))
  (h:∀h' tk t',(∀b o,s.heap.get? b=some o->h'.get? b=some o)->Q (.int (preSum (numAt xs) xs.size) t') {s with heap:=h',toks:=tk}) :
  wpAny (model prog w) A (call (.builtin "sum") [.ref l]) Q E s:=by
 obtain⟨o,m,B,n,C⟩:=id d;have f:l≠s.heap.objs.size:=vF (vJ m);have g:(intItems xs).size=xs.size:=by simp[intItems]
 have W:=(Walks.list (prog:=prog) (w:=w) (A:=A.in1) y s.heap.objs.size l f (intItems xs)).toS;rw[g]at W;refine call_sum_walkAnyS (wpAny_pyIter_list d ?_);refine⟨s.heap.objs.size,_,_,_,_,_,_,numAt xs,rfl,W,⟨⟨_,Heap.get?_push_size _ rfl,rfl,rfl⟩,d.at fun o e=>vK _ e⟩,fun b a=>?_,fun i v x=>intItems_at x,fun z t' c=>?_⟩
 ·rcases mem_cons.mp a with rfl | a
  ·exact vJ (Heap.get?_push_size _ rfl)
  ·obtain rfl:=vo.mp a;exact vJ (vK _ m)
 ·obtain⟨h',u,p,k,j⟩:=z;have q:u=s.gens:=c.gens;have r:p=s.drawn:=c.drawn;have t:j=s.os:=c.os;subst q r t;exact h h' k t' fun b o e=>c.heap b o (fun a=>uB (vJ e) ((vo.mp a)▸Nat.lt_irrefl _)) (vK _ e)
theorem Yn(f:X.calm=true):CallR X (.builtin "sum") (fun xs H Q=>∃(p:Addr) (ns:List Int),xs=[.ref p]/\SqL X.K H p (ns.map V.int)/\Q (.int ns.sum) H):=by
 intro e s y H xs w Q I r h;obtain⟨p,ns,rfl,i,q⟩:=h;obtain⟨u,rfl,m⟩:=vals1 r;cases m;obtain⟨a,l,k,o⟩:=I.list i;have c:IntsAre a ns:=intsAre_of l;obtain⟨x,j⟩:=c.allInts.items;have b:numsOf a.toArray.toList=ns:=by rw[show a.toArray.toList=a from rfl,c.numsOf]
 have d:=k.isList;rw[j]at d b;rw[nums_intItems]at b;refine j0Z (I.ok.hd f) d fun n v t g=>?_
 rw[preSum_eq,List.take_of_length_le (by simp),b];exact⟨.int ns.sum,H,I.kept g,⟨_,rfl⟩,q⟩
end
end L2
namespace Att
open PySem PySem.W PySem.Calls PyProof.Rows
theorem YR:∀(ns:List Int) (x:Int),x∈ns->Builtin.Int.intBits x<=WData.weightAll (ns.map WData.int)
 | [],_,h=>by cases h
 | n::r,x,h=>by
  show _<=WData.weight (.int n)+1+WData.weightAll (r.map WData.int);rcases mem_cons.mp h with e | h
  ·subst e;have e:Builtin.Int.intBits x=WData.weight (.int x):=by
    unfold Builtin.Int.intBits WData.weight;rfl
   lia
  ·have:=YR r x h;lia
theorem wd{l:OpenLaw}{n:Nat}{q:Program}{c:List Str}{XP:(Str->Option Value)->Heap->Prop}{D:World->Heap->Prop}{d:DefRec}
  (Q:l.most=some n) (y:d.params.defaults=[])
  (j:∀(w:World) (e b:Shared) (mg B:Str->Option Value) (k:Addr) (o:Obj) (C u g:Value) (a:Addr) (vs:List Value) (ns:List Int),
   Ground q c [] XP w e mg B b.heap->D w b.heap->
   b.heap.get? k=some o->o.data = .func (docDef d.name d.params d.body d.scope C u g)->b.heap.CodeRec u d.name->mg d.name=some (.ref k)->
   b.heap.get? a=some {cls:=.type "list",data:=.seq vs.toArray}->IntsAre vs ns->ns.length<=n->(∀x∈ns,Builtin.Int.intBits x<=1048576)->b.gens = #[]->
   codeAny (model l.prog w) callerA (.call (.ref k) ⟨[.ref a],[]⟩) (fun r s'=>r = .ok (.ret (.bool true))/\OldK b.heap s'.heap/\s'.os=b.os/\AllBare s'.gens) b) :
  WalkO q c XP D l.row.toRowW d [] (fun f vs=>PySem.call f vs):=by
 intro w e b mg B G Y k o C u g I kV R M v F z N E H X t m T A O;obtain rfl:I = .none:=Dflts.none F y;obtain rfl:kV = .none:=Dflts.noKw F;obtain⟨a,vs,ns,rfl,rfl,s,i,p⟩:=j0W Q t A;have h:∀x∈ns,Builtin.Int.intBits x<=1048576:=by
  have U:(WData.list (ns.map WData.int)).weight<=2^20:=(layableW_iff.mp (layW_cons m).1).2.2;intro x W;exact vY (YR ns x W) U
 refine enter_call (codeAny_mono (j w e b mg B k o C u g a vs ns G Y R (fd_plain M) v z s i p h N) fun r s' S=>?_);obtain⟨rfl,J,K,L⟩:=S;exact⟨.inl ⟨.bool true,.bool true,[],rfl,fun _=>rfl,.bool true,j0P l _,fun _=>⟨List.Pairwise.nil,fun _ P=>(nomatch P)⟩⟩,J,K,L⟩
end Att
namespace L2
open PySem PySem.Spec PyProof.Rows
theorem j2K{l:PySem.W.OpenLaw}{n k:Nat}{q:Program}{i:List Str}{XP:(Str->Option Value)->Heap->Prop}{D:World->Heap->Prop}{d:DefRec}{K:Params->Frg}{CX:CXT}{sp:Frg->Sp}{x:Str}
  (T:l.most=some n) (z:n<=sizeLine) (t:d.params.defaults=[]) (U:Room k callerA)
  (O:∀(w:World) (h:Heap),D w h->(K w.params).In h)
  (F:∀(w:World) (mg:Str->Option Value) (p:Addr) (h:Heap),(K w.params).In h->h.Ns mainGlobals mg->mg d.name=some (.ref p)->
   ∃fd:FuncData,(∀(s:Shared) (u:Value),BindsTo s fd ⟨[u],[]⟩ [(x,u)])/\
    ∀base:Heap,(K w.params).In base->base.Ns mainGlobals mg->FnOk l.prog w (K w.params) mg base CX k p fd [x] (sp (K w.params)))
  (B:∀(K:Frg) (H:Hp) (a:Addr) (ns:List Int),ns.length<=n->(∀x∈ns,Builtin.Int.intBits x<=1048576)->Only H->SqL K H a (ns.map V.int)->sp K [.ref a] H (fun v _=>v = .bl true) fun _ _ _=>False)
  (r:∀(H:Hp) (s:Shared) (e:Value) (s':Shared),CX [] H s (fun _ _ _=>False) e s'->False) :
  PySem.W.WalkO q i XP D l.row.toRowW d [] (fun f vs=>PySem.call f vs):=by
 refine Att.wd T t fun w I m mg mb p o pm W J a vs ns G Y Z X R y j g b c S=>?_
 have C:=O w _ Y;obtain⟨fd,P,L⟩:=F w mg p _ C G.T.g y;exact j1A C G.T.g G.T.b G.T.builtins G.T.nolimit S j g (vY b z) U L P (fun H M N=>B _ H a ns b c M N) fun H e s'=>r H m e s'
structure FunD(K:Frg)(x qual:Str)(st:Stmt)(T:Addr)(f:Addr)(fd:FuncData):Prop where
 ex:∃(oc:Value) (od:Option Addr) (kV doc pm:Value) (an:Option Addr) (cdv ct:Value) (osl:Array (Option Value)),
  fd=PySem.W.fnOf x qual (defArgs st) (defBody st) (defScope st) (.ref T) kV doc pm an cdv ct/\K.lookup f=some ⟨oc,od,.func fd,osl⟩/\PySem.W.codeIn K cdv qual=true
 kp:PySem.W.keepIn K (.ref f)=true
section
variable{P:Program}{w:World}{K:Frg}{mg:Str->Option Value}{base:Heap}
theorem FunD.ok{x a:Str}{st:Stmt}{T f:Addr}{i:FuncData}{N ps:List Str}{k:Nat}{sp:Sp}(F:FunD K x a st T f i)(S:FnScope N ps (defScope st))(g:∀vs H Q E,sp vs H Q E->vs.length=ps.length)
  (c:∀(b:Value) (A:Around) (outer:List Env) (s:Shared) (H:Hp) (vs:List V) (Q:VK) (E:XK),Room k (A.deeper (envOfC a (defScope st) s.heap.objs.size f b))->sp vs H Q E->
   ∃t,PSs (cxOf CX0 P w K mg base N a (defScope st) f b A outer s H E).nox (defBody st) t/\t {nx:=fun _ H'=>Q .non H',rt:=Q} (start N vs) H):FnOk P w K mg base CX0 (k+1) f i ps sp:=by
 obtain⟨r,u,kV,j,v,o,b,p,n,rfl,m,d⟩:=F.ex;refine j3V m d S g fun A outer s H vs Q E l e=>?_
 obtain⟨t,h,q⟩:=c b A outer s H vs Q E l e;exact⟨t,h.nox,q⟩
theorem FunD.binds{x a:Str}{st:Stmt}{T f:Addr}{i:FuncData}{ps:List Str}{ds:List Value}{o:Obj}{items:Array Value}{n:Nat}(m:Nat)(F:FunD K x a st T f i)(t:K.lookup T=some o)(hs:o.data = .seq items n)(v:m+ds.length=ps.length)
  (h:∀(kV c g:Value) (d:Option Addr) (b e:Value) (us:List Value),us.length=m->∃k,bindArgs (PySem.W.fnOf x a (defArgs st) (defBody st) (defScope st) (.ref T) kV c g d b e) ⟨us,[]⟩=seqItems? (.ref T) >>= k/\k (some items)=pure (ps.zip (us++ds))):Binds K i ps ds:=by
 obtain⟨y,z,kV,c,g,d,b,e,u,rfl,w,q⟩:=F.ex;intro s us j r;obtain⟨k,l,p⟩:=h kV c g d b e us (by rw[vn]at r;lia);exact BindsTo.of_defaults rfl (j _ _ t) hs l p
theorem j35{x a:Str}{st:Stmt}{T f:Addr}{j:Value}{m g:Option Addr}{e:Array (Option Value)}{kV d i b h:Value}(l:K.lookup f=some ⟨j,m,.func (PySem.W.fnOf x a (defArgs st) (defBody st) (defScope st) (.ref T) kV d i g b h),e⟩)
  (c:PySem.W.codeIn K b a=true) (k:PySem.W.keepIn K (.ref f)=true):FunD K x a st T f (PySem.W.fnOf x a (defArgs st) (defBody st) (defScope st) (.ref T) kV d i g b h):=⟨⟨j,m,kV,d,i,g,b,h,e,rfl,l,c⟩,k⟩
end
theorem SP.nx{R:St->Hp->Prop}(hR:∀σ' H',R σ' H'->D.nx σ' H')(h:SP X pins {D with nx:=R} f s):SP X pins D f s:=by
 cases f with
 | next=>obtain⟨σ',H',I,q⟩:=h;exact⟨σ',H',I,hR _ _ q⟩
 | brk=>exact h
 | cont=>exact h
 | ret u=>exact h
def tIfJ(c:TT)(t u:TS):TS:=fun D σ H=>∃R:St->Hp->Prop,(∀σ' H',R σ' H'->D.nx σ' H')/\tIfS c t u {D with nx:=R} σ H
theorem QA(j:PT X c tc)(g:PSs X a t)(i:PSs X b u):PS X (.If c a b pos) (tIfJ tc t u):=by
 intro d s k H D I h;obtain⟨R,e,h⟩:=h;exact thn (jY j g i d s k H _ I h) fun f l q=>q.nx e
open PySem
theorem JQ:bootBuiltins "len"= some (.builtin "len"):=by decide +kernel
theorem xJ:bootBuiltins "max"= some (.builtin "max"):=by decide +kernel
theorem xK:bootBuiltins "min"= some (.builtin "min"):=by decide +kernel
theorem xL:bootBuiltins "sum"= some (.builtin "sum"):=by decide +kernel
theorem qQ:bootBuiltins "isinstance"= some (.builtin "isinstance"):=by decide +kernel
theorem j1b:bootBuiltins "any"= some (.builtin "any"):=by decide +kernel
theorem j0l:bootBuiltins "sorted"= some (.builtin "sorted"):=by decide +kernel
theorem j48:bootBuiltins "int"= some (.type "int"):=by decide +kernel
theorem j2X:bootBuiltins "bool"= some (.type "bool"):=by decide +kernel
theorem j2Z:bootBuiltins "list"= some (.type "list"):=by decide +kernel
theorem km:bootBuiltins "tuple"= some (.type "tuple"):=by decide +kernel
theorem j2Y:bootBuiltins "dict"= some (.type "dict"):=by decide +kernel
theorem j49:bootBuiltins "set"= some (.type "set"):=by decide +kernel
theorem wj:bootBuiltins "enumerate"= some (.type "enumerate"):=by decide +kernel
theorem j4a:bootBuiltins "zip"= some (.type "zip"):=by decide +kernel
theorem j1x(K:Frg)(t:Value)(h:(t==t)=true):PySem.W.kitOne K t t=some true:=by unfold PySem.W.kitOne;rw[vc h]
theorem j0y(K:Frg)(c:(Value.type a==Value.type b)=false)(d:PySem.W.kitMeta b=true)(e:PySem.W.subIn [] (.type a) (.type b)=some v):PySem.W.kitOne K (.type a) (.type b)=some v:=by
 unfold PySem.W.kitOne;rw[vb (by rw[c];exact vG)];show(if PySem.W.kitMeta b=true then _ else _)=_;rw[vc d];exact e
theorem j0u{K:Frg}:PySem.W.kitOne K (.type "int") (.type "int")=some true:=j1x K _ (by decide +kernel)
theorem Xc{K:Frg}:PySem.W.kitOne K (.type "int") (.type "bool")=some false:=j0y K (by decide +kernel) (by decide +kernel) (by decide +kernel)
section
variable{X:Cx}{tg:Expr}
theorem j2p:SlR X (fun x lo hi H Q=>∃z,x = .str z/\z.length<=sizeLine/\Q (.str (Txt.slice z lo hi)) H):=by
 intro b s n H x v p r lo hi o Q I m c g e h;obtain⟨z,rfl,d,q⟩:=h;obtain⟨t,rfl⟩:=m;refine⟨"str",_,F.slot_str_getitem.lookup,typeIs_str _ _ _,?_⟩;have a:∀(lo hi:Option Int),Q (.str (Txt.slice z lo hi)) H->∀f k,EP X b n Q (.str (Txt.slice z lo hi) f) {s with toks:=k}:=fun lo hi q f k=>⟨.str _,H,I.tok _,⟨_,rfl⟩,q⟩
 cases g with
 | none=>
  cases e with
  | none=>exact wpAny_getItem_str_slice (l:=none) (u:=none) (st:=none) c rfl (post_val_or_str ⟨vY (Txt.slice_le z _ _) d,a _ _ q⟩)
  | int j uj=>exact wpAny_getItem_str_slice (l:=none) (u:=some (j,uj)) (st:=none) c rfl (post_val_or_str ⟨vY (Txt.slice_le z _ _) d,a _ _ q⟩)
 | int i ui=>
  cases e with
  | none=>exact wpAny_getItem_str_slice (l:=some (i,ui)) (u:=none) (st:=none) c rfl (post_val_or_str ⟨vY (Txt.slice_le z _ _) d,a _ _ q⟩)
  | int j uj=>exact wpAny_getItem_str_slice (l:=some (i,ui)) (u:=some (j,uj)) (st:=none) c rfl (post_val_or_str ⟨vY (Txt.slice_le z _ _) d,a _ _ q⟩)
theorem rd_str{R:Str->Prop}(h:R z):∃a,V.str z = .str a/\R a:=⟨z,rfl,h⟩
end
section
variable{X:Cx}{K:Frg}
theorem Jd(e:X.K=K):IxR X (rIxL K):=by subst e;exact jA
theorem Jf(e:X.K=K):IxR X (rIxT K):=by subst e;exact jo
theorem KF(e:X.K=K):CallR X (.builtin "len") (fun xs H Q=>∃x n,xs=[x]/\LenV K x H n/\Q (.int n) H):=by subst e;exact Jg
theorem zT(e:X.K=K):OpR X (compareOp .In) (rIn K false):=by subst e;exact j0O
theorem Kr(e:X.K=K):OpR X (compareOp .NotIn) (rIn K true):=by subst e;exact yV
end
mutual
inductive DV(H:Hp):V->PyData->Prop
 | non:DV H .non .none
 | bl (b:Bool):DV H (.bl b) (.bool b)
 | int (i:Int):DV H (.int i) (.int i)
 | str (x:Str):DV H (.str x) (.str x)
 | lst {a:Addr} {xs:List V} {ds:List PyData}:H a=some (.lst xs)->DVs H xs ds->DV H (.ref a) (.list ds)
 | tup {a:Addr} {xs:List V} {ds:List PyData}:H a=some (.tup xs)->DVs H xs ds->DV H (.ref a) (.tuple ds)
inductive DVs(H:Hp):List V->List PyData->Prop
 | nil:DVs H [] []
 | cons {x:V} {d:PyData} {xs:List V} {ds:List PyData}:DV H x d->DVs H xs ds->DVs H (x::xs) (d::ds)
end
section
variable{X:Cx}
mutual
theorem Qw{p:St}{H:Hp}(I:Inv X pins p H s):∀{v:V} {d:PyData} {u:Value},DV H v d->RelV v u->∃as,Reads s.heap u d as
 | _,_,_,.non,r=>⟨_,by cases r;exact Reads.none⟩
 | _,_,_,.bl b,r=>⟨_,by cases r;exact Reads.bool b⟩
 | _,_,_,.int i,r=>by obtain⟨t,rfl⟩:=r;exact⟨_,Reads.int i t⟩
 | _,_,_,.str x,r=>by obtain⟨t,rfl⟩:=r;exact⟨_,Reads.str x t⟩
 | _,_,_,.lst e q,r=>by
  cases r;obtain⟨_,a,c,g,k⟩:=I.hok _ _ e;obtain⟨as,f⟩:=Yt I q g;exact⟨_,reads_list_at k rfl rfl (by simpa using f)⟩
 | _,_,_,.tup e q,r=>by
  cases r;obtain⟨a,g,m,_⟩:=I.tuple (SqT.of e);obtain⟨o,l,h,n,j⟩:=m;obtain⟨as,f⟩:=Yt I q g;exact⟨_,reads_tuple_at l h j (by simpa using f)⟩
theorem Yt{d:St}{H:Hp}(I:Inv X pins d H s):∀{vs:List V} {ds:List PyData} {us:List Value},DVs H vs ds->Vals vs us->∃as,ReadsAll s.heap us ds as
 | _,_,_,.nil,r=>by cases r;exact⟨_,ReadsAll.nil⟩
 | _,_,_,.cons a q,r=>by
  cases r with
  | cons r1 r2=>
   obtain⟨as,b⟩:=Qw I a r1;obtain⟨e,c⟩:=Yt I q r2;exact⟨_,ReadsAll.cons b c⟩
end
theorem j1S(f:X.A.units+64<cLine):OpR X (compareOp .Eq) (fun x y H Q=>∃d e,DV H x d/\DV H y e/\SeqAt.shaped d=true/\SeqAt.shaped e=true/\Q (.bl (PyData.eqv d e)) H):=by
 intro a s p H x y v u Q I j k h;obtain⟨d,e,b,c,l,m,q⟩:=h;obtain⟨n,g⟩:=Qw I b j;obtain⟨o,i⟩:=Qw I c k;exact eq_dataH g i l m f ⟨.bl _,H,I,rfl,q⟩
theorem Xs(f:X.A.units+64<cLine):OpR X (compareOp .NotEq) (fun x y H Q=>∃d e,DV H x d/\DV H y e/\SeqAt.shaped d=true/\SeqAt.shaped e=true/\Q (.bl (!PyData.eqv d e)) H):=by
 intro a s p H x y v u Q I j k h;obtain⟨d,e,b,c,l,m,q⟩:=h;obtain⟨n,g⟩:=Qw I b j;obtain⟨o,i⟩:=Qw I c k;exact ne_dataH g i l m f ⟨.bl _,H,I,rfl,q⟩
theorem j2H{us:List Value}:∀{ns:List Int},IntsAre us ns->Vals (ns.map V.int) us:=by
 induction us with
 | nil=>intro ns r;cases r;exact .nil
 | cons u us ih=>
  intro ns r;cases r with
  | cons n t r=>exact .cons ⟨t,rfl⟩ (ih r)
theorem KG(o:X.calm=true):CallR X (.builtin "max") (fun xs H Q=>∃(p:Addr) (ns:List Int),xs=[.ref p]/\SqL X.K H p (ns.map V.int)/\0<ns.length/\∀m∈ns,(∀a∈ns,a<=m)->Q (.int m) H):=by
 intro l s K H xs J Q I r h;obtain⟨p,ns,rfl,z,c,q⟩:=h;obtain⟨u,rfl,D⟩:=vals1 r;cases D;obtain⟨A,C,B,_⟩:=I.list z;have i:=intsAre_of C;have k:=B.isList;obtain⟨xs,e⟩:=i.allInts.items;have b:ns=xs.toList.map (·.1):=by rw[<-i.numsOf,<-nums_intItems,<-e]
 have d:0<xs.size:=by
  have f:=c;rw[b,vt,Array.length_toList]at f;exact f
 rw[e]at k;refine max_intList (I.ok.hd o) k d fun v F E y x=>?_
 obtain⟨t,rfl⟩:=intItems_at y;obtain⟨G,n⟩:=argBest_gt (numAt xs) (xs.size-1);refine⟨.int _,H,I.kept (t':=E) x,⟨_,rfl⟩,q _ ?_ fun a g=>?_⟩
 ·rw[b,numAt_eq];exact getD_mem (by rw[vt,Array.length_toList];lia)
 ·rw[b]at g;obtain⟨j,w,rfl⟩:=mem_getD g;rw[vt,Array.length_toList]at w;rw[<-numAt_eq];exact n j (by lia)
end
section
variable{σ:St}{H:Hp}{Q:VK}
theorem rd_dget(h:td σ H fun x H1=>ty σ H1 fun y H2=>∃a v,x = .ref a/\DGet H2 a y (some v)/\Q v H2):tDGet td ty σ H Q:=h
end
def TabK(K:Frg)(a:Addr)(D:List (Str×PyProof.Rows.KTD.Dat)):Prop:=PyProof.Rows.KTD.tabLook (PyProof.Rows.KTD.datLooks fun b=>K.lookup b) (fun b=>K.lookup b) a D=true
section
variable{X:Cx}
theorem j4v:OpR X (compareOp .In) (fun x y H Q=>∃a k D,x = .str k/\y = .ref a/\TabK X.K a D/\Q (.bl (PyProof.Rows.KTD.inKeys k D)) H):=by
 intro b s f H x y v u Q I c d h;obtain⟨a,k,D,rfl,rfl,T,q⟩:=h;obtain⟨t,rfl⟩:=c;cases d;exact PyProof.Rows.KTD.in_text (h₀:=s.heap) ⟨PySem.W.kt_text_in I.kIn T,fun _ _ e=>e⟩ ⟨.bl _,H,I.tok _,rfl,q⟩
end
theorem kr{K:Frg}{a:Addr}{xs:List V}{k:Nat}{ci:List Nat}{g:TG}{r:TT}{o:TE}{s:St}{H:Hp}{Z:Addr->List V->Hp->Prop}(d:Nat->List V->Hp->Prop)(t:d 0 [] H)(z:∀i ys H,i<=xs.length->d i ys H->SqT K H a xs)
  (hs:∀i x ys H,xs[i]?=some x->d i ys H->g x (capS k ci s) H fun c H2=>r c H2 fun b h=>if b=true then o c h fun v l=>ys.length<sizeLine/\d (i+1) (ys++[v]) l else d (i+1) ys h)
  (u:∀ys H,d xs.length ys H->ys.length<=sizeLine/\∀p,H p=none->Z p ys H) :
  ∃W:Nat->Nat->List V->Hp->Prop,(∃m,W 0 m [] H)/\∀i m ys H,W i m ys H->
   ((Itt K a).stop i H/\ys.length<=sizeLine/\∀p,H p=none->Z p ys H)\/
   ((Itt K a).go i H/\∃N:List V->Hp->Prop,(∀f H',N f H'->∃n,n<m/\W (i+1) n f H')/\∀x H',(Itt K a).yld i H x H'->g x (capS k ci s) H' fun c H2=>r c H2 fun b h=>
    if b=true then o c h fun v l=>ys.length<sizeLine/\N (ys++[v]) l else N ys h):=by
 refine⟨fun i m ys H=>m=xs.length-i/\i<=xs.length/\d i ys H,⟨xs.length,by simp,vA _,t⟩,?_⟩;rintro i m ys H ⟨rfl,w,p⟩;have q:=z i ys H w p;by_cases j:i<xs.length
 ·refine .inr ⟨⟨xs,xs[i],q,by simp[j]⟩,d (i+1),fun f H' A=>⟨xs.length-(i+1),by lia,rfl,j,A⟩,fun x H' y=>?_⟩;obtain⟨e,y⟩:=y;subst e;exact hs i x ys _ (y xs q) p
 ·have e:i=xs.length:=by lia
  subst e;exact .inl ⟨⟨xs,q,va _⟩,u ys H p⟩
theorem rd_iTup{K:Frg}{b:TE}{c:St}{H:Hp}{R:It->Hp->Prop}(h:b c H fun x H1=>∃a,x = .ref a/\(∃xs,SqT K H1 a xs)/\R (Itt K a) H1):iTup K b c H R:=h
theorem qj{K:Frg}{i j:Nat}{a:Addr}{x y:V}{b:St}{H:Hp}{R:St->Hp->Prop}(e:SqT K H a [x,y])(h:gName i x b H fun σ' H'=>gName j y σ' H' R):gTup K 2 (gCons (gName i) (gCons (gName j) gNil)) (.ref a) b H R:=
 ⟨a,[x,y],rfl,e,rfl,x,[y],rfl,y,[],rfl,rfl,h⟩
theorem rd_sub{a:St}{H:Hp}{R:St->Hp->Prop}(h:to a H fun o H1=>ti a H1 fun i H2=>t o i v H2 fun b=>R a b):gSub to ti t v a H R:=h
theorem rd_dnew{a:St}{H:Hp}(h:∀p,H p=none->Q (.ref p) (upd H p (.dK []))):tDNewK a H Q:=h
theorem rd_dput{b:St}{H:Hp}(h:tv b H fun v H1=>td b H1 fun x H2=>ty b H2 fun y d=>∃a c,x = .ref a/\DPut d a y v c/\D.nx b c):sDPut td ty tv D b H:=h
theorem rd_bm0{K:Frg}{T:String}{r:V->List V->Hp->VK->Prop}{a:TE}{b:St}{H:Hp}{Q:VK}(h:a b H fun x H1=>tyV K T x H1/\r x [] H1 Q):tBM0 K T r a b H Q:=h
section
variable{X:Cx}{pins:List (Addr×Obj)}{σ:St}{H:Hp}{s:Shared}{h':Heap}
theorem Inv.turnedL{t':Nat}{ch:List Addr}(I:Inv X pins σ H s)(f:∀b∈ch,FpOk X pins H b)(k:∀b o,b∉ch->s.heap.get? b=some o->h'.get? b=some o):Inv X pins σ H {s with heap:=h',toks:=t'}:=by
 have d:∀b u,H b=some u->b∉ch:=fun b u e z=>by rw[(f b z).1]at e;cases e
 refine I.step (g':=s.gens) (d':=s.drawn) (ch:=ch) (fun b t=>?_) (fun b o _ _ a e _=>k b o a e) (fun b o _ _ a e _=>⟨o.slots,k b o a e⟩) (fun _ _ _ _ n=>n)
  (fun b o a e=>⟨o,k b o a e⟩) (fun _ _ e=>e) (fun _ _ _ e=>e) (fun b y e=>⟨#[],by rw[e];simp⟩) (fun m w=>?_) (fun b u e=>?_) I.bare
 ·obtain⟨_,i,_,j,l,p⟩:=f b t;exact⟨j,i,l,p⟩
 ·obtain⟨o,h,g,x,r⟩:=w;exact⟨o,h,g,k _ o (fun z=>(f _ z).2.1 rfl) x,r⟩
 ·refine(I.hok b u e).stay (fun c v a q=>k c v ?_ q) (fun _ q=>q) fun _ _ q=>q
  rcases a with z | z
  ·rw[z];exact d b u e
  ·exact d c _ z
theorem Inv.pair{t':Nat}{ch:List Addr}{x y:V}{u v:Value}(I:Inv X pins σ H s)(c:∀b∈ch,FpOk X pins H b)(h:∀b∈ch,b<s.heap.objs.size)(i:RelV x u)(j:RelV y v)
  (g:h'.get? s.heap.objs.size=some {cls:=.type "tuple",data:=.seq #[u,v]}) (k:∀b o,b∉ch->s.heap.get? b=some o->h'.get? b=some o) :
  Inv X pins σ (upd H s.heap.objs.size (.tup [x,y])) {s with heap:=h',toks:=t'}/\∀b∈ch,FpOk X pins (upd H s.heap.objs.size (.tup [x,y])) b:=by
 have f:∀b∈ch,FpOk X pins (upd H s.heap.objs.size (.tup [x,y])) b:=fun b a=>⟨(jg (vF (h b a))).trans (c b a).1,(c b a).2⟩
 have d:Inv X pins σ (upd H s.heap.objs.size (.tup [x,y])) {s with heap:=s.heap.push {cls:=.type "tuple",data:=.seq #[u,v]},toks:=t'}:=
  I.laid (t':=t') (fun b o e=>vK _ e) (va _) (show ObjOk X.prog X.w _ _ _ (.tup [x,y])from⟨(by show 2<=sizeLine;decide),[u,v],.cons i (.cons j .nil),IsTup.new _ _⟩)
 refine⟨d.turnedL (h':=h') (t':=t') f fun b o a e=>?_,f⟩;rcases Heap.get?_push_cases e with⟨rfl,rfl⟩ | e
 ·exact g
 ·exact k b o a e
end
def Ite(K:Frg)(a:Addr):It:=
 ⟨fun i H=>∃xs x,SqL K H a xs/\xs[i]?=some x,fun i H x H'=>∃T v,x = .ref T/\H T=none/\H'=upd H T (.tup [.int i,v])/\∀xs,SqL K H a xs->xs[i]?=some v,fun i H=>∃xs,SqL K H a xs/\xs.length<=i⟩
theorem j11{P:Program}{w:World}{K:Frg}{n:List Expr}{k:Nat}{O:Pos}(a e it:Addr)(t:e≠it) :
  Turn P w K (.Tuple n k O) (Ite K a) [e,it] e (fun i h=>(∃f,IsEnum h e it ((i:Nat):Int) f)/\h.IsListIter it a i) where
 mem:=by simp
 obj:=fun i h j b g=>by
  rcases(by simpa using g:b=e\/b=it)with rfl | rfl
  ·obtain⟨f,l⟩:=j.1;exact⟨_,l,fun v z=>by cases z⟩
  ·obtain⟨o,e,c,d⟩:=j.2;exact⟨o,e,fun v z=>by rw[d]at z;cases z⟩
 keep:=fun i h h' j k=>⟨let ⟨f,l⟩:=j.1;⟨f,k e (by simp) _ l⟩,j.2.at fun o q=>k it (by simp) o q⟩
 item:=by
  intro X D L C S i A s σ H E I G j J;subst D L C;obtain⟨xs,x,B,M⟩:=J;obtain⟨N,Q,p,hz⟩:=I.list B;obtain⟨u,hu,ru⟩:=Q.get M;obtain⟨⟨f,l⟩,m⟩:=j;have le:e<s.heap.objs.size:=vJ l;have li:it<s.heap.objs.size:=by obtain⟨o,q,_⟩:=id m;exact vJ q
  refine wpAny_pyNext_enum_item l m p.isList (x:=u) (by simpa using hu) t fun h' ho r hT a0 hk=>?_
  obtain⟨U,R⟩:=I.pair (t':=s.toks+1) (ch:=[e,it]) (x:=.int i) (y:=x) G (fun b g=>by rcases(by simpa using g:b=e\/b=it)with rfl | rfl<;>assumption) ⟨s.toks,rfl⟩ ru hT
   (fun b o g q=>hk b o (fun z=>g (by simp[z])) (fun z=>g (by simp[z])) q)
  refine⟨_,rfl,wpAny_letOwnedTupleGo_enum ho fun Z F T=>?_⟩;have W:=U.turnedL (h':=Z) (t':=s.toks+1) (ch:=[e,it]) R fun b o g q=>(T.2 b fun z=>g (by simp[z])).trans q
  exact⟨.ref s.heap.objs.size,_,W,rfl,⟨_,x,rfl,I.hok.fresh (va _),rfl,fun ys hy=>by rw[I.list_inj hy B];exact M⟩,
   ⟨⟨u,by simpa using F⟩,r.at fun o q=>(T.2 it t.symm).trans q⟩,fun b g=>(R b g).1⟩
 done:=by
  intro X D L C S i A s σ H E I G j J;subst D L C;obtain⟨xs,B,M⟩:=J;obtain⟨N,Q,p,hz⟩:=I.list B;obtain⟨⟨f,l⟩,m⟩:=j;have hl:=Q.length;exact wpAny_pyNext_enum_end (I.ok.hd S) l m p.isList (by simp;lia) fun h' Y=>⟨rfl,I.turnedL (t':=s.toks) (ch:=[e,it]) G fun b o g q=>Y b o (fun z=>g (by simp[z])) q⟩
 self:=fun _ _ _ _ _ j h=>let ⟨_,l⟩:=j.1;wpAny_pyIter_enum l h
def iEnum(K:Frg)(ta:TA):TI:=fun σ H R=>ta σ H fun vs H1=>∃a xs,vs=[.ref a]/\SqL K H1 a xs/\R (Ite K a) H1
theorem Wg{X:Cx}{a:Expr}{n:TA}{f:List Expr}{k:Nat}{p i j:Pos}(v:Gl X "enumerate")(x:X.mg "enumerate"= none)(r:PA X [a] n)(hs:starEach [a] X.env=[(false,eval a X.env)]:=by rfl) :
  PI X (.Tuple f k j) (.Call (.Name "enumerate" p) [a] [] i) (iEnum X.K n):=by
 intro g s E H R I h;refine Call_ (zP I v x wj (PyProof.Rows.callWith_type1 (thn (r i g s E H _ I h) fun K e ⟨L,o,d,C,B⟩=>?_) hs rfl));obtain⟨b,M,rfl,y,q⟩:=B;obtain⟨u,rfl,D⟩:=vals1 C;cases D;obtain⟨A,J,p,G⟩:=d.list y;refine call_enumerate_list p.isList fun F m l z w=>?_
 refine wpAny_pyIter_enum m ?_;refine⟨e.heap.objs.size+1,[e.heap.objs.size+1,e.heap.objs.size],_,_,o,rfl,d.kept (t':=e.toks) w,j11 b _ _ (Nat.succ_ne_self _),⟨⟨_,by simpa using m⟩,l⟩,fun c t=>?_,q⟩;rcases(by simpa using t:c=e.heap.objs.size+1\/c=e.heap.objs.size)with rfl | rfl
 ·exact d.fpOk (Nat.le_succ _) (d.hok.fresh (Nat.le_succ _))
 ·exact d.fpOk (va _) (d.hok.fresh (va _))
theorem kC{K:Frg}{a:Addr}{xs:List V}{g:TG}{l:TS}{D:Ends}{c:St}{H:Hp}(d:Nat->St->Hp->Prop)(n:d 0 c H)(u:∀i c H,i<=xs.length->d i c H->SqL K H a xs)
  (hs:∀i v c H T H',xs[i]?=some v->d i c H->Same H H'->H' T=some (.tup [.int i,v])->g (.ref T) c H' fun f H2=>l {D with nx:=d (i+1),ct:=d (i+1),bk:=D.nx} f H2) (s:∀c H,d xs.length c H->D.nx c H) :
  ∃W:Nat->Nat->St->Hp->Prop,(∃m,W 0 m c H)/\∀i m c H,W i m c H->
   ((Ite K a).stop i H/\D.nx c H)\/((Ite K a).go i H/\∃N:St->Hp->Prop,(∀σ' H',N σ' H'->∃k,k<m/\W (i+1) k σ' H')/\∀x H',(Ite K a).yld i H x H'->g x c H' fun f H2=>l {D with nx:=N,ct:=N,bk:=D.nx} f H2):=by
 refine⟨fun i m c H=>m=xs.length-i/\i<=xs.length/\d i c H,⟨xs.length,by simp,vA _,n⟩,?_⟩;rintro i m c H ⟨rfl,t,p⟩;have q:=u i c H t p;by_cases j:i<xs.length
 ·refine .inr ⟨⟨xs,xs[i],q,by simp[j]⟩,d (i+1),fun σ' H' w=>⟨xs.length-(i+1),by lia,rfl,j,w⟩,fun x H' y=>?_⟩;obtain⟨T,v,rfl,r,e,y⟩:=y;exact hs i v c H T H' (y xs q) p (fun b o h=>by rw[e,jg (je h r)];exact h) (by rw[e];exact jt)
 ·have e:i=xs.length:=by lia
  subst e;exact .inl ⟨⟨xs,q,va _⟩,s c H p⟩
theorem rd_iEnum{K:Frg}{b:TA}{c:St}{H:Hp}{R:It->Hp->Prop}(h:b c H fun vs H1=>∃a xs,vs=[.ref a]/\SqL K H1 a xs/\R (Ite K a) H1):iEnum K b c H R:=h
def Itz(K:Frg)(a b:Addr):It:=
 ⟨fun i H=>∃xs x ys y,SqL K H a xs/\xs[i]?=some x/\SqL K H b ys/\ys[i]?=some y,
  fun i H x H'=>∃T u v,x = .ref T/\H T=none/\H'=upd H T (.tup [u,v])/\(∀xs,SqL K H a xs->xs[i]?=some u)/\∀ys,SqL K H b ys->ys[i]?=some v,
  fun i H=>∃xs ys,SqL K H a xs/\SqL K H b ys/\(xs.length<=i\/ys.length<=i)⟩
theorem qh{h:Heap}{a b:Addr}{o u:Obj}(d:h.get? a=some o)(c:h.get? b=some u)(f:o.cls≠u.cls):a≠b:=fun e=>by
 subst e;rw[d]at c;cases c;exact f rfl
theorem j2B{P:Program}{w:World}{K:Frg}{T:List Expr}{k:Nat}{aa:Pos}(t A z TI TO l m:Addr)
  (D:∀t A,t≠z->t≠TO->t≠l->t≠m->A≠z->A≠TO->A≠l->A≠m->ZipApart z TI TO l m t A) :
  Turn P w K (.Tuple T k aa) (Itz K t A) [z,TI,TO,l,m] z (fun i h=>IsZip h z TI TO .none/\IsPair h TI (.ref l) (.ref m)/\(∃a b,IsPair h TO a b)/\h.IsListIter l t i/\h.IsListIter m A i) where
 mem:=by simp
 obj:=fun i h M b j=>by
  obtain⟨n,g,⟨a,c,f⟩,J,L⟩:=M;rcases(by simpa using j:b=z\/b=TI\/b=TO\/b=l\/b=m)with rfl | rfl | rfl | rfl | rfl
  ·exact⟨_,n,fun v z=>by cases z⟩
  ·exact⟨_,g,fun v z=>by cases z⟩
  ·exact⟨_,f,fun v z=>by cases z⟩
  ·obtain⟨o,e,c,d⟩:=J;exact⟨o,e,fun v z=>by rw[d]at z;cases z⟩
  ·obtain⟨o,e,c,d⟩:=L;exact⟨o,e,fun v z=>by rw[d]at z;cases z⟩
 keep:=fun i h h' M k=>by
  obtain⟨n,g,⟨a,c,f⟩,J,L⟩:=M;exact⟨k z (by simp) _ n,k TI (by simp) _ g,⟨a,c,k TO (by simp) _ f⟩,J.at fun o q=>k l (by simp) o q,L.at fun o q=>k m (by simp) o q⟩
 item:=by
  intro X hP hw hK hc i W s σ H E I hf M hg;subst hP hw hK;obtain⟨xs,x,ys,y,hq,hx,hr,hy⟩:=hg;obtain⟨a8,rv,p,_⟩:=I.list hq;obtain⟨a9,N,U,_⟩:=I.list hr;obtain⟨u,hu,ru⟩:=rv.get hx;obtain⟨v,hv,ab⟩:=N.get hy;obtain⟨n,g,⟨a,c,f⟩,J,L⟩:=M;obtain⟨o1,n1,F,B,_⟩:=id p;obtain⟨o2,n2,G,C,_⟩:=id U;obtain⟨o3,O,R,_⟩:=id J;obtain⟨o4,Q,S,_⟩:=id L;have r:=D t A (qh F n (by rw[B];show Value.type "list"≠Value.type "zip";decide)) (qh F f (by rw[B];show Value.type "list"≠Value.type "tuple";decide)) (qh F O (by rw[B,R];decide)) (qh F Q (by rw[B,S];decide))
   (qh G n (by rw[C];show Value.type "list"≠Value.type "zip";decide)) (qh G f (by rw[C];show Value.type "list"≠Value.type "tuple";decide)) (qh G O (by rw[C,R];decide)) (qh G Q (by rw[C,S];decide))
  have lt:∀b∈[z,TI,TO,l,m],b<s.heap.objs.size:=fun b j=>by
   rcases(by simpa using j:b=z\/b=TI\/b=TO\/b=l\/b=m)with rfl | rfl | rfl | rfl | rfl
   ·exact vJ n
   ·exact vJ g
   ·exact vJ f
   ·exact vJ O
   ·exact vJ Q
  refine wpAny_pyNext_zip_item r n g f J L p.isList U.isList (x:=u) (y:=v) (by simpa using hu) (by simpa using hv) fun h' a1 a2 a3 a4 a5 a6 Z=>?_
  obtain⟨I1,f1⟩:=I.pair (t':=s.toks) (ch:=[z,TI,TO,l,m]) (x:=x) (y:=y) hf lt ru ab a5
   (fun b o j q=>Z b o (fun e=>j (by simp[e])) (fun e=>j (by simp[e])) (fun e=>j (by simp[e])) (fun e=>j (by simp[e])) q)
  refine⟨_,rfl,wpAny_letOwnedTupleGo_zip a1 fun h3 a7 Y=>?_⟩;have I2:=I1.turnedL (h':=h3) (t':=s.toks) (ch:=[z,TI,TO,l,m]) f1 fun b o j q=>(Y.2 b fun e=>j (by simp[e])).trans q
  exact⟨.ref s.heap.objs.size,_,I2,rfl,⟨_,x,y,rfl,I.hok.fresh (va _),rfl,(fun ys hy=>by rw[I.list_inj hy hq];exact hx),fun ys a0=>by rw[I.list_inj a0 hr];exact hy⟩,
   ⟨a7,(Y.2 TI r.TIz).trans (Z TI _ r.TIz r.TITO r.TIi1 r.TIi2 g),⟨_,_,(Y.2 TO r.TOz).trans a2⟩,a3.at fun o q=>(Y.2 l r.i1z).trans q,a4.at fun o q=>(Y.2 m r.i2z).trans q⟩,fun b j=>(f1 b j).1⟩
 done:=by
  intro X hP hw hK hc i W s σ H E I hf M hg;subst hP hw hK;obtain⟨xs,ys,hq,hr,hl⟩:=hg;obtain⟨a8,rv,p,_⟩:=I.list hq;obtain⟨a9,N,U,_⟩:=I.list hr;obtain⟨n,g,⟨a,c,f⟩,J,L⟩:=M;obtain⟨o1,n1,F,B,_⟩:=id p;obtain⟨o2,n2,G,C,_⟩:=id U;obtain⟨o3,O,R,_⟩:=id J;obtain⟨o4,Q,S,_⟩:=id L;have r:=D t A (qh F n (by rw[B];show Value.type "list"≠Value.type "zip";decide)) (qh F f (by rw[B];show Value.type "list"≠Value.type "tuple";decide)) (qh F O (by rw[B,R];decide)) (qh F Q (by rw[B,S];decide))
   (qh G n (by rw[C];show Value.type "list"≠Value.type "zip";decide)) (qh G f (by rw[C];show Value.type "list"≠Value.type "tuple";decide)) (qh G O (by rw[C,R];decide)) (qh G Q (by rw[C,S];decide))
  have ac:=rv.length;have ad:=N.length;refine wpAny_pyNext_zip_end (I.ok.hd hc) r n g f J L p.isList U.isList ?_ fun h' Z=>⟨rfl,I.turnedL (t':=s.toks) (ch:=[z,TI,TO,l,m]) hf fun b o j q=>Z b o (fun e=>j (by simp[e])) (fun e=>j (by simp[e])) (fun e=>j (by simp[e])) (fun e=>j (by simp[e])) q⟩
  rcases hl with q | q
  ·exact .inl (by simp;lia)
  ·exact .inr (by simp;lia)
 self:=fun _ _ _ _ _ M h=>wpAny_pyIter_zip M.1 h
theorem zd{n i j:Nat}(h:i≠j):n+i≠n+j:=fun e=>h (Nat.add_left_cancel e)
def iZip(K:Frg)(ta:TA):TI:=fun σ H R=>ta σ H fun vs H1=>∃a b xs ys,vs=[.ref a,.ref b]/\SqL K H1 a xs/\SqL K H1 b ys/\R (Itz K a b) H1
theorem kR{X:Cx}{a b:Expr}{w:TA}{f:List Expr}{k:Nat}{p n o:Pos}(O:Gl X "zip")(Q:X.mg "zip"= none)(M:PA X [a,b] w)(hs:starEach [a,b] X.env=[(false,eval a X.env),(false,eval b X.env)]:=by rfl)(l:starEach [b] X.env=[(false,eval b X.env)]:=by rfl) :
  PI X (.Tuple f k o) (.Call (.Name "zip" p) [a,b] [] n) (iZip X.K w):=by
 intro m s σ H R I h;refine Call_ (zP I O Q j4a (PyProof.Rows.callWith_type1 (thn (M n m s σ H _ I h) fun us d ⟨vs,x,e,r1,q1⟩=>?_) (by rw[hs,l]) (by rw[l];rfl)));obtain⟨u,v,xs,ys,rfl,S,T,q⟩:=q1;cases r1 with
 | cons r rr=>
  cases rr with
  | cons r' rr=>
   cases rr;cases r;cases r';obtain⟨W,rv,p,hz⟩:=e.list S;obtain⟨Y,a0,Z,U⟩:=e.list T;refine call_zip_2 p.isList Z.isList fun h' t y z A B a6 P=>?_
   refine wpAny_pyIter_zip t ?_;refine⟨d.heap.objs.size+4,[d.heap.objs.size+4,d.heap.objs.size+2,d.heap.objs.size+3,d.heap.objs.size,d.heap.objs.size+1],_,_,x,rfl,e.kept (t':=d.toks) P,
    j2B u v _ _ _ _ _ (fun u v C D E F G J K L=>⟨zd (by decide),zd (by decide),zd (i:=0) (by decide),zd (by decide),zd (by decide),zd (j:=0) (by decide),zd (by decide),zd (j:=0) (by decide),zd (by decide),zd (i:=0) (by decide),C,D,E,F,G,J,K,L⟩),⟨t,y,⟨_,_,z⟩,A,B⟩,fun c N=>?_,q⟩
   have g:d.heap.objs.size<=c:=by
    rcases(by simpa using N:c=d.heap.objs.size+4\/c=d.heap.objs.size+2\/c=d.heap.objs.size+3\/c=d.heap.objs.size\/c=d.heap.objs.size+1)with rfl | rfl | rfl | rfl | rfl<;>lia
   exact e.fpOk g (e.hok.fresh g)
theorem XZ{K:Frg}{a b:Addr}{xs ys:List V}{g:TG}{r:TS}{D:Ends}{c:St}{H:Hp}(d:Nat->St->Hp->Prop)(l:xs.length=ys.length)(s:d 0 c H)(A:∀i c H,i<=xs.length->d i c H->SqL K H a xs/\SqL K H b ys)
  (hs:∀i u v c H T H',xs[i]?=some u->ys[i]?=some v->d i c H->Same H H'->H' T=some (.tup [u,v])->g (.ref T) c H' fun f H2=>r {D with nx:=d (i+1),ct:=d (i+1),bk:=D.nx} f H2) (w:∀c H,d xs.length c H->D.nx c H) :
  ∃W:Nat->Nat->St->Hp->Prop,(∃m,W 0 m c H)/\∀i m c H,W i m c H->
   ((Itz K a b).stop i H/\D.nx c H)\/((Itz K a b).go i H/\∃N:St->Hp->Prop,(∀σ' H',N σ' H'->∃n,n<m/\W (i+1) n σ' H')/\∀x H',(Itz K a b).yld i H x H'->g x c H' fun f H2=>r {D with nx:=N,ct:=N,bk:=D.nx} f H2):=by
 refine⟨fun i m c H=>m=xs.length-i/\i<=xs.length/\d i c H,⟨xs.length,by simp,vA _,s⟩,?_⟩;rintro i m c H ⟨rfl,z,p⟩;obtain⟨q,k⟩:=A i c H z p;by_cases j:i<xs.length
 ·refine .inr ⟨⟨xs,xs[i],ys,ys[i],q,by simp[j],k,by simp⟩,d (i+1),fun σ' H' B=>⟨xs.length-(i+1),by lia,rfl,j,B⟩,fun x H' y=>?_⟩;obtain⟨T,u,v,rfl,t,e,y,C⟩:=y;exact hs i u v c H T H' (y xs q) (C ys k) p (fun b o h=>by rw[e,jg (je h t)];exact h) (by rw[e];exact jt)
 ·have e:i=xs.length:=by lia
  subst e;exact .inl ⟨⟨xs,ys,q,k,.inl (va _)⟩,w c H p⟩
theorem rd_iZip{K:Frg}{c:TA}{d:St}{H:Hp}{R:It->Hp->Prop}(h:c d H fun vs H1=>∃a b xs ys,vs=[.ref a,.ref b]/\SqL K H1 a xs/\SqL K H1 b ys/\R (Itz K a b) H1):iZip K c d H R:=h
theorem KK:entryFor table "dict.update.loop"= some Builtin.«dict.update.loop»:=entryFor_of_tree (by kernel_rfl)
theorem Z8:plainId "dict.update.loop"= true:=by decide +kernel
theorem j0E:typeLookup (.type "list") "keys"= pure none:=by rw[typeLookup_type,builtinLookup_eq_fast];kernel_rfl
section
variable{prog:Program}{w:World}{A:Around}{E:Value->Shared->Prop}{s:Shared}
theorem noKeys{Q:Option Value->Shared->Prop}(p:s.heap.get? a=some o)(m:o.cls = .type "list")(f:o.data = .seq xs k)(n:o.dict=none)(t:A.handled=none)
  (h:∀h' tk,(∀b o,s.heap.get? b=some o->h'.get? b=some o)->Q none {s with heap:=h',toks:=tk}):wpAny (model prog w) A (getAttr? (.ref a) "keys") Q E s:=by
 obtain⟨c,r,q,x⟩:=o;simp only at m f n;subst m f n;obtain⟨u,g,d,tk,v⟩:=s;have l:∀j,(⟨u,g,d,j,v⟩:Shared).TypeIs (.ref a) "list":=fun _=>⟨_,p,rfl⟩
 have y:=sub_AttributeError;have z:=F.slot_list_getattribute.lookup;have B:=F.slot_list_getattribute.bind (.ref a);have C:=am_list_getattr_none;unfold getAttr? getAttrBy? getAttrBy
 repeat (any_goals (first | assumption | exact l _ | ((with_reducible show wpAny _ _ (call (Value.builtin "list.__getattribute__") _ _) _ _ _);refine call_meets F.slot_list_getattribute (l _) am_entry_list_getattribute (F.args_list_getattribute_2 _ _) (meets_getattribute_miss_list a xs k x "keys" _ j0E (by decide +kernel) (by decide +kernel)) ⟨p,t,fun h' j e i=>?_⟩) | wp_step))
 obtain⟨G,H,D⟩:=i.there;show wpAny _ _ (getattributeRaised _ _ _ _ _ _ _) _ _ _;unfold getattributeRaised
 repeat (any_goals (first | assumption | wp_step))
 exact h _ _ i.keeps
variable{K:Type}[DecidableEq K]{knd:KeyKind prog w K}
noncomputable def foldS(acc:List (K×Value))(ps:List (K×Value)):List (K×Value):=ps.foldl (fun acc kv=>stored acc kv.1 kv.2) acc
theorem XE(a:List (K×Value))(k:K)(v:Value):(stored a k v).length<=a.length+1:=by
 unfold stored;split
 ·rw[vt];exact Nat.le_succ _
 ·rw[vn];exact va _
theorem dul{R:Result->Shared->Prop}{d it l:Addr}{items:List Value}{res:Value}(N:A.handled=none)(h:d≠it)(q:d≠l)(r:it≠l) :
  ∀(ps:List (K×Value)) (i:Nat) (c:List (K×Value)) (s:Shared),s.heap.IsListIter it l i->s.heap.IsList l items.toArray->(items.length=i+ps.length)->
   (∀j kv,ps[j]?=some kv->∃a key,items[i+j]?=some (.ref a)/\IsTup s.heap a #[key,kv.2]/\knd.is kv.1 key=true/\a≠d/\a≠it)->s.heap.DictOf knd d c->c.length+ps.length<=sizeLine->
   (∀h' tk,(∀b o,b≠d->b≠it->s.heap.get? b=some o->h'.get? b=some o)->h'.DictOf knd d (foldS c ps)->R (.ok (.ret res)) {s with heap:=h',toks:=tk})->
   codeAny (model prog w) A (.builtin "dict.update.loop" ⟨[.ref d,.ref it,rawInt i,res],[]⟩) R s
 | [],i,c,s,hit,hl,hn,hp,hd,hz,hR=>by
  refine codeAny_builtin KK ?_;rw[Around.under_plainId Z8 _];show wpAny _ A.in1 (pyNext (.ref it) >>= _) _ _ s;refine ub (wpAny_pyNext_list_end (A:=A.in1) N hit hl (by simp;simp at hn;lia) fun h' M=>?_);show wpAny _ A.in1 (Builtin.Dict.addKeywords d [] >>= _) _ _ _;refine ub (uA (uA (hR h' s.toks (fun b o _ C e=>M b o C e) ?_)));exact hd.extBut M h
 | kv::ps,i,c,s,hit,hl,hn,hp,hd,hz,hR=>by
  obtain⟨a,key,W,ht,Z,X,B⟩:=hp 0 kv rfl;refine codeAny_builtin KK ?_;rw[Around.under_plainId Z8 _];show wpAny _ A.in1 (pyNext (.ref it) >>= _) _ _ s;refine ub (wpAny_pyNext_list_item (A:=A.in1) hit hl (x:=.ref a) (by simpa using W) fun y t L=>?_);obtain⟨ot,Q,oc,n,od⟩:=ht;have p:y.get? a=some ot:=(L.2 a B).trans Q;show wpAny _ A.in1 (holding [Value.ref a] _ >>= _) _ _ _;refine ub (wpAny_holding ?_);refine ub (wpAny_tryCatch ?_);unfold Builtin.Dict.pairItems;refine ub (wpAny_typeOf (T:="tuple") ⟨_,p,oc⟩ ?_);show wpAny _ A.in1 (if((Value.type "tuple"== Value.type "list")||(Value.type "tuple"== Value.type "tuple"))=true then _ else _) _ _ _;rw[vc (by decide)];refine ub (wpAny_seqItems p od ?_);refine uA ?_;show wpAny _ A.in1 (holding [key,kv.2] (dictSet d key kv.2)) _ _ _;have D:y.DictOf knd d c:=hd.extBut (fun b o C e=>(L.2 b C).trans e) h;refine wpAny_holding (wpAny_dictSet_pairs (s:={s with heap:=y}) Z D (fun S E v=>?_) (by simp at hz;lia));show wpAny _ A.in1 (again _) _ _ _;refine uA ⟨plainId_quiet Z8 _,?_⟩;have I:∀b o,b≠d->b≠it->s.heap.get? b=some o->S.get? b=some o:=fun b o f g e=>(v.2 b f).trans ((L.2 b g).trans e)
  have sl:=XE c kv.1 kv.2;refine dul N h q r ps (i+1) (stored c kv.1 kv.2) _ (t.at fun o e=>(v.2 it h.symm).trans e) (hl.at fun o e=>I l o q.symm r.symm e) (by simp at hn;lia) (fun j J Y=>?_) E (by simp at hz;lia) fun U tk k3 F=>?_
  ·obtain⟨O,u,z,H,G,k,m⟩:=hp (j+1) J (by simpa using Y);obtain⟨o',P,r'⟩:=H;exact⟨O,u,by rw[<-z];congr 1;lia,⟨o',I _ _ k m P,r'⟩,G,k,m⟩
  ·exact hR U tk (fun b o f g e=>k3 b o f g (I b o f g e)) F
end
open PySem PySem.W PyProof.Rows
section
variable{n:Nat}{key:Nat->Int}{p:Array Nat}
noncomputable def Tw(n:Nat)(key:Nat->Int){α:Type}:KasT α->(α->Prop)->Prop
 | .ret a,Q=>Q a
 | .ask i j k,Q=>i<n/\j<n/\Tw n key (k (decide (key i<key j))) Q
theorem Tw.bind{b c:Type}{f:b->KasT c}{Q:c->Prop}:∀{t:KasT b},Tw n key t (fun a=>Tw n key (f a) Q)->Tw n key (t.bind f) Q
 | .ret _,h=>h
 | .ask _ _ _,h=>⟨h.1,h.2.1,Tw.bind h.2.2⟩
theorem Tw.mono{d:Type}{Q b:d->Prop}(c:∀a,Q a->b a):∀{t:KasT d},Tw n key t Q->Tw n key t b
 | .ret _,h=>c _ h
 | .ask _ _ _,h=>⟨h.1,h.2.1,Tw.mono c h.2.2⟩
theorem Tw.run{d:Type}{b:Nat->Nat->(Bool->Shared->Prop)->Shared->Prop}{Q:d->Shared->Prop}(c:∀i j C,i<n->j<n->C (decide (key i<key j)) s->b i j C s) :
  ∀{t:KasT d},Tw n key t (fun a=>Q a s)->t.kasWp b Q s
 | .ret _,h=>h
 | .ask i j k,h=>c i j _ h.1 h.2.1 (Tw.run c h.2.2)
theorem Tw.asks{a:Type}{k:Bool->KasT a}{Q:a->Prop}(hi:i<n)(e:j<n)(b:key i<key j->Tw n key (k true) Q)(d:¬key i<key j->Tw n key (k false) Q):Tw n key (.ask i j k) Q:=by
 refine⟨hi,e,?_⟩;by_cases c:key i<key j
 ·rw[vH c];exact b c
 ·rw[vI c];exact d c
def Pk(n:Nat)(p:Array Nat):Prop:=p.toList.Perm (List.range n)
noncomputable def kv(key:Nat->Int)(p:Array Nat)(i:Nat):Int:=key (p.getD i 0)
def Up(key:Nat->Int)(p:Array Nat)(k:Nat):Prop:=∀i j,i<=j->j<k->kv key p i<=kv key p j
def Dn(key:Nat->Int)(p:Array Nat)(k:Nat):Prop:=∀i j,i<=j->j<k->kv key p j<=kv key p i
def Eqs(key:Nat->Int)(p:Array Nat)(m q:Nat):Prop:=∀k,m-(q+1)<=k->k<m->kv key p k=kv key p (m-1)
theorem Pk.size(h:Pk n p):p.size=n:=by have:=h.length_eq;simpa using this
theorem Pk.lt(h:Pk n p)(a:0<n)(i:Nat):p.getD i 0<n:=by
 rw[Array.getD_eq_getD_getElem?];cases e:p[i]? with
 | none=>exact a
 | some x=>exact v6.mp (h.mem_iff.mp (Array.mem_toList_iff.mpr (Array.mem_of_getElem? e)))
theorem Pk.of(h:Pk n p)(a:q.Perm p):Pk n q:=(Array.perm_iff_toList_perm.mp a).trans h
theorem WQ(h:a[i]?=b[j]?):kv key a i=kv key b j:=by
 unfold kv;rw[Array.getD_eq_getD_getElem?,Array.getD_eq_getD_getElem?,h]
theorem Xg(a:j<=p.size)(k:Nat):kv key (kas_rev p i j) k=if i<=k/\k<j then kv key p (i+j-1-k)else kv key p k:=by
 have h:=getElem?_mirror_all (xs:=p) (i:=i) a k;split
 ·rename_i c;rw[vc c]at h;exact WQ h
 ·rename_i c;rw[vb c]at h;exact WQ h
theorem j4o(hs:src<p.size)(a:d<=src)(k:Nat):kv key (bubble p src d) k=if k=src-d then kv key p src else if src-d<k/\k<=src then kv key p (k-1)else kv key p k:=by
 have h:=getElem?_bubble (xs:=p) hs d a k;split
 ·rename_i c;rw[vc c]at h;exact WQ h
 ·rename_i c;rw[vb c]at h;split
  ·rename_i c';rw[vc c']at h;exact WQ h
  ·rename_i c';rw[vb c']at h;exact WQ h
theorem Up.snoc(h:Up key p m)(d:1<=m)(f:¬kv key p m<kv key p (m-1)):Up key p (m+1):=fun i j a g=>by
 by_cases e:j<m
 ·exact h i j a e
 ·have c:j=m:=by lia
  subst c;by_cases b:i=j
  ·rw[b];exact vB _
  ·have:=h i (j-1) (by lia) (by lia);lia
theorem Dn.snoc(h:Dn key p m)(d:1<=m)(f:kv key p m<=kv key p (m-1)):Dn key p (m+1):=fun i j a g=>by
 by_cases e:j<m
 ·exact h i j a e
 ·have c:j=m:=by lia
  subst c;by_cases b:i=j
  ·rw[b];exact vB _
  ·have:=h i (j-1) (by lia) (by lia);lia
theorem j2v(a:Pk n p):∀f m,1<=m->m+f<=n->Up key p m->Tw n key (kas_asc p f m) fun r=>m<=r/\r<=m+f/\Up key p r/\(r<m+f->kv key p r<kv key p (r-1))
 | 0,m,h1,hn,hu=>⟨va _,va _,hu,fun h=>uB h (Nat.lt_irrefl _)⟩
 | f+1,m,h1,hn,hu=>by
  refine Tw.asks (a.lt (by lia) _) (a.lt (by lia) _) (fun c=>?_) (fun c=>?_)<;>simp only[Bool.false_eq_true,if_true,if_false]
  ·exact⟨va _,by lia,hu,fun _=>c⟩
  ·exact Tw.mono (fun r h=>⟨by lia,by lia,h.2.2.1,fun b=>h.2.2.2 (by lia)⟩) (j2v a f (m+1) (by lia) (by lia) (hu.snoc h1 c))
theorem X5(b:m<=p.size)(a:Eqs key p m q)(k:Nat):kv key (kas_rev p (m-(q+1)) m) k=kv key p k:=by
 rw[Xg b];split
 ·rename_i c;rw[a k c.1 c.2,a _ (by lia) (by lia)]
 ·rfl
theorem Wy:∀f (p:Array Nat) m q,Pk n p->1<=m->m+f<=n->q+1<=m->Dn key p m->Eqs key p m q->
  Tw n key (kas_desc f p m q) fun r=>Pk n r.1/\m<=r.2.1/\r.2.1<=m+f/\Dn key r.1 r.2.1/\r.2.2+1<=r.2.1/\Eqs key r.1 r.2.1 r.2.2
 | 0,p,m,q,hp,h1,hn,hq,hd,he=>⟨hp,va _,va _,hd,hq,he⟩
 | f+1,p,m,q,hp,h1,hn,hq,hd,he=>by
  have t:=hp.size;refine Tw.asks (hp.lt (by lia) _) (hp.lt (by lia) _) (fun c=>?_) (fun c=>?_)<;>simp only[Bool.false_eq_true,if_true,if_false]
  ·have c:kv key p m<kv key p (m-1):=c;split
   ·have g:=X5 (key:=key) (p:=p) (m:=m) (q:=q) (by lia) he;have d:Pk n (kas_rev p (m-(q+1)) m):=hp.of (mirror_perm _ _ _ _);refine Tw.mono (fun r h=>⟨h.1,by lia,by lia,h.2.2.2⟩) (Wy f _ (m+1) 0 d (by lia) (by lia) (by lia) (fun i j b s=>?_) fun k l o=>?_)
    ·rw[g,g];exact hd.snoc h1 (by lia) i j b s
    ·rw[show k=m+1-1 by lia]
   ·refine Tw.mono (fun r h=>⟨h.1,by lia,by lia,h.2.2.2⟩) (Wy f p (m+1) 0 hp (by lia) (by lia) (by lia) (hd.snoc h1 (by lia)) fun k l o=>?_);rw[show k=m+1-1 by lia]
  ·have c:¬kv key p m<kv key p (m-1):=c;refine Tw.asks (hp.lt (by lia) _) (hp.lt (by lia) _) (fun a=>?_) (fun a=>?_)<;>simp only[Bool.false_eq_true,if_true,if_false]
   ·exact⟨hp,va _,Nat.le_add_right m (f+1),hd,hq,he⟩
   ·have a:¬kv key p (m-1)<kv key p m:=a;refine Tw.mono (fun r h=>⟨h.1,by lia,by lia,h.2.2.2⟩) (Wy f p (m+1) (q+1) hp (by lia) (by lia) (by lia) (hd.snoc h1 (by lia)) fun k l o=>?_);rw[Nat.add_sub_cancel];by_cases e:k=m
    ·rw[e]
    ·rw[he k (by lia) (by lia)];lia
theorem j2x(c:Pk n p)(d:1<=m)(k:m<=n)(e:Dn key p m):Tw n key (kas_tail3 m n p) fun r=>Pk n r.2/\1<=r.1/\r.1<=n/\Up key r.2 r.1:=by
 have l:=c.size;have a:Pk n (kas_rev p 0 m):=c.of (mirror_perm _ _ _ _);have b:=Xg (key:=key) (p:=p) (i:=0) (j:=m) (by lia);refine Tw.bind (Tw.mono (fun r h=>?_) (j2v a (n-m) m d (by lia) fun i j f g=>?_))
 ·exact⟨a,by lia,by lia,h.2.2.1⟩
 ·rw[b,b,vc ⟨vA _,by lia⟩,vc ⟨vA _,g⟩];exact e _ _ (by lia) (by lia)
theorem j2w(t:Pk n p)(u:m+1<=n)(o:Dn key p (m+1)):Tw n key (kas_descPart m n p) fun r=>Pk n r.2/\1<=r.1/\r.1<=n/\Up key r.2 r.1:=by
 refine Tw.bind (Tw.mono (fun r h=>?_) (Wy (n-(m+1)) p (m+1) 0 t (by lia) (by lia) (by lia) o fun k v w=>by rw[show k=m+1-1 by lia]));obtain⟨a,b,c,d,e,g⟩:=h;have x:=a.size;split
 ·have l:=X5 (key:=key) (p:=r.1) (m:=r.2.1) (q:=r.2.2) (by lia) g;exact j2x (a.of (mirror_perm _ _ _ _)) (by lia) (by lia) fun i j f s=>by rw[l,l];exact d i j f s
 ·exact j2x a (by lia) (by lia) d
theorem j3K(g:Pk n p)(t:1<=n):Tw n key (kas_count n p) fun r=>Pk n r.2/\1<=r.1/\r.1<=n/\Up key r.2 r.1:=by
 have y:=g.size;refine Tw.bind (Tw.mono (fun r h=>?_) (j2v (key:=key) g (n-1) 1 (by lia) (by lia) fun i j l m=>by rw[show i=j by lia];exact vB _));obtain⟨a,b,c,d⟩:=h;split
 ·exact⟨g,a,by lia,c⟩
 rename_i hne;have w:r<n:=by
  have:r≠n:=fun e=>hne (by rw[e];simp)
  lia
 have d:=d (by lia);split
 ·refine Tw.asks (g.lt (by lia) _) (g.lt (by lia) _) (fun q=>?_) (fun q=>?_)<;>simp only[Bool.false_eq_true,if_true,if_false]
  ·exact⟨g,a,by lia,c⟩
  ·have q:¬kv key p 0<kv key p (r-1):=q;have v:=Xg (key:=key) (p:=p) (i:=0) (j:=r) (by lia);have f:∀i,i<r->kv key p i=kv key p (r-1):=fun i u=>by
    have t:=c 0 i (vA _) u;have x:=c i (r-1) (by lia) (by lia);lia
   have k:∀i,kv key (kas_rev p 0 r) i=kv key p i:=fun i=>by
    rw[v];split
    ·rename_i q';rw[f _ q'.2,f _ (by lia)]
    ·rfl
   refine j2w (g.of (mirror_perm _ _ _ _)) (by lia) fun i j l m=>?_
   rw[k,k];by_cases e:j=r
   ·by_cases o:i=r
    ·rw[e,o];exact vB _
    ·rw[e,f i (by lia)];lia
   ·rw[f i (by lia),f j (by lia)];exact vB _
 ·have s:r=1:=by lia
  subst s;refine j2w g (by lia) fun i j l m=>?_
  rcases(by lia:(i=0/\j=0)\/(i=0/\j=1)\/(i=1/\j=1))with⟨rfl,rfl⟩ | ⟨rfl,rfl⟩ | ⟨rfl,rfl⟩
  ·exact vB _
  ·have:kv key p 1<kv key p (1-1):=d;exact Int.le_of_lt this
  ·exact vB _
theorem Wz(e:Pk n p)(c:k<n)(g:Up key p k):∀f l r,l<=r->r<=k->r-l<=f->(∀i,i<l->kv key p i<=kv key p k)->(∀i,r<=i->i<k->kv key p k<kv key p i)->
  Tw n key (kas_place p k f l r) fun m=>m<=k/\(∀i,i<m->kv key p i<=kv key p k)/\∀i,m<=i->i<k->kv key p k<kv key p i
 | 0,l,r,h1,h2,h3,a,b=>⟨by lia,a,fun i d=>b i (by lia)⟩
 | f+1,l,r,h1,h2,h3,a,b=>by
  unfold kas_place;split
  ·exact⟨by lia,a,fun i d=>b i (by lia)⟩
  refine Tw.asks (e.lt (by lia) _) (e.lt (by lia) _) (fun q=>?_) (fun q=>?_)<;>simp only[Bool.false_eq_true,if_true,if_false]
  ·have q:kv key p k<kv key p ((l+r)/2):=q;exact Wz e c g f l _ (by lia) (by lia) (by lia) a fun i d h=>by
    have:=g ((l+r)/2) i d h;lia
  ·have q:¬kv key p k<kv key p ((l+r)/2):=q;exact Wz e c g f _ r (by lia) h2 (by lia) (fun i d=>by
    have:=g i ((l+r)/2) (by lia) (by lia);lia) b
theorem j41:∀f (p:Array Nat) k,Pk n p->k+f<=n->Up key p k->Tw n key (kas_bin f p k) fun q=>Pk n q/\Up key q (k+f)
 | 0,p,k,hp,hn,hu=>⟨hp,hu⟩
 | f+1,p,k,hp,hn,hu=>by
  have t:=hp.size;refine Tw.bind (Tw.mono (fun l h=>?_) (Wz hp (by lia) hu k 0 k (vA _) (va _) (by lia) (fun i o=>uB o (Nat.not_lt_zero _)) fun i e m=>uB e (by lia)));obtain⟨a,b,c⟩:=h;have g:=j4o (key:=key) (p:=p) (src:=k) (d:=k-l) (by lia) (by lia);refine Tw.mono (fun q h=>⟨h.1,by rw[show k+(f+1)=k+1+f by lia];exact h.2⟩) (j41 f _ (k+1) (hp.of (bubble_perm _ _ _)) (by lia) fun i j r s=>?_);rw[g,g,show k-(k-l)=l by lia]
  repeat' split
  all_goals first
   | exact vB _
   | (exfalso;lia)
   | exact Int.le_of_lt (c _ (by lia) (by lia))
   | exact b _ (by lia)
   | exact hu _ _ (by lia) (by lia)
   | (have e:=b i (by lia);have m:=c (j-1) (by lia) (by lia);lia)
theorem j4I(f:1<=n):Tw n key (kas_sort n) fun q=>Pk n q/\Up key q n:=by
 have g:Pk n (List.toArray (List.range n)):=List.Perm.refl _;refine Tw.bind (Tw.mono (fun r h=>?_) (j3K (key:=key) g f));obtain⟨a,b,c,d⟩:=h;split
 ·refine Tw.mono (fun q h=>⟨h.1,?_⟩) (j41 (n-max r.1 1) r.2 (max r.1 1) a (by lia) (by rw[show max r.1 1=r.1 by lia];exact d));have e:max r.1 1+(n-max r.1 1)=n:=by lia
  rw[e]at h;exact h.2
 ·have e:r.1=n:=by lia
  exact⟨a,by rw[<-e];exact d⟩
end
section
variable{prog:Program}{w:World}{A:Around}{E:Value->Shared->Prop}{s:Shared}
def PrAt(h:Heap)(as:List Addr)(key:Nat->Int):Prop:=∀i a,as[i]?=some a->∃o t u n,h.get? a=some o/\o.cls = .type "tuple"/\o.data = .seq #[.int (key i) t,u] n
theorem PrAt.keep{key:Nat->Int}(x:PrAt h as key)(k:∀a∈as,∀o,h.get? a=some o->h'.get? a=some o):PrAt h' as key:=fun i a e=>by
 obtain⟨o,t,u,n,q,r⟩:=x i a e;exact⟨o,t,u,n,k a (vj e) _ q,r⟩
theorem j4Y{key:Nat->Int}(x:PrAt s.heap as key)(d:∀i j,i<as.length->j<as.length->key i=key j->i=j){C:Bool->Shared->Prop}(hi:i<as.length)(b:j<as.length)
  (h:C (decide (key i<key j)) s):kas_ask prog w A (tuples' true) (as.map Value.ref) i j C s:=by
 unfold kas_ask;obtain⟨o,t,u,n,k,B,f⟩:=x i _ (vz hi);obtain⟨y,z,m,E,l,D,g⟩:=x j _ (vz b);have p:(as.map Value.ref).getD i Value.none = .ref as[i]:=by rw[vy,vv,vz hi];rfl
 have q:(as.map Value.ref).getD j Value.none = .ref as[j]:=by rw[vy,vv,vz b];rfl
 rw[p,q];refine kat_lt k f l g ?_;show KatLex prog w A true _ C [(.int (key i) t,.int (key j) z),(u,m)] 0 s;refine kat_cons (wpAny_eqBool_int ?_);by_cases c:key i=key j
 ·have v:=d i j hi b c;subst v;rw[beq_self_eq_true];have r:u=m:=by
   have e:o=y:=vM (k.symm.trans l);subst e;have e:=f.symm.trans g;injection e with e _;have:=congrArg (fun a:Array Value=>a[1]?) e;simpa using this
  subst r;refine kat_yes (kat_cons (SeqAt.EqAt.same _ _ _ _ _ ?_));refine kat_yes (kat_nil ?_);rw[vI (Int.lt_irrefl _)]at h;exact h
 ·rw[beq_false_of_ne c];exact kat_no (oneLt_int h)
theorem j04{key:Nat->Int}:∀{as:List Addr} (_:PrAt h as key),∃fs,KatTups h (as.map Value.ref) fs/\fs.length=as.length/\∀v∈fs,∃n t,v=Value.int n t
 | [],_=>⟨[],KatTups.nil,rfl,fun v g=>nomatch g⟩
 | a::r,x=>by
  obtain⟨o,t,u,n,q,c,d⟩:=x 0 a rfl;obtain⟨fs,k,l,f⟩:=j04 (key:=fun i=>key (i+1)) (as:=r) fun i b e=>x (i+1) b (by simpa using e)
  refine⟨.int (key 0) t::fs,KatTups.cons q c d rfl k,by rw[vS,l,vS],fun v g=>?_⟩;rcases mem_cons.mp g with rfl | g
  ·exact⟨_,_,rfl⟩
  ·exact f v g
theorem j3S(vs:List Value):(vs.toArray.zip vs.toArray).map (·.2)=vs.toArray:=by
 apply Array.toList_inj.mp;rw[Array.toList_map,Array.toList_zip];exact List.map_snd_zip (va _)
theorem j0R(vs:List Value):(List.range vs.length).map (fun i=>vs.getD i Value.none)=vs:=by
 refine ext_getElem (by simp) fun i b a=>?_
 rw[getElem_map,getElem_range,vy,vz a];rfl
theorem j26:∀{l:List Int},l.length<2->l.Pairwise (·<=·)
 | [],_=>.nil
 | [_],_=>pairwise_singleton _ _
 | _::_::_,h=>uB h (by rw[vS,vS];lia)
theorem j2r{key:Nat->Int}{P:PySem.Fin->Shared->Prop}(d:s.heap.get? a=some (seqObj "list" (as.map Value.ref).toArray c0))(S:a∉as)(x:PrAt s.heap as key)
  (U:∀i j,i<as.length->j<as.length->key i=key j->i=j) (O:as.length<64)
  (D:∀(q:List Nat) (h':Heap) (c:Nat),q.Perm (List.range as.length)->(q.map key).Pairwise (·<=·)->(∀b o,b≠a->s.heap.get? b=some o->h'.get? b=some o)->
   h'.get? a=some (seqObj "list" ((q.map fun i=>as.getD i 0).map Value.ref).toArray c)->P (.done (.ret .none)) {s with heap:=h'}) :
  wpAny (model prog w) A (Builtin.«list.sort» ⟨[.ref a],[]⟩) P E s:=by
 have a5:a<s.heap.objs.size:=vJ d;obtain⟨u,k⟩:∃u,(s.heap.update a (Obj.mapSeq fun _=>(#[]:Array Value))).get? a=some (seqObj "list" #[] u):=⟨_,get?_update_seq d fun _=>#[]⟩
 have X:=Heap.SameBut.update s.heap a (Obj.mapSeq fun _=>(#[]:Array Value));rw[list_sort_plain];refine ub (listItems_at (s:=s) d rfl ?_);refine ub (listUpdate_at (s:=s) d rfl ?_ (by rw[size_toArray,vt,sizeLine_eq];lia) (vA _));refine ub (seqEpoch_at (n:=u) k rfl ?_);refine ub (wpAny_newTuple ?_ (by show(as.map Value.ref).length<=_;rw[vt,sizeLine_eq];lia));refine ub (wpAny_newList ?_ (vA (sizeLine)));refine wpAny_holding ?_;generalize Y:((s.heap.update a (Obj.mapSeq fun _=>(#[]:Array Value))).push (seqObj "tuple" (as.map Value.ref).toArray 0)).push (seqObj "list" #[] 0)=hX;have kX:∀b o,b≠a->s.heap.get? b=some o->hX.get? b=some o:=fun b o y e=>by
  rw[<-Y];exact vK _ (vK _ ((X.2 b y).trans e))
 have F:hX.get? a=some (seqObj "list" #[] u):=by
  rw[<-Y];exact vK _ (vK _ k)
 have xX:PrAt hX as key:=x.keep fun b y o e=>kX b o (fun z=>S (z▸y)) e
 show wpAny (model prog w) A _ P E {s with heap:=hX};dsimp only;have K:(as.map Value.ref).toArray.size=as.length:=by rw[size_toArray,vt]
 have H:∀q:List Nat,q.Perm (List.range as.length)->(List.map (fun i=>(as.map Value.ref).getD i Value.none) q)=(q.map fun i=>as.getD i 0).map Value.ref:=fun q M=>by
  rw[v8];refine map_congr_left fun i B=>?_
  have hl:i<as.length:=v6.mp (M.mem_iff.mp B);show(as.map Value.ref).getD i Value.none=Value.ref (as.getD i 0);rw[vy,vy,vv,vz hl];rfl
 have g:∀(q:List Nat),q.Perm (List.range as.length)->(q.map key).Pairwise (·<=·)->∀r:Array Value,r=(List.map (fun i=>(as.map Value.ref).getD i Value.none) q).toArray->
   P (.done (.ret .none)) {s with heap:=hX.update a (Obj.mapSeq fun _=>r)}:=fun q M hs r ho=>by
  subst ho;have o2:=get?_update_seq F fun _=>(List.map (fun i=>(as.map Value.ref).getD i Value.none) q).toArray
  have J:=Heap.SameBut.update hX a (Obj.mapSeq fun _=>(List.map (fun i=>(as.map Value.ref).getD i Value.none) q).toArray);rw[H q M]at o2 J|-;exact D q _ _ M hs (fun b o y e=>(J.2 b y).trans (kX b o y e)) o2
 by_cases l:(as.map Value.ref).toArray.size<2
 ·rw[vc l,vc l];refine ub (uA ?_);rw[StateT.run_pure];refine ub (uA ?_);dsimp only;refine ub (seqEpoch_at (n:=u) F rfl ?_);have eo:(arrOf (SortSt.mk' general' ((as.map Value.ref).toArray.zip (as.map Value.ref).toArray) #[] 7 none)).map (·.2)=(List.map (fun i=>(as.map Value.ref).getD i Value.none) (List.range as.length)).toArray:=by
   have e:=j0R (as.map Value.ref);rw[vt]at e;rw[e];exact j3S _
  rw[eo];refine ub (listUpdate_at (s:={s with heap:=hX}) F rfl ?_ (vA _) (by rw[size_toArray,vt,length_range,sizeLine_eq];lia));simp only[bne_self_eq_false,Bool.false_eq_true,if_false];refine uA (g (List.range as.length) (List.Perm.refl _) ?_ _ rfl);rw[K]at l;exact j26 (by rw[vt,length_range];exact l)
 ·rw[vb l,vb l];rw[K]at l;obtain⟨fs,kt,kl,ki⟩:=j04 xX;have a0:hX=({s with heap:=hX}:Shared).heap:=rfl;refine ub (kat_kind (s:={s with heap:=hX}) (T:=Value.type "int") kt (by lia) (fun v hv=>?_) (by decide) ?_)
  ·obtain⟨m,t,rfl⟩:=ki v hv;exact Looks.of_pure rfl
  refine ub (wpAny_mono (kat_run (s:={s with heap:=hX}) (ks:=as.map Value.ref) (vs:=as.map Value.ref) (κ:=tuples' true) (Q:=fun f I=>∃p:Array Nat,Pk as.length p/\Up key p as.length/\arrOf f=p.map (kas_item ((as.map Value.ref).toArray.zip (as.map Value.ref).toArray))/\failedOf f=none/\I={s with heap:=hX}) (G:=fun p I=>Pk as.length p/\Up key p as.length/\I={s with heap:=hX})
   rfl (by rw[vt];lia) (by rw[vt];exact O) (fun p f I _ a2 a3 N=>⟨p,N.1,N.2.1,a2,a3,N.2.2⟩) ?_) ?_ fun _ _ e=>e)
  ·rw[vt];exact Tw.run (n:=as.length) (key:=key) (fun i j C B L hC=>j4Y xX U B L hC) (Tw.mono (fun q h=>⟨h.1,h.2,rfl⟩) (j4I (key:=key) (by lia)))
  rintro⟨⟨⟩,f⟩ I ⟨p,Z,hu,R,hf,rfl⟩;dsimp only;rw[kat_snds rfl R];refine ub (seqEpoch_at (n:=u) F rfl ?_);have W:=Z.size;refine ub (listUpdate_at (s:={s with heap:=hX}) F rfl ?_ (vA _) (by rw[size_toArray,vt,Array.length_toList,W,sizeLine_eq];lia));rw[hf];simp only[bne_self_eq_false,Bool.false_eq_true,if_false];refine uA (g p.toList Z ?_ _ rfl);refine pairwise_map.mpr (pairwise_iff_getElem.mpr fun i j B L a1=>?_);rw[Array.length_toList]at B L;have:=hu i j (by lia) (by lia);unfold kv at this;rw[Array.getD_eq_getD_getElem?,Array.getD_eq_getD_getElem?,Array.getElem?_eq_getElem B,Array.getElem?_eq_getElem L]at this;exact this
end
open PySem PySem.Spec PySem.W PyProof.Rows
section
variable{X:Cx}{pins:List (Addr×Obj)}{σ:St}{H:Hp}{s:Shared}
def NewA(X:Cx)(pins:List (Addr×Obj))(T:Addr):Prop:=X.s₀.heap.objs.size<=T/\T≠X.env.locals/\(∀x c,X.env.cells.lookup x=some c->c≠T)/\∀p∈X.pn++pins,p.1≠T
theorem Inv.newA(I:Inv X pins σ H s)(a:s.heap.objs.size<=T):NewA X pins T:=by
 obtain⟨_,b,_,_,c,d⟩:=I.fpOk (H':=fun _=>none) a rfl;exact⟨vY I.sz a,b,c,d⟩
theorem ObjOk.obj(x:ObjOk P w H h a o):∃u,h.get? a=some u:=by
 cases o with
 | lst xs=>obtain⟨_,_,_,_,e⟩:=x;exact⟨_,e⟩
 | tup xs=>obtain⟨_,_,_,u,e,_⟩:=x;exact⟨u,e⟩
 | dK kvs=>obtain⟨_,_,_,_,u,_,_,e,_⟩:=x;exact⟨u,e⟩
 | dT kvs=>obtain⟨_,_,_,_,u,_,_,e,_⟩:=x;exact⟨u,e⟩
 | set S n=>obtain⟨u,_,_,_,e,_⟩:=x;exact⟨u,e⟩
 | ins C dx fs=>obtain⟨_,_,_,e,_⟩:=x;exact⟨_,e⟩
 | own y=>exact x
 | xd fs=>obtain⟨_,⟨u,_,_,e,_⟩,_⟩:=x;exact⟨u,e⟩
 | rng lo hi=>obtain⟨_,_,_,e⟩:=x;exact⟨_,e⟩
 | frz u v=>exact⟨_,x.1⟩
 | tbl ps=>exact⟨_,x⟩
 | met f y=>exact⟨_,x⟩
 | ext φ=>exact x.2.1
theorem Inv.none_at{a:Heap}(I:Inv X pins σ H s)(c:∀b o,s.heap.get? b=some o->a.get? b=some o):H a.objs.size=none:=by
 cases e:H a.objs.size with
 | none=>rfl
 | some u=>
  obtain⟨v,q⟩:=(I.hok _ _ e).obj;exact uB (vJ (c _ _ q)) (Nat.lt_irrefl _)
theorem Inv.newB{a:Heap}(I:Inv X pins σ H s)(h:∀b o,s.heap.get? b=some o->a.get? b=some o):NewA X pins a.objs.size:=by
 have f:∀b o,s.heap.get? b=some o->b<a.objs.size:=fun b o e=>vJ (h b o e)
 obtain⟨m,⟨o,_,_,d,_⟩,_⟩:=I.loc;have g:=f _ _ d;refine⟨v3 (vE I.ok.above g),Nat.ne_of_gt g,fun x c e=>?_,fun p i=>vF (f _ _ (I.pin p i).1)⟩;obtain⟨v,o,d,_⟩:=I.cell x c e;exact vF (f _ _ d)
theorem Inv.track(I:Inv X pins σ H s)(h:H T=none)(d:NewA X pins T)(g:ObjOk X.prog X.w (upd H T o) s.heap T o):Inv X pins σ (upd H T o) s:=by
 have a:∀b u,H b=some u->b≠T:=fun b u e z=>by rw[z,h]at e;cases e
 refine I.step (h':=s.heap) (H':=upd H T o) (g':=s.gens) (d':=s.drawn) (t':=s.toks) (ch:=[T]) (fun b f=>?_) (fun b o _ _ _ e _=>e) (fun b o _ _ _ e _=>⟨o.slots,e⟩) (fun b u f _ n=>?_) (fun b u _ e=>⟨u,e⟩)
  (fun b k e=>(jg (a _ _ e)).trans e) (fun b u v e=>(jg (a _ _ e)).trans e) (fun b j e=>⟨#[],by rw[jg (a _ _ e),e];simp⟩) (fun m i=>i) (fun b u e=>?_) I.bare
 ·have e:b=T:=by simpa using f
  subst e;exact⟨.inr d.1,d.2.1,d.2.2.1,d.2.2.2⟩
 ·exact(jg fun z=>f (by simp[z])).trans n
 ·by_cases z:b=T
  ·subst z;rw[jt]at e;cases e;exact g
  ·rw[jg z]at e;exact(I.hok b u e).stay (fun c v _ q=>q) (fun c q=>(jg (a _ _ q)).trans q) fun c l q=>(jg (a _ _ q)).trans q
theorem Inv.trackAll:∀(e:List (Addr×HO)) {H:Hp},Inv X pins σ H s->(∀p∈e,H p.1=none/\NewA X pins p.1/\∀H',ObjOk X.prog X.w H' s.heap p.1 p.2)->(e.map (·.1)).Nodup->∃H',Inv X pins σ H' s/\Same H H'/\∀p∈e,H' p.1=some p.2
 | [],H,I,_,_=>⟨H,I,Same.refl _,fun p d=>nomatch d⟩
 | w::r,H,I,h,nd=>by
  obtain⟨a,b,c⟩:=h w vq;rw[uy,nodup_cons]at nd;have g:=I.track a b (c _);obtain⟨H',i,f,m⟩:=Inv.trackAll r g (fun p d=>by
   obtain⟨j,k,l⟩:=h p (vp _ d);exact⟨(jg fun z:p.1=w.1=>nd.1 (by rw[<-z];exact vL.mpr ⟨p,d,rfl⟩)).trans j,k,l⟩) nd.2
  have n:Same H (upd H w.1 w.2):=fun b u q=>(jg (je q a)).trans q
  refine⟨H',i,n.trans f,fun p d=>?_⟩;rcases mem_cons.mp d with rfl | d
  ·exact f _ _ jt
  ·exact m p d
end
section
variable{X:Cx}
theorem valsR:∀as:List Addr,Vals (as.map V.ref) (as.map Value.ref)
 | []=>.nil
 | _::r=>.cons rfl (valsR r)
theorem KV.get{κ:Type}:∀{kvs:List (κ×V)} {vs:List (κ×Value)} {i:Nat} {p:κ×V},KV kvs vs->kvs[i]?=some p->∃q,vs[i]?=some q/\p.1=q.1/\RelV p.2 q.2
 | _,_,_,_,.nil,e=>by simp at e
 | _,_,0,_,.cons r _,e=>by simp at e;subst e;exact⟨_,rfl,r⟩
 | _,_,i+1,p,.cons _ t,e=>by
  obtain⟨q,a,b⟩:=KV.get (i:=i) (p:=p) t (by simpa using e);exact⟨q,by simpa using a,b⟩
theorem j0G:MtR X "dict.update" (fun x vs H Q=>∃d o kvs more,x = .ref d/\vs=[.ref o]/\H d=some (.dK kvs)/\H o=some (.dK more)/\d≠o/\kvs.length+more.length<=sizeLine/\Q .non (upd H d (.dK (mergeK kvs more)))):=by
 intro l s G H x vs v D Q I B A h;obtain⟨d,o,kvs,more,rfl,rfl,k,p,g,y,q⟩:=h;cases B;obtain⟨u,rfl,z⟩:=vals1 A;cases z;obtain⟨E,e,i,m,b⟩:=WN I.hok k;obtain⟨F,f,j,n,c⟩:=WN I.hok p;refine call_meetsIn PySem.F.slot_dict_update b.typeIs PySem.F.entry_dict_update (PySem.F.args_dict_update_2 _ _) (meets_dict_update (mixKind X.prog X.w) d o g f) ⟨i,j,b,c,by rw[<-m.length,<-n.length];exact y,fun r a _ w=>?_⟩;have t:∃q,r.get? d=some q:=let ⟨q,_,_,hq,_⟩:=a;⟨q,hq⟩;have C:=zb more kvs;exact⟨.non,_,wE (t':=s.toks) I (by rw[k];exact True.intro) w t (xU (by lia) e (n.merge m) a),rfl,q⟩
noncomputable def IView(v d:Addr):HO:=.ext fun h=>h.get? v=some {cls:=.type "dict_items",data:=.fields #[.ref d]}
theorem j1L:MtR X "dict.items" (fun x vs H Q=>∃d kvs,x = .ref d/\vs=[]/\H d=some (.dK kvs)/\∀v,H v=none->Q (.ref v) (upd H v (IView v d))):=by
 intro i s y H x vs v t Q I m l h;obtain⟨d,kvs,rfl,rfl,j,q⟩:=h;cases m;have f:=l.zero;subst f;obtain⟨w,c,g,r,a⟩:=WN I.hok j;refine call_meetsIn PySem.F.slot_dict_items a.typeIs PySem.F.entry_dict_items (PySem.F.args_dict_items_1 (.ref d)) (meets_dict_items (mixKind X.prog X.w) d c) ⟨⟨g,a⟩,?_⟩;have e:(s.heap.push {cls:=.type "dict_items",data:=.fields #[.ref d]}).get? s.heap.objs.size=some {cls:=.type "dict_items",data:=.fields #[.ref d]}:=Heap.get?_push_size _ rfl;exact⟨.ref s.heap.objs.size,_,I.laid (t':=s.toks) (o:=IView s.heap.objs.size d) (fun b u q=>vK _ q) (va _) (show ObjOk X.prog X.w _ _ _ (IView s.heap.objs.size d)from⟨e,⟨_,e⟩,fun n p q k=>k _ q⟩),rfl,q _ (I.hok.fresh (va _))⟩
noncomputable def iiK(p:Int×Int):Key×V:=(Sum.inl p.1,.int p.2)
theorem wv(hc:X.calm=true):CallR X (.builtin "sorted") (fun xs H Q=>∃(v d:Addr) (kvs:List (Int×Int)),xs=[.ref v]/\H v=some (IView v d)/\H d=some (.dK (kvs.map iiK))/\kvs.length<64/\
  ∀(l:Addr) (as:List Addr) (R:List (Int×Int)) (H':Hp),Same H H'->H l=none->H' l=some (.lst (as.map V.ref))->(∀a∈as,H a=none)->R.Perm kvs->(R.map (·.1)).Pairwise (·<=·)->as.length=R.length->(∀(i:Nat) (a:Addr) (p:Int×Int),as[i]?=some a->R[i]?=some p->H' a=some (.tup [.int p.1,.int p.2]))->Q (.ref l) H'):=by
 intro y s σ H xs us Q I r h;obtain⟨v,d,kvs,rfl,ev,ed,a0,q⟩:=h;obtain⟨u,rfl,ru⟩:=vals1 r;cases ru;obtain⟨z1,a5,N,r1,G⟩:=WN I.hok ed;have hv:s.heap.get? v=some {cls:=.type "dict_items",data:=.fields #[.ref d]}:=(I.hok v _ ev).1;obtain⟨ep,da⟩:=G.dictAt;have lv:=r1.length;rw[vt]at lv;have nd:(kvs.map (·.1)).Nodup:=by
  have S:(N.map (·.1)).Nodup:=let ⟨_,_,_,_,_,_,_,_,hn⟩:=G;hn;rw[<-r1.keys,v8]at S;refine pairwise_map.mpr ((pairwise_map.mp S).imp fun {a b} h e=>h ?_);show(Sum.inl a.1:Key)=Sum.inl b.1;rw[e]
 refine Calls.call_function_entry kind_sorted plain_sorted entry_sorted (args_sorted1 (.ref v)) ?_;unfold Builtin.«sorted»;refine ub (m:=checkCount "sorted" 1 1 1) (uA ?_);refine ub (kdx_collect (knd:=mixKind X.prog X.w) (kvs:=N) (ep:=ep) (A:=X.A.in1) (I.ok.hd hc) ⟨_,hv,rfl,rfl⟩ da (by rw[<-lv,sizeLine_eq];lia) fun g tk as P C J=>?_);rw[<-lv]at C;refine ub (wpAny_newList ?_ (by rw[vt,C,sizeLine_eq];lia));have K:(g.push (seqObj "list" (as.map Value.ref).toArray 0)).get? g.objs.size=some (seqObj "list" (as.map Value.ref).toArray 0):=Heap.get?_push_size _ rfl;have D:g.objs.size∉as:=fun z=>Nat.lt_irrefl _ (J.there z)
 have E:∀i p,kvs[i]?=some p->(fun i=>(kvs.getD i (0,0)).1) i=p.1/\(fun i=>(kvs.getD i (0,0)).2) i=p.2:=fun i p e=>by
  dsimp only;rw[vy,e];exact⟨rfl,rfl⟩
 have xQ:∀i a,as[i]?=some a->∃t u,(g.push (seqObj "list" (as.map Value.ref).toArray 0)).get? a=some {cls:=.type "tuple",data:=.seq #[.int ((fun i=>(kvs.getD i (0,0)).1) i) t,.int ((fun i=>(kvs.getD i (0,0)).2) i) u]}:=fun i a e=>by
  obtain⟨ky,k,x,O,w,e3⟩:=J.pairs i a e;have f:i<kvs.length:=by rw[<-C];exact(vx.mp e).1
  obtain⟨w',e4,a4⟩:=KV.get r1 (i:=i) (p:=iiK kvs[i]) (by rw[vv,vz f];rfl);rw[O]at e4;cases e4;obtain⟨ek,T,ex⟩:=a4;have U:k=Sum.inl kvs[i].1:=ek.symm;subst U;have W:x = .int kvs[i].2 T:=ex;subst W;obtain⟨Y,Z⟩:=E i _ (vz f);rw[show(fun i=>(kvs.getD i (0,0)).1) i=kvs[i].1 from Y,show(fun i=>(kvs.getD i (0,0)).2) i=kvs[i].2 from Z];rcases Jl (show keyIs (Sum.inl kvs[i].1) ky=true from w)with⟨n,t,q1,q2⟩ | ⟨n,t,q1,q2⟩
  ·cases q1;subst q2;exact⟨t,T,vK _ e3⟩
  ·cases q1
 have xP:PrAt (g.push (seqObj "list" (as.map Value.ref).toArray 0)) as (fun i=>(kvs.getD i (0,0)).1):=fun i a e=>by
  obtain⟨t,u,z⟩:=xQ i a e;exact⟨_,t,_,_,z,rfl,rfl⟩
 have a1:∀i j,i<as.length->j<as.length->(fun i=>(kvs.getD i (0,0)).1) i=(fun i=>(kvs.getD i (0,0)).1) j->i=j:=fun i j f B e=>by
  rw[C]at f B;obtain⟨Y,_⟩:=E i _ (vz f);obtain⟨Z,_⟩:=E j _ (vz B);rw[Y,Z]at e;rcases Nat.lt_trichotomy i j with z | z | z
  ·exact uB e (by have:=pairwise_iff_getElem.mp nd i j (by rw[vt];exact f) (by rw[vt];exact B) z;simpa using this)
  ·exact z
  ·exact uB e.symm (by have:=pairwise_iff_getElem.mp nd j i (by rw[vt];exact B) (by rw[vt];exact f) z;simpa using this)
 refine ub (wpAny_holding (wpAny_call_entry slot_list_sort ⟨_,K,rfl⟩ entry_list_sort (j2r (s:={s with heap:=g.push (seqObj "list" (as.map Value.ref).toArray 0),toks:=tk}) K D xP a1 (by rw[C];exact a0) fun M F c hq hs kk o2=>⟨_,rfl,?_⟩) (args_list_sort _)));refine uA ⟨_,rfl,?_⟩;have a2:∀b o,s.heap.get? b=some o->b<g.objs.size:=fun b o e=>vJ (P b o e)
 have k2:∀b o,s.heap.get? b=some o->F.get? b=some o:=fun b o e=>kk b o (vF (a2 b o e)) (vK _ (P b o e))
 have I2:Inv X y σ H {s with heap:=F,toks:=tk}:=I.kept (t':=tk) k2;have hB:H g.objs.size=none:=I.none_at P;have nB:=I.newB P;have ha:∀a∈as,H a=none/\NewA X y a:=fun a h=>⟨I.hok.fresh (v3 (J.above a h)),I.newA (v3 (J.above a h))⟩
 have L:∀i∈M,i<as.length:=fun i f=>v6.mp (hq.mem_iff.mp f)
 have a3:(((g.objs.size,HO.lst ((M.map fun i=>as.getD i 0).map V.ref))::(List.range as.length).map fun i=>(as.getD i 0,HO.tup [.int (kvs.getD i (0,0)).1,.int (kvs.getD i (0,0)).2])).map (·.1)).Nodup:=by
  rw[uy,nodup_cons,v8];have w:(List.range as.length).map ((fun x=>x.1)∘fun i=>(as.getD i 0,HO.tup [.int (kvs.getD i (0,0)).1,.int (kvs.getD i (0,0)).2]))=as:=ext_getElem (by simp) fun i g F=>by
   rw[getElem_map,getElem_range];show as.getD i 0=_;rw[vy,vz F];rfl
  rw[w];exact⟨D,J.rise.imp fun h=>vF h⟩
 obtain⟨H',I3,s3,k3⟩:=I2.trackAll ((g.objs.size,HO.lst ((M.map fun i=>as.getD i 0).map V.ref))::(List.range as.length).map fun i=>(as.getD i 0,HO.tup [.int (kvs.getD i (0,0)).1,.int (kvs.getD i (0,0)).2])) (fun p hp=>by
  rcases mem_cons.mp hp with rfl | hp
  ·refine⟨hB,nB,fun H'=>⟨?_,_,c,valsR _,o2⟩⟩;rw[vt,vt,hq.length_eq,length_range,C,sizeLine_eq];lia
  ·obtain⟨i,f,rfl⟩:=vL.mp hp;have f:=v6.mp f;have e:as[i]?=some (as.getD i 0):=by rw[vy,vz f];rfl
   obtain⟨t1,T,eo⟩:=xQ i _ e;have hm:=vj e;obtain⟨S,n2⟩:=ha _ hm;exact⟨S,n2,fun H'=>⟨(by show 2<=sizeLine;decide),[_,_],.cons ⟨t1,rfl⟩ (.cons ⟨T,rfl⟩ .nil),⟨_,kk _ _ (fun z=>D (z▸hm)) eo,rfl,_,rfl⟩⟩⟩) a3
 ·refine⟨.ref g.objs.size,H',I3,rfl,q g.objs.size (M.map fun i=>as.getD i 0) (M.map fun i=>kvs.getD i (0,0)) H' s3 hB (k3 _ vq) (fun a h=>?_) ?_ ?_ (by rw[vt,vt]) fun i a p O w=>?_⟩
  ·obtain⟨i,f,rfl⟩:=vL.mp h;have e:as[i]?=some (as.getD i 0):=by rw[vy,vz (L i f)];rfl
   exact(ha _ (vj e)).1
  ·have e:=hq.map fun i=>kvs.getD i (0,0)
   rw[C]at e;have w:(List.range kvs.length).map (fun i=>kvs.getD i (0,0))=kvs:=ext_getElem (by simp) fun i g F=>by
    rw[getElem_map,getElem_range,vy,vz F];rfl
   rw[w]at e;exact e
  ·rw[v8];exact hs
  ·rw[vv]at O w;obtain⟨j,B,rfl⟩:=vf.mp O;rw[B]at w;cases w;exact k3 _ (vp _ (vL.mpr ⟨j,v6.mpr (L j (vj B)),rfl⟩))
end
theorem YE:∀{as:List Addr} {us:List Value},Vals (as.map V.ref) us->us=as.map Value.ref
 | [],_,r=>by cases r;rfl
 | a::as,_,r=>by
  cases r with
  | cons r1 r2=>rw[YE r2,show _=Value.ref a from r1];rfl
theorem W8:∀{as:List Addr} {kvs:List (Int×Int)},as.length=kvs.length->(∀(i:Nat) (a:Addr) (q:Int×Int),as[i]?=some a->kvs[i]?=some q->∃t u,IsTup h a #[.int q.1 t,.int q.2 u])->
  ∃ps:List (Key×Value),KV (kvs.map iiK) ps/\ps.length=kvs.length/\∀(j:Nat) (kv:Key×Value),ps[j]?=some kv->∃a key,as[j]?=some a/\IsTup h a #[key,kv.2]/\keyIs kv.1 key=true
 | [],[],_,_=>⟨[],.nil,rfl,fun j kv e=>by simp at e⟩
 | [],_::_,l,_=>by simp at l
 | _::_,[],l,_=>by simp at l
 | a::as,q::kvs,l,f=>by
  obtain⟨ps,o,p,r⟩:=W8 (as:=as) (kvs:=kvs) (by simpa using l) fun i a q m n=>f (i+1) a q (by simpa using m) (by simpa using n)
  obtain⟨t,u,e⟩:=f 0 a q rfl rfl;refine⟨(Sum.inl q.1,.int q.2 u)::ps,.cons ⟨rfl,u,rfl⟩ o,by rw[vS,p,vS],fun j kv c=>?_⟩;cases j with
  | zero=>simp at c;subst c;exact⟨a,_,rfl,e,KO _ _⟩
  | succ j=>obtain⟨b,s,d,g,k⟩:=r j kv (by simpa using c);exact⟨b,s,by simpa using d,g,k⟩
section
variable{X:Cx}
theorem xM(G:X.calm=true):CallR X (.type "dict") (fun xs H Q=>∃(p:Addr) (as:List Addr) (kvs:List (Int×Int)),xs=[.ref p]/\H p=some (.lst (as.map V.ref))/\as.length=kvs.length/\
  (∀(i:Nat) (a:Addr) (q:Int×Int),as[i]?=some a->kvs[i]?=some q->H a=some (.tup [.int q.1,.int q.2]))/\∀d,H d=none->Q (.ref d) (upd H d (.dK (mergeK [] (kvs.map iiK))))):=by
 intro M s σ H xs us Q I r h;obtain⟨p,as,kvs,rfl,Z,B,ht,q⟩:=h;obtain⟨u,rfl,ru⟩:=vals1 r;cases ru;obtain⟨z,D,n,rv,lv,e⟩:=I.lstM Z;have W:=YE rv;subst W;rw[vt]at z;have J:p<s.heap.objs.size:=vJ e;obtain⟨ps,kp,N,pt⟩:=W8 (h:=s.heap) B fun i a q S U=>by
  obtain⟨_,D,r',t'⟩:=I.hok a _ (ht i a q S U);cases r' with
  | cons ra rr=>
   cases rr with
   | cons rb rr=>
    cases rr;obtain⟨t1,rfl⟩:=ra;obtain⟨t2,rfl⟩:=rb;exact⟨t1,t2,t'⟩
 refine callType_codes (Q₁:=fun t g=>t = .ref s.heap.objs.size/\g={s with heap:=s.heap.push {cls:=.type "dict",data:=.dict #[]}}) PySem.F.kt_called_dict (PySem.F.kt_typeCall_dict_1 (.ref p)) PySem.F.entry_dict_init (kt_code_dict_new (.ref p) ⟨rfl,rfl⟩) ?_;rintro t g ⟨rfl,rfl⟩;have c:(s.heap.push {cls:=.type "dict",data:=.dict #[]}).DictOf (mixKind X.prog X.w) s.heap.objs.size []:=Heap.DictOf.new s.heap;have v:∀b o,s.heap.get? b=some o->(s.heap.push {cls:=.type "dict",data:=.dict #[]}).get? b=some o:=fun b o e=>vK _ e
 generalize s.heap.push {cls:=.type "dict",data:=.dict #[]}=h0 at c v;refine⟨c.typeIs (s:={s with heap:=h0}),PySem.F.args_dict_init_2 _ _,?_⟩;unfold Builtin.«dict.__init__»;refine ub ?_;unfold Builtin.Dict.selfAndRest;refine ub (wpAny_notOrdered_dict (c.typeIs (s:={s with heap:=h0})) ?_);show wpAny (model X.prog X.w) _ (pure (s.heap.objs.size,[Value.ref p])) _ _ _;refine uA ?_;show wpAny (model X.prog X.w) _ (Builtin.Dict.updateFrom "dict.__init__" s.heap.objs.size (.ref p) [] .none) _ _ _;unfold Builtin.Dict.updateFrom;refine ub (wpAny_typeOf (T:="list") ⟨_,v _ _ e,rfl⟩ ?_);rw[vc (by decide)];refine ub (noKeys (s:={s with heap:=h0}) (v _ _ e) rfl rfl rfl (I.ok.hd G) fun m tk K=>?_);rw[vc (show(none:Option Value).isNone=true from rfl)];have f:∀b o,s.heap.get? b=some o->m.get? b=some o:=fun b o e=>K b o (v b o e)
 have k:m.DictOf (mixKind X.prog X.w) s.heap.objs.size []:=c.keep K;have w:s.heap.objs.size<m.objs.size:=by obtain⟨_,_,_,hg,_⟩:=k;exact vJ hg
 have lp:p<m.objs.size:=v4 J w;refine ub (wpAny_rule ?_);refine ub (wpAny_pyIter_list (l:=p) (items:=(as.map Value.ref).toArray) ⟨_,f _ _ e,rfl,n,rfl⟩ ?_);refine uA ⟨plainId_quiet Z8 _,?_⟩;refine dul (knd:=mixKind X.prog X.w) (A:=X.A.in1) (d:=s.heap.objs.size) (it:=m.objs.size) (l:=p) (items:=as.map Value.ref) (res:=.none) (I.ok.hd G) (vF w) (Nat.ne_of_gt J) (Nat.ne_of_gt lp) ps 0 [] _
  ⟨_,Heap.get?_push_size _ rfl,rfl,rfl⟩ ⟨_,vK _ (f _ _ e),rfl,n,rfl⟩ (by rw[vt,B,N,Nat.zero_add]) (fun j kv Y=>?_) (k.push _) (by rw[length_nil,N,<-B,Nat.zero_add];exact z) fun h2 E k2 x=>?_
 ·obtain⟨a,ky,O,⟨o,F,P⟩,R⟩:=pt j kv Y;have L:a<s.heap.objs.size:=vJ F;exact⟨a,ky,by rw[Nat.zero_add,vv,O];rfl,⟨o,vK _ (f _ _ F),P⟩,R,vF L,vF (v4 L w)⟩
 ·refine⟨rfl,.ref s.heap.objs.size,upd H s.heap.objs.size (.dK (mergeK [] (kvs.map iiK))),I.laid (t':=E) (fun b o y=>k2 b o (vF (vJ y)) (vF (v4 (vJ y) w)) (vK _ (f _ _ y))) (va _) ?_,rfl,q _ (I.hok.fresh (va _))⟩;have hm:=zb (kvs.map iiK) [];rw[length_nil,vt]at hm;have C:(s.heap.objs.size==sysModules)=false:=by
   rw[beq_eq_false_iff_ne];exact Nat.ne_of_gt I.big
  exact xU (by lia) C (kp.merge .nil) x
end
theorem XX{H:Hp}:∀(ks:List Int),DVs H (ks.map V.int) (ks.map PyData.int)
 | []=>.nil
 | k::r=>.cons (.int k) (XX r)
theorem j34(ks:List Int):PyData.eqv (.list (ks.map PyData.int)) (.list [])=decide (ks=[]):=by
 cases ks<;>simp[PyData.eqv,PyData.eqvAll]
theorem j4u(S:X.A.units+64<cLine):OpR X (compareOp .In) (fun x y H Q=>∃(a l:Addr) (as:List Addr) (hs:List (List Int)),x = .ref a/\y = .ref l/\H a=some (.lst [])/\H l=some (.lst (as.map V.ref))/\as.length=hs.length/\
  (∀(i:Nat) (b:Addr) (ks:List Int),as[i]?=some b->hs[i]?=some ks->H b=some (.lst (ks.map V.int)))/\Q (.bl (hs.any fun ks=>decide (ks=[]))) H):=by
 intro o s U H x y v u Q I L M h;obtain⟨a,l,as,hs,rfl,rfl,t,B,R,D,q⟩:=h;cases L;cases M;obtain⟨F,r,G,T⟩:=I.list (SqL.of B);have A:=YE r;subst A;obtain⟨N,J⟩:=Qw I (DV.lst t .nil) (show RelV (.ref a) (.ref a)from rfl)
 classical
 have p:∀(i:Nat) (b:Addr) (ks:List Int),as[i]?=some b->hs[i]?=some ks->∃c,Reads s.heap (.ref b) (.list (ks.map PyData.int)) c:=fun i b ks d f=>Qw I (DV.lst (D i b ks d f) (XX ks)) (show RelV (.ref b) (.ref b)from rfl)
 have n:∀(i:Nat) (b:Addr) (ks:List Int),as[i]?=some b->hs[i]?=some ks->decide (∃c,Reads s.heap (.ref b) (.list []) c)=decide (ks=[]):=fun i b ks d f=>by
  obtain⟨c,m⟩:=p i b ks d f;rw[decide_eq_decide];constructor
  ·rintro⟨O,K⟩;have e:=SeqAt.Reads.unique _ _ _ _ _ (show PyData.canLay0 (.list [])=true from rfl) K m;cases ks with
   | nil=>rfl
   | cons k r=>simp at e
  ·rintro rfl;exact⟨c,m⟩
 refine SeqAt.in_listAt (fun w=>decide (∃c,Reads s.heap w (.list []) c)) G.isList (fun w j=>?_) ⟨.bl _,H,I,rfl,?_⟩
 ·obtain⟨i,g,e⟩:=mem_iff_getElem.mp (show w∈as.map Value.ref by simpa using j);rw[getElem_map]at e;rw[vt]at g;subst e;have d:as[i]?=some as[i]:=vz g;have f:hs[i]?=some hs[i]:=vz (by lia);obtain⟨c,m⟩:=p i _ _ d f;have z:=SeqAt.eqAt_reads _ _ X.A.in1 s _ _ _ _ m J (by show PyData.canLayAll0 _=true;exact ke_canLayAll0 _) rfl (by
   show X.A.in1.units+min (PyData.depthAll _+1) (0+1)<cLine;have P:X.A.in1.units=X.A.units+1:=rfl;lia)
  rw[j34,<-n i _ _ d f]at z;exact z
 ·have e:(as.map Value.ref).toArray.any (fun w=>decide (∃c,Reads s.heap w (.list []) c))=hs.any fun ks=>decide (ks=[]):=by
   rw[List.any_toArray,List.any_map,Bool.eq_iff_iff,any_eq_true,any_eq_true];constructor
   ·rintro⟨b,C,j⟩;obtain⟨i,g,rfl⟩:=mem_iff_getElem.mp C;exact⟨hs[i],getElem_mem _,by rw[<-n i _ _ (vz g) (vz (by lia))];exact j⟩
   ·rintro⟨ks,E,j⟩;obtain⟨i,g,rfl⟩:=mem_iff_getElem.mp E;refine⟨as[i],getElem_mem _,?_⟩;show decide _=true;rw[n i _ _ (vz (by lia)) (vz g)];exact j
  rw[e];exact q
section
variable{X:Cx}
def tTru(K:Frg)(ta:TE):TT:=fun σ H Q=>ta σ H fun x H'=>∃k,TruV K x H' k/\Q k H'
theorem kT{a:Expr}{c:TE}(d:PE X a c)(e:∀b,isTrue a X.env b=(do let v <-b;standAt a.pos;holding [v] (truthy v))):PT X a (tTru X.K c):=j21 d e
end
theorem rd_tru{K:Frg}{a:TE}{b:St}{H:Hp}{Q:Bool->Hp->Prop}(h:a b H fun x H'=>∃k,TruV K x H' k/\Q k H'):tTru K a b H Q:=h
theorem kx{K:Frg}{a b:Addr}{xs zs:List V}{k:Nat}{ci:List Nat}{g:TG}{z:TT}{w:TE}{A:St}{H:Hp}{Z:Addr->List V->Hp->Prop}(d:Nat->List V->Hp->Prop)(s:xs.length=zs.length)(B:d 0 [] H)(F:∀i ys H,i<=xs.length->d i ys H->SqL K H a xs/\SqL K H b zs)
  (hs:∀i u v ys H T H',xs[i]?=some u->zs[i]?=some v->d i ys H->Same H H'->H' T=some (.tup [u,v])->g (.ref T) (capS k ci A) H' fun c H2=>z c H2 fun b j=>if b=true then w c j fun v n=>ys.length<sizeLine/\d (i+1) (ys++[v]) n else d (i+1) ys j)
  (D:∀ys H,d xs.length ys H->ys.length<=sizeLine/\∀p,H p=none->Z p ys H) :
  ∃W:Nat->Nat->List V->Hp->Prop,(∃m,W 0 m [] H)/\∀i m ys H,W i m ys H->
   ((Itz K a b).stop i H/\ys.length<=sizeLine/\∀p,H p=none->Z p ys H)\/
   ((Itz K a b).go i H/\∃N:List V->Hp->Prop,(∀f H',N f H'->∃t,t<m/\W (i+1) t f H')/\∀x H',(Itz K a b).yld i H x H'->g x (capS k ci A) H' fun c H2=>z c H2 fun b j=>
    if b=true then w c j fun v n=>ys.length<sizeLine/\N (ys++[v]) n else N ys j):=by
 refine⟨fun i m ys H=>m=xs.length-i/\i<=xs.length/\d i ys H,⟨xs.length,by simp,vA _,B⟩,?_⟩;rintro i m ys H ⟨rfl,E,p⟩;obtain⟨q,r⟩:=F i ys H E p;by_cases l:i<xs.length
 ·refine .inr ⟨⟨xs,xs[i],zs,zs[i],q,by simp[l],r,by simp⟩,d (i+1),fun f H' G=>⟨xs.length-(i+1),by lia,rfl,l,G⟩,fun x H' y=>?_⟩;obtain⟨T,u,v,rfl,C,e,y,I⟩:=y;exact hs i u v ys H T H' (y xs q) (I zs r) p (fun b o h=>by rw[e,jg (je h C)];exact h) (by rw[e];exact jt)
 ·have e:i=xs.length:=by lia
  subst e;exact .inl ⟨⟨xs,zs,q,r,.inl (va _)⟩,D ys H p⟩
theorem j3t{X:Cx}:OpR X (binaryOp .Mult) (rI (fun _ j=>-(2^64)<j/\j<2^64) fun i j=>.int (i*j)):=opI fun _ _ _ _ _ _ _ a q=>mul_int q (CMul.ok (.inr a))
section
variable{X:Cx}{e:Expr}{te:TE}
def tRevS(K:Frg)(te:TE)(ts:TO):TE:=fun σ H Q=>te σ H fun x H1=>ts σ H1 fun st H2=>st=some (-1)/\∃a xs,x = .ref a/\SqL K H2 a xs/\∀p,H2 p=none->Q (.ref p) (upd H2 p (.lst xs.reverse))
theorem j2I{xs:List V}{us:List Value}(h:Vals xs us):Vals xs.reverse us.reverse:=by
 induction h with
 | nil=>exact .nil
 | cons r _ ih=>rw[reverse_cons,reverse_cons];exact ih.append (.cons r .nil)
theorem j4x{st:Expr}{p:TO}{n j:Pos}(A:PE X e te)(hs:PO X (some st) p):PE X (.Subscript e (.Slice none none (some st) n) j) (tRevS X.K te p):=by
 intro c s f H Q I h;refine Subscript_ (thn (A c s f H _ I h) fun v K ⟨x,t,w,J,G⟩=>?_);refine wpAny_Slice ?_;rw[evalPart_none];refine uA ?_;refine uA ?_;refine thn (hs c K f t _ w G) fun k d ⟨M,u,y,F,i,a,L,z,B,q⟩=>?_
 subst i z;cases J;have g:Inv X c f u {d with heap:=d.heap.push {cls:=.type "slice",data:=.fields #[.none,.none,k]}}:=y.kept (t':=d.toks) fun b E q=>vK _ q
 obtain⟨D,r,m,C⟩:=g.list B;have l:=r.length;show wpAny (model X.prog X.w) X.A (subscriptTail e (.Slice none none (some st) n) (.ref a) (.ref d.heap.objs.size)) (EP X c f Q) X.xe {d with heap:=d.heap.push {cls:=.type "slice",data:=.fields #[.none,.none,k]}};refine tail_any (ops:=[.ref a,.ref d.heap.objs.size]) m.isList.typeIs slot_list_getitem.lookup ?_ (by with_unfolding_all rfl);refine wpAny_getItem_list_slice m.isList (Heap.IsSliceOf.new ..) .none .none F (by decide) ?_ (by rw[size_toArray]<;>lia);rw[PySem.W.krv_pick];refine⟨.ref (d.heap.push {cls:=.type "slice",data:=.fields #[.none,.none,k]}).objs.size,_,g.laid (t':=d.toks) (o:=.lst L.reverse) (fun b E q=>vK _ q) (va _) ?_,rfl,q _ (g.hok.fresh (va _))⟩;exact⟨by rw[List.length_reverse];exact C,_,0,j2I r,Heap.get?_push_size _ rfl⟩
end
theorem rd_revS{K:Frg}{c:TE}{d:TO}{b:St}{H:Hp}{Q:VK}(h:c b H fun x H1=>d b H1 fun st H2=>st=some (-1)/\∃a xs,x = .ref a/\SqL K H2 a xs/\∀p,H2 p=none->Q (.ref p) (upd H2 p (.lst xs.reverse))):tRevS K c d b H Q:=h
theorem Xy{K:Frg}{i j k:Nat}{a:Addr}{x y z:V}{b:St}{H:Hp}{R:St->Hp->Prop}(e:SqT K H a [x,y,z])(h:gName i x b H fun σ' H'=>gName j y σ' H' fun σ' H'=>gName k z σ' H' R):gTup K 3 (gCons (gName i) (gCons (gName j) (gCons (gName k) gNil))) (.ref a) b H R:=
 ⟨a,[x,y,z],rfl,e,rfl,x,[y,z],rfl,y,[z],rfl,z,[],rfl,rfl,h⟩
theorem j28{K:Frg}{i j k l:Nat}{a:Addr}{x y z w:V}{b:St}{H:Hp}{R:St->Hp->Prop}(e:SqT K H a [x,y,z,w])(h:gName i x b H fun σ' H'=>gName j y σ' H' fun σ' H'=>gName k z σ' H' fun σ' H'=>gName l w σ' H' R):gTup K 4 (gCons (gName i) (gCons (gName j) (gCons (gName k) (gCons (gName l) gNil)))) (.ref a) b H R:=
 ⟨a,[x,y,z,w],rfl,e,rfl,x,[y,z,w],rfl,y,[z,w],rfl,z,[w],rfl,w,[],rfl,rfl,h⟩
section
variable{prog:Program}{w:World}{A:Around}{E:Value->Shared->Prop}{s:Shared}
end
section
variable{X:Cx}{tg:Expr}
end
section
variable{X:Cx}
end
section
variable{prog:Program}{w:World}{A:Around}{E:Value->Shared->Prop}{s:Shared}
end
section
variable{X:Cx}{pos:Pos}
end
section
variable{σ:St}{H:Hp}{D:Ends}{Q:VK}{ta tb te:TE}
theorem rd_seq(h:t {D with nx:=u D} σ H):tSeq t u D σ H:=h
theorem rd_asg(h:te σ H fun x H1=>g x σ H1 D.nx):tAsg te g D σ H:=h
theorem rd_v0{r:St}(h:Q v H):tVar 0 (some v::r) H Q:=⟨v,rfl,h⟩
theorem rd_n0{r:St}{R:St->Hp->Prop}(h:R (some v::r) H):gName 0 v (a0::r) H R:=h
theorem rd_v1{r:St}(h:Q v H):tVar 1 (a0::some v::r) H Q:=⟨v,rfl,h⟩
theorem rd_n1{r:St}{R:St->Hp->Prop}(h:R (a0::some v::r) H):gName 1 v (a0::a1::r) H R:=h
theorem rd_v2{r:St}(h:Q v H):tVar 2 (a0::a1::some v::r) H Q:=⟨v,rfl,h⟩
theorem rd_n2{r:St}{R:St->Hp->Prop}(h:R (a0::a1::some v::r) H):gName 2 v (a0::a1::a2::r) H R:=h
theorem rd_v3{r:St}(h:Q v H):tVar 3 (a0::a1::a2::some v::r) H Q:=⟨v,rfl,h⟩
theorem rd_n3{r:St}{R:St->Hp->Prop}(h:R (a0::a1::a2::some v::r) H):gName 3 v (a0::a1::a2::a3::r) H R:=h
theorem rd_v4{r:St}(h:Q v H):tVar 4 (a0::a1::a2::a3::some v::r) H Q:=⟨v,rfl,h⟩
theorem rd_n4{r:St}{R:St->Hp->Prop}(h:R (a0::a1::a2::a3::some v::r) H):gName 4 v (a0::a1::a2::a3::a4::r) H R:=h
theorem rd_v5{r:St}(h:Q v H):tVar 5 (a0::a1::a2::a3::a4::some v::r) H Q:=⟨v,rfl,h⟩
theorem rd_n5{r:St}{R:St->Hp->Prop}(h:R (a0::a1::a2::a3::a4::some v::r) H):gName 5 v (a0::a1::a2::a3::a4::a5::r) H R:=h
theorem rd_v6{r:St}(h:Q v H):tVar 6 (a0::a1::a2::a3::a4::a5::some v::r) H Q:=⟨v,rfl,h⟩
theorem rd_n6{r:St}{R:St->Hp->Prop}(h:R (a0::a1::a2::a3::a4::a5::some v::r) H):gName 6 v (a0::a1::a2::a3::a4::a5::a6::r) H R:=h
theorem rd_v7{r:St}(h:Q v H):tVar 7 (a0::a1::a2::a3::a4::a5::a6::some v::r) H Q:=⟨v,rfl,h⟩
theorem rd_n7{r:St}{R:St->Hp->Prop}(h:R (a0::a1::a2::a3::a4::a5::a6::some v::r) H):gName 7 v (a0::a1::a2::a3::a4::a5::a6::a7::r) H R:=h
theorem rd_v8{r:St}(h:Q v H):tVar 8 (a0::a1::a2::a3::a4::a5::a6::a7::some v::r) H Q:=⟨v,rfl,h⟩
theorem rd_n8{r:St}{R:St->Hp->Prop}(h:R (a0::a1::a2::a3::a4::a5::a6::a7::some v::r) H):gName 8 v (a0::a1::a2::a3::a4::a5::a6::a7::a8::r) H R:=h
theorem rd_v9{r:St}(h:Q v H):tVar 9 (a0::a1::a2::a3::a4::a5::a6::a7::a8::some v::r) H Q:=⟨v,rfl,h⟩
theorem rd_n9{r:St}{R:St->Hp->Prop}(h:R (a0::a1::a2::a3::a4::a5::a6::a7::a8::some v::r) H):gName 9 v (a0::a1::a2::a3::a4::a5::a6::a7::a8::a9::r) H R:=h
theorem rd_v10{r:St}(h:Q v H):tVar 10 (a0::a1::a2::a3::a4::a5::a6::a7::a8::a9::some v::r) H Q:=⟨v,rfl,h⟩
theorem rd_n10{r:St}{R:St->Hp->Prop}(h:R (a0::a1::a2::a3::a4::a5::a6::a7::a8::a9::some v::r) H):gName 10 v (a0::a1::a2::a3::a4::a5::a6::a7::a8::a9::a10::r) H R:=h
theorem rd_v11{r:St}(h:Q v H):tVar 11 (a0::a1::a2::a3::a4::a5::a6::a7::a8::a9::a10::some v::r) H Q:=⟨v,rfl,h⟩
theorem rd_n11{r:St}{R:St->Hp->Prop}(h:R (a0::a1::a2::a3::a4::a5::a6::a7::a8::a9::a10::some v::r) H):gName 11 v (a0::a1::a2::a3::a4::a5::a6::a7::a8::a9::a10::a11::r) H R:=h
theorem rd_v12{r:St}(h:Q v H):tVar 12 (a0::a1::a2::a3::a4::a5::a6::a7::a8::a9::a10::a11::some v::r) H Q:=⟨v,rfl,h⟩
theorem rd_n12{r:St}{R:St->Hp->Prop}(h:R (a0::a1::a2::a3::a4::a5::a6::a7::a8::a9::a10::a11::some v::r) H):gName 12 v (a0::a1::a2::a3::a4::a5::a6::a7::a8::a9::a10::a11::a12::r) H R:=h
theorem rd_v13{r:St}(h:Q v H):tVar 13 (a0::a1::a2::a3::a4::a5::a6::a7::a8::a9::a10::a11::a12::some v::r) H Q:=⟨v,rfl,h⟩
theorem rd_n13{r:St}{R:St->Hp->Prop}(h:R (a0::a1::a2::a3::a4::a5::a6::a7::a8::a9::a10::a11::a12::some v::r) H):gName 13 v (a0::a1::a2::a3::a4::a5::a6::a7::a8::a9::a10::a11::a12::a13::r) H R:=h
theorem rd_const(h:Q v H):tC v σ H Q:=h
theorem rd_op(h:ta σ H fun x H1=>tb σ H1 fun y H2=>r x y H2 Q):tOp r ta tb σ H Q:=h
theorem rd_un{r:V->Hp->VK->Prop}(h:ta σ H fun x H1=>r x H1 Q):tUn r ta σ H Q:=h
theorem rd_i0{g:Int->Int->V}(h:Q (g i j) H):rI0 g (.int i) (.int j) H Q:=⟨i,j,rfl,rfl,h⟩
theorem j56{C:Int->Int->Prop}{g:Int->Int->V}(c:C i j)(h:Q (g i j) H):rI C g (.int i) (.int j) H Q:=⟨i,j,rfl,rfl,c,h⟩
theorem rd_u{g:Int->V}(h:Q (g i) H):rU g (.int i) H Q:=⟨i,rfl,h⟩
theorem rd_eqI(h:Q (.bl (decide (i=j))) H):rEq (.int i) (.int j) H Q:=by
 refine⟨rfl,?_⟩;rw[show decide (V.int i=V.int j)=decide (i=j) by simp];exact h
theorem rd_neI(h:Q (.bl (!decide (i=j))) H):rNe (.int i) (.int j) H Q:=by
 refine⟨rfl,?_⟩;rw[show decide (V.int i=V.int j)=decide (i=j) by simp];exact h
theorem rd_eqS(h:Q (.bl (decide (i=j))) H):rEq (.str i) (.str j) H Q:=by
 refine⟨rfl,?_⟩;rw[show decide (V.str i=V.str j)=decide (i=j) by simp];exact h
theorem rd_if(h:c σ H fun b H1=>if b=true then t D σ H1 else u D σ H1):tIfS c t u D σ H:=h
theorem rd_test{R:Bool->Hp->Prop}(h:te σ H fun x H'=>∃k,x = .bl k/\R k H'):tTest te σ H R:=h
theorem rd_tB{R:Bool->Hp->Prop}(h:te σ H fun x H'=>∃k,x = .bl k/\R k H'):tB te σ H R:=h
theorem rd_blP{R:Bool->Prop}(h:R k):∃a,V.bl k = .bl a/\R a:=⟨k,rfl,h⟩
theorem rd_not{R:Bool->Hp->Prop}(h:t σ H fun c H1=>R (!c) H1):tNot t σ H R:=h
theorem rd_and{R:Bool->Hp->Prop}(h:t σ H fun c H1=>if c=true then u σ H1 R else R false H1):tAnd t u σ H R:=h
theorem rd_or{R:Bool->Hp->Prop}(h:t σ H fun c H1=>if c=true then R true H1 else u σ H1 R):tOr t u σ H R:=h
theorem rd_andV(h:ta σ H fun x H1=>∃c,x = .bl c/\if c=true then tb σ H1 Q else Q (.bl false) H1):tAndV ta tb σ H Q:=h
theorem rd_notV(h:ta σ H fun x H1=>∃c,x = .bl c/\Q (.bl (!c)) H1):tNotV ta σ H Q:=h
theorem rd_ifE(h:t σ H fun c H1=>if c=true then ta σ H1 Q else tb σ H1 Q):tIf t ta tb σ H Q:=h
theorem rd_ret(h:te σ H D.rt):tRet te D σ H:=h
theorem rd_next(h:D.nx σ H):tNext D σ H:=h
theorem rd_drop(h:te σ H fun _ H1=>D.nx σ H1):tDrop te D σ H:=h
theorem rd_cb{r:List V->Hp->VK->Prop}(h:t σ H fun vs H1=>r vs H1 Q):tCB r t σ H Q:=h
theorem rd_call{sp:Sp}(h:t σ H fun vs H1=>sp (vs++dvs) H1 Q E):tCall sp dvs E t σ H Q:=h
theorem rd_fld{K:Frg}{f:Str}(h:ta σ H fun x H1=>∃a C dx fs v,x = .ref a/\H1 a=some (.ins C dx fs)/\Cls K C/\NoAttr K C f/\fs.lookup f=some v/\Q v H1):tFld K ta f σ H Q:=h
theorem rd_sfld{K:Frg}{f:Str}(h:tb σ H fun y H1=>ta σ H1 fun x H2=>∃a C dx fs,x = .ref a/\H2 a=some (.ins C dx fs)/\Cls K C/\NoAttr K C f/\fs.length<1000/\D.nx σ (upd H2 a (.ins C dx (putF f y fs)))):sFld K ta tb f D σ H:=h
theorem rd_meth{sp:Sp}(h:ta σ H fun x H1=>∃a dx fs,x = .ref a/\H1 a=some (.ins C dx fs)/\fs.lookup m=none/\t σ H1 fun vs H2=>sp (x::(vs++dvs)) H2 Q E):tMeth C m sp dvs E ta t σ H Q:=h
theorem rd_make{sp:Sp}(h:t σ H fun vs H1=>∀x dx,H1 x=none->H1 dx=none->dx≠x->sp (.ref x::(vs++dvs)) (upd (upd H1 dx (.own x)) x (.ins C dx [])) (fun v H2=>v = .non/\Q (.ref x) H2) E):tMake C sp dvs E t σ H Q:=h
theorem rd_nil{R:List V->Hp->Prop}(h:R [] H):tNil σ H R:=h
theorem rd_cons{R:List V->Hp->Prop}(h:ta σ H fun x H1=>tr σ H1 fun xs H2=>R (x::xs) H2):tCons ta tr σ H R:=h
theorem rd_lst(h:t σ H fun xs H1=>xs.length<=sizeLine/\∀p,H1 p=none->Q (.ref p) (upd H1 p (.lst xs))):tLst t σ H Q:=h
theorem rd_tup(h:t σ H fun xs H1=>xs.length<=sizeLine/\∀p,H1 p=none->Q (.ref p) (upd H1 p (.tup xs))):tTup t σ H Q:=h
theorem rd_chain(h:ta σ H fun x H1=>tb σ H1 fun y H2=>r x y H2 fun z a=>∃k,z = .bl k/\(if k=true then tc σ a fun c b=>r' y c b Q else Q (.bl false) a)):tChain r r' ta tb tc σ H Q:=h
theorem rd_bm{K:Frg}{T:String}{r:V->List V->Hp->VK->Prop}{t:TA}(h:te σ H fun x H1=>tyV K T x H1/\t σ H1 fun xs H2=>r x xs H2 Q):tBM K T r te t σ H Q:=h
theorem rd_sl{r:V->Option Int->Option Int->Hp->VK->Prop}(h:te σ H fun x H1=>tl σ H1 fun l H2=>th σ H2 fun u a=>r x l u a Q):tSl r te tl th σ H Q:=h
theorem rd_nopart{R:Option Int->Hp->Prop}(h:R none H):tNoPart σ H R:=h
theorem rd_part{R:Option Int->Hp->Prop}(h:te σ H fun x H1=>∃i,x = .int i/\R (some i) H1):tPart te σ H R:=h
theorem rd_int{R:Int->Prop}(h:R i):∃a,V.int i = .int a/\R a:=⟨i,rfl,h⟩
theorem iteD{p A B:Prop}[Decidable p](a:p->A)(b:¬p->B):if decide p=true then A else B:=by
 by_cases h:p
 ·rw[vc (vH h)];exact a h
 ·rw[vb (by simpa using h)];exact b h
theorem iteN{p A B:Prop}[Decidable p](a:¬p->A)(b:p->B):if(!decide p)=true then A else B:=by
 by_cases h:p
 ·rw[vb (by simpa using h)];exact b h
 ·rw[vc (by simpa using h)];exact a h
theorem rd_rng1{a:TA}{R:It->Hp->Prop}(h:a σ H fun vs H1=>∃j:Int,vs=[.int j]/\-(2^62)<=j/\j<2^62/\R (Itr 0 j.toNat) H1):iRng1 a σ H R:=h
theorem rd_iList{K:Frg}{R:It->Hp->Prop}(h:te σ H fun x H1=>∃a,x = .ref a/\(∃xs,SqL K H1 a xs)/\R (Itl K a) H1):iList K te σ H R:=h
theorem rd_p18(h:Q (.int (10^18)) H):rI CPow (fun i j=>.int (i^j.toNat)) (.int 10) (.int 18) H Q:=⟨10,18,rfl,rfl,⟨by decide,by decide,by decide⟩,h⟩
theorem rd_p40(h:Q (.int (10^40)) H):rI CPow (fun i j=>.int (i^j.toNat)) (.int 10) (.int 40) H Q:=⟨10,40,rfl,rfl,⟨by decide,by decide,by decide⟩,h⟩
theorem rd_p60(h:Q (.int (10^60)) H):rI CPow (fun i j=>.int (i^j.toNat)) (.int 10) (.int 60) H Q:=⟨10,60,rfl,rfl,⟨by decide,by decide,by decide⟩,h⟩
theorem rd_aug(h:tVar i σ H fun x a=>te σ a fun y H1=>ti x y H1 fun z H2=>gName i z σ H2 D.nx):tAug i te ti D σ H:=h
theorem rd_ipI{f:Int->Int->Int}(h:Q (.int (f i j)) H):ipI f (.int i) (.int j) H Q:=⟨i,j,rfl,rfl,h⟩
theorem rd_for{c:TS} (h:wi σ H fun J H1=>∃W:Nat->Nat->St->Hp->Prop,(∃m,W 0 m σ H1)/\∀i m σ H,W i m σ H->
 (J.stop i H/\D.nx σ H)\/(J.go i H/\∃N:St->Hp->Prop,(∀σ' H',N σ' H'->∃b,b<m/\W (i+1) b σ' H')/\∀x H',J.yld i H x H'->g x σ H' fun a H2=>c {D with nx:=N,ct:=N,bk:=D.nx} a H2)):tFor wi g c D σ H:=h
theorem rd_comp (h:wi σ H fun J H1=>∃W:Nat->Nat->List V->Hp->Prop,(∃m,W 0 m [] H1)/\∀i m ys H,W i m ys H->
 (J.stop i H/\ys.length<=sizeLine/\∀p,H p=none->Q (.ref p) (upd H p (.lst ys)))\/
 (J.go i H/\∃N:List V->Hp->Prop,(∀a H',N a H'->∃e,e<m/\W (i+1) e a H')/\∀x H',J.yld i H x H'->g x (capS n ci σ) H' fun c H2=>tf c H2 fun b d=>
  if b=true then te c d fun v f=>ys.length<sizeLine/\N (ys++[v]) f else N ys d)):tComp wi n ci g tf te σ H Q:=h
theorem rd_yes{R:Bool->Hp->Prop}(h:R true H):tYes σ H R:=h
theorem jX{n:Nat}{ci:List Nat}{g:TG}{x:V}{σ':St}{R:St->Hp->Prop}(e:capS n ci σ=σ')(h:g x σ' H R):g x (capS n ci σ) H R:=by rw[e];exact h
theorem ju{t:TS}{σ':St}(e:σ=σ')(h:t D σ' H):t D σ H:=by subst e;exact h
theorem Y2(a:0<b)(d : -B<=x)(e:x<=B) : -B<=x/b/\x/b<=B:=by
 have c:0<=B:=by lia
 constructor
 ·rw[Int.le_ediv_iff_mul_le a];have:=Int.mul_le_mul_of_nonneg_left (show(1:Int)<=b by lia) c;rw[Int.neg_mul];lia
 ·have:x/b<B+1:=by
   rw[Int.ediv_lt_iff_lt_mul a];have:=Int.mul_le_mul_of_nonneg_left (show(1:Int)<=b by lia) (show 0<=B+1 by lia);lia
  lia
theorem Xn(d : -A<=x)(f:x<=A)(g : -B<=y)(i:y<=B) : -(A*B)<=x*y/\x*y<=A*B:=by
 have a:x.natAbs<=A.toNat:=by lia
 have b:y.natAbs<=B.toNat:=by lia
 have h:=Nat.mul_le_mul a b;rw[<-Int.natAbs_mul]at h;have e:((A.toNat*B.toNat:Nat):Int)=A*B:=by
  rw[Int.natCast_mul,Int.toNat_of_nonneg (by lia),Int.toNat_of_nonneg (by lia)]
 have c:((x*y).natAbs:Int)<=A*B:=by rw[<-e];exact Int.ofNat_le.mpr h
 lia
theorem Wq{H H':Hp}(h:H p=none)(e:upd H p o=H'):Same H H':=fun b u q=>by rw[<-e,jg (je q h)];exact q
theorem yd{H H':Hp}(e:upd H p o=H'):H' p=some o:=by rw[<-e];exact jt
end
theorem ixLm{K:Frg}{p:Addr}{xs:List V}{i:Int}{v:V}{H:Hp}{Q:VK}(h:SqL K H p xs)(e:atI xs i=some v)(q:Q v H):rIxL K (.ref p) (.int i) H Q:=⟨p,xs,i,v,rfl,rfl,h,e,q⟩
theorem ixTm{K:Frg}{p:Addr}{xs:List V}{i:Int}{v:V}{H:Hp}{Q:VK}(h:SqT K H p xs)(e:atI xs i=some v)(q:Q v H):rIxT K (.ref p) (.int i) H Q:=⟨p,xs,i,v,rfl,rfl,h,e,q⟩
end L2
local macro_rules | `(tactic| walk_at "side") => `(tactic| first | with_reducible assumption | exact L2.cdivB (by lia) (by lia) | exact L2.mulOk (by lia) (by lia) (by lia) (by lia) | exact L2.mulOkC (by first | assumption | exact L2.bits_ediv (by assumption) _) (by lia) (by lia) | lia)
local macro_rules | `(tactic| walk_at $s:str) => do
 let ws:=s.getString.splitOn " "
 if ws.head?==some "f" then
  let vs:=if ws.length==3 then["p"++ws.getD 1 "","hp"++ws.getD 1 "","H"++ws.getD 1 "","s"++ws.getD 1 "",ws.getD 2 ""++ws.getD 1 ""]else ws.drop 1
  let i:=fun(k:Nat)=>Lean.mkIdent (Lean.Name.mkSimple (vs.getD k ""))
  return <-`(tactic| (intro $(i 0):ident $(i 1):ident;generalize eH:L2.upd _ $(i 0) _ = $(i 2):ident;have $(i 3):ident:=L2.Wq $(i 1) eH;have $(i 4):ident:=L2.yd eH;clear eH))
 if s.getString != "g" then Lean.Macro.throwUnsupported
 let as <-("rd_seq rd_asg rd_op rd_const rd_i0 rd_cons rd_nil rd_call rd_ret rd_if rd_test rd_tB rd_blP rd_not rd_next rd_v0 rd_v1 rd_v2 rd_v3 rd_v4 rd_v5 rd_v6 rd_v7 rd_v8 rd_v9 rd_v10 rd_v11 rd_v12 rd_v13 rd_un rd_u rd_and rd_or rd_andV rd_notV rd_ifE rd_drop rd_cb rd_lst rd_tup rd_chain rd_bm rd_sl rd_nopart rd_part rd_eqI rd_neI rd_eqS rd_str rd_int rd_rng1 rd_iList rd_ipI rd_aug rd_for rd_comp rd_yes rd_dget rd_iTup rd_sub rd_iEnum rd_iZip rd_dnew rd_dput rd_bm0 rd_tru rd_revS rd_fld rd_sfld rd_meth rd_make rd_n0 rd_n1 rd_n2 rd_n3 rd_n4 rd_n5 rd_n6 rd_n7 rd_n8 rd_n9 rd_n10 rd_n11 rd_n12 rd_n13 rd_p18 rd_p40 rd_p60".splitOn " ").toArray.mapM λn=>`(Lean.Parser.Tactic.tacticSeq| refine $(Lean.mkIdent (Lean.Name.mkStr2 "L2" n)) ?_)
 `(tactic| repeat first | with_reducible (first $[| $as]*) | (with_reducible refine L2.j56 ?c ?_; (case c => ((try dsimp only); walk_at "side"))))
local macro_rules | `(tactic| exists $e) => `(tactic| (walk_at "g"; refine $e))
namespace Fs
end Fs
namespace Rp
end Rp
namespace Rp
end Rp
namespace Pr
open PySem L2
noncomputable def cell(ns:List Int)(k:Int):Int:=ns.getD k.toNat 0
inductive sp_cell_at(K:Frg)(vs:List V)(H:Hp)(Q:VK)(xk:XK):Prop
 | mk (a:Addr) (ns:List Int) (k:Int) (_:vs=[.ref a,.int k]) (_:SqL K H a (ns.map V.int)) (_:ns.length<=63) (_:0<=k) (_:Q (.int (cell ns k)) H):sp_cell_at K vs H Q xk
def xn:Sp:=fun vs H Q _=>∃i,vs=[.int i]/\Q (.bl true) H
theorem j2U{ns:List Int}{k:Int}(c:0<=k)(h:k<(ns.length:Int)):atI (ns.map V.int) k=some (.int (cell ns k)):=by
 have b:k=((k.toNat:Nat):Int):=by lia
 have a:k.toNat<ns.length:=by lia
 have q:atI (ns.map V.int) ((k.toNat:Nat):Int)=some (.int ns[k.toNat]):=jL (by rw[vv,vz a]<;>rfl);rw[<-b]at q;rw[q];unfold cell;rw[vy,vz a];rfl
end Pr
namespace Pr
open PySem L2
inductive sp_law(K:Frg)(vs:List V)(H:Hp)(Q:VK)(xk:XK):Prop
 | mk (a:Addr) (ns:List Int) (_:vs=[.ref a]) (_:SqL K H a (ns.map V.int)) (_:ns.length<=63) (_:(∀x∈ns,Builtin.Int.intBits x<=1048576)) (_:∀H',Q (.bl true) H'):sp_law K vs H Q xk
end Pr
namespace Pr
open PySem L2
end Pr
namespace Pr
open PySem L2
end Pr
namespace Pr
open PySem L2
end Pr
namespace Pr
open PySem L2
end Pr
namespace Pr
open PySem L2
end Pr
namespace Pr
open PySem L2
end Pr
namespace Ws
open PySem PySem.NumText L2
noncomputable def lets:Str:="abcdefghijklmnopqrstuvwxyz"
noncomputable def among(x z:Str):Bool:=decide (∀c∈x.cps.toList,c∈z.cps.toList)
noncomputable def isW(x:Str):Bool:=decide (1<=x.length/\x.length<=8)&&among x lets
end Ws
namespace Ws
open PySem PySem.NumText L2
end Ws
namespace Ws
open PySem L2
end Ws
namespace Rm
open PySem PySem.NumText PyProof.Rows L2
theorem XQ{x:Str}{lo hi:Option Int}:(Txt.slice x lo hi).length<=x.length:=Txt.slice_le x lo hi
theorem j1H:c∈Ws.lets.cps.toList↔97<=c/\c<=122:=by
 rw[show Ws.lets.cps.toList=List.range' 97 26 by decide +kernel,List.mem_range'_1];lia
open PySem L2
theorem none_of{H H':Hp}(s:Same H H')(h:H' p=none):H p=none:=by
 cases e:H p with
 | none=>rfl
 | some u=>rw[s _ _ e]at h;cases h
inductive Fm where
 | hold (n:Int) | ring (x:Str) (n:Int) | rise (x:Str) (h n:Int) | row (ps:List Str) | side (ps:List Str) | again (k:Int) (x:Str)
noncomputable def FormAt(H:Hp)(a:Addr):Fm->Prop
 | .hold n=>H a=some (.tup [.str "hold",.int n])
 | .ring x n=>H a=some (.tup [.str "ring",.str x,.int n])
 | .rise x h n=>H a=some (.tup [.str "raise",.str x,.int h,.int n])
 | .row ps=>∃b,H a=some (.tup [.str "row",.ref b])/\H b=some (.tup (ps.map V.str))
 | .side ps=>∃b,H a=some (.tup [.str "side",.ref b])/\H b=some (.tup (ps.map V.str))
 | .again k x=>H a=some (.tup [.str "again",.int k,.str x])
def PartAt(H:Hp)(a:Addr)(p:Str×Fm):Prop:=∃b,H a=some (.tup [.str p.1,.ref b])/\FormAt H b p.2
def LimbAt(H:Hp)(a:Addr)(p:Str×Int):Prop:=H a=some (.tup [.str p.1,.int p.2])
def All2{α:Type}(R:Addr->α->Prop)(as:List Addr)(xs:List α):Prop:=as.length=xs.length/\∀(i:Nat) (a:Addr) (x:α),as[i]?=some a->xs[i]?=some x->R a x
theorem All2.nil{b:Type}{R:Addr->b->Prop}:All2 R [] []:=⟨rfl,fun i a x h=>by simp at h⟩
theorem All2.mono{b:Type}{R S:Addr->b->Prop}{as:List Addr}{xs:List b}(h:All2 R as xs)(k:∀a x,R a x->S a x):All2 S as xs:=⟨h.1,fun i a x c d=>k a x (h.2 i a x c d)⟩
theorem All2.snoc{f:Type}{R:Addr->f->Prop}{as:List Addr}{xs:List f}{a:Addr}{x:f}(h:All2 R as xs)(k:R a x):All2 R (as++[a]) (xs++[x]):=by
 have j:=h.1;refine⟨by simp[j],fun i b y c d=>?_⟩;by_cases g:i<as.length
 ·rw[vC g]at c;rw[vC (by lia)]at d;exact h.2 i b y c d
 ·rw[vD (by lia)]at c;rw[vD (by lia)]at d;have e:i-as.length=0:=by
   have:=(vx.mp c).1;simp at this;lia
  rw[e]at c;rw[show i-xs.length=0 by lia]at d;simp at c d;subst c d;exact k
theorem All2.get{b:Type}{R:Addr->b->Prop}{as:List Addr}{xs:List b}{i:Nat}{x:b}(h:All2 R as xs)(d:xs[i]?=some x):∃a,as[i]?=some a/\R a x:=by
 have e:=(vx.mp d).1;have f:=h.1;have c:as[i]?=some as[i]:=vz (by lia);exact⟨_,c,h.2 i _ _ c d⟩
section
variable{H H':Hp}{z:Ra}{m:Rr}
end
section
variable{m:Rr}{f:Fm}{ks:List Int}{g:Int}
theorem getD_snoc{a:Type}{l:List a}{x d:a}{j:Nat}(h:j<l.length):(l++[x]).getD j d=l.getD j d:=by
 rw[vy,vy,vC h]
end
theorem getD_in{a:List Str}{n:Nat}(h:n<a.length):a.getD n ⟨#[]⟩∈a:=by
 rw[vy,vz h];exact getElem_mem h
theorem qD{as:List Addr}{i:Int}{a:Addr}(b:0<=i)(h:as[i.toNat]?=some a):atI (as.map V.ref) i=some (.ref a):=by
 have e:atI (as.map V.ref) ((i.toNat:Nat):Int)=some (.ref a):=jL (by rw[vv,h];rfl);rw[Int.toNat_of_nonneg b]at e;exact e
open PySem PySem.Spec PyProof.Rows L2
noncomputable def vN(j:Nat):V:=.int j
theorem Yx:∀{ks:List Int} {lo hi:Int},ks.Pairwise (· < ·)->(∀k∈ks,lo<=k/\k<hi)->ks.length<=(hi-lo).toNat
 | [],_,_,_,_=>vA _
 | k::r,lo,hi,h,b=>by
  have c:=Yx (ks:=r) (lo:=k+1) (hi:=hi) (pairwise_cons.mp h).2 fun x a=>⟨(pairwise_cons.mp h).1 x a,(b x (vp _ a)).2⟩
  have d:=b k vq;rw[vS];lia
theorem XW{H:Hp}:∀(ks:List Int),DVs H (ks.map V.int) (ks.map PyData.int)
 | []=>.nil
 | k::r=>.cons (.int k) (XW r)
theorem j1i{H:Hp}{a:Addr}{ks:List Int}(h:H a=some (.lst (ks.map V.int))):DV H (.ref a) (.list (ks.map PyData.int)):=.lst h (XW ks)
theorem j33{H:Hp}(h:H a=some (.lst [])):DV H (.ref a) (.list []):=.lst h .nil
theorem j1k(ks:List Int):PyData.eqv (.list (ks.map PyData.int)) (.list [])=decide (ks=[]):=by
 cases ks<;>simp[PyData.eqv,PyData.eqvAll]
theorem shp(ks:List Int):SeqAt.shaped (.list (ks.map PyData.int))=true:=PySem.W.ke_shaped_ints ks
theorem shp0:SeqAt.shaped (.list [])=true:=PySem.W.ke_shaped_ints []
theorem wH(n:Int):∀hs:List Int,inV (.int n) (hs.map V.int)=decide (n∈hs)
 | []=>rfl
 | h::r=>by
  have a:=wH n r;unfold inV at a|-;rw[uy,any_cons,a];have e:eqV (.int h) (.int n)=decide (h=n):=by
   show decide _=_;simp
  rw[e,Bool.eq_iff_iff];simp only[Bool.or_eq_true,decide_eq_true_eq,mem_cons];constructor
  ·rintro(x | x)
   ·exact .inl x.symm
   ·exact .inr x
  ·rintro(x | x)
   ·exact .inl x.symm
   ·exact .inr x
theorem inI(n:Int)(hs:List Int):(if false=true then !inV (.int n) (hs.map V.int)else inV (.int n) (hs.map V.int))=decide (n∈hs):=by rw[vb (by decide),wH]
theorem notInI(n:Int)(hs:List Int):(if true=true then !inV (.int n) (hs.map V.int)else inV (.int n) (hs.map V.int)) = !decide (n∈hs):=by rw[vc rfl,wH]
theorem flats:∀hs:List Int,(hs.map V.int).all flatV=true
 | []=>rfl
 | h::r=>by rw[uy,all_cons,flats r];rfl
theorem take_snoc{a:Type}{l:List a}{i:Nat}{x:a}(h:l[i]?=some x):l.take (i+1)=l.take i++[x]:=by
 rw[List.take_add_one,h];rfl
theorem j2F{is:List Nat}{i:Nat}{x:V}(h:(is.map vN)[i]?=some x):∃j,is[i]?=some j/\x = .int j/\j∈is:=by
 rw[vv]at h;obtain⟨j,a,rfl⟩:=vf.mp h;exact⟨j,a,rfl,vj a⟩
theorem j0Y{c hs:List Int}(e:c.Perm hs)(f:hs.Nodup)(d:c.Pairwise (·<=·)):c.Pairwise (· < ·):=
 (List.Pairwise.and d (e.nodup_iff.mpr f)).imp fun {a b} h=>by have g:=h.1;have i:a≠b:=h.2;lia
def Shp(n:Nat)(d:PyData):Prop:=d.canLay0=true/\d.depth<=n
theorem Shp.int:Shp 0 (.int i):=⟨rfl,va _⟩
theorem Shp.str(h:PyData.strOk x=true):Shp 0 (.str x):=⟨h,va _⟩
theorem Shp.mono(h:Shp n d)(a:n<=k):Shp k d:=⟨h.1,vY h.2 a⟩
theorem Ya:∀{ds:List PyData},(∀d∈ds,Shp n d)->PyData.canLayAll0 ds=true/\PyData.depthAll ds<=n
 | [],_=>⟨rfl,vA _⟩
 | d::r,h=>by
  have a:=h d vq;have b:=Ya (ds:=r) fun x c=>h x (vp _ c)
  constructor
  ·show(d.canLay0&&PyData.canLayAll0 r)=true;rw[a.1,b.1];rfl
  ·show max d.depth (PyData.depthAll r)<=n;exact Nat.max_le.mpr ⟨a.2,b.2⟩
theorem Shp.lst(h:∀d∈ds,Shp n d):Shp (n+1) (.list ds):=⟨(Ya h).1,Nat.succ_le_succ (Ya h).2⟩
theorem Shp.tup(h:∀d∈ds,Shp n d):Shp (n+1) (.tuple ds):=⟨(Ya h).1,Nat.succ_le_succ (Ya h).2⟩
theorem Shp.ok(h:Shp n d)(a:n<=64):SeqAt.shaped d=true:=by
 unfold SeqAt.shaped;rw[h.1,Bool.true_and];exact vH (vY h.2 a)
theorem j0c(h:Ws.isW x=true):PyData.strOk x=true:=by
 unfold Ws.isW Ws.among at h;rw[Bool.and_eq_true]at h;have a:=of_decide_eq_true h.2;unfold PyData.strOk;rw[Array.all_eq_true_iff_forall_mem];intro c b;have:=j1H.mp (a c (by simpa using b));exact vH (by lia)
theorem Y1{H:Hp}:∀(xs:List Str),DVs H (xs.map V.str) (xs.map PyData.str)
 | []=>.nil
 | x::r=>.cons (.str x) (Y1 r)
theorem All2.tail{c:Type}{R:Addr->c->Prop}{a:Addr}{x:c}{as:List Addr}{xs:List c}(h:All2 R (a::as) (x::xs)):R a x/\All2 R as xs:=
 ⟨h.2 0 a x rfl rfl,Nat.succ.inj h.1,fun i b y d e=>h.2 (i+1) b y (by simpa using d) (by simpa using e)⟩
noncomputable def FmWs:Fm->Prop
 | .hold n=>0<=n/\n<=10^18
 | .ring x n=>Ws.isW x=true/\0<=n/\n<=10^18
 | .rise x h n=>Ws.isW x=true/\0<=h/\h<=10^18/\0<=n/\n<=10^18
 | .row ps=>ps.length<=8/\∀x∈ps,Ws.isW x=true
 | .side ps=>ps.length<=8/\∀x∈ps,Ws.isW x=true
 | .again k x=>0<=k/\k<=10^18/\Ws.isW x=true
structure BkOk(ls:List (Str×Int))(ps:List (Str×Fm)):Prop where
 l8:ls.length<=8
 ln:∀p∈ls,Ws.isW p.1=true/\0<=p.2/\p.2<=10^18
 p61:ps.length<=61
 pn:∀p∈ps,Ws.isW p.1=true/\FmWs p.2
theorem Yb{n:Nat}{xs:List Str}(h:∀x∈xs,Ws.isW x=true):∀d∈xs.map PyData.str,Shp n d:=fun d a=>by
 obtain⟨x,b,rfl⟩:=vL.mp a;exact(Shp.str (j0c (h x b))).mono (vA _)
structure BookAt(H:Hp)(b pl pp:Addr)(las pas:List Addr)(ls:List (Str×Int))(ps:List (Str×Fm)):Prop where
 t:H b=some (.tup [.ref pl,.ref pp])
 l:H pl=some (.lst (las.map V.ref))
 la:All2 (LimbAt H) las ls
 p:H pp=some (.lst (pas.map V.ref))
 pa:All2 (PartAt H) pas ps
theorem FormAt.same{H H':Hp}(s:Same H H')(h:FormAt H a f):FormAt H' a f:=by
 cases f with
 | row ps=>obtain⟨b,c,d⟩:=h;exact⟨b,s _ _ c,s _ _ d⟩
 | side ps=>obtain⟨b,c,d⟩:=h;exact⟨b,s _ _ c,s _ _ d⟩
 | hold n=>exact s _ _ h
 | ring x n=>exact s _ _ h
 | rise x g n=>exact s _ _ h
 | again x n=>exact s _ _ h
theorem PartAt.same{H H':Hp}(s:Same H H')(h:PartAt H a p):PartAt H' a p:=by
 obtain⟨b,c,d⟩:=h;exact⟨b,s _ _ c,FormAt.same s d⟩
theorem BookAt.same{H H':Hp}(B:BookAt H b pl pp las pas ls ps)(s:Same H H'):BookAt H' b pl pp las pas ls ps:=
 ⟨s _ _ B.t,s _ _ B.l,B.la.mono fun a x h=>s _ _ h,s _ _ B.p,B.pa.mono fun a x h=>PartAt.same s h⟩
theorem getD_inj{a:List Str}(d:a.Nodup){i j:Nat}(hi:i<a.length)(b:j<a.length)(h:a.getD i ⟨#[]⟩=a.getD j ⟨#[]⟩):i=j:=by
 rw[vy,vy,vz hi,vz b]at h;have c:a[i]=a[j]:=h;rcases Nat.lt_trichotomy i j with q | q | q
 ·exact uB c (pairwise_iff_getElem.mp d i j hi b q)
 ·exact q
 ·exact uB c.symm (pairwise_iff_getElem.mp d j i b hi q)
open PyProof.Rows.KTD (inKeys Dat)
theorem at0:atI (x::xs) 0=some x:=jL (j:=0) rfl
theorem iteB0{A B:Prop}(e:b=false)(h:B):if b=true then A else B:=by rw[e];exact h
theorem iteB1{A B:Prop}(e:b=true)(h:A):if b=true then A else B:=by rw[e];exact h
theorem All2.at_ref{e:Type}{R:Addr->e->Prop}{as:List Addr}{xs:List e}{i:Nat}{v:V}(h:All2 R as xs)(c:(as.map V.ref)[i]?=some v):∃a x,v = .ref a/\xs[i]?=some x/\R a x:=by
 rw[vv]at c;obtain⟨a,b,rfl⟩:=vf.mp c;have f:=(vx.mp b).1;have g:=h.1;have d:xs[i]?=some xs[i]:=vz (by lia);exact⟨a,_,rfl,d,h.2 i a _ b d⟩
theorem qy:∀{n:Nat} {hs:List Int},hs.Nodup->(∀k∈hs,0<=k/\k<(n:Int))->hs.length<=n
 | 0,hs,_,h=>by
  cases hs with
  | nil=>exact va _
  | cons k r=>have:=h k vq;lia
 | n+1,hs,nd,h=>by
  by_cases e:(n:Int)∈hs
  ·have i:=qy (n:=n) (nd.erase (n:Int)) fun k a=>by
    have b:=h k (List.mem_of_mem_erase a);have c:k≠(n:Int):=fun z=>nd.not_mem_erase (z▸a)
    lia
   have l:=List.length_erase_of_mem e;lia
  ·have i:=qy (n:=n) nd fun k a=>by
    have b:=h k a;have c:k≠(n:Int):=fun z=>e (z▸a)
    lia
   lia
noncomputable def Fm.ns:Fm->List Str
 | .row ps=>ps
 | .side ps=>ps
 | .again _ x=>[x]
 | _=>[]
noncomputable def numK(xs:List Str):List (Key×V):=xs.zipIdx.map fun p=>(Sum.inr p.1,.int (p.2:Nat))
theorem j0I(xs:List Str)(x:Str):numK (xs++[x])=numK xs++[(Sum.inr x,.int (xs.length:Nat))]:=by
 unfold numK;rw[List.zipIdx_append,vi];simp
theorem j1O(xs:List Str):(numK xs).length=xs.length:=by simp[numK]
theorem KR(xs:List Str):(numK xs).map (·.1)=xs.map Sum.inr:=by
 unfold numK;rw[v8];have e:∀(k:Nat) (xs:List Str),(xs.zipIdx k).map ((fun x=>x.1)∘fun p:Str×Nat=>((Sum.inr p.1:Key),V.int (p.2:Nat)))=xs.map Sum.inr:=fun k xs=>by
  induction xs generalizing k with
  | nil=>rfl
  | cons x r ih=>rw[List.zipIdx_cons,uy,uy,ih];rfl
 exact e 0 xs
theorem j3p{xs:List Str}{j:Nat}{x:Str}(h:xs[j]?=some x):(numK xs)[j]?=some (Sum.inr x,.int (j:Nat)):=by
 unfold numK;rw[vv,List.getElem?_zipIdx,h];simp
theorem j2G:∀{kvs:List (Key×V)} {j:Nat} {k:Key} {v:V},(kvs.map (·.1)).Nodup->kvs[j]?=some (k,v)->valV kvs k=some v
 | [],j,k,v,_,h=>by simp at h
 | p::r,0,k,v,_,h=>by
  simp at h;subst h;unfold valV;simp
 | p::r,j+1,k,v,nd,h=>by
  rw[uy,nodup_cons]at nd;have a:r[j]?=some (k,v):=by simpa using h
  have c:p.1≠k:=fun e=>nd.1 (e▸vL.mpr ⟨(k,v),vj a,rfl⟩)
  have b:=j2G nd.2 a;unfold valV at b|-;rw[List.find?_cons,vI c];exact b
theorem W0{xs:List Str}(a:xs.Nodup){j:Nat}{x:Str}(h:xs[j]?=some x):valV (numK xs) (Sum.inr x)=some (.int (j:Nat)):=
 j2G (by rw[KR];exact pairwise_map.mpr (a.imp fun h e=>h (Sum.inr.inj e))) (j3p h)
theorem j23{kvs:List (Key×V)}{k:Key}{v:V}(h:k∉kvs.map (·.1)):putK kvs k v=kvs++[(k,v)]:=by
 unfold putK;rw[vb];intro e;obtain⟨p,b,a⟩:=any_eq_true.mp e;exact h (vL.mpr ⟨p,b,of_decide_eq_true a⟩)
noncomputable def ixOf:List Str->Str->Nat
 | [],_=>0
 | y::r,x=>if y=x then 0 else ixOf r x+1
theorem QY:∀{xs:List Str} {j:Nat} {x:Str},xs.Nodup->xs[j]?=some x->ixOf xs x=j
 | [],j,x,_,h=>by simp at h
 | y::r,0,x,_,h=>by
  simp at h;subst h;exact vc rfl
 | y::r,j+1,x,nd,h=>by
  rw[nodup_cons]at nd;have a:r[j]?=some x:=by simpa using h
  have b:y≠x:=fun e=>nd.1 (e▸vj a)
  show(if y=x then 0 else ixOf r x+1)=j+1;rw[vb b,QY nd.2 a]
noncomputable def nmsOf{α:Type}(ps:List (Str×α)):List Str:=ps.map (·.1)
noncomputable def inP(ps:List (Str×Fm))(f:Fm):List Nat:=f.ns.map (ixOf (nmsOf ps))
structure WfB(ls:List (Str×Int))(ps:List (Str×Fm)):Prop where
 ln:(nmsOf ls).Nodup
 l8:ls.length<=8
 pn:(nmsOf ps).Nodup
 p61:ps.length<=61
 f:∀(i:Nat) (p:Str×Fm),ps[i]?=some p->(∀x∈p.2.ns,∃j,j<i/\(nmsOf ps)[j]?=some x)/\p.2.ns.length<=8
 r:∀(i:Nat) (y x:Str) (h n:Int),ps[i]?=some (y,.rise x h n)->∃j:Nat,(nmsOf ls)[j]?=some x
theorem WfB.inP_lt(W:WfB ls ps)(h:ps[i]?=some p)(a:j∈inP ps p.2):j<i:=by
 obtain⟨x,c,rfl⟩:=vL.mp a;obtain⟨k,b,e⟩:=(W.f i p h).1 x c;rw[QY W.pn e];exact b
inductive sp_numbers_of(vs:List V)(H:Hp)(Q:VK)(xk:XK):Prop
 | mk (l:Addr) (as:List Addr) (xs:List Str) (_:vs=[.ref l]) (_:H l=some (.lst (as.map V.ref))) (_:as.length=xs.length) (_:(∀(i:Nat) (a:Addr) (x:Str),as[i]?=some a->xs[i]?=some x->∃r,H a=some (.tup [.str x,r]))) (_:xs.Nodup) (_:xs.length<=100) (_:∀(d:Addr) (H':Hp),Same H H'->H d=none->H' d=some (.dK (numK xs))->Q (.ref d) H'):sp_numbers_of vs H Q xk
inductive sp_names_in(vs:List V)(H:Hp)(Q:VK)(xk:XK):Prop
 | mk (a:Addr) (f:Fm) (_:vs=[.ref a]) (_:FormAt H a f) (_:∀(b:Addr) (H':Hp),Same H H'->H' b=some (.tup (f.ns.map V.str))->Q (.ref b) H'):sp_names_in vs H Q xk
def ListsAt(H:Hp)(as:List Addr)(M:List (List Int)):Prop:=All2 (fun a ks=>H a=some (.lst (ks.map V.int))) as M
theorem All2.monoM{c:Type}{R S:Addr->c->Prop}{as:List Addr}{xs:List c}(h:All2 R as xs)(k:∀a∈as,∀x,R a x->S a x):All2 S as xs:=⟨h.1,fun i a x b d=>k a (vj b) x (h.2 i a x b d)⟩
inductive sp_inner(vs:List V)(H:Hp)(Q:VK)(xk:XK):Prop
 | mk (b pl pp:Addr) (las pas:List Addr) (ls:List (Str×Int)) (ps:List (Str×Fm)) (_:vs=[.ref b]) (_:BookAt H b pl pp las pas ls ps) (_:WfB ls ps) (_:∀(l:Addr) (as:List Addr) (H':Hp),Same H H'->H l=none->H' l=some (.lst (as.map V.ref))->(∀a∈as,H a=none)->ListsAt H' as (ps.map fun p=>(inP ps p.2).map fun j:Nat=>(j:Int))->Q (.ref l) H'):sp_inner vs H Q xk
def PrsAt(H:Hp)(bs:List Addr)(e:List (Int×Int)):Prop:=All2 (fun b q=>H b=some (.tup [.int q.1,.int q.2])) bs e
def EndsAt(H:Hp)(as:List Addr)(E:List (List (Int×Int))):Prop:=All2 (fun a e=>∃bs,H a=some (.lst (bs.map V.ref))/\PrsAt H bs e) as E
def LastIn(E:List (List (Int×Int)))(is:List Nat)(k v:Int):Prop:=∃pre j post,is=pre++j::post/\(k,v)∈E.getD j []/\∀j'∈post,∀v',(k,v')∉E.getD j' []
def EndIs(ls:List (Str×Int))(ps:List (Str×Fm))(E:List (List (Int×Int)))(f:Fm)(k v:Int):Prop:=LastIn E (inP ps f) k v\/∃x n,f = .rise x v n/\k=(ixOf (nmsOf ls) x:Nat)
def EndOk(ls:List (Str×Int))(ps:List (Str×Fm))(E:List (List (Int×Int))):Prop:=∀(i:Nat) (p:Str×Fm) (e:List (Int×Int)),ps[i]?=some p->E[i]?=some e->(e.map (·.1)).Pairwise (· < ·)/\∀k v,(k,v)∈e↔EndIs ls ps E p.2 k v
inductive sp_ends(vs:List V)(H:Hp)(Q:VK)(xk:XK):Prop
 | mk (b pl pp:Addr) (las pas:List Addr) (ls:List (Str×Int)) (ps:List (Str×Fm)) (_:vs=[.ref b]) (_:BookAt H b pl pp las pas ls ps) (_:WfB ls ps) (_:∀(l:Addr) (as:List Addr) (E:List (List (Int×Int))) (H':Hp),Same H H'->H l=none->H' l=some (.lst (as.map V.ref))->(∀a∈as,H a=none)->E.length=ps.length->EndsAt H' as E->EndOk ls ps E->Q (.ref l) H'):sp_ends vs H Q xk
def MovOk(ls:List (Str×Int))(ps:List (Str×Fm))(M:List (List Int)):Prop:=∀(i:Nat) (p:Str×Fm) (ks:List Int),ps[i]?=some p->M[i]?=some ks->ks.Pairwise (· < ·)/\∀k,k∈ks↔(∃j∈inP ps p.2,k∈M.getD j [])\/∃x h n,p.2 = .rise x h n/\k=(ixOf (nmsOf ls) x:Nat)
inductive sp_moved(vs:List V)(H:Hp)(Q:VK)(xk:XK):Prop
 | mk (b pl pp:Addr) (las pas:List Addr) (ls:List (Str×Int)) (ps:List (Str×Fm)) (_:vs=[.ref b]) (_:BookAt H b pl pp las pas ls ps) (_:WfB ls ps) (_:∀(l:Addr) (as:List Addr) (M:List (List Int)) (H':Hp),Same H H'->H l=none->H' l=some (.lst (as.map V.ref))->(∀a∈as,H a=none)->M.length=ps.length->ListsAt H' as M->MovOk ls ps M->Q (.ref l) H'):sp_moved vs H Q xk
theorem j2E:∀{a b:List Int},a.Pairwise (· < ·)->b.Pairwise (· < ·)->(∀k,k∈a↔k∈b)->a=b
 | [],[],_,_,_=>rfl
 | [],y::s,_,_,h=>uB ((h y).mpr vq) (by simp)
 | x::r,[],_,_,h=>uB ((h x).mp vq) (by simp)
 | x::r,y::s,ha,hb,h=>by
  rw[pairwise_cons]at ha hb;have e:x=y:=by
   rcases mem_cons.mp ((h x).mp vq)with q | q
   ·exact q
   ·rcases mem_cons.mp ((h y).mpr vq)with d | d
    ·exact d.symm
    ·have f:=hb.1 x q;have g:=ha.1 y d;lia
  subst e;congr 1;refine j2E ha.2 hb.2 fun k=>⟨fun c=>?_,fun c=>?_⟩
  ·rcases mem_cons.mp ((h k).mp (vp _ c))with q | q
   ·have:=ha.1 k c;lia
   ·exact q
  ·rcases mem_cons.mp ((h k).mpr (vp _ c))with q | q
   ·have:=hb.1 k c;lia
   ·exact q
theorem getD_map{E:List (List (Int×Int))}(j:Nat):(E.map fun e=>e.map (·.1)).getD j []=(E.getD j []).map (·.1):=by
 rw[vy,vy,vv];cases E[j]?<;>rfl
theorem wL{k:Int}{e:List (Int×Int)}:k∈e.map (·.1)↔∃v,(k,v)∈e:=by
 constructor
 ·intro h;obtain⟨p,a,rfl⟩:=vL.mp h;exact⟨p.2,a⟩
 ·rintro⟨v,h⟩;exact vL.mpr ⟨_,h,rfl⟩
theorem wJ:∀{is:List Nat},(∃v,LastIn E is k v)↔∃j∈is,∃v,(k,v)∈E.getD j []
 | []=>⟨fun⟨v,b,j,a,e,_⟩=>by cases b<;>simp at e,fun⟨j,h,_⟩=>by simp at h⟩
 | i::r=>by
  have p:=wJ (E:=E) (k:=k) (is:=r);constructor
  ·rintro⟨v,b,j,a,e,c,m⟩;exact⟨j,by rw[e];simp,v,c⟩
  ·rintro⟨j,d,v,n⟩;by_cases q:∃j∈r,∃v,(k,v)∈E.getD j []
   ·obtain⟨l,b,g,a,e,c,m⟩:=p.mpr q;exact⟨l,i::b,g,a,by rw[e];rfl,c,m⟩
   ·rcases mem_cons.mp d with rfl | d
    ·exact⟨v,[],j,r,rfl,n,fun g o l f=>q ⟨g,o,l,f⟩⟩
    ·exact uB ⟨j,d,v,n⟩ q
theorem j4q{ls:List (Str×Int)}{ps:List (Str×Fm)}{E:List (List (Int×Int))}(s:E.length=ps.length)(h:EndOk ls ps E):MovOk ls ps (E.map fun e=>e.map (·.1)):=fun i p t q d=>by
 rw[vv]at d;obtain⟨e,o,rfl⟩:=vf.mp d;obtain⟨a,b⟩:=h i p e q o;refine⟨a,fun k=>?_⟩;rw[wL];constructor
 ·rintro⟨v,r⟩;rcases(b k v).mp r with z | ⟨x,n,f,g⟩
  ·obtain⟨j,l,m,c⟩:=wJ.mp ⟨v,z⟩;exact .inl ⟨j,l,by rw[getD_map];exact wL.mpr ⟨m,c⟩⟩
  ·exact .inr ⟨x,v,n,f,g⟩
 ·rintro(⟨j,l,d⟩ | ⟨x,h,n,f,g⟩)
  ·rw[getD_map]at d;obtain⟨m,c⟩:=wL.mp d;obtain⟨v,z⟩:=wJ.mpr ⟨j,l,m,c⟩;exact⟨v,(b k v).mpr (.inl z)⟩
  ·exact⟨h,(b k h).mpr (.inr ⟨x,n,f,g⟩)⟩
theorem X3(h:x∈xs):ixOf xs x<xs.length:=by
 induction xs with
 | nil=>exact nomatch h
 | cons y r ih=>
  show(if y=x then 0 else ixOf r x+1)<r.length+1;split
  ·lia
  ·rename_i hne;rcases mem_cons.mp h with e | e
   ·exact uB e.symm hne
   ·have:=ih e;lia
theorem kB(W:WfB ls ps)(s:E.length<=ps.length)(h:EndOk ls ps E):∀(i:Nat),∀q∈E.getD i [],0<=q.1/\q.1<(ls.length:Int):=by
 intro i
 induction i using Nat.strongRecOn with
 | ind i ih=>
  intro q a;rw[vy]at a;cases e:E[i]? with
  | none=>rw[e]at a;exact nomatch a
  | some ev=>
   rw[e]at a;have r:=(vx.mp e).1;have f:ps[i]?=some ps[i]:=vz (by lia);obtain⟨_,b⟩:=h i _ ev f e;rcases(b q.1 q.2).mp a with⟨m,j,k,c,d,_⟩ | ⟨x,n,c,d⟩
   ·exact ih j (W.inP_lt f (by rw[c];simp)) _ d
   ·have g:ps[i]?=some (ps[i].1,.rise x q.2 n):=by rw[f,<-c]
    obtain⟨j,l⟩:=W.r i _ _ _ _ g;have o:=X3 (vj l);have p:(nmsOf ls).length=ls.length:=vt _;rw[d];lia
theorem WP{ls:List (Str×Int)}{ps:List (Str×Fm)}(W:WfB ls ps){E:List (List (Int×Int))}(f:E.length<=ps.length)(h:EndOk ls ps E){i:Nat}{e:List (Int×Int)}(c:E[i]?=some e):e.length<=8:=by
 have hi:=(vx.mp c).1;have a:=(h i _ e (vz (by lia)) c).1;have b:=kB W f h i;rw[vy,c]at b;have z:=Yx (ks:=e.map (·.1)) (lo:=0) (hi:=ls.length) a fun k d=>by
  obtain⟨q,g,rfl⟩:=vL.mp d;exact b q g
 rw[vt]at z;have:=W.l8;lia
noncomputable def putI(kvs:List (Int×Int))(k v:Int):List (Int×Int):=if k∈kvs.map (·.1)then kvs.map (fun q=>if q.1=k then(q.1,v)else q)else kvs++[(k,v)]
noncomputable def mergeI(kvs more:List (Int×Int)):List (Int×Int):=more.foldl (fun acc q=>putI acc q.1 q.2) kvs
theorem j22(kvs:List (Int×Int))(k v:Int):putK (kvs.map iiK) (Sum.inl k) (.int v)=(putI kvs k v).map iiK:=by
 have e:(((kvs.map iiK).any fun kv=>decide (kv.1=(Sum.inl k:Key)))=true)↔k∈kvs.map (·.1):=by
  rw[List.any_map,any_eq_true];constructor
  ·rintro⟨q,a,h⟩;have b:(Sum.inl q.1:Key)=Sum.inl k:=of_decide_eq_true h;exact vL.mpr ⟨q,a,Sum.inl.inj b⟩
  ·intro h;obtain⟨q,a,rfl⟩:=vL.mp h;exact⟨q,a,vH rfl⟩
 unfold putK putI;by_cases c:k∈kvs.map (·.1)
 ·rw[vc (e.mpr c),vc c,v8,v8];refine map_congr_left fun q _=>?_
  show(if(Sum.inl q.1:Key)=Sum.inl k then _ else _)=iiK (if q.1=k then(q.1,v)else q);by_cases z:q.1=k
  ·rw[vc z,vc (by rw[z])];rfl
  ·rw[vb z,vb (fun w=>z (Sum.inl.inj w))]
 ·rw[vb (fun w=>c (e.mp w)),vb c,vi];rfl
theorem yq:∀(more kvs:List (Int×Int)),mergeK (kvs.map iiK) (more.map iiK)=(mergeI kvs more).map iiK
 | [],kvs=>rfl
 | q::r,kvs=>by
  show mergeK (putK (kvs.map iiK) (Sum.inl q.1) (.int q.2)) (r.map iiK)=(mergeI (putI kvs q.1 q.2) r).map iiK;rw[j22,yq r]
theorem j0Q(kvs:List (Int×Int))(k v:Int)(d:(kvs.map (·.1)).Nodup):((putI kvs k v).map (·.1)).Nodup:=by
 unfold putI;split
 ·rw[v8];have e:kvs.map ((fun x=>x.1)∘fun q=>if q.1=k then(q.1,v)else q)=kvs.map (·.1):=map_congr_left fun q _=>by
   show(if q.1=k then(q.1,v)else q).1=q.1;split<;>rfl
  rw[e];exact d
 ·rename_i c;rw[vi,nodup_append];exact⟨d,pairwise_singleton _ _,fun a f b g e=>c (by rw[show k=b from(vo.mp g).symm,<-e];exact f)⟩
theorem j1I:(a,b)∈putI kvs k v↔(a=k/\b=v)\/(a≠k/\(a,b)∈kvs):=by
 unfold putI;split
 ·rename_i c;rw[vL];constructor
  ·rintro⟨q,d,e⟩;by_cases z:q.1=k
   ·rw[vc z]at e;cases e;exact .inl ⟨z,rfl⟩
   ·rw[vb z]at e;subst e;exact .inr ⟨z,d⟩
  ·rintro(⟨rfl,rfl⟩ | ⟨f,g⟩)
   ·obtain⟨q,d,e⟩:=vL.mp c;exact⟨q,d,by rw[vc e,e]⟩
   ·exact⟨(a,b),g,by rw[vb f]⟩
 ·rename_i c;rw[vg];constructor
  ·rintro(h | h)
   ·exact .inr ⟨fun e=>c (e▸vL.mpr ⟨(a,b),h,rfl⟩),h⟩
   ·cases vo.mp h;exact .inl ⟨rfl,rfl⟩
  ·rintro(⟨rfl,rfl⟩ | ⟨_,h⟩)
   ·exact .inr (vo.mpr rfl)
   ·exact .inl h
theorem KQ:∀{more kvs:List (Int×Int)},(kvs.map (·.1)).Nodup->(more.map (·.1)).Nodup->((mergeI kvs more).map (·.1)).Nodup/\∀k v,(k,v)∈mergeI kvs more↔(k,v)∈more\/((∀c,(k,c)∉more)/\(k,v)∈kvs)
 | [],kvs,nd,_=>⟨nd,fun k v=>⟨fun h=>.inr ⟨(fun _ h=>nomatch h),h⟩,fun h=>h.elim (fun h=>nomatch h) (·.2)⟩⟩
 | q::r,kvs,nd,nm=>by
  rw[uy,nodup_cons]at nm;obtain⟨a,b⟩:=KQ (more:=r) (kvs:=putI kvs q.1 q.2) (j0Q _ _ _ nd) nm.2;refine⟨a,fun k v=>(b k v).trans ?_⟩;rw[j1I];have i:∀c,(q.1,c)∉r:=fun c h=>nm.1 (vL.mpr ⟨_,h,rfl⟩)
  constructor
  ·rintro(h | ⟨f,⟨rfl,rfl⟩ | ⟨g,j⟩⟩)
   ·exact .inl (vp _ h)
   ·exact .inl vq
   ·refine .inr ⟨fun c d=>?_,j⟩;rcases mem_cons.mp d with e | e
    ·exact g (by rw[<-e])
    ·exact f c e
  ·rintro(h | ⟨f,g⟩)
   ·rcases mem_cons.mp h with e | e
    ·refine .inr ⟨fun c d=>?_,.inl ⟨by rw[<-e],by rw[<-e]⟩⟩;rw[<-e]at i;exact i c d
    ·exact .inl e
   ·refine .inr ⟨fun c d=>f c (vp _ d),.inr ⟨fun e=>?_,g⟩⟩;exact f q.2 (by rw[e];exact vq)
theorem Xk(b:(ms.map (·.1)).Nodup):mergeI [] ms=ms:=by
 have e:∀(r a:List (Int×Int)),((a++r).map (·.1)).Nodup->mergeI a r=a++r:=by
  intro r
  induction r with
  | nil=>intro a _;exact(append_nil _).symm
  | cons q r ih=>
   intro a b;have c:q.1∉a.map (·.1):=fun h=>by
    rw[vi,nodup_append]at b;exact b.2.2 q.1 h q.1 (by simp) rfl
   show mergeI (putI a q.1 q.2) r=_;unfold putI;rw[vb c,ih (a++[(q.1,q.2)]) (by rw[List.append_assoc];exact b),List.append_assoc];rfl
 exact e ms [] b
theorem j0A:LastIn E (is++[j]) k v↔(k,v)∈E.getD j []\/((∀m,(k,m)∉E.getD j [])/\LastIn E is k v):=by
 constructor
 ·rintro⟨c,i,a,e,g,l⟩;rcases eq_nil_or_concat a with rfl | ⟨b,x,rfl⟩
  ·have f:=List.append_inj' (show is++[j]=c++[i]from e) rfl;have n:j=i:=by simpa using f.2
   rw[n];exact .inl g
  ·have p:is++[j]=(c++i::b)++[x]:=by rw[e];simp
   have f:=List.append_inj' p rfl;have n:j=x:=by simpa using f.2
   subst n;exact .inr ⟨l j (by simp),c,i,b,f.1,g,fun o d=>l o (by simp[d])⟩
 ·rintro(h | ⟨g,c,i,a,e,l,q⟩)
  ·exact⟨is,j,[],rfl,h,(fun _ h=>nomatch h)⟩
  ·refine⟨c,i,a++[j],by rw[e];simp,l,fun o d m=>?_⟩;rcases vg.mp d with z | z
   ·exact q o z m
   ·rw[vo.mp z];exact g m
theorem WS(h:∀j∈is,E.getD j []=E'.getD j []):LastIn E is k v->LastIn E' is k v:=by
 rintro⟨c,j,b,e,f,g⟩;refine⟨c,j,b,e,by rw[<-h j (by rw[e];simp)];exact f,fun d a=>?_⟩;rw[<-h d (by rw[e];simp[a])];exact g d a
theorem EndOk.snoc{ls:List (Str×Int)}{ps:List (Str×Fm)}(W:WfB ls ps){E:List (List (Int×Int))}{p:Str×Fm}{e:List (Int×Int)}(h:EndOk ls ps E)(u:ps[E.length]?=some p)(o:(e.map (·.1)).Pairwise (· < ·))
  (r:∀k v,(k,v)∈e↔EndIs ls ps E p.2 k v):EndOk ls ps (E++[e]):=fun i q f g c=>by
 have t:i<=E.length:=by
  have:=(vx.mp c).1;rw[vn]at this;exact Nat.le_of_lt_succ this
 have ext:∀j∈inP ps q.2,E.getD j []=(E++[e]).getD j []:=fun j l=>(getD_snoc (by have:=W.inP_lt g l;lia)).symm
 have d:∀k v,EndIs ls ps E q.2 k v↔EndIs ls ps (E++[e]) q.2 k v:=fun k v=>by
  unfold EndIs;exact⟨fun h=>h.imp (WS ext) id,fun h=>h.imp (WS fun j l=>(ext j l).symm) id⟩
 by_cases s:i<E.length
 ·rw[vC s]at c;obtain⟨a,b⟩:=h i q f g c;exact⟨a,fun k v=>(b k v).trans (d k v)⟩
 ·have n:i=E.length:=by lia
  subst n;rw[vD (va _),Nat.sub_self]at c;have m:e=f:=by simpa using c
  subst m;rw[u]at g;cases g;exact⟨o,fun k v=>(r k v).trans (d k v)⟩
theorem j1w{H:Hp}(h:FormAt H a f)(d:∀x v n,f≠.rise x v n):∃k xs,H a=some (.tup (.str k::xs))/\decide (k=("raise" : Str))=false:=by
 cases f with
 | hold n=>exact⟨_,_,h,by decide +kernel⟩
 | ring x n=>exact⟨_,_,h,by decide +kernel⟩
 | rise x v n=>exact uB rfl (d x v n)
 | row ps=>obtain⟨b,c,_⟩:=h;exact⟨_,_,c,by decide +kernel⟩
 | side ps=>obtain⟨b,c,_⟩:=h;exact⟨_,_,c,by decide +kernel⟩
 | again k x=>exact⟨_,_,h,by decide +kernel⟩
noncomputable def kv0(ls:List (Str×Int)):Fm->List (Int×Int)
 | .rise x h _=>[((ixOf (nmsOf ls) x:Nat),h)]
 | _=>[]
theorem j39(a:∀x v n,f≠.rise x v n):kv0 ls f=[]:=by
 cases f with
 | rise x v n=>exact uB rfl (a x v n)
 | _=>rfl
theorem wM:(k,v)∈kv0 ls f↔∃x n,f = .rise x v n/\k=(ixOf (nmsOf ls) x:Nat):=by
 cases f with
 | rise x h n=>
  constructor
  ·intro a;cases vo.mp a;exact⟨x,n,rfl,rfl⟩
  ·rintro⟨c,b,e,rfl⟩;injection e with e1 e2 e3;subst e1 e2;exact vo.mpr rfl
 | _=>exact⟨(fun h=>nomatch h),fun⟨_,_,e,_⟩=>nomatch e⟩
theorem j4m(f:Fm):inP ps f=[]\/kv0 ls f=[]:=by
 cases f with
 | rise x h n=>exact .inl rfl
 | _=>exact .inr rfl
theorem j4n(f:Fm):((kv0 ls f).map (·.1)).Nodup:=by
 cases f with
 | rise x h n=>exact pairwise_singleton _ _
 | _=>exact .nil
inductive sp_check_side(vs:List V)(H:Hp)(Q:VK)(xk:XK):Prop
 | mk (r:Int) (l ll:Addr) (as las:List Addr) (M:List (List Int)) (_:vs=[.int r,.ref l,.ref ll]) (_:H l=some (.lst (as.map V.ref))) (_:ListsAt H as M) (_:(∀ks∈M,ks≠[])) (_:M.length<=8) (_:H ll=some (.lst (las.map V.ref))) (_:(∀k:Int,(M.filter fun ks=>decide (k∈ks)).length<=1)) (_:∀H',Same H H'->Q .non H'):sp_check_side vs H Q xk
noncomputable def LenIs:Fm->List Int->Int->Prop
 | .hold n,_,g=>g=n
 | .ring _ n,_,g=>g=n
 | .rise _ _ n,_,g=>g=n
 | .row _,gs,g=>g=gs.sum
 | .side _,gs,g=>g∈gs/\∀x∈gs,x<=g
 | .again k _,gs,g=>∃y,gs.head?=some y/\g=k*y
noncomputable def LenPre:Fm->List Int->Prop
 | .side _,gs=>gs≠[]
 | .again k _,gs=>∃y r,gs=y::r/\0<=k/\k<=10^18/\0<=y/\y<=10^60
 | _,_=>True
inductive sp_length_of(vs:List V)(H:Hp)(Q:VK)(xk:XK):Prop
 | mk (a l:Addr) (f:Fm) (gs:List Int) (_:vs=[.ref a,.ref l]) (_:FormAt H a f) (_:H l=some (.lst (gs.map V.int))) (_:LenPre f gs) (_:∀g,LenIs f gs g->Q (.int g) H):sp_length_of vs H Q xk
structure Snd(ls:List (Str×Int))(ps:List (Str×Fm))(gs:List Int)(hs:List (List Int)):Prop where
 w:WfB ls ps
 gl:gs.length=ps.length
 gb:∀i,i<ps.length->0<=gs.getD i 0/\gs.getD i 0<=10^60
 mv:∀M:List (List Int),M.length=ps.length->MovOk ls ps M->∀i,i<ps.length->M.getD i []=hs.getD i []
 ln:∀(i:Nat) (p:Str×Fm),ps[i]?=some p->LenPre p.2 ((inP ps p.2).map fun j=>gs.getD j 0)/\∀g,LenIs p.2 ((inP ps p.2).map fun j=>gs.getD j 0) g->g=gs.getD i 0
 sd:∀(i:Nat) (p:Str×Fm) (qs:List Str),ps[i]?=some p->p.2 = .side qs->(∀j∈inP ps p.2,hs.getD j []≠[])/\∀k:Int,(((inP ps p.2).map fun j=>hs.getD j []).filter fun ks=>decide (k∈ks)).length<=1
inductive sp_lengths(vs:List V)(H:Hp)(Q:VK)(xk:XK):Prop
 | mk (b pl pp:Addr) (las pas:List Addr) (ls:List (Str×Int)) (ps:List (Str×Fm)) (gs:List Int) (hs:List (List Int)) (_:vs=[.ref b]) (_:BookAt H b pl pp las pas ls ps) (_:Snd ls ps gs hs) (_:∀(l:Addr) (H':Hp),Same H H'->H l=none->H' l=some (.lst (gs.map V.int))->Q (.ref l) H'):sp_lengths vs H Q xk
theorem any_empty{M:List (List Int)}(h:∀ks∈M,ks≠[]):(M.any fun ks=>decide (ks=[]))=false:=by
 rw[List.any_eq_false];intro ks a;simpa using h ks a
theorem j38{gs:List Int}{i:Nat}(h:i<gs.length):gs.take (i+1)=gs.take i++[gs.getD i 0]:=by
 refine take_snoc ?_;rw[vy,vz h];rfl
theorem j1t{gs:List Int}{i j:Nat}(hi:i<=gs.length)(a:j<i):atI ((gs.take i).map V.int) (j:Int)=some (.int (gs.getD j 0)):=by
 refine jL ?_;rw[vv,List.getElem?_take,vc a,vy,vz (by lia)];rfl
theorem j4c{xs:List V}{k:Nat}:cutV xs none (some (k:Int))=xs.take k:=by
 unfold cutV;rw[show HT.sIx xs.length 0 none=0 from rfl,HT.j3F,List.drop_zero,Nat.sub_zero,List.take_eq_take_iff];lia
theorem j3k(W:WfB ls ps)(m:M.length=ps.length)(h:MovOk ls ps M):∀(i:Nat),∀k∈M.getD i [],0<=k/\k<(ls.length:Int):=by
 intro i
 induction i using Nat.strongRecOn with
 | ind i ih=>
  intro k a;rw[vy]at a;cases e:M[i]? with
  | none=>rw[e]at a;exact nomatch a
  | some ks=>
   rw[e]at a;have l:=(vx.mp e).1;have d:ps[i]?=some ps[i]:=vz (by lia);obtain⟨_,b⟩:=h i _ ks d e;rcases(b k).mp a with⟨j,c,f⟩ | ⟨x,v,n,g,rfl⟩
   ·exact ih j (W.inP_lt d c) k f
   ·obtain⟨j,c⟩:=W.r i (ps[i]).1 x v n (by rw[d,<-g]);rw[QY W.ln c];have:=(vx.mp c).1;unfold nmsOf at this;rw[vt]at this;lia
theorem X8{ls:List (Str×Int)}{ps:List (Str×Fm)}(W:WfB ls ps){M:List (List Int)}(d:M.length=ps.length)(h:MovOk ls ps M){i:Nat}{ks:List Int}(c:M[i]?=some ks):ks.length<=8:=by
 have hi:=(vx.mp c).1;have a:=(h i _ ks (vz (by lia)) c).1;have b:=j3k W d h i;rw[vy,c]at b;have z:=Yx (ks:=ks) (lo:=0) (hi:=ls.length) a b;have:=W.l8;lia
theorem FormAt.keep{H H':Hp}(k:∀c xs,H c=some (.tup xs)->H' c=some (.tup xs))(h:FormAt H a f):FormAt H' a f:=by
 cases f with
 | row ps=>obtain⟨c,b,d⟩:=h;exact⟨c,k _ _ b,k _ _ d⟩
 | side ps=>obtain⟨c,b,d⟩:=h;exact⟨c,k _ _ b,k _ _ d⟩
 | hold n=>exact k _ _ h
 | ring x n=>exact k _ _ h
 | rise x g n=>exact k _ _ h
 | again x n=>exact k _ _ h
theorem PartAt.keep{H H':Hp}(k:∀c xs,H c=some (.tup xs)->H' c=some (.tup xs))(h:PartAt H a p):PartAt H' a p:=by
 obtain⟨b,d,e⟩:=h;exact⟨b,k _ _ d,FormAt.keep k e⟩
section
variable{ls:List (Str×Int)}{x:Str}{f:Fm}
end
theorem j18(a:0<=i)(h:xs[i.toNat]?=some c):atI xs i=some c:=by
 have q:∀k:Nat,xs[k]?=some c->atI xs (k:Int)=some c:=fun k d=>by
  obtain⟨b,rfl⟩:=vx.mp d;unfold atI ixN;simp[b]
 have:=q i.toNat h;rw[Int.toNat_of_nonneg a]at this;exact this
theorem ixZ{n:Nat}{k:Int}(a:0<=k)(c:k<n):ixN n k=some k.toNat:=by
 have b:∀j:Nat,j<n->ixN n (j:Int)=some j:=fun j h=>by
  unfold ixN;simp[h]
 have q:=b k.toNat (by lia);rw[Int.toNat_of_nonneg a]at q;exact q
noncomputable abbrev Pc:=Nat×Int×Int
noncomputable abbrev Pr4:=Nat×Int×Int×Option Int
noncomputable def rowPc(gs:List Int):List Nat->Int->List Pc
 | [],_=>[]
 | j::r,b=>(j,1,b)::rowPc gs r (b+gs.getD j 0)
noncomputable def pcsI(gs:List Int)(f:Fm)(is:List Nat):List Pc:=
 match f with
 | .again k _=>match is with
  | []=>[]
  | j::_=>(j,1,0)::(if 1<k then[(j,k-1,gs.getD j 0)]else[])
 | .row _=>rowPc gs is 0
 | _=>is.map fun j=>(j,1,0)
def PcsAt(H:Hp)(as:List Addr)(qs:List Pc):Prop:=All2 (fun a q=>H a=some (.tup [.int (q.1:Nat),.int q.2.1,.int q.2.2])) as qs
def PssAt(H:Hp)(as:List Addr)(qss:List (List Pc)):Prop:=All2 (fun a qs=>∃bs,H a=some (.lst (bs.map V.ref))/\PcsAt H bs qs) as qss
inductive sp_pieces_in(vs:List V)(H:Hp)(Q:VK)(xk:XK):Prop
 | mk (a l s:Addr) (f:Fm) (is:List Nat) (gs:List Int) (_:vs=[.ref a,.ref l,.ref s]) (_:FormAt H a f) (_:H l=some (.lst ((is.map fun j:Nat=>(j:Int)).map V.int))) (_:H s=some (.lst (gs.map V.int))) (_:is.length<=8) (_:(∀j∈is,j<gs.length)) (_:(∀k x,f = .again k x->is≠[])) (_:∀(p:Addr) (as:List Addr) (H':Hp),Same H H'->H p=none->H' p=some (.lst (as.map V.ref))->PcsAt H' as (pcsI gs f is)->Q (.ref p) H'):sp_pieces_in vs H Q xk
inductive sp_pieces_of(vs:List V)(H:Hp)(Q:VK)(xk:XK):Prop
 | mk (b pl pp s:Addr) (las pas:List Addr) (ls:List (Str×Int)) (ps:List (Str×Fm)) (gs:List Int) (_:vs=[.ref b,.ref s]) (_:BookAt H b pl pp las pas ls ps) (_:WfB ls ps) (_:H s=some (.lst (gs.map V.int))) (_:gs.length=ps.length) (_:∀(l:Addr) (as:List Addr) (H':Hp),Same H H'->H l=none->H' l=some (.lst (as.map V.ref))->PssAt H' as (ps.map fun p=>pcsI gs p.2 (inP ps p.2))->(∀a∈as,H a=none)->Q (.ref l) H'):sp_pieces_of vs H Q xk
noncomputable def ov(gs:List Int)(t:Int)(q:Pc):Int:=if q.2.1<(t-q.2.2)/gs.getD q.1 0 then q.2.1 else(t-q.2.2)/gs.getD q.1 0
noncomputable def prg1(gs:List Int)(t:Int)(q:Pc):Option Pr4:=
 if q.2.2<=t then some (q.1,q.2.2,ov gs t q,if ov gs t q<q.2.1 then some (t-q.2.2-ov gs t q*gs.getD q.1 0)else none)else none
noncomputable def prg(gs:List Int)(t:Int)(qs:List Pc):List Pr4:=qs.filterMap (prg1 gs t)
noncomputable def optV:Option Int->V
 | none=>.non
 | some r=>.int r
def PrgAt(H:Hp)(as:List Addr)(ys:List Pr4):Prop:=All2 (fun a y=>H a=some (.tup [.int (y.1:Nat),.int y.2.1,.int y.2.2.1,optV y.2.2.2])) as ys
def PcOk(gs:List Int)(q:Pc):Prop:=q.1<gs.length/\1<=gs.getD q.1 0/\gs.getD q.1 0<=10^60/\1<=q.2.1/\q.2.1<=10^18/\0<=q.2.2/\q.2.2<=10^62
inductive sp_progress(vs:List V)(H:Hp)(Q:VK)(xk:XK):Prop
 | mk (l s:Addr) (t:Int) (bs:List Addr) (qs:List Pc) (gs:List Int) (_:vs=[.ref l,.ref s,.int t]) (_:H l=some (.lst (bs.map V.ref))) (_:PcsAt H bs qs) (_:H s=some (.lst (gs.map V.int))) (_:qs.length<=8) (_:(∀q∈qs,PcOk gs q)) (_:0<=t) (_:t<=10^62) (_:∀(p:Addr) (as:List Addr) (H':Hp),Same H H'->H p=none->H' p=some (.lst (as.map V.ref))->PrgAt H' as (prg gs t qs)->Q (.ref p) H'):sp_progress vs H Q xk
def GonAt(H:Hp)(as:List Addr)(xs:List (Nat×Int)):Prop:=All2 (fun a x=>H a=some (.tup [.int (x.1:Nat),.int x.2])) as xs
noncomputable def wth1(gs:List Int)(y:Pr4):List (Nat×Int):=(if 0<y.2.2.1 then[(y.1,gs.getD y.1 0)]else[])++(match y.2.2.2 with | some r=>[(y.1,r)] | none=>[])
noncomputable def wth(gs:List Int)(t:Int)(qs:List Pc):List (Nat×Int):=(prg gs t qs).flatMap (wth1 gs)
inductive sp_within(vs:List V)(H:Hp)(Q:VK)(xk:XK):Prop
 | mk (l s:Addr) (t:Int) (bs:List Addr) (qs:List Pc) (gs:List Int) (_:vs=[.ref l,.ref s,.int t]) (_:H l=some (.lst (bs.map V.ref))) (_:PcsAt H bs qs) (_:H s=some (.lst (gs.map V.int))) (_:qs.length<=8) (_:(∀q∈qs,PcOk gs q)) (_:0<=t) (_:t<=10^62) (_:∀(p:Addr) (as:List Addr) (H':Hp),Same H H'->H p=none->H' p=some (.lst (as.map V.ref))->GonAt H' as (wth gs t qs)->Q (.ref p) H'):sp_within vs H Q xk
noncomputable def reachL(pc:Nat->List Pc)(gs:List Int):Nat->Nat->Int->List (Nat×Int)
 | 0,i,t=>[(i,t)]
 | n+1,i,t=>if gs.getD i 0<=t\/pc i=[]then[(i,t)]else(wth gs t (pc i)).flatMap fun x=>reachL pc gs n x.1 x.2
noncomputable def nodesL(pc:Nat->List Pc)(gs:List Int):Nat->Nat->Int->Nat
 | 0,_,_=>1
 | n+1,i,t=>if gs.getD i 0<=t\/pc i=[]then 1 else 1+((wth gs t (pc i)).map fun x=>nodesL pc gs n x.1 x.2).sum
noncomputable def pcB(ps:List (Str×Fm))(gs:List Int)(i:Nat):List Pc:=match ps[i]? with | some p=>pcsI gs p.2 (inP ps p.2) | none=>[]
section
variable{gs:List Int}{t:Int}
theorem Z5(h:q∈rowPc gs is b):q.1∈is/\q.2.1=1:=by
 induction is generalizing b with
 | nil=>exact nomatch h
 | cons j r ih=>
  rcases mem_cons.mp h with rfl | h
  ·exact⟨vq,rfl⟩
  ·obtain⟨a,b⟩:=ih h;exact⟨vp _ a,b⟩
theorem j0C(is:List Nat)(b:Int):(rowPc gs is b).length=is.length:=by
 induction is generalizing b with
 | nil=>rfl
 | cons j r ih=>rw[rowPc,vS,vS,ih]
theorem YV(d:∀j∈is,0<=gs.getD j 0/\gs.getD j 0<=10^60)(h:q∈rowPc gs is b):b<=q.2.2/\q.2.2<=b+10^60*is.length:=by
 induction is generalizing b with
 | nil=>exact nomatch h
 | cons j r ih=>
  have g:=d j vq;rw[vS];rcases mem_cons.mp h with rfl | h
  ·have:(0:Int)<=10^60*((r.length+1:Nat):Int):=vO (by decide) (by lia);exact⟨vB _,by show b<=_;lia⟩
  ·obtain⟨a,c⟩:=ih (fun k e=>d k (vp _ e)) h;refine⟨by lia,?_⟩;rw[show((r.length+1:Nat):Int)=(r.length:Int)+1 by lia,Int.mul_add];lia
theorem WV(h:q∈pcsI gs f is):q.1∈is:=by
 unfold pcsI at h;split at h
 ·split at h
  ·exact nomatch h
  ·rcases mem_cons.mp h with rfl | h
   ·exact vq
   ·split at h
    ·rw[vo.mp h];exact vq
    ·exact nomatch h
 ·exact(Z5 h).1
 ·obtain⟨j,a,rfl⟩:=vL.mp h;exact a
theorem WU(a:is.length<=8):(pcsI gs f is).length<=8:=by
 unfold pcsI;split
 ·split
  ·exact vA _
  ·split<;>simp
 ·rw[j0C];exact a
 ·rw[vt];exact a
theorem Z4(h:y∈prg gs t qs):∃q∈qs,prg1 gs t q=some y:=mem_filterMap.mp h
theorem wK(a:List Pc):(prg gs t a).length<=a.length:=List.length_filterMap_le _ _
theorem kS(h:prg1 gs t q=some y):y.1=q.1:=by
 unfold prg1 at h;split at h
 ·cases h;rfl
 ·cases h
theorem j3i(h:x∈wth gs t qs):∃q∈qs,x.1=q.1:=by
 obtain⟨y,c,a⟩:=mem_flatMap.mp h;obtain⟨q,b,e⟩:=Z4 c;refine⟨q,b,?_⟩;rw[<-kS e];unfold wth1 at a;rcases vg.mp a with z | z
 ·split at z
  ·rw[vo.mp z]
  ·exact nomatch z
 ·split at z
  ·rw[vo.mp z]
  ·exact nomatch z
theorem j1C(y:Pr4):(wth1 gs y).length<=2:=by
 unfold wth1;rw[vn];have a:(if 0<y.2.2.1 then[(y.1,gs.getD y.1 0)]else[]).length<=1:=by split<;>simp
 have b:(match y.2.2.2 with | some r=>[(y.1,r)] | none=>[]:List (Nat×Int)).length<=1:=by split<;>simp
 lia
theorem j3b(a:List Pc):(wth gs t a).length<=2*a.length:=by
 have h:∀b:List Pr4,(b.flatMap (wth1 gs)).length<=2*b.length:=fun b=>by
  induction b with
  | nil=>exact vA _
  | cons y r ih=>
   rw[flatMap_cons,vn,vS];have:=j1C (gs:=gs) y;lia
 have:=h (prg gs t a);have:=wK (gs:=gs) (t:=t) a;unfold wth;lia
end
section
variable{ls:List (Str×Int)}{ps:List (Str×Fm)}{gs:List Int}
theorem qi(W:WfB ls ps)(h:q∈pcB ps gs i):q.1<i:=by
 unfold pcB at h;split at h
 ·rename_i p hp;exact W.inP_lt hp (WV h)
 ·exact nomatch h
theorem YF(W:WfB ls ps)(h:x∈wth gs t (pcB ps gs i)):x.1<i:=by
 obtain⟨q,a,e⟩:=j3i h;rw[e];exact qi W a
theorem JK{a c:Type}{f g:a->List c}:∀{l:List a},(∀x∈l,f x=g x)->l.flatMap f=l.flatMap g
 | [],_=>rfl
 | x::r,h=>by rw[flatMap_cons,flatMap_cons,h x vq,JK fun y b=>h y (vp _ b)]
theorem kU(W:WfB ls ps):∀{n m i:Nat} {t:Int},i<n->i<m->reachL (pcB ps gs) gs n i t=reachL (pcB ps gs) gs m i t
 | 0,_,_,_,h,_=>uB h (Nat.not_lt_zero _)
 | _,0,_,_,_,h=>uB h (Nat.not_lt_zero _)
 | n+1,m+1,i,t,h1,h2=>by
  unfold reachL;split
  ·rfl
  ·exact JK fun x a=>by
    have:=YF W a;exact kU W (by lia) (by lia)
theorem kJ(W:WfB ls ps):∀{n m i:Nat} {t:Int},i<n->i<m->nodesL (pcB ps gs) gs n i t=nodesL (pcB ps gs) gs m i t
 | 0,_,_,_,h,_=>uB h (Nat.not_lt_zero _)
 | _,0,_,_,_,h=>uB h (Nat.not_lt_zero _)
 | n+1,m+1,i,t,h1,h2=>by
  unfold nodesL;split
  ·rfl
  ·congr 2;exact map_congr_left fun x a=>by
    have:=YF W a;exact kJ W (by lia) (by lia)
noncomputable def reach(ps:List (Str×Fm))(gs:List Int)(i:Nat)(t:Int):List (Nat×Int):=reachL (pcB ps gs) gs (i+1) i t
noncomputable def nodes(ps:List (Str×Fm))(gs:List Int)(i:Nat)(t:Int):Nat:=nodesL (pcB ps gs) gs (i+1) i t
theorem QC(h:gs.getD i 0<=t\/pcB ps gs i=[]):reach ps gs i t=[(i,t)]:=by
 unfold reach reachL;rw[vc h]
theorem yv(W:WfB ls ps)(h:¬(gs.getD i 0<=t\/pcB ps gs i=[])):reach ps gs i t=(wth gs t (pcB ps gs i)).flatMap fun x=>reach ps gs x.1 x.2:=by
 unfold reach;rw[reachL,vb h];exact JK fun x a=>by
  have:=YF W a;exact kU W (by lia) (by lia)
theorem yr(h:gs.getD i 0<=t\/pcB ps gs i=[]):nodes ps gs i t=1:=by
 unfold nodes nodesL;rw[vc h]
theorem kK(W:WfB ls ps)(h:¬(gs.getD i 0<=t\/pcB ps gs i=[])):nodes ps gs i t=1+((wth gs t (pcB ps gs i)).map fun x=>nodes ps gs x.1 x.2).sum:=by
 unfold nodes;rw[nodesL,vb h];congr 2;exact map_congr_left fun x a=>by
  have:=YF W a;exact kJ W (by lia) (by lia)
theorem Z6(i:Nat)(t:Int):1<=nodes ps gs i t:=by
 unfold nodes nodesL;split<;>lia
end
section
variable{gs:List Int}{t:Int}
noncomputable def wq(gs:List Int)(t:Int)(q:Pc):List (Nat×Int):=match prg1 gs t q with | some y=>wth1 gs y | none=>[]
theorem j3R:wth gs t []=[]:=rfl
theorem ZT(q:Pc)(a:List Pc):wth gs t (q::a)=wq gs t q++wth gs t a:=by
 unfold wth prg wq;rw[filterMap_cons];cases prg1 gs t q with
 | none=>rfl
 | some y=>rfl
theorem j3P(h:t<q.2.2):wq gs t q=[]:=by
 unfold wq prg1;rw[vb (by lia)]
theorem XI(d:1<=gs.getD j 0)(h:b<=t):wq gs t (j,1,b)=if gs.getD j 0<=t-b then[(j,gs.getD j 0)]else[(j,t-b)]:=by
 have c:wq gs t (j,1,b)=wth1 gs (j,b,ov gs t (j,1,b),if ov gs t (j,1,b)<1 then some (t-b-ov gs t (j,1,b)*gs.getD j 0)else none):=by
  unfold wq prg1;rw[vc (show b<=t from h)]
 rw[c];generalize a:gs.getD j 0=g at d|-;have e:ov gs t (j,1,b)=if g<=t-b then 1 else 0:=by
  show(if(1:Int)<(t-b)/gs.getD j 0 then(1:Int)else(t-b)/gs.getD j 0)=_;rw[a];by_cases z:g<=t-b
  ·rw[vc z];have:1<=(t-b)/g:=by
    rw[Int.le_ediv_iff_mul_le (by lia)];lia
   split<;>lia
  ·rw[vb z];have:(t-b)/g=0:=Int.ediv_eq_zero_of_lt (by lia) (by lia);rw[this];rfl
 by_cases z:g<=t-b
 ·rw[vc z]at e;rw[vc z,e];unfold wth1;simp;rw[<-vy];exact a
 ·rw[vb z]at e;rw[vb z,e];unfold wth1;simp
theorem j3Q(h:q.2.2<=t):wq gs t q=(if 0<ov gs t q then[(q.1,gs.getD q.1 0)]else[])++(if ov gs t q<q.2.1 then[(q.1,t-q.2.2-ov gs t q*gs.getD q.1 0)]else[]):=by
 unfold wq prg1;rw[vc h];show wth1 gs _=_;unfold wth1;congr 1;show(match(if ov gs t q<q.2.1 then some (t-q.2.2-ov gs t q*gs.getD q.1 0)else none)with | some r=>[(q.1,r)] | none=>[])=_;split<;>rename_i e<;>split at e
 ·cases e;rw[vc (by assumption)]
 ·cases e
 ·cases e
 ·rw[vb (by assumption)]
theorem Kf:∀{a:List Pc},(∀q∈a,t<q.2.2)->wth gs t a=[]
 | [],_=>rfl
 | q::r,h=>by rw[ZT,j3P (h q vq),Kf fun q b=>h q (vp _ b)];rfl
theorem xb(a:∀j∈is,0<=gs.getD j 0/\gs.getD j 0<=10^60)(h:t<b):wth gs t (rowPc gs is b)=[]:=
 Kf fun q c=>by have:=(YV a c).1;lia
theorem j2c(a:∀k∈j::r,1<=gs.getD k 0/\gs.getD k 0<=10^60)(h:b<=t):wth gs t (rowPc gs (j::r) b)=if gs.getD j 0<=t-b then(j,gs.getD j 0)::wth gs t (rowPc gs r (b+gs.getD j 0))else[(j,t-b)]:=by
 have g:=a j vq;rw[rowPc,ZT,XI g.1 h];split
 ·rfl
 ·rw[xb (fun k c=>by have:=a k (vp _ c);lia) (by lia)];rfl
theorem j2u{a:Type}{f g:a->Nat}:∀{l:List a},(∀x∈l,f x<=g x)->(l.map f).sum<=(l.map g).sum
 | [],_=>va _
 | x::r,h=>by
  rw[uy,uy,ux,ux];have:=h x vq;have:=j2u (l:=r) fun y b=>h y (vp _ b)
  lia
theorem j09{N:Nat×Int->Nat}:∀{is:List Nat} {b:Int},(∀k∈is,1<=gs.getD k 0/\gs.getD k 0<=10^60)->(∀k∈is,N (k,gs.getD k 0)=1)->(∀k∈is,∀r,0<=r->N (k,r)<=B)->((wth gs t (rowPc gs is b)).map N).sum<=is.length+B
 | [],b,_,_,_=>vA _
 | j::r,b,hg,h1,h2=>by
  by_cases h:b<=t
  ·rw[j2c hg h];split
   ·rw[uy,ux,h1 j vq,vS];have:=j09 (N:=N) (B:=B) (is:=r) (b:=b+gs.getD j 0) (fun k a=>hg k (vp _ a)) (fun k a=>h1 k (vp _ a)) fun k a=>h2 k (vp _ a)
    lia
   ·have:=h2 j vq (t-b) (by lia);simp;lia
  ·rw[xb (fun k a=>by have:=hg k a;lia) (by lia)];exact vA _
theorem j2o{is:List Nat}(a:∀k∈is,1<=gs.getD k 0)(c:0<=t):wth gs t (is.map fun j=>(j,1,0))=is.map fun j=>if gs.getD j 0<=t then(j,gs.getD j 0)else(j,t):=by
 induction is with
 | nil=>rfl
 | cons j r ih=>
  rw[uy,ZT,XI (a j vq) c,ih fun k b=>a k (vp _ b),uy,Int.sub_zero];split<;>rfl
theorem j0i{N:Nat×Int->Nat}(l:1<=gs.getD j 0)(f:0<=t)(b:N (j,gs.getD j 0)=1)(d:∀r,0<=r->N (j,r)<=B) :
  ((wth gs t ((j,1,0)::(if 1<k then[(j,k-1,gs.getD j 0)]else[]))).map N).sum<=2+B:=by
 rw[ZT,XI l f,Int.sub_zero,vi,sum_append];by_cases z:gs.getD j 0<=t
 ·rw[vc z];have a:((wth gs t (if 1<k then[(j,k-1,gs.getD j 0)]else[])).map N).sum<=1+B:=by
   split
   ·rw[ZT,j3R,append_nil,j3Q (show gs.getD j 0<=t from z),vi,sum_append];have g:(((if 0<ov gs t (j,k-1,gs.getD j 0)then[(j,gs.getD j 0)]else[]):List (Nat×Int)).map N).sum<=1:=by
     split
     ·simp;rw[<-vy,b];exact va _
     ·simp
    have h:(((if ov gs t (j,k-1,gs.getD j 0)<k-1 then[(j,t-gs.getD j 0-ov gs t (j,k-1,gs.getD j 0)*gs.getD j 0)]else[]):List (Nat×Int)).map N).sum<=B:=by
     split
     ·have m:ov gs t (j,k-1,gs.getD j 0)=(t-gs.getD j 0)/gs.getD j 0:=by
       show(if k-1<(t-gs.getD j 0)/gs.getD j 0 then k-1 else(t-gs.getD j 0)/gs.getD j 0)=_;rename_i c;have i:(if k-1<(t-gs.getD j 0)/gs.getD j 0 then k-1 else(t-gs.getD j 0)/gs.getD j 0)<k-1:=c;split at i
       ·lia
       ·rename_i z;rw[vb z]
      have:=d (t-gs.getD j 0-ov gs t (j,k-1,gs.getD j 0)*gs.getD j 0) (by
       rw[m];have:=Int.ediv_mul_le (t-gs.getD j 0) (show gs.getD j 0≠0 by lia);lia)
      simp;exact this
     ·simp
    have o:((if 0<ov gs t (j,k-1,gs.getD j 0)then[((j,k-1,gs.getD j 0):Pc).1].map fun a=>(a,gs.getD a 0)else[]):List (Nat×Int))=if 0<ov gs t (j,k-1,gs.getD j 0)then[(j,gs.getD j 0)]else[]:=rfl
    exact Nat.add_le_add g h
   ·exact vA _
  have:(([(j,gs.getD j 0)]:List (Nat×Int)).map N).sum=1:=by
   simp;rw[<-vy,b]
  lia
 ·rw[vb z];have e:wth gs t (if 1<k then[(j,k-1,gs.getD j 0)]else[])=[]:=by
   split
   ·exact Kf fun q n=>by rw[vo.mp n];show t<gs.getD j 0;lia
   ·rfl
  rw[e];have:=d t f;simp;lia
end
theorem len_sub{a b:List Int}(c:a.Nodup)(f:∀x∈a,x∈b):a.length<=b.length:=by
 induction a generalizing b with
 | nil=>exact vA _
 | cons x r ih=>
  rw[nodup_cons]at c;have g:=f x vq;have:=ih (b:=b.erase x) c.2 fun y h=>by
   have d:y≠x:=fun e=>c.1 (e▸h)
   exact(List.mem_erase_of_ne d).mpr (f y (vp _ h))
  rw[List.length_erase_of_mem g]at this;have:0<b.length:=List.length_pos_of_mem g;rw[vS];lia
section
variable{ls:List (Str×Int)}{ps:List (Str×Fm)}{gs:List Int}{hs:List (List Int)}
theorem KL(S:Snd ls ps gs hs)(a:hs.length=ps.length)(hi:i<ps.length):hs[i]?=some (hs.getD i []):=by
 rw[vy,vz (by lia)];rfl
theorem j4r(S:Snd ls ps gs hs)(e:hs.length=ps.length)(M:MovOk ls ps hs){i:Nat}{p:Str×Fm}(c:ps[i]?=some p){j:Nat}(d:j∈inP ps p.2):(hs.getD j []).length<=(hs.getD i []).length:=by
 have f:=(vx.mp c).1;have l:=S.w.inP_lt c d;obtain⟨_,b⟩:=M i p _ c (KL S e f);obtain⟨a,_⟩:=M j _ _ (vz (show j<ps.length by lia)) (KL S e (by lia));exact len_sub (a.imp fun h=>by lia) fun k g=>(b k).mpr (.inl ⟨j,d,g⟩)
theorem j2n(S:Snd ls ps gs hs)(v:hs.length=ps.length)(M:MovOk ls ps hs){i:Nat}{p:Str×Fm}{x:List Str}(f:ps[i]?=some p)(e:p.2 = .side x):((inP ps p.2).map fun j=>(hs.getD j []).length).sum<=(hs.getD i []).length:=by
 have A:=(vx.mp f).1;obtain⟨_,t⟩:=S.sd i p x f e;obtain⟨_,b⟩:=M i p _ f (KL S v A);have C:=fun j=>S.w.inP_lt (j:=j) f
 have D:∀d:List Nat,(∀j∈d,j<ps.length)->(∀k:Int,((d.map fun j=>hs.getD j []).filter fun s=>decide (k∈s)).length<=1)->(d.flatMap fun j=>hs.getD j []).Nodup:=fun d=>by
  induction d with
  | nil=>exact fun _ _=>.nil
  | cons j r ih=>
   intro l u;rw[flatMap_cons];have E:(hs.getD j []).Nodup:=by
    obtain⟨a,_⟩:=M j _ _ (vz (l j vq)) (KL S v (l j vq));exact a.imp fun h=>by lia
   refine nodup_append.mpr ⟨E,ih (fun k c=>l k (vp _ c)) fun k=>?_,fun a y b z g=>?_⟩
   ·have:=u k;rw[uy,uz]at this;split at this
    ·rw[vS]at this;lia
    ·exact this
   ·subst g;obtain⟨B,o,q⟩:=mem_flatMap.mp z;have:=u a;rw[uy,uz,vc (vH y),vS]at this;have F:0<((r.map fun j=>hs.getD j []).filter fun s=>decide (a∈s)).length:=List.length_pos_of_mem (vQ.mpr ⟨vL.mpr ⟨B,o,rfl⟩,vH q⟩);lia
 have n:=D (inP ps p.2) (fun j m=>by have:=C j m;lia) t;have w:=len_sub (b:=hs.getD i []) n fun k c=>by
  obtain⟨j,m,c⟩:=mem_flatMap.mp c;exact(b k).mpr (.inl ⟨j,m,c⟩)
 rw[List.length_flatMap]at w;exact w
theorem j0f{a:Type}{f:a->Nat}:∀{l:List a},(l.map fun x=>c*f x).sum=c*(l.map f).sum
 | []=>rfl
 | x::r=>by rw[uy,uy,ux,ux,j0f,Nat.mul_add]
theorem j1N(S:Snd ls ps gs hs)(A:hs.length=ps.length)(M:MovOk ls ps hs)(G:∀i,i<ps.length->1<=gs.getD i 0):∀i t,i<ps.length->0<=t->nodes ps gs i t<=9*(i+1)*max 1 (hs.getD i []).length:=by
 intro i
 induction i using Nat.strongRecOn with
 | ind i ih=>
  intro t H z;have W:=S.w;have C:1<=max 1 (hs.getD i []).length:=Nat.le_max_left _ _;by_cases a:gs.getD i 0<=t\/pcB ps gs i=[]
  ·rw[yr a];have:1*1<=9*(i+1)*max 1 (hs.getD i []).length:=Nat.mul_le_mul (by lia) C;lia
  rw[kK W a];obtain⟨p,o⟩:∃p,ps[i]?=some p:=⟨_,vz H⟩
  have c:pcB ps gs i=pcsI gs p.2 (inP ps p.2):=by unfold pcB;rw[o]
  have q:=fun j=>W.inP_lt (j:=j) o
  have h:∀k∈inP ps p.2,1<=gs.getD k 0/\gs.getD k 0<=10^60:=fun k m=>by
   have:=q k m;exact⟨G k (by lia),(S.gb k (by lia)).2⟩
  have I:(inP ps p.2).length<=8:=by unfold inP;rw[vt];exact(W.f i p o).2
  have b:∀k∈inP ps p.2,nodes ps gs k (gs.getD k 0)=1:=fun k _=>yr (.inl (vB _))
  have u:∀k∈inP ps p.2,∀r,0<=r->nodes ps gs k r<=9*i*max 1 (hs.getD i []).length:=fun k m r y=>by
   have l:=q k m;have:=ih k l r (by lia) y;have s:=j4r S A M o m;refine vY this (Nat.mul_le_mul (by lia) ?_);exact Nat.max_le.mpr ⟨Nat.le_max_left _ _,vY s (Nat.le_max_right _ _)⟩
  have f:∀X:Nat,X<=8+9*i*max 1 (hs.getD i []).length->1+X<=9*(i+1)*max 1 (hs.getD i []).length:=fun X K=>by
   rw[Nat.mul_add,Nat.add_mul];have:9*1*1<=9*1*max 1 (hs.getD i []).length:=Nat.mul_le_mul (va _) C;lia
  rw[c];cases e:p.2 with
  | again k x=>
   have d:inP ps p.2=[ixOf (nmsOf ps) x]:=by rw[e];rfl
   rw[e]at d;rw[d];have g:ixOf (nmsOf ps) x∈inP ps p.2:=by rw[e,d];exact vq
   refine f _ (vY (j0i (N:=fun x=>nodes ps gs x.1 x.2) (h _ g).1 z (b _ g) (u _ g)) (by lia))
  | row xs=>
   rw[e]at h b u I;exact f _ (vY (j09 (N:=fun x=>nodes ps gs x.1 x.2) h b u) (by lia))
  | side xs=>
   have F:=j2n S A M o e;obtain⟨E,_⟩:=S.sd i p xs o e;rw[show pcsI gs (.side xs) (inP ps (.side xs))=(inP ps (.side xs)).map fun j=>(j,1,0)from rfl];rw[e]at h b F E q;rw[j2o (fun k m=>(h k m).1) z,v8];have B:((inP ps (.side xs)).map ((fun x=>nodes ps gs x.1 x.2)∘fun j=>if gs.getD j 0<=t then(j,gs.getD j 0)else(j,t))).sum<=((inP ps (.side xs)).map fun j=>9*i*(hs.getD j []).length).sum:=by
    refine j2u fun j w=>?_
    have l:=q j w;have J:1<=(hs.getD j []).length:=List.length_pos_iff.mpr (E j w);have D:∀r,0<=r->nodes ps gs j r<=9*i*(hs.getD j []).length:=fun r y=>by
     have:=ih j l r (by lia) y;rw[Nat.max_eq_right J]at this;exact vY this (Nat.mul_le_mul (by lia) (va _))
    show nodes ps gs (if gs.getD j 0<=t then(j,gs.getD j 0)else(j,t)).1 (if gs.getD j 0<=t then(j,gs.getD j 0)else(j,t)).2<=_;split
    ·exact D _ (by have:=h j w;lia)
    ·exact D _ z
   rw[j0f]at B;refine f _ (vY B (vY (Nat.mul_le_mul (va (9*i)) (vY F (Nat.le_max_right 1 _))) (Nat.le_add_left _ _)))
  | hold n=>
   exact uB (.inr (by rw[c,e];rfl)) a
  | ring x n=>
   exact uB (.inr (by rw[c,e];rfl)) a
  | rise x v n=>
   exact uB (.inr (by rw[c,e];rfl)) a
end
structure Sn(ls:List (Str×Int))(ps:List (Str×Fm))(gs:List Int)(hs:List (List Int)):Prop where
 s:Snd ls ps gs hs
 hl:hs.length=ps.length
 m:MovOk ls ps hs
 g1:∀i,i<ps.length->1<=gs.getD i 0
 ne:1<=ps.length
 l18:∀q∈ls,0<=q.2/\q.2<=10^18
 r18:∀(i:Nat) (y x:Str) (v n:Int),ps[i]?=some (y,.rise x v n)->0<=v/\v<=10^18/\1<=n/\n<=10^18
 a18:∀(i:Nat) (y x:Str) (k:Int),ps[i]?=some (y,.again k x)->1<=k/\k<=10^18
section
variable{ls:List (Str×Int)}{ps:List (Str×Fm)}{gs:List Int}{hs:List (List Int)}
theorem Sn.g(N:Sn ls ps gs hs)(hi:i<ps.length):1<=gs.getD i 0/\gs.getD i 0<=10^60:=⟨N.g1 i hi,(N.s.gb i hi).2⟩
theorem Sn.j1t(N:Sn ls ps gs hs){i:Nat}(hi:i<ps.length):gs[i]?=some (gs.getD i 0):=by
 rw[vy,vz (by rw[N.s.gl];exact hi)];rfl
theorem Sn.i8(N:Sn ls ps gs hs){i:Nat}{p:Str×Fm}(a:ps[i]?=some p):(inP ps p.2).length<=8:=by
 unfold inP;rw[vt];exact(N.s.w.f i p a).2
theorem Sn.pcOk(N:Sn ls ps gs hs){i:Nat}{q:Pc}(h:q∈pcB ps gs i):PcOk gs q:=by
 have u:=qi N.s.w h;have n:=h;unfold pcB at h;split at h
 case h_2=>exact nomatch h
 rename_i p hp;have o:=(vx.mp hp).1;have g:=N.g (show q.1<ps.length by lia);have t:=N.i8 hp;have a:∀k∈inP ps p.2,0<=gs.getD k 0/\gs.getD k 0<=10^60:=fun k d=>by
  have:=N.s.w.inP_lt hp d;have:=N.g (show k<ps.length by lia);lia
 refine⟨by rw[N.s.gl];lia,g.1,g.2,?_⟩;unfold pcsI at h;split at h
 ·rename_i k x e;have f:=N.a18 i p.1 x k (by rw[hp,<-e]);split at h
  ·exact nomatch h
  ·rename_i j r ein;have c:=a j (by rw[ein];exact vq);rcases mem_cons.mp h with rfl | h
   ·exact⟨(by show(1:Int)<=1;decide),(by show(1:Int)<=10^18;decide),(by show(0:Int)<=0;decide),(by show(0:Int)<=10^62;decide)⟩
   ·split at h
    ·rw[vo.mp h];refine⟨?_,?_,c.1,?_⟩
     ·show 1<=k-1;lia
     ·show k-1<=_;lia
     ·show gs.getD j 0<=_;lia
    ·exact nomatch h
 ·obtain⟨b,l⟩:=YV a h;have m:=(Z5 h).2;refine⟨by lia,by lia,b,?_⟩;have:(10:Int)^60*((inP ps p.2).length:Int)<=10^60*8:=Int.mul_le_mul_of_nonneg_left (by lia) (by decide);lia
 ·obtain⟨j,s,rfl⟩:=vL.mp h;exact⟨(by show(1:Int)<=1;decide),(by show(1:Int)<=10^18;decide),(by show(0:Int)<=0;decide),(by show(0:Int)<=10^62;decide)⟩
theorem j1W(c:PcOk gs q)(h:q.2.2<=t):0<=ov gs t q/\ov gs t q<=q.2.1/\ov gs t q*gs.getD q.1 0<=t-q.2.2/\0<=ov gs t q*gs.getD q.1 0:=by
 obtain⟨_,e,_,f,_,_⟩:=c;have d:0<=(t-q.2.2)/gs.getD q.1 0:=Int.ediv_nonneg (by lia) (by lia);have b:=Int.ediv_mul_le (t-q.2.2) (show gs.getD q.1 0≠0 by lia);have a:0<=ov gs t q/\ov gs t q<=q.2.1/\ov gs t q<=(t-q.2.2)/gs.getD q.1 0:=by
  unfold ov;split<;>lia
 refine⟨a.1,a.2.1,?_,vO a.1 (by lia)⟩;exact vZ (vW a.2.2 (by lia)) b
theorem XJ(j:∀q∈qs,PcOk gs q)(h:x∈wth gs t qs):0<=x.2:=by
 obtain⟨y,i,d⟩:=mem_flatMap.mp h;obtain⟨q,g,e⟩:=Z4 i;have o:=j q g;by_cases c:q.2.2<=t
 case neg=>unfold prg1 at e;rw[vb c]at e;cases e
 have b:=j1W o c;unfold prg1 at e;rw[vc c]at e;have f:=vM e;subst f;unfold wth1 at d;rcases vg.mp d with z | z
 ·have z:x∈(if 0<ov gs t q then[(q.1,gs.getD q.1 0)]else[]):=z;split at z
  ·rw[vo.mp z];exact vZ (by decide) o.2.1
  ·exact nomatch z
 ·split at z
  ·rename_i r a;rw[vo.mp z];have a:(if ov gs t q<q.2.1 then some (t-q.2.2-ov gs t q*gs.getD q.1 0)else none)=some r:=a;split at a
   ·cases a;show 0<=t-q.2.2-ov gs t q*gs.getD q.1 0;lia
   ·cases a
  ·exact nomatch z
theorem Sn.nodes(N:Sn ls ps gs hs)(a:∀i,i<ps.length->(hs.getD i []).length<=8)(hi:i<ps.length)(b:0<=t):Rm.nodes ps gs i t<=5000:=by
 have:=j1N N.s N.hl N.m N.g1 i t hi b;have c:=N.s.w.p61;have d:=a i hi;have:9*(i+1)*max 1 (hs.getD i []).length<=9*61*8:=Nat.mul_le_mul (by lia) (by lia);lia
end
noncomputable def ringX(ps:List (Str×Fm))(x:Nat×Int):List Str:=match ps[x.1]? with
 | some (_,.ring y _)=>if x.2=0 then[y]else[]
 | _=>[]
noncomputable def ringsW(ps:List (Str×Fm))(gs:List Int)(t:Int):List Str:=(reach ps gs (ps.length-1) t).flatMap (ringX ps)
inductive sp_ringsG(vs:List V)(H:Hp)(Q:VK)(xk:XK):Prop
 | mk (b pl pp:Addr) (las pas:List Addr) (ls:List (Str×Int)) (ps:List (Str×Fm)) (gs:List Int) (hs:List (List Int)) (t:Int) (_:vs=[.ref b,.int t]) (_:BookAt H b pl pp las pas ls ps) (_:Sn ls ps gs hs) (_:0<=t) (_:t<=gs.getD (ps.length-1) 0) (_:∀(l:Addr) (H':Hp),Same H H'->H l=none->H' l=some (.lst ((ringsW ps gs t).map V.str))->(ringsW ps gs t).length<=5000->Q (.ref l) H'):sp_ringsG vs H Q xk
theorem All2.app{d:Type}{R:Addr->d->Prop}{as bs:List Addr}{xs ys:List d}(h:All2 R as xs)(k:All2 R bs ys):All2 R (as++bs) (xs++ys):=by
 have f:=h.1;refine⟨by rw[vn,vn,h.1,k.1],fun i a x b c=>?_⟩;by_cases e:i<as.length
 ·rw[vC e]at b;rw[vC (by lia)]at c;exact h.2 i a x b c
 ·rw[vD (by lia)]at b;rw[vD (by lia)]at c;exact k.2 _ a x b (by rw[f];exact c)
theorem All2.cons{b:Type}{R:Addr->b->Prop}{a:Addr}{as:List Addr}{x:b}{xs:List b}(h:R a x)(k:All2 R as xs):All2 R (a::as) (x::xs):=All2.app (as:=[a]) (xs:=[x]) (All2.snoc (as:=[]) (xs:=[]) .nil h) k
theorem All2.rev{b:Type}{R:Addr->b->Prop}:∀{as:List Addr} {xs:List b},All2 R as xs->All2 R as.reverse xs.reverse
 | [],[],_=>.nil
 | [],_::_,h=>uB h.1 (by simp)
 | _::_,[],h=>uB h.1 (by simp)
 | a::as,x::xs,h=>by
  rw[reverse_cons,reverse_cons];exact All2.app (All2.rev (All2.tail h).2) (All2.snoc (as:=[]) (xs:=[]) .nil (All2.tail h).1)
theorem All2.last{e:Type}{R:Addr->e->Prop}{as:List Addr}{xs:List e}{x:e}(h:All2 R as (xs++[x])):∃c a,as=c++[a]/\All2 R c xs/\R a x:=by
 rcases eq_nil_or_concat as with rfl | ⟨c,a,rfl⟩
 ·have:=h.1;simp at this
 ·rw[List.concat_eq_append]at h|-;have g:=h.1;rw[vn,vn]at g;have d:c.length=xs.length:=by simpa using g
  refine⟨c,a,rfl,⟨d,fun i b y f j=>?_⟩,?_⟩
  ·have k:=(vx.mp f).1;exact h.2 i b y (by rw[vC k];exact f) (by rw[vC (by lia)];exact j)
  ·exact h.2 c.length a x (by simp) (by rw[d];simp)
theorem zI{gs:List Int}{n:Nat}(h:1<=n)(e:gs.length=n):atI (gs.map V.int) (-1)=some (.int (gs.getD (n-1) 0)):=by
 have i:ixN n (-1)=some (n-1):=by
  unfold ixN;simp;lia
 unfold atI;rw[vt,e,i];show(gs.map V.int)[n-1]?=_;rw[vv,vy,vz (by lia)];rfl
section
variable{ls:List (Str×Int)}{ps:List (Str×Fm)}{gs:List Int}{hs:List (List Int)}
theorem j2a(W:WfB ls ps):∀{i:Nat} {t:Int} {x:Nat×Int},i<ps.length->x∈reach ps gs i t->x.1<ps.length:=by
 intro i
 induction i using Nat.strongRecOn with
 | ind i ih=>
  intro t x b a;by_cases h:gs.getD i 0<=t\/pcB ps gs i=[]
  ·rw[QC h]at a;rw[vo.mp a];exact b
  ·rw[yv W h]at a;obtain⟨y,c,a⟩:=mem_flatMap.mp a;have:=YF W c;exact ih y.1 this (by lia) a
theorem j4d(N:Sn ls ps gs hs)(m:E.length=ps.length)(k:EndOk ls ps E):∀{i:Nat},i<ps.length->∀q∈E.getD i [],0<=q.2/\q.2<=10^18:=by
 intro i
 induction i using Nat.strongRecOn with
 | ind i ih=>
  intro f q h;have d:E[i]?=some (E.getD i []):=by rw[vy,vz (by lia)];rfl
  obtain⟨p,a⟩:∃p,ps[i]?=some p:=⟨_,vz f⟩
  rcases((k i p _ a d).2 q.1 q.2).mp h with⟨l,j,b,e,c,_⟩ | ⟨x,n,e,_⟩
  ·have g:j∈inP ps p.2:=by rw[e];simp
   have:=N.s.w.inP_lt a g;exact ih j this (by lia) _ c
  ·have:=N.r18 i p.1 x q.2 n (by rw[a,<-e]);lia
end
inductive Fn where
 | hold (n:Int) | ring (x:Str) (n:Int) | rise (x:Str) (h n:Int) | row (is:List Nat) | side (is:List Nat) | again (k:Int) (j:Nat)
noncomputable def Fn.js:Fn->List Nat
 | .row is=>is
 | .side is=>is
 | .again _ j=>[j]
 | _=>[]
def Ex(p:Addr)(H H':Hp):Prop:=∀c u,c≠p->H c=some u->H' c=some u
theorem Ex.refl(H:Hp):Ex p H H:=fun _ _ _ h=>h
theorem Ex.trans{d e f:Hp}(a:Ex p d e)(b:Ex p e f):Ex p d f:=fun c u n h=>b c u n (a c u n h)
theorem Ex.of{H H':Hp}(s:Same H H'):Ex p H H':=fun c u _ h=>s c u h
noncomputable def LenN(gs:List Int):Fn->Int->Prop
 | .hold n,g=>g=n
 | .ring _ n,g=>g=n
 | .rise _ _ n,g=>g=n
 | .row is,g=>g=(is.map fun j=>gs.getD j 0).sum
 | .side is,g=>(∃j∈is,g=gs.getD j 0)/\∀j∈is,gs.getD j 0<=g
 | .again k j,g=>g=k*gs.getD j 0
def MovN(L:List Str)(M:List (List Int))(f:Fn)(ks:List Int):Prop:=ks.Pairwise (· < ·)/\∀k,k∈ks↔(∃j∈f.js,k∈M.getD j [])\/∃(x:Str) (h n:Int) (i:Nat),f = .rise x h n/\L[i]?=some x/\k=(i:Int)
def ApartN(M:List (List Int))(is:List Nat):Prop:=(∀j∈is,M.getD j []≠[])/\is.Pairwise fun a b=>∀k∈M.getD a [],¬k∈M.getD b []
noncomputable def PreN(L:List Str)(M:List (List Int))(n:Nat):Fn->Prop
 | .hold m=>1<=m/\m<=10^18
 | .ring x m=>1<=m/\m<=10^18/\Ws.isW x=true
 | .rise x h m=>(∃i:Nat,L[i]?=some x)/\0<=h/\h<=10^18/\1<=m/\m<=10^18
 | .row is=>is≠[]/\is.length<=8/\∀j∈is,j<n
 | .side is=>2<=is.length/\is.length<=8/\(∀j∈is,j<n)/\ApartN M is
 | .again k j=>1<=k/\k<=10^18/\j<n
theorem PreN.js(h:PreN L M n f):f.js.length<=8/\∀j∈f.js,j<n:=by
 cases f with
 | row is=>exact h.2
 | side is=>exact⟨h.2.1,h.2.2.1⟩
 | again k j=>exact⟨by show 1<=8;lia,fun i a=>by rw[vo.mp a];exact h.2.2⟩
 | hold n=>exact⟨vA _,fun j h=>nomatch h⟩
 | ring x n=>exact⟨vA _,fun j h=>nomatch h⟩
 | rise x v n=>exact⟨vA _,fun j h=>nomatch h⟩
structure DOk(L:List Str)(fs:List Fn)(M:List (List Int))(gs:List Int):Prop where
 ml:M.length=fs.length
 gl:gs.length=fs.length
 f:∀(i:Nat) (f:Fn),fs[i]?=some f->PreN L M i f/\MovN L M f (M.getD i [])/\LenN gs f (gs.getD i 0)
 g:∀i,i<fs.length->1<=gs.getD i 0/\gs.getD i 0<=10^60
noncomputable def toldF(names:List Str):Fn->Fm
 | .hold n=>.hold n
 | .ring x n=>.ring x n
 | .rise x h n=>.rise x h n
 | .row is=>.row (is.map fun j=>names.getD j ⟨#[]⟩)
 | .side is=>.side (is.map fun j=>names.getD j ⟨#[]⟩)
 | .again k j=>.again k (names.getD j ⟨#[]⟩)
inductive sp_takeD(vs:List V)(H:Hp)(Q:VK)(xk:XK):Prop
 | mk (p:Addr) (x m:Int) (_:vs=[.ref p,.int m]) (_:H p=some (.lst [.int x])) (_:0<m) (_:m<=10^200) (_:∀(r y:Int) (H':Hp),0<=r->r<m->Ex p H H'->H' p=some (.lst [.int y])->Q (.int r) H'):sp_takeD vs H Q xk
theorem qF{a:Type}{xs:List a}{x d:a}{j:Nat}(h:j<xs.length):(xs++[x]).getD j d=xs.getD j d:=by
 rw[vy,vy,vC h]
theorem JF{a:Type}{xs:List a}{x d:a}:(xs++[x]).getD xs.length d=x:=by
 rw[vy,vD (va _),Nat.sub_self];rfl
theorem PreN.ext{L:List Str}{M:List (List Int)}{ks:List Int}{n:Nat}{f:Fn}(q:n<=M.length)(h:PreN L M n f):PreN L (M++[ks]) n f:=by
 cases f with
 | side is=>
  obtain⟨a,b,c,d,e⟩:=h;have g:∀j∈is,(M++[ks]).getD j []=M.getD j []:=fun j i=>qF (by have:=c j i;lia)
  refine⟨a,b,c,fun j i=>by rw[g j i];exact d j i,?_⟩;exact(List.pairwise_iff_forall_sublist.mpr fun {x y} l=>by
   have o:x∈is:=l.subset vq;have p:y∈is:=l.subset (vp _ vq);rw[g x o,g y p];exact List.pairwise_iff_forall_sublist.mp e l)
 | hold m=>exact h
 | ring x m=>exact h
 | rise x v m=>exact h
 | row is=>exact h
 | again k j=>exact h
theorem LenN.ext{gs:List Int}{g' g:Int}{f:Fn}(n:∀j∈f.js,j<gs.length)(h:LenN gs f g):LenN (gs++[g']) f g:=by
 have e:∀j∈f.js,(gs++[g']).getD j 0=gs.getD j 0:=fun j a=>qF (n j a)
 cases f with
 | hold m=>exact h
 | ring x m=>exact h
 | rise x v m=>exact h
 | row is=>
  show g=(is.map fun j=>(gs++[g']).getD j 0).sum;have d:is.map (fun j=>(gs++[g']).getD j 0)=is.map fun j=>gs.getD j 0:=map_congr_left e
  rw[d];exact h
 | side is=>
  obtain⟨⟨j,a,i⟩,l⟩:=h;exact⟨⟨j,a,by rw[e j a];exact i⟩,fun c b=>by rw[e c b];exact l c b⟩
 | again k j=>
  show g=k*(gs++[g']).getD j 0;rw[e j vq];exact h
noncomputable def drawnPs(names:List Str)(fs:List Fn):List (Str×Fm):=(List.range fs.length).map fun i=>(names.getD i ⟨#[]⟩,toldF names (fs.getD i (.hold 0)))
section
variable{L:List Str}{fs:List Fn}{M:List (List Int)}{gs:List Int}{names:List Str}{ls:List (Str×Int)}
theorem qc:(drawnPs names fs).length=fs.length:=by unfold drawnPs;rw[vt,length_range]
theorem j1g(h:fs[i]?=some f):(drawnPs names fs)[i]?=some (names.getD i ⟨#[]⟩,toldF names f):=by
 unfold drawnPs;have a:=(vx.mp h).1;rw[vv,List.getElem?_range a];have e:fs.getD i (.hold 0)=f:=by rw[vy,h];rfl
 show some (names.getD i ⟨#[]⟩,toldF names (fs.getD i (.hold 0)))=_;rw[e]
theorem JA(h:(drawnPs names fs)[i]?=some p):∃f,fs[i]?=some f/\p=(names.getD i ⟨#[]⟩,toldF names f):=by
 have b:=(vx.mp h).1;rw[qc]at b;obtain⟨f,a⟩:∃f,fs[i]?=some f:=⟨_,vz b⟩
 rw[j1g a]at h;exact⟨f,a,(vM h).symm⟩
theorem KJ(c:fs.length<=names.length):nmsOf (drawnPs names fs)=names.take fs.length:=by
 unfold nmsOf drawnPs;rw[v8];refine ext_getElem (by rw[vt,length_range,vh];lia) fun i a b=>?_
 rw[getElem_map,getElem_range,List.getElem_take];show names.getD i ⟨#[]⟩=_;rw[vy,vz];rfl
theorem j3Y(b:fs.length<=names.length)(a:j<fs.length):(nmsOf (drawnPs names fs))[j]?=some (names.getD j ⟨#[]⟩):=by
 rw[KJ b,List.getElem?_take,vc a,vy,vz (by lia)];rfl
theorem WO(a:fs.length<=names.length)(b:names.Nodup):(nmsOf (drawnPs names fs)).Nodup:=by
 rw[KJ a];exact b.sublist (take_sublist _ _)
theorem kA(c:fs.length<=names.length)(d:names.Nodup)(b:∀j∈f.js,j<fs.length):inP (drawnPs names fs) (toldF names f)=f.js:=by
 have e:∀a:List Nat,(∀j∈a,j<fs.length)->(a.map fun j=>names.getD j ⟨#[]⟩).map (ixOf (nmsOf (drawnPs names fs)))=a:=fun a h=>by
  rw[v8]
  conv=>rhs;rw[<-List.map_id a]
  exact map_congr_left fun j b=>QY (WO c d) (j3Y c (h j b))
 unfold inP;cases f with
 | row a=>exact e a b
 | side a=>exact e a b
 | again k j=>exact e [j] b
 | hold n=>rfl
 | ring x n=>rfl
 | rise x v n=>rfl
theorem xv(f:Fn):(toldF names f).ns=f.js.map fun j=>names.getD j ⟨#[]⟩:=by cases f<;>rfl
theorem DOk.wf(D:DOk (nmsOf ls) fs M gs)(m:fs.length<=names.length)(t:names.Nodup)(l:(nmsOf ls).Nodup)(s:ls.length<=8)(d:fs.length<=61):WfB ls (drawnPs names fs):=by
 refine⟨l,s,WO m t,by rw[qc];exact d,fun i p g=>?_,fun i y x h n g=>?_⟩
 ·obtain⟨f,c,rfl⟩:=JA g;have u:=(vx.mp c).1;obtain⟨a,_⟩:=D.f i f c;have q:=a.js;refine⟨fun x o=>?_,?_⟩
  ·rw[xv]at o;obtain⟨j,r,rfl⟩:=vL.mp o;have:=q.2 j r;exact⟨j,this,j3Y m (by lia)⟩
  ·rw[xv,vt];exact q.1
 ·obtain⟨f,c,e⟩:=JA g;obtain⟨a,_⟩:=D.f i f c;have b:=(Prod.mk.inj e).2;cases f with
  | rise x' h' n'=>
   have:x=x':=by injection b
   subst this;exact a.1
  | hold n=>cases b
  | ring x n=>cases b
  | row is=>cases b
  | side is=>cases b
  | again k j=>cases b
theorem DOk.mov(D:DOk (nmsOf ls) fs M gs)(o:fs.length<=names.length)(t:names.Nodup)(b:(nmsOf ls).Nodup):MovOk ls (drawnPs names fs) M:=by
 intro i p s q m;obtain⟨f,g,rfl⟩:=JA q;have u:=(vx.mp g).1;obtain⟨c,d,_⟩:=D.f i f g;have r:=c.js.2;have l:M.getD i []=s:=by rw[vy,m];rfl
 rw[l]at d;refine⟨d.1,fun k=>(d.2 k).trans ?_⟩;rw[kA o t fun j a=>by have:=r j a;lia];refine⟨fun h=>h.imp id ?_,fun h=>h.imp id ?_⟩
 ·rintro⟨x,v,n,j,rfl,a,rfl⟩;exact⟨x,v,n,rfl,by rw[QY b a]⟩
 ·rintro⟨x,v,n,e,rfl⟩;cases f with
  | rise x' h' n'=>
   have:x'=x:=by injection e
   subst this;obtain⟨j,a⟩:=c.1;exact⟨x',h',n',j,rfl,a,by rw[QY b a]⟩
  | hold n=>cases e
  | ring x n=>cases e
  | row is=>cases e
  | side is=>cases e
  | again k j=>cases e
theorem j3l{M c:List (List Int)}(W:WfB ls ps)(h:MovOk ls ps M)(h':MovOk ls ps c)(l:M.length=ps.length)(r:c.length=ps.length):∀i,i<ps.length->c.getD i []=M.getD i []:=by
 intro i
 induction i using Nat.strongRecOn with
 | ind i ih=>
  intro q;have e:ps[i]?=some ps[i]:=vz q;have p:M[i]?=some (M.getD i []):=by rw[vy,vz (by lia)];rfl
  have f:c[i]?=some (c.getD i []):=by rw[vy,vz (by lia)];rfl
  obtain⟨a,b⟩:=h i _ _ e p;obtain⟨n,o⟩:=h' i _ _ e f;refine j2E n a fun k=>(o k).trans (Iff.trans ?_ (b k).symm)
  have m:(∃j∈inP ps (ps[i]).2,k∈c.getD j [])↔∃j∈inP ps (ps[i]).2,k∈M.getD j []:=by
   constructor
   ·rintro⟨j,d,g⟩;have:=W.inP_lt e d;exact⟨j,d,by rw[<-ih j this (by lia)];exact g⟩
   ·rintro⟨j,d,g⟩;have:=W.inP_lt e d;exact⟨j,d,by rw[ih j this (by lia)];exact g⟩
  rw[m]
theorem DOk.sn(D:DOk (nmsOf ls) fs M gs)(C:fs.length<=names.length)(G:names.Nodup)(B:(nmsOf ls).Nodup)(X:ls.length<=8)(J:fs.length<=61)(f1:1<=fs.length)(Y:∀q∈ls,0<=q.2/\q.2<=10^18):Sn ls (drawnPs names fs) gs M:=by
 have W:=D.wf C G B X J;have O:=D.mov C G B;have dl:(drawnPs names fs).length=fs.length:=qc;have ml:=D.ml;have gl:=D.gl;refine⟨⟨W,by lia,fun i w=>?_,fun Z T K i w=>j3l W O K (by lia) T i w,fun i p t=>?_,fun i p qs t e=>?_⟩,by lia,O,fun i w=>(D.g i (by lia)).1,by lia,Y,fun i y x v n t=>?_,fun i y x k t=>?_⟩
 ·have:=D.g i (by lia);lia
 ·obtain⟨f,m,rfl⟩:=JA t;have w:=(vx.mp m).1;obtain⟨d,_,u⟩:=D.f i f m;have o:=d.js.2;rw[show inP (drawnPs names fs) (names.getD i ⟨#[]⟩,toldF names f).2=f.js from kA C G fun j A=>by have:=o j A;lia];cases f with
  | hold n=>exact⟨trivial,fun g h=>Eq.trans h (Eq.symm u)⟩
  | ring x n=>exact⟨trivial,fun g h=>Eq.trans h (Eq.symm u)⟩
  | rise x v n=>exact⟨trivial,fun g h=>Eq.trans h (Eq.symm u)⟩
  | row is=>exact⟨trivial,fun g h=>Eq.trans h (Eq.symm u)⟩
  | side is=>
   refine⟨fun z=>?_,fun g h=>?_⟩
   ·have p2:=d.1;have:is.length=0:=by rw[<-vt (f:=fun j=>gs.getD j 0)];exact congrArg List.length z
    lia
   ·obtain⟨Q,R⟩:=h;obtain⟨j,A,rfl⟩:=vL.mp Q;obtain⟨⟨E,s,e'⟩,U⟩:=u;have a1:=U j A;have a2:=R (gs.getD E 0) (vL.mpr ⟨E,s,rfl⟩);lia
  | again k j=>
   have P:=D.g j (by have:=o j vq;lia);refine⟨⟨gs.getD j 0,[],rfl,vZ (by decide) d.1,d.2.1,by lia,P.2⟩,fun g h=>?_⟩;obtain⟨y,S,rfl⟩:=h;cases S;exact Eq.symm u
 ·obtain⟨f,m,rfl⟩:=JA t;have w:=(vx.mp m).1;obtain⟨d,_,_⟩:=D.f i f m;have o:=d.js.2;rw[show inP (drawnPs names fs) (names.getD i ⟨#[]⟩,toldF names f).2=f.js from kA C G fun j A=>by have:=o j A;lia];cases f with
  | side is=>
   obtain⟨_,_,_,H,I⟩:=d;refine⟨H,fun k=>?_⟩;have N:∀o:List Nat,o.Pairwise (fun a b=>∀k∈M.getD a [],¬k∈M.getD b [])->((o.map fun j=>M.getD j []).filter fun F=>decide (k∈F)).length<=1:=fun o=>by
    induction o with
    | nil=>exact fun _=>vA _
    | cons j r ih=>
     intro h;rw[pairwise_cons]at h;rw[uy,uz];split
     ·rename_i c;have e:(r.map fun j=>M.getD j []).filter (fun F=>decide (k∈F))=[]:=by
       rw[List.filter_eq_nil_iff];intro F L;obtain⟨E,s,rfl⟩:=vL.mp L;have:=h.1 E s k (of_decide_eq_true c);simpa using this
      rw[e];exact va _
     ·exact ih h.2
   exact N is I
  | hold n=>cases e
  | ring x n=>cases e
  | rise x v n=>cases e
  | row is=>cases e
  | again k j=>cases e
 ·obtain⟨f,m,e⟩:=JA t;obtain⟨d,_⟩:=D.f i f m;have l:=(Prod.mk.inj e).2;cases f with
  | rise x' K n'=>
   injection l with e3 e4 e5;subst e3 e4 e5;exact d.2
  | hold n=>cases l
  | ring x n=>cases l
  | row is=>cases l
  | side is=>cases l
  | again k j=>cases l
 ·obtain⟨f,m,e⟩:=JA t;obtain⟨d,_⟩:=D.f i f m;have l:=(Prod.mk.inj e).2;cases f with
  | again k' j=>
   injection l with e3 e4;subst e3;exact⟨d.1,d.2.1⟩
  | rise x' K n'=>cases l
  | hold n=>cases l
  | ring x n=>cases l
  | row is=>cases l
  | side is=>cases l
end
structure Sa where
 d:Addr
 f:Addr
 o:Addr
 s:Addr
 l:Addr
 p:Addr
 fb:List Addr
 la:List Addr
 pa:List Addr
noncomputable def fldS(z:Sa):List (Str×V):=putF "pieces" (.ref z.p) (putF "left" (.ref z.l) (putF "sizes" (.ref z.s) (putF "forms" (.ref z.o) (putF "first" (.ref z.f) (putF "limbs" (.ref z.d) [])))))
section
variable{z:Sa}
theorem j6(h:¬a=b):(putF b v r).lookup a=r.lookup a:=by rw[QZ,vb h]
theorem qY:(putF a v r).lookup a=some v:=by rw[QZ,vc rfl]
theorem x9:(fldS z).lookup ("pieces" : Str)=some (.ref z.p):=qY
theorem j1m:(fldS z).lookup ("left" : Str)=some (.ref z.l):=(j6 (by decide +kernel)).trans qY
theorem ZZ:(fldS z).lookup ("sizes" : Str)=some (.ref z.s):=(j6 (by decide +kernel)).trans ((j6 (by decide +kernel)).trans qY)
theorem j0r:(fldS z).lookup ("forms" : Str)=some (.ref z.o):=(j6 (by decide +kernel)).trans ((j6 (by decide +kernel)).trans ((j6 (by decide +kernel)).trans qY))
theorem j0q:(fldS z).lookup ("first" : Str)=some (.ref z.f):=(j6 (by decide +kernel)).trans ((j6 (by decide +kernel)).trans ((j6 (by decide +kernel)).trans ((j6 (by decide +kernel)).trans qY)))
theorem j1n{m:Str}(a:¬m = "pieces")(b:¬m = "left")(c:¬m = "sizes")(d:¬m = "forms")(e:¬m = "first")(f:¬m = "limbs"):(fldS z).lookup m=none:=(j6 a).trans ((j6 b).trans ((j6 c).trans ((j6 d).trans ((j6 e).trans (j6 f)))))
theorem j4(f:Str)(v:V):∀r:List (Str×V),(putF f v r).length<=r.length+1
 | []=>va _
 | (g,u)::r=>by
  unfold putF;split
  ·exact Nat.le_succ _
  ·rw[vS,vS];have:=j4 f v r;lia
end
theorem BookAt.less{H:Hp}(o:H a=some (.ins C dx fs))(B:BookAt H b pl pp las pas ls ps) :
  ∃i:Hp,(∀H',(∀c u,c≠a->H c=some u->H' c=some u)->Same i H')/\(∀{c u},i c=some u->c≠a)/\BookAt i b pl pp las pas ls ps:=by
 have f:∀{c:Addr} {g:List V},H c=some (.tup g)->(fun c=>if c=a then none else H c) c=some (.tup g):=fun {c g} h=>by
  show(if c=a then none else H c)=_;rw[vb (fun z=>by rw[z,o]at h;cases h)];exact h
 have p:∀{c:Addr} {g:List V},H c=some (.lst g)->(fun c=>if c=a then none else H c) c=some (.lst g):=fun {c g} h=>by
  show(if c=a then none else H c)=_;rw[vb (fun z=>by rw[z,o]at h;cases h)];exact h
 refine⟨fun c=>if c=a then none else H c,fun H' k c u h=>?_,fun {c u} h=>?_,f B.t,p B.l,B.la.mono fun a x m=>f m,p B.p,B.pa.mono fun a x m=>?_⟩
 ·have h:(if c=a then none else H c)=some u:=h;by_cases e:c=a
  ·rw[vc e]at h;cases h
  ·rw[vb e]at h;exact k c u e h
 ·have h:(if c=a then none else H c)=some u:=h;intro e;rw[vc e]at h;cases h
 ·obtain⟨q,s,d⟩:=m;refine⟨q,f s,?_⟩;cases hx2:x.2 with
  | row r=>rw[hx2]at d;obtain⟨c,j,l⟩:=d;exact⟨c,f j,f l⟩
  | side r=>rw[hx2]at d;obtain⟨c,j,l⟩:=d;exact⟨c,f j,f l⟩
  | hold n=>rw[hx2]at d;exact f d
  | ring y n=>rw[hx2]at d;exact f d
  | rise y v n=>rw[hx2]at d;exact f d
  | again k y=>rw[hx2]at d;exact f d
theorem few(h:(putF f v r).length<=n)(k:n<1000):(putF f v r).length<1000:=vE h k
section
variable{a b c d e:Str}{u v w x y:V}
theorem few3:(putF c w (putF b v (putF a u []))).length<1000:=by
 have:=j4 c w (putF b v (putF a u []));have:=j4 b v (putF a u []);have:=j4 a u [];simp at *;lia
theorem few4:(putF d x (putF c w (putF b v (putF a u [])))).length<1000:=by
 have:=j4 d x (putF c w (putF b v (putF a u [])));have:=j4 c w (putF b v (putF a u []));have:=j4 b v (putF a u []);have:=j4 a u [];simp at *;lia
theorem few5:(putF e y (putF d x (putF c w (putF b v (putF a u []))))).length<1000:=by
 have:=j4 e y (putF d x (putF c w (putF b v (putF a u []))));have:=j4 d x (putF c w (putF b v (putF a u [])));have:=j4 c w (putF b v (putF a u []));have:=j4 b v (putF a u []);have:=j4 a u [];simp at *;lia
end
end Rm
namespace L2
open PySem PySem.Spec PyProof.Rows
theorem Kc{xs:List Nat}(d:xs.Pairwise (· < ·)){i j v w:Nat}(hi:xs[i]?=some v)(a:xs[j]?=some w)(h:i<j):v<w:=by
 obtain⟨b,rfl⟩:=vx.mp hi;obtain⟨c,rfl⟩:=vx.mp a;exact pairwise_iff_getElem.mp d i j b c h
theorem kj{xs:Array Nat}{j:Nat}(l:xs.toList.Pairwise (· < ·)):∀(f lo hi:Nat),lo<=hi->hi<=xs.size->hi-lo<=f->(∀i v,i<lo->xs.toList[i]?=some v->v<j)->(∀i v,hi<=i->xs.toList[i]?=some v->j<=v)->
  SetTable.below.go xs j f lo hi<=xs.size/\(∀i v,i<SetTable.below.go xs j f lo hi->xs.toList[i]?=some v->v<j)/\∀i v,SetTable.below.go xs j f lo hi<=i->xs.toList[i]?=some v->j<=v
 | 0,lo,hi,h1,h2,h3,a,b=>by
  have e:lo=hi:=by lia
  subst e;unfold SetTable.below.go;exact⟨h2,a,b⟩
 | f+1,lo,hi,h1,h2,h3,a,b=>by
  have d:SetTable.below.go xs j (f+1) lo hi=if lo<hi then(if xs.getD ((lo+hi)/2) j<j then SetTable.below.go xs j f ((lo+hi)/2+1) hi else SetTable.below.go xs j f lo ((lo+hi)/2))else lo:=rfl
  by_cases h:lo<hi
  ·have n:(lo+hi)/2<xs.size:=by lia
   have k:xs.toList[(lo+hi)/2]?=some (xs.getD ((lo+hi)/2) j):=by
    rw[Array.getElem?_toList,Array.getElem?_eq_getElem n];simp[Array.getD,n]
   rw[vc h]at d;by_cases c:xs.getD ((lo+hi)/2) j<j
   ·rw[vc c]at d;rw[d];refine kj l f ((lo+hi)/2+1) hi (by lia) h2 (by lia) (fun i v m g=>?_) b;rcases Nat.lt_or_ge i ((lo+hi)/2)with z | z
    ·exact v4 (Kc l g k z) c
    ·have:i=(lo+hi)/2:=by lia
     subst this;rw[k]at g;exact vM g▸c
   ·rw[vb c]at d;rw[d];refine kj l f lo ((lo+hi)/2) (by lia) (by lia) (by lia) a fun i v m g=>?_
    rcases Nat.lt_or_ge ((lo+hi)/2) i with z | z
    ·have:=Kc l k g z;lia
    ·have:i=(lo+hi)/2:=by lia
     subst this;rw[k]at g;have:=vM g;lia
  ·rw[vb h]at d;rw[d];have e:lo=hi:=by lia
   subst e;exact⟨h2,a,b⟩
theorem Zy{xs:Array Nat}(b:xs.toList.Pairwise (· < ·))(j:Nat):SetTable.below xs j<=xs.size/\(∀i v,i<SetTable.below xs j->xs.toList[i]?=some v->v<j)/\∀i v,SetTable.below xs j<=i->xs.toList[i]?=some v->j<=v:=
 kj b xs.size 0 xs.size (vA _) (va _) (by lia) (fun i v h=>uB h (Nat.not_lt_zero _)) fun i v h a=>by
  have:=(vx.mp a).1;rw[Array.length_toList]at this;lia
structure STb(led:Bool)(n:Nat)(t:SetTable):Prop where
 mask:t.mask=7
 dm:t.dummies = #[]
 ld:t.led=led
 plain:t.plain=true
 up:t.place.toList.Pairwise (· < ·)
 le:∀x∈t.place.toList,x<8
 sz:t.place.size=n
theorem STb.fresh(led:Bool):STb led 0 (.fresh 0 0 led):=⟨rfl,rfl,rfl,rfl,.nil,(fun x h=>nomatch h),rfl⟩
section
variable{led:Bool}{n:Nat}{t:SetTable}
theorem STb.slot(T:STb led n t)(j:Nat):(j∈t.place.toList/\∃i,t.slot j = .live i)\/(j∉t.place.toList/\t.slot j = .empty):=by
 obtain⟨g,b,d⟩:=Zy T.up j;unfold SetTable.slot;by_cases c:t.place[SetTable.below t.place j]?=some j
 ·refine .inl ⟨?_,SetTable.below t.place j,?_⟩
  ·rw[<-Array.getElem?_toList]at c;exact vj c
  ·dsimp only;rw[vc (by rw[c];exact beq_self_eq_true _)]
 ·refine .inr ⟨fun f=>c ?_,?_⟩
  ·obtain⟨i,a⟩:=List.getElem?_of_mem f;rcases Nat.lt_trichotomy i (SetTable.below t.place j)with z | z | z
   ·exact uB (b i j z a) (Nat.lt_irrefl _)
   ·rw[<-Array.getElem?_toList,<-z];exact a
   ·have h:=(vx.mp a).1;have e:t.place.toList[SetTable.below t.place j]?=some (t.place.toList[SetTable.below t.place j]'(by lia)):=vz _;have:=d _ _ (va _) e;have:=Kc T.up e a z;lia
  ·dsimp only;rw[vb (by rw[beq_iff_eq];exact c),T.dm];rfl
noncomputable def lp(j:Nat):Nat->Nat
 | 0=>j
 | k+1=>lp ((j*5+1)%8) k
theorem j4p:∀j,j<8->∀m,m<8->∃k,k<8/\lp j k=m:=by decide
theorem STb.adv(T:STb led n t){p:SetTable.Probe}(b:p.more=0):t.advance p={p with j:=(p.i*5+1+p.perturb/32)%8,more:=0,i:=(p.i*5+1+p.perturb/32)%8,perturb:=p.perturb/32}:=by
 unfold SetTable.advance;rw[vb (by lia),T.mask];have a:(p.i*5+1+p.perturb/32)%8<8:=Nat.mod_lt _ (by decide);have e:SetTable.runEnd 7 ((p.i*5+1+p.perturb/32)%8)=(p.i*5+1+p.perturb/32)%8:=by
  unfold SetTable.runEnd;rw[vb (by lia)]
 unfold SetTable.leap;simp only[show(7:Nat)+1=8 from rfl];rw[e,Nat.sub_self]
abbrev PbOk(p:SetTable.Probe):Prop:=p.more=0/\p.i=p.j/\p.j<8/\p.dummy=none
theorem STb.go_live(T:STb led n t){h:Int}{f:Nat}{p:SetTable.Probe}(a:PbOk p)(c:∃i,t.slot p.j = .live i) :
  ∃q,PbOk q/\q.perturb=p.perturb/32/\q.j=(p.j*5+1+p.perturb/32)%8/\SetTable.probe.go t (fun _=>h+1) h (f+1) p=SetTable.probe.go t (fun _=>h+1) h f q:=by
 obtain⟨i,b⟩:=c;refine⟨t.advance p,?_⟩;rw[T.adv a.1];refine⟨⟨rfl,rfl,Nat.mod_lt _ (by decide),a.2.2.2⟩,rfl,by rw[<-a.2.1],?_⟩;rw[SetTable.probe.go,b];dsimp only;rw[vb (by rw[beq_iff_eq];lia),T.adv a.1]
theorem STb.go_empty{h:Int}{f:Nat}{p:SetTable.Probe}(b:PbOk p)(a:t.slot p.j = .empty):SetTable.probe.go t (fun _=>h+1) h (f+1) p=some (.empty p.j none):=by
 rw[SetTable.probe.go,a];dsimp only;rw[b.2.2.2]
theorem STb.go0(T:STb led n t){h:Int}:∀(k f:Nat) (p:SetTable.Probe),PbOk p->p.perturb=0->k<f->t.slot (lp p.j k) = .empty->∃j,j<8/\t.slot j = .empty/\SetTable.probe.go t (fun _=>h+1) h f p=some (.empty j none)
 | _,0,_,_,_,hf,_=>uB hf (Nat.not_lt_zero _)
 | 0,f+1,p,hp,_,_,he=>⟨p.j,hp.2.2.1,he,STb.go_empty hp he⟩
 | k+1,f+1,p,hp,h0,hf,he=>by
  rcases T.slot p.j with⟨_,d⟩ | ⟨_,z⟩
  ·obtain⟨q,e,a,b,c⟩:=T.go_live (h:=h) (f:=f) hp d;rw[c];rw[h0]at a b;exact STb.go0 T k f q e a (by lia) (by rw[b];exact he)
  ·exact⟨p.j,hp.2.2.1,z,STb.go_empty hp z⟩
theorem STb.some_empty(T:STb led n t)(d:n<=7):∃m,m<8/\t.slot m = .empty:=by
 apply Classical.byContradiction;intro c;have a:∀m∈List.range 8,m∈t.place.toList:=fun m b=>by
  rcases T.slot m with⟨z,_⟩ | ⟨_,z⟩
  ·exact z
  ·exact uB ⟨m,v6.mp b,z⟩ c
 have:=(nodup_range (n:=8)).length_le_of_subset a;rw[length_range,Array.length_toList,T.sz]at this;lia
theorem STb.goK(T:STb led n t)(a:n<=7){h:Int}:∀(k f:Nat) (p:SetTable.Probe),PbOk p->p.perturb<32^k->k+9<=f->∃j,j<8/\t.slot j = .empty/\SetTable.probe.go t (fun _=>h+1) h f p=some (.empty j none)
 | 0,f,p,hp,h0,hf=>by
  obtain⟨m,l,e⟩:=T.some_empty a;obtain⟨k,r,d⟩:=j4p p.j hp.2.2.1 m l;exact T.go0 k f p hp (by simpa using h0) (by lia) (by rw[d];exact e)
 | k+1,0,_,_,_,hf=>uB hf (by lia)
 | k+1,f+1,p,hp,h0,hf=>by
  rcases T.slot p.j with⟨_,g⟩ | ⟨_,z⟩
  ·obtain⟨q,i,b,o,c⟩:=T.go_live (h:=h) (f:=f) hp g;rw[c];exact STb.goK T a k f q i (by rw[b,Nat.div_lt_iff_lt_mul (by decide)];rw[Nat.pow_succ]at h0;exact h0) (by lia)
  ·exact⟨p.j,hp.2.2.1,z,STb.go_empty hp z⟩
theorem STb.free(T:STb led n t)(c:n<=7)(h:Int):∃j,j<8/\j∉t.place.toList/\t.freeSlot h=some (j,false):=by
 have d:SetTable.bits h<2^64:=by
  unfold SetTable.bits;have:=ve h (show(0:Int)<2^64 by decide);have:=vd h (show(2^64:Int)≠0 by decide);lia
 have e:t.probeStart h=⟨SetTable.bits h%8,0,SetTable.bits h%8,SetTable.bits h,none⟩:=by
  unfold SetTable.probeStart;rw[T.mask];have g:SetTable.bits h%(7+1)<8:=Nat.mod_lt _ (by decide);have e:SetTable.runEnd 7 (SetTable.bits h%(7+1))=SetTable.bits h%(7+1):=by
   unfold SetTable.runEnd;rw[vb (by lia)]
  simp only[e,Nat.sub_self]
 obtain⟨j,f,b,a⟩:=T.goK c (h:=h) 13 220 ⟨SetTable.bits h%8,0,SetTable.bits h%8,SetTable.bits h,none⟩ ⟨rfl,rfl,Nat.mod_lt _ (by decide),rfl⟩ (Nat.lt_of_lt_of_le d (by decide)) (by decide);refine⟨j,f,?_,?_⟩
 ·rcases T.slot j with⟨_,i,z⟩ | ⟨z,_⟩
  ·rw[b]at z;cases z
  ·exact z
 ·unfold SetTable.freeSlot SetTable.probe;rw[e,T.mask];show(match SetTable.probe.go t (fun _=>h+1) h 220 _ with | some (.empty j dummy)=>some (dummy.getD j,dummy.isSome) | _=>none)=_;rw[a];rfl
end
structure STc(led:Bool)(n:Nat)(t:SetTable):Prop where
 dm:t.dummies = #[]
 ld:t.led=led
 plain:t.plain=true
 up:t.place.toList.Pairwise (· < ·)
 sz:t.place.size=n
 ft:n<=t.mask
theorem STb.c{led:Bool}{n:Nat}{t:SetTable}(T:STb led n t)(h:n<=7):STc led n t:=⟨T.dm,T.ld,T.plain,T.up,T.sz,by rw[T.mask];exact h⟩
theorem yN{a c:Type}{f g:a->Option c}:∀{l:List a},(∀x∈l,f x=g x)->l.filterMap f=l.filterMap g
 | [],_=>rfl
 | x::r,h=>by rw[filterMap_cons,filterMap_cons,h x vq,yN fun y b=>h y (vp _ b)]
noncomputable def ownL(o:Array (Option Nat)):List Nat:=(List.range 32).filterMap fun j=>o.getD j none
structure OwG(o:Array (Option Nat))(k:Nat):Prop where
 sz:o.size=32
 pm:(ownL o).Perm (List.range k)
noncomputable def lq(j:Nat):Nat->Nat
 | 0=>j
 | k+1=>lq ((j*5+1)%32) k
theorem j1D:∀j,j<32->∀m,m<32->∃k,k<32/\lq j k=m:=by decide +kernel
theorem XD{t:SetTable}(a:t.place.toList.Pairwise (· < ·))(d:t.dummies = #[])(j:Nat):(j∈t.place.toList/\∃i,t.slot j = .live i)\/(j∉t.place.toList/\t.slot j = .empty):=by
 obtain⟨k,f,g⟩:=Zy a j;unfold SetTable.slot;by_cases c:t.place[SetTable.below t.place j]?=some j
 ·refine .inl ⟨?_,SetTable.below t.place j,?_⟩
  ·rw[<-Array.getElem?_toList]at c;exact vj c
  ·dsimp only;rw[vc (by rw[c];exact beq_self_eq_true _)]
 ·refine .inr ⟨fun h=>c ?_,?_⟩
  ·obtain⟨i,b⟩:=List.getElem?_of_mem h;rcases Nat.lt_trichotomy i (SetTable.below t.place j)with z | z | z
   ·exact uB (f i j z b) (Nat.lt_irrefl _)
   ·rw[<-Array.getElem?_toList,<-z];exact b
   ·have l:=(vx.mp b).1;have e:t.place.toList[SetTable.below t.place j]?=some (t.place.toList[SetTable.below t.place j]'(by lia)):=vz _;have:=g _ _ (va _) e;have:=Kc a e b z;lia
  ·dsimp only;rw[vb (by rw[beq_iff_eq];exact c),d];rfl
structure STd(led:Bool)(n:Nat)(t:SetTable):Prop where
 mask:t.mask=31
 dm:t.dummies = #[]
 ld:t.led=led
 plain:t.plain=true
 up:t.place.toList.Pairwise (· < ·)
 le:∀x∈t.place.toList,x<32
 sz:t.place.size=n
theorem STd.c{led:Bool}{n:Nat}{t:SetTable}(T:STd led n t)(h:n<=31):STc led n t:=⟨T.dm,T.ld,T.plain,T.up,T.sz,by rw[T.mask];exact h⟩
section
variable{led:Bool}{n:Nat}{t:SetTable}
structure Hd(p:SetTable.Probe):Prop where
 j:p.j=p.i
 m:p.more=SetTable.runEnd 31 p.i-p.i
 i:p.i<32
 d:p.dummy=none
def Fnd(t:SetTable)(r:Option SetTable.Met):Prop:=∃j,j<32/\t.slot j = .empty/\r=some (.empty j none)
theorem j4E{i:Nat}(h:i<32):i<=SetTable.runEnd 31 i/\SetTable.runEnd 31 i<32/\SetTable.runEnd 31 i-i<=9:=by
 unfold SetTable.runEnd;split<;>lia
theorem STd.run(T:STd led n t){h:Int}:∀(m f:Nat) (p:SetTable.Probe),p.more=m->p.j+m<32->p.dummy=none->m<f->
  Fnd t (SetTable.probe.go t (fun _=>h+1) h f p)\/∃q,Hd q/\q.perturb=p.perturb/32/\q.i=(p.i*5+1+p.perturb/32)%32/\SetTable.probe.go t (fun _=>h+1) h f p=SetTable.probe.go t (fun _=>h+1) h (f-(m+1)) q
 | _,0,_,_,_,_,hf=>uB hf (Nat.not_lt_zero _)
 | m,f+1,p,hm,hj,hd,hf=>by
  rcases XD T.up T.dm p.j with⟨_,i,b⟩ | ⟨_,z⟩
  ·have e:SetTable.probe.go t (fun _=>h+1) h (f+1) p=SetTable.probe.go t (fun _=>h+1) h f (t.advance p):=by
    rw[SetTable.probe.go,b];dsimp only;rw[vb (by rw[beq_iff_eq];lia)]
   rw[e]
   match m,hm,hj,hf with
   | 0,hm,hj,hf=>
    refine .inr ⟨t.advance p,?_⟩;have a:t.advance p={p with j:=(p.i*5+1+p.perturb/32)%32,more:=SetTable.runEnd 31 ((p.i*5+1+p.perturb/32)%32)-(p.i*5+1+p.perturb/32)%32,i:=(p.i*5+1+p.perturb/32)%32,perturb:=p.perturb/32}:=by
     unfold SetTable.advance;rw[vb (by lia),T.mask];rfl
    rw[a];exact⟨⟨rfl,rfl,Nat.mod_lt _ (by decide),hd⟩,rfl,rfl,rfl⟩
   | m+1,hm,hj,hf=>
    have a:t.advance p={p with j:=p.j+1,more:=p.more-1}:=by
     unfold SetTable.advance;rw[vc (by lia)]
    rw[a];have:=STd.run T (h:=h) m f {p with j:=p.j+1,more:=p.more-1} (by show p.more-1=m;lia) (by show p.j+1+m<32;lia) hd (by lia);rw[show f+1-(m+1+1)=f-(m+1) by lia];exact this
  ·refine .inl ⟨p.j,by lia,z,?_⟩;rw[SetTable.probe.go,z];dsimp only;rw[hd]
theorem STd.blk(T:STd led n t){h:Int}{f g:Nat}{p:SetTable.Probe}(a:Hd p)(c:g+10<=f) :
  Fnd t (SetTable.probe.go t (fun _=>h+1) h f p)\/∃q b,Hd q/\q.perturb=p.perturb/32/\q.i=(p.i*5+1+p.perturb/32)%32/\g<=b/\SetTable.probe.go t (fun _=>h+1) h f p=SetTable.probe.go t (fun _=>h+1) h b q:=by
 have r:=j4E a.i;rcases T.run (h:=h) p.more f p rfl (by rw[a.j,a.m];lia) a.d (by rw[a.m];lia)with z | ⟨q,h1,h2,h3,h4⟩
 ·exact .inl z
 ·exact .inr ⟨q,_,h1,h2,h3,by rw[a.m];lia,h4⟩
theorem STd.hit{h:Int}{f:Nat}{p:SetTable.Probe}(a:Hd p)(c:1<=f)(b:t.slot p.i = .empty):Fnd t (SetTable.probe.go t (fun _=>h+1) h f p):=by
 match f,c with
 | f+1,_=>
  refine⟨p.j,by rw[a.j];exact a.i,by rw[a.j];exact b,?_⟩;rw[SetTable.probe.go,a.j,b];dsimp only;rw[a.d]
theorem STd.go0(T:STd led n t){h:Int}:∀(k f:Nat) (p:SetTable.Probe),Hd p->p.perturb=0->10*k+1<=f->t.slot (lq p.i k) = .empty->Fnd t (SetTable.probe.go t (fun _=>h+1) h f p)
 | 0,f,p,hp,_,hf,he=>STd.hit hp (by lia) he
 | k+1,f,p,hp,h0,hf,he=>by
  rcases T.blk (h:=h) (f:=f) (g:=10*k+1) hp (by lia)with z | ⟨q,d,i,b,c,a,e⟩
  ·exact z
  ·rw[e];rw[h0]at b c;exact STd.go0 T k d q i b a (by rw[c];exact he)
theorem STd.some_empty(T:STd led n t)(d:n<=31):∃m,m<32/\t.slot m = .empty:=by
 apply Classical.byContradiction;intro c;have a:∀m∈List.range 32,m∈t.place.toList:=fun m b=>by
  rcases XD T.up T.dm m with⟨z,_⟩ | ⟨_,z⟩
  ·exact z
  ·exact uB ⟨m,v6.mp b,z⟩ c
 have:=(nodup_range (n:=32)).length_le_of_subset a;rw[length_range,Array.length_toList,T.sz]at this;lia
theorem STd.goK(T:STd led n t)(b:n<=31){h:Int}:∀(k f:Nat) (p:SetTable.Probe),Hd p->p.perturb<32^k->10*k+330<=f->Fnd t (SetTable.probe.go t (fun _=>h+1) h f p)
 | 0,f,p,hp,h0,hf=>by
  obtain⟨m,l,d⟩:=T.some_empty b;obtain⟨k,r,c⟩:=j1D p.i hp.i m l;exact T.go0 k f p hp (by simpa using h0) (by lia) (by rw[c];exact d)
 | k+1,f,p,hp,h0,hf=>by
  rcases T.blk (h:=h) (f:=f) (g:=10*k+330) hp (by lia)with z | ⟨q,i,j,o,s,a,e⟩
  ·exact z
  ·rw[e];exact STd.goK T b k i q j (by rw[o,Nat.div_lt_iff_lt_mul (by decide)];rw[Nat.pow_succ]at h0;exact h0) a
theorem STd.free(T:STd led n t)(c:n<=31)(h:Int):∃j,j<32/\j∉t.place.toList/\t.freeSlot h=some (j,false):=by
 have d:SetTable.bits h<2^64:=by
  unfold SetTable.bits;have:=ve h (show(0:Int)<2^64 by decide);have:=vd h (show(2^64:Int)≠0 by decide);lia
 have e:t.probeStart h=⟨SetTable.bits h%32,SetTable.runEnd 31 (SetTable.bits h%32)-SetTable.bits h%32,SetTable.bits h%32,SetTable.bits h,none⟩:=by
  unfold SetTable.probeStart;rw[T.mask]
 obtain⟨j,f,b,a⟩:=T.goK c (h:=h) 13 460 ⟨SetTable.bits h%32,SetTable.runEnd 31 (SetTable.bits h%32)-SetTable.bits h%32,SetTable.bits h%32,SetTable.bits h,none⟩ ⟨rfl,rfl,Nat.mod_lt _ (by decide),rfl⟩ (Nat.lt_of_lt_of_le d (by decide)) (by decide);refine⟨j,f,?_,?_⟩
 ·rcases XD T.up T.dm j with⟨_,i,z⟩ | ⟨z,_⟩
  ·rw[b]at z;cases z
  ·exact z
 ·unfold SetTable.freeSlot SetTable.probe;rw[e,T.mask];show(match SetTable.probe.go t (fun _=>h+1) h 460 _ with | some (.empty j dummy)=>some (dummy.getD j,dummy.isSome) | _=>none)=_;rw[a];rfl
end
section
variable{o:Array (Option Nat)}
noncomputable abbrev fnd(o:Array (Option Nat))(i:Nat):Option Nat:=(List.range (SetTable.runEnd 31 i+1-i)).find? fun k=>(o.getD (i+k) (some 0)).isNone
theorem wF{i k:Nat}(hs:o.size=32)(h:fnd o i=some k):i+k<32/\o.getD (i+k) none=none:=by
 have:=List.find?_some h;have a:i+k<32:=by
  apply Nat.not_le.mp;intro c;have e:o.getD (i+k) (some 0)=some 0:=by simp[Array.getD,show¬i+k<o.size by lia]
  rw[e]at this;cases this
 refine⟨a,?_⟩;have e:o.getD (i+k) (some 0)=o.getD (i+k) none:=by simp[Array.getD,show i+k<o.size by lia]
 rw[e]at this;exact Option.isNone_iff_eq_none.mp this
theorem xZ{i:Nat}(hi:i<32)(hs:o.size=32)(h:o.getD i none=none):∃k,fnd o i=some k:=by
 cases hf:fnd o i with
 | some k=>exact⟨k,rfl⟩
 | none=>
  have a:=List.find?_eq_none.mp hf 0 (v6.mpr (by unfold SetTable.runEnd;split<;>lia));have e:o.getD (i+0) (some 0)=none:=by
   rw[Nat.add_zero];have:o.getD i (some 0)=o.getD i none:=by simp[Array.getD,show i<o.size by lia]
   rw[this,h]
  rw[e]at a;exact uB rfl a
theorem wG(f i p:Nat):SetTable.layClean.free 31 o (f+1) i p=match fnd o i with | some k=>some (i+k) | none=>SetTable.layClean.free 31 o f ((i*5+1+p/32)%32) (p/32):=rfl
def FrOk(o:Array (Option Nat))(r:Option Nat):Prop:=∃j,r=some j/\j<32/\o.getD j none=none
theorem j1q{f i p:Nat}(hs:o.size=32)(hi:i<32)(h:o.getD i none=none):FrOk o (SetTable.layClean.free 31 o (f+1) i p):=by
 obtain⟨k,a⟩:=xZ hi hs h;rw[wG,a];exact⟨_,rfl,wF hs a⟩
theorem free0(hs:o.size=32):∀(k f i:Nat),i<32->k<f->o.getD (lq i k) none=none->FrOk o (SetTable.layClean.free 31 o f i 0)
 | _,0,_,_,h,_=>uB h (Nat.not_lt_zero _)
 | 0,f+1,i,hi,_,h=>j1q hs hi h
 | k+1,f+1,i,hi,hf,h=>by
  rw[wG];cases e:fnd o i with
  | some k=>exact⟨_,rfl,wF hs e⟩
  | none=>exact free0 hs k f ((i*5+1)%32) (Nat.mod_lt _ (by decide)) (by lia) h
theorem freeK(hs:o.size=32){m:Nat}(b:m<32)(a:o.getD m none=none):∀(K f i p:Nat),i<32->p<32^K->K+33<=f->FrOk o (SetTable.layClean.free 31 o f i p)
 | 0,f,i,p,hi,hp,hf=>by
  obtain⟨k,d,c⟩:=j1D i hi m b;have:p=0:=by simpa using hp
  subst this;exact free0 hs k f i hi (by lia) (by rw[c];exact a)
 | K+1,0,_,_,_,_,hf=>uB hf (by lia)
 | K+1,f+1,i,p,hi,hp,hf=>by
  rw[wG];cases e:fnd o i with
  | some k=>exact⟨_,rfl,wF hs e⟩
  | none=>exact freeK hs b a K f _ _ (Nat.mod_lt _ (by decide)) (by rw[Nat.div_lt_iff_lt_mul (by decide)];rw[Nat.pow_succ]at hp;exact hp) (by lia)
theorem OwG.empty{k:Nat}(G:OwG o k)(h:k<32):∃m,m<32/\o.getD m none=none:=by
 apply Classical.byContradiction;intro i;have l:(ownL o).length=32:=by
  have d:∀l:List Nat,(∀j∈l,j<32)->(l.filterMap fun j=>o.getD j none).length=l.length:=fun l=>by
   induction l with
   | nil=>intro _;rfl
   | cons a r ih=>
    intro g;cases e:o.getD a none with
    | none=>exact uB ⟨a,g a vq,e⟩ i
    | some v=>rw[filterMap_cons_some (f:=fun j=>o.getD j none) (b:=v) e,vS,vS,ih fun j c=>g j (vp _ c)]
  unfold ownL;rw[d _ fun j c=>v6.mp c,length_range]
 rw[G.pm.length_eq,length_range]at l;lia
theorem OwG.put{k j:Nat}(G:OwG o k)(p:j<32)(e:o.getD j none=none):OwG (o.setIfInBounds j (some k)) (k+1):=by
 have n:=G.sz;refine⟨by rw[Array.size_setIfInBounds];exact n,?_⟩;have d:∀x,x≠j->(o.setIfInBounds j (some k)).getD x none=o.getD x none:=fun x a=>by
  rw[Array.getD_eq_getD_getElem?,Array.getD_eq_getD_getElem?,Array.getElem?_setIfInBounds_ne (Ne.symm a)]
 have c:(o.setIfInBounds j (some k)).getD j none=some k:=by
  rw[Array.getD_eq_getD_getElem?,Array.getElem?_setIfInBounds_self_of_lt (by lia)];rfl
 have g:List.range 32=List.range j++j::List.range' (j+1) (31-j):=by
  rw[List.range_eq_range',show(32:Nat)=j+(1+(31-j)) by lia,<-List.range'_append_1,<-List.range_eq_range',show 1+(31-j)=(31-j)+1 by lia,List.range'_succ,Nat.zero_add]
 have h:(List.range j).filterMap (fun x=>(o.setIfInBounds j (some k)).getD x none)=(List.range j).filterMap (fun x=>o.getD x none):=yN fun x a=>d x (by have:=v6.mp a;lia)
 have i:(List.range' (j+1) (31-j)).filterMap (fun x=>(o.setIfInBounds j (some k)).getD x none)=(List.range' (j+1) (31-j)).filterMap (fun x=>o.getD x none):=yN fun x a=>d x (by have:=(List.mem_range'_1.mp a).1;lia)
 have l:ownL (o.setIfInBounds j (some k))=(List.range j).filterMap (fun x=>o.getD x none)++k::(List.range' (j+1) (31-j)).filterMap (fun x=>o.getD x none):=by
  unfold ownL;rw[g,filterMap_append,filterMap_cons_some (f:=fun x=>(o.setIfInBounds j (some k)).getD x none) (b:=k) c,h,i]
 have m:ownL o=(List.range j).filterMap (fun x=>o.getD x none)++(List.range' (j+1) (31-j)).filterMap (fun x=>o.getD x none):=by
  unfold ownL;rw[g,filterMap_append,filterMap_cons_none (f:=fun x=>o.getD x none) e]
 rw[l,range_succ];refine List.perm_middle.trans ?_;rw[<-m];exact(List.Perm.cons _ G.pm).trans (List.perm_append_singleton k _).symm
noncomputable def layF(acc:Option (Array (Option Nat)×Nat))(h:Int):Option (Array (Option Nat)×Nat):=do
 let (owner,k) <-acc
 let j <-SetTable.layClean.free 31 owner (SetTable.turns 31) (SetTable.bits h%(31+1)) (SetTable.bits h)
 pure (owner.setIfInBounds j (some k),k+1)
theorem WT:∀(hs:List Int) {o:Array (Option Nat)} {k:Nat},OwG o k->k+hs.length<=31->∃o',hs.foldl layF (some (o,k))=some (o',k+hs.length)/\OwG o' (k+hs.length)
 | [],o,k,G,_=>⟨o,rfl,G⟩
 | h::r,o,k,G,hl=>by
  rw[vS]at hl;have g:SetTable.bits h<2^64:=by
   unfold SetTable.bits;have:=ve h (show(0:Int)<2^64 by decide);have:=vd h (show(2^64:Int)≠0 by decide);lia
  obtain⟨m,i,f⟩:=G.empty (by lia);obtain⟨j,d,a,l⟩:=freeK G.sz i f 13 46 (SetTable.bits h%(31+1)) (SetTable.bits h) (Nat.mod_lt _ (by decide)) (Nat.lt_of_lt_of_le g (by decide)) (by decide);have c:layF (some (o,k)) h=some (o.setIfInBounds j (some k),k+1):=by
   show((SetTable.layClean.free 31 o 46 (SetTable.bits h%(31+1)) (SetTable.bits h)).bind fun j=>some (o.setIfInBounds j (some k),k+1))=_;rw[d];rfl
  rw[List.foldl_cons,c];obtain⟨o',e,b⟩:=WT r (G.put a l) (by lia);exact⟨o',by rw[e,vS,show k+1+r.length=k+(r.length+1) by lia],by rw[vS,show k+(r.length+1)=k+1+r.length by lia];exact b⟩
end
theorem layC{hs:Array Int}(h:hs.size<=31):∃o,SetTable.layClean 31 hs=some o/\OwG o hs.size:=by
 have a:OwG (Array.replicate 32 none) 0:=by
  refine⟨Array.size_replicate,?_⟩;have:ownL (Array.replicate 32 none)=[]:=by decide +kernel
  rw[this];exact .rfl
 obtain⟨o,e,G⟩:=WT hs.toList a (by rw[Array.length_toList];lia);rw[Array.length_toList,Nat.zero_add]at e G;refine⟨o,?_,G⟩;show Option.map (fun x=>x.1) (Array.foldl layF (some (Array.replicate 32 none,0)) hs)=_;rw[<-Array.foldl_toList,e];rfl
theorem relay5{led:Bool}{t:SetTable}{c:Array (Int×Value)}(T:STb led 5 t)(i:c.size=5):∃f t',relayAll t c (SetTable.grown c.size)=(f,t',false)/\STd led 5 t'/\f.size=5:=by
 obtain⟨o,p,G⟩:=layC (hs:=c.map (·.1)) (by rw[Array.size_map];lia);rw[Array.size_map,i]at G;have q:t.relaid (c.map (·.1)) (SetTable.grown c.size)=some ({mask:=31,place:=(((List.range 32).filterMap fun j=>(o.getD j none).map (j,·)).map (·.1)).toArray,dummies:=#[],finger:=t.finger,led:=t.led,moves:=t.movedTo 31,plain:=t.plain},(((List.range 32).filterMap fun j=>(o.getD j none).map (j,·)).map (·.2)).toArray):=by
  rw[i];show SetTable.laid 31 t.finger (t.movedTo 31) t.led t.plain (c.map (·.1))=_;unfold SetTable.laid;rw[p];rfl
 have m:((List.range 32).filterMap fun j=>(o.getD j none).map (j,·)).map (·.2)=ownL o:=by
  unfold ownL;rw[List.map_filterMap];exact yN fun x _=>by rw[Option.map_map];cases o.getD x none<;>rfl
 have w:((List.range 32).filterMap fun j=>(o.getD j none).map (j,·)).length=5:=by
  have:=congrArg List.length m;rw[vt,G.pm.length_eq,length_range]at this;exact this
 have z:(((List.range 32).filterMap fun j=>(o.getD j none).map (j,·)).map (·.1)).Pairwise (· < ·):=by
  rw[pairwise_map];refine List.Pairwise.filterMap _ (fun a A h b r B k=>?_) List.pairwise_lt_range;obtain⟨_,_,rfl⟩:=vf.mp r;obtain⟨_,_,rfl⟩:=vf.mp k;exact h
 have d:coversAll (((List.range 32).filterMap fun j=>(o.getD j none).map (j,·)).map (·.2)).toArray c.size=true:=by
  unfold coversAll;rw[List.toList_toArray,m,i];exact List.isPerm_iff.mpr G.pm
 have g:((((List.range 32).filterMap fun j=>(o.getD j none).map (j,·)).map (·.2)).toArray.filterMap (c[·]?)).size=5:=by
  have u:((((List.range 32).filterMap fun j=>(o.getD j none).map (j,·)).map (·.2)).toArray).toList.Perm (List.range c.size):=List.isPerm_iff.mp d;rw[<-Array.length_toList,Array.toList_filterMap,(u.filterMap _).length_eq,filterMap_getElem?_range,Array.length_toList,i]
 have l:STd led 5 {mask:=31,place:=(((List.range 32).filterMap fun j=>(o.getD j none).map (j,·)).map (·.1)).toArray,dummies:=#[],finger:=t.finger,led:=t.led,moves:=t.movedTo 31,plain:=t.plain}:=⟨rfl,rfl,T.ld,T.plain,by rw[List.toList_toArray];exact z,(fun x n=>by
  rw[List.toList_toArray]at n;obtain⟨y,v,rfl⟩:=vL.mp n;obtain⟨j,s,e⟩:=mem_filterMap.mp v;obtain⟨_,_,rfl⟩:=vf.mp e;exact v6.mp s),by rw[size_toArray,vt,w]⟩
 refine⟨_,_,?_,l,g⟩;unfold relayAll;rw[q];dsimp only;rw[vc];rw[d,g,Bool.true_and];unfold SetTable.fits SetTable.fill;rw[l.sz];rfl
section
variable{prog:Program}{w:World}{A:Around}{E:Value->Shared->Prop}{s:Shared}
noncomputable def keyI(e:Int×Value):Int:=match e.2 with | .int k _=>k | _=>0
def SetG(prog:Program)(w:World)(led:Bool)(h:Heap)(a:Addr)(ks:List Int):Prop:=∃o es ep t,h.get? a=some o/\o.ExactSet/\o.data = .set es ep t/\ElemsOf (intKind prog w) es.toList/\es.toList.map keyI=ks/\ks.Nodup/\STc led es.size t/\(es.size<=4/\STb led es.size t\/5<=es.size/\es.size<=12/\STd led es.size t)
theorem SetG.keep{led:Bool}{h h':Heap}{a:Addr}{ks:List Int}(x:SetG prog w led h a ks)(k:∀o,h.get? a=some o->h'.get? a=some o):SetG prog w led h' a ks:=by
 obtain⟨o,c,b,t,d,e⟩:=x;exact⟨o,c,b,t,k o d,e⟩
theorem STc.fits{led:Bool}{n:Nat}{t:SetTable}(T:STc led n t):t.fits n=true:=by
 unfold SetTable.fits SetTable.fill;rw[T.sz,T.dm];simpa using T.ft
theorem X4{a:List (Int×Value)}(h:ElemsOf (intKind prog w) a){e:Int×Value}(b:e∈a):∃t,e.2 = .int (keyI e) t:=by
 obtain⟨⟨k,c,_⟩,_⟩:=h e b;obtain⟨t,d⟩:=Value.isInt_shape (k:=k) c;refine⟨t,?_⟩;unfold keyI;rw[d]
theorem STb.put{led:Bool}{n:Nat}{t:SetTable}(T:STb led n t){j:Nat}(o:j<8)(p:j∉t.place.toList):STb led (n+1) (t.put j).1:=by
 obtain⟨q,k,l⟩:=Zy T.up j;have e:(t.put j).1={t with place:=SetTable.insertAt t.place (SetTable.below t.place j) j,dummies:=#[]}:=by
  unfold SetTable.put;rw[T.dm];rfl
 rw[e];have h:∀v∈t.place.toList.take (SetTable.below t.place j),v<j:=fun v b=>by
  obtain⟨i,a⟩:=List.getElem?_of_mem b;have m:=(vx.mp a).1;rw[vh]at m;rw[uf (by lia)]at a;exact k i v (by lia) a
 have d:∀v∈t.place.toList.drop (SetTable.below t.place j),j<v:=fun v b=>by
  obtain⟨i,a⟩:=List.getElem?_of_mem b;rw[List.getElem?_drop]at a;have:=l _ v (Nat.le_add_right _ i) a;rcases Nat.lt_or_eq_of_le this with z | z
  ·exact z
  ·exact uB (z▸vj a) p
 have g:(SetTable.insertAt t.place (SetTable.below t.place j) j).toList=t.place.toList.take (SetTable.below t.place j)++j::t.place.toList.drop (SetTable.below t.place j):=SetTable.toList_insertAt ..;refine⟨T.mask,rfl,T.ld,T.plain,?_,?_,?_⟩
 ·show(SetTable.insertAt t.place (SetTable.below t.place j) j).toList.Pairwise _;rw[g,List.pairwise_append,pairwise_cons];refine⟨T.up.sublist (take_sublist _ _),⟨d,T.up.sublist (List.drop_sublist _ _)⟩,fun v b u c=>?_⟩;rcases mem_cons.mp c with rfl | c
  ·exact h v b
  ·exact v4 (h v b) (d u c)
 ·show∀x∈(SetTable.insertAt t.place (SetTable.below t.place j) j).toList,x<8;intro x f;rw[g]at f;rcases vg.mp f with z | z
  ·exact T.le x (mem_of_mem_take z)
  ·rcases mem_cons.mp z with rfl | z
   ·exact o
   ·exact T.le x (mem_of_mem_drop z)
 ·show(SetTable.insertAt t.place (SetTable.below t.place j) j).size=n+1;rw[<-Array.length_toList,(SetTable.insertAt_perm t.place _ j).length_eq,Array.toList_push,vn,Array.length_toList,T.sz];rfl
theorem STd.put{led:Bool}{n:Nat}{t:SetTable}(T:STd led n t){j:Nat}(o:j<32)(p:j∉t.place.toList):STd led (n+1) (t.put j).1:=by
 obtain⟨q,k,l⟩:=Zy T.up j;have e:(t.put j).1={t with place:=SetTable.insertAt t.place (SetTable.below t.place j) j,dummies:=#[]}:=by
  unfold SetTable.put;rw[T.dm];rfl
 rw[e];have h:∀v∈t.place.toList.take (SetTable.below t.place j),v<j:=fun v b=>by
  obtain⟨i,a⟩:=List.getElem?_of_mem b;have m:=(vx.mp a).1;rw[vh]at m;rw[uf (by lia)]at a;exact k i v (by lia) a
 have d:∀v∈t.place.toList.drop (SetTable.below t.place j),j<v:=fun v b=>by
  obtain⟨i,a⟩:=List.getElem?_of_mem b;rw[List.getElem?_drop]at a;have:=l _ v (Nat.le_add_right _ i) a;rcases Nat.lt_or_eq_of_le this with z | z
  ·exact z
  ·exact uB (z▸vj a) p
 have g:(SetTable.insertAt t.place (SetTable.below t.place j) j).toList=t.place.toList.take (SetTable.below t.place j)++j::t.place.toList.drop (SetTable.below t.place j):=SetTable.toList_insertAt ..;refine⟨T.mask,rfl,T.ld,T.plain,?_,?_,?_⟩
 ·show(SetTable.insertAt t.place (SetTable.below t.place j) j).toList.Pairwise _;rw[g,List.pairwise_append,pairwise_cons];refine⟨T.up.sublist (take_sublist _ _),⟨d,T.up.sublist (List.drop_sublist _ _)⟩,fun v b u c=>?_⟩;rcases mem_cons.mp c with rfl | c
  ·exact h v b
  ·exact v4 (h v b) (d u c)
 ·show∀x∈(SetTable.insertAt t.place (SetTable.below t.place j) j).toList,x<32;intro x f;rw[g]at f;rcases vg.mp f with z | z
  ·exact T.le x (mem_of_mem_take z)
  ·rcases mem_cons.mp z with rfl | z
   ·exact o
   ·exact T.le x (mem_of_mem_drop z)
 ·show(SetTable.insertAt t.place (SetTable.below t.place j) j).size=n+1;rw[<-Array.length_toList,(SetTable.insertAt_perm t.place _ j).length_eq,Array.toList_push,vn,Array.length_toList,T.sz];rfl
theorem setAddG{led:Bool}{a:Addr}{ks:List Int}{k:Int}{d:Tok}{Q:Bool->Shared->Prop}(hS:SetG prog w led s.heap a ks)(M:k∈ks\/ks.length<12)
  (h:∀b h' G,Heap.SameBut a s.heap h'->SetG prog w led h' a G->(∀x,x∈G↔x∈ks\/x=k)->Q b {s with heap:=h'}):wpAny (model prog w) A (setAddHashed a (.int k d) ((intKind prog w).hash k)) Q E s:=by
 obtain⟨o,c,C,t,D,n,p,g,l,nd,Tc,P⟩:=hS;have h5:c.size<=12:=by rcases P with⟨z,_⟩ | ⟨_,z,_⟩<;>lia
 have hf:=Tc.fits;have kl:ks.length=c.size:=by rw[<-l,vt,Array.length_toList]
 have H:∀x,x∈ks↔∃e∈c.toList,(intKind prog w).is x e.2=true:=fun x=>by
  rw[<-l,vL];constructor
  ·rintro⟨e,q,rfl⟩;obtain⟨u,X⟩:=X4 g q;exact⟨e,q,by rw[X];exact intKind_is _ _ _ _⟩
  ·rintro⟨e,q,Y⟩;obtain⟨u,X⟩:=Value.isInt_shape (k:=x) Y;refine⟨e,q,?_⟩;unfold keyI;rw[X]
 unfold setAddHashed setAddHashedIn;refine wpAny_holding (ub (wpAny_setState_of D p hf ?_));dsimp only;rw[byScan_of (knd:=intKind prog w) (x:=.int k d) rfl (by unfold scanBound;lia) g];simp only[↓reduceIte];unfold setAddByScan;refine ub (ub (wpAny_rule (ub (wpAny_setScan_of (knd:=intKind prog w) (k:=k) (intKind_is _ _ _ _) D p hf g ?_))));cases hr:List.findIdx? (fun e=>(intKind prog w).is k e.2) c.toList with
 | some j=>
  dsimp only;obtain⟨hj,W,_⟩:=List.findIdx?_eq_some_iff_getElem.mp hr;have U:k∈ks:=(H k).mpr ⟨c.toList[j],getElem_mem hj,W⟩;refine uA (uA ?_);exact h _ s.heap ks (Heap.SameBut.refl a s.heap) ⟨o,c,C,t,D,n,p,g,l,nd,Tc,P⟩ fun x=>⟨.inl,fun z=>z.elim id fun e=>e▸U⟩
 | none=>
  dsimp only;have nk:k∉ks:=fun U=>by
   obtain⟨e,q,r⟩:=(H k).mp U;have:=List.findIdx?_eq_none_iff.mp hr e q;rw[r]at this;cases this
  have a0:c.size<12:=by
   rcases M with z | z
   ·exact uB z nk
   ·lia
  obtain⟨j,B,i,O⟩:∃j,t.freeSlot ((intKind prog w).hash k)=some (j,false)/\STc led (c.size+1) (t.put j).1/\(c.size<=4/\STb led (c.size+1) (t.put j).1\/5<=c.size/\STd led (c.size+1) (t.put j).1):=by
   rcases P with⟨z,T⟩ | ⟨z,_,T⟩
   ·obtain⟨j,F,J,B⟩:=T.free (by lia) ((intKind prog w).hash k);exact⟨j,B,(T.put F J).c (by lia),.inl ⟨z,T.put F J⟩⟩
   ·obtain⟨j,F,J,B⟩:=T.free (by lia) ((intKind prog w).hash k);exact⟨j,B,(T.put F J).c (by lia),.inr ⟨z,T.put F J⟩⟩
  have L:=SetTable.insertAt_perm c (t.put j).2 ((intKind prog w).hash k,Value.int k d);have N:(SetTable.insertAt c (t.put j).2 ((intKind prog w).hash k,Value.int k d)).size=c.size+1:=by
   rw[<-Array.length_toList,L.length_eq,Array.toList_push,vn,Array.length_toList];rfl
  have eL:layNew t c ((intKind prog w).hash k) (.int k d)=(SetTable.insertAt c (t.put j).2 ((intKind prog w).hash k,Value.int k d),(t.put j).1,false,false):=by
   have f1:(t.put j).1.fits (c.size+1)=true:=i.fits;unfold layNew;rw[B];dsimp only;rw[N];unfold SetTable.orStandIn;rw[vc f1,f1];rfl
  rw[eL];dsimp only;refine ub (uA ?_);rw[vc i.plain];refine ub ?_;rw[hashByValue_scannable 8 (x:=.int k d) rfl];refine uA ?_;rw[show plainKind (.int k d)=true from rfl];simp only[↓reduceIte];generalize a1:SetTable.insertAt c (t.put j).2 ((intKind prog w).hash k,Value.int k d)=es1 at L N|-;generalize a2:(t.put j).1=t1 at O i|-;rw[Array.toList_push]at L;have m:ElemsOf (intKind prog w) es1.toList:=(g.push (k:=k) (x:=.int k d) (intKind_is _ _ _ _) rfl).perm L;refine ub (wpAny_storeSet_of D p ?_ (fits_of_scanBound (by unfold scanBound;lia)));have R:(s.heap.update a (Obj.putSet es1 t1)).get? a=some {o with data:=.set es1 (C+1) t1}:=by
   have:=Heap.get?_update_self (Obj.putSet es1 t1) D (by rw[putSet_of es1 t1 p];rfl);rw[putSet_of es1 t1 p]at this;exact this
  have nf:(!false&&t1.tooFull)=decide (c.size=4):=by
   unfold SetTable.tooFull SetTable.fill;rcases O with⟨z,T⟩ | ⟨z,T⟩
   ·rw[T.sz,T.dm,T.mask];simp;lia
   ·rw[T.sz,T.dm,T.mask];simp;lia
  rw[nf];have Z:(es1.toList.map keyI).Perm (ks++[k]):=by
   have:=L.map keyI;rw[vi,l]at this;exact this
  have I:(ks++[k]).Nodup:=nodup_append.mpr ⟨nd,pairwise_singleton _ _,fun x Y y hy=>by rw[vo.mp hy];exact fun z=>nk (z▸Y)⟩;by_cases c5:c.size=4
  ·rw[vH c5];simp only[↓reduceIte];have e5:es1.size=5:=by lia
   have T5:STb led 5 t1:=by
    rcases O with⟨_,T⟩ | ⟨z,_⟩
    ·rw[show(5:Nat)=c.size+1 by lia];exact T
    ·lia
   have r:=relayAll_perm t1 es1 (SetTable.grown es1.size);obtain⟨f,v,er,T2,z2⟩:=relay5 T5 e5;rw[er]at r|-;dsimp only at r|-;refine ub (uA ?_);refine ub (wpAny_storeSet_of R rfl ?_ (fits_of_scanBound (by unfold scanBound;lia)));have S:((s.heap.update a (Obj.putSet es1 t1)).update a (Obj.putSet f v)).get? a=some {o with data:=.set f (C+1+1) v}:=by
    have:=Heap.get?_update_self (Obj.putSet f v) R (by rw[putSet_of f v rfl];rfl);rw[putSet_of f v rfl]at this;exact this
   refine uA (uA ?_);have K:(f.toList.map keyI).Perm (ks++[k]):=(r.map keyI).trans Z;refine h _ _ (f.toList.map keyI) ((Heap.SameBut.update s.heap a _).trans (Heap.SameBut.update _ a _)) ⟨_,f,C+1+1,v,S,n,rfl,m.perm r,rfl,K.nodup_iff.mpr I,z2▸T2.c (by decide),.inr ⟨by lia,by lia,z2▸T2⟩⟩ fun x=>?_
   rw[K.mem_iff,vg,vo]
  ·rw[vI c5];simp only[Bool.false_eq_true,↓reduceIte];refine uA (uA ?_);refine h _ _ (es1.toList.map keyI) (Heap.SameBut.update s.heap a _) ⟨_,es1,C+1,t1,R,n,rfl,m,rfl,Z.nodup_iff.mpr I,N▸i,?_⟩ fun x=>?_
   rcases O with⟨z,T⟩ | ⟨z,T⟩
   ·exact .inl ⟨by lia,N▸T⟩
   ·exact .inr ⟨by lia,by lia,N▸T⟩
   rw[Z.mem_iff,vg,vo]
end
section
variable{prog:Program}{w:World}{A:Around}{R:Result->Shared->Prop}{I:Addr}{fp wr:List Addr}{G:Array GenState->Array GenState->Prop}{n:Nat}{P:Nat->Value->Prop}{St:Nat->Shared->Prop}
theorem j2l{led:Bool}(W:WalksS prog w A.in1 I fp wr G n P St)(a:Addr)(T:a∉fp)(xs:List Int)(D:List Int)(hD:D.length<=12)(Z:∀x∈xs,x∈D)(hn:xs.length=n)(hx:∀i v,P i v->∃x t,xs[i]?=some x/\v = .int x t) :
  ∀(k i:Nat) (s:Shared) (ks:List Int),n-i=k->i<=n->St i s->SetG prog w led s.heap a ks->(∀x,x∈ks↔x∈xs.take i)->
   (∀s' d,Moved (a::wr) G s s'->SetG prog w led s'.heap a d->(∀x,x∈d↔x∈xs)->R (.ok (.ret .none)) s')->codeAny (model prog w) A (.builtin "set.update.loop" ⟨[.ref a,.ref I],[]⟩) R s:=by
 have Q:a∉wr:=fun z=>T (W.sub _ z)
 have Y:∀c∈wr,c∈a::wr:=fun c h=>vp _ h
 intro k
 induction k with
 | zero=>
  intro i s ks e le N r f q;obtain rfl:i=n:=by lia
  refine codeAny_builtin F.entry_set_update_loop ?_;rw[Around.under_plainId F.plain_set_update_loop _];refine ub (m:=pyNext (.ref I)) (W.done s _ _ N fun s' l=>uA (q s' ks (l.mono Y) (r.keep fun o e=>l.heap a _ Q e) fun x=>?_));rw[f,<-hn,v7]
 | succ k ih=>
  intro i s ks e le N r f q;have U:i<n:=by lia
  refine codeAny_builtin F.entry_set_update_loop ?_;rw[Around.under_plainId F.plain_set_update_loop _];refine ub (m:=pyNext (.ref I)) (W.item i s _ _ U N fun v s' pv O l=>?_);obtain⟨x,t,S,rfl⟩:=hx i v pv;have u:SetG prog w led s'.heap a ks:=r.keep fun o e=>l.heap a _ Q e
  refine ub (m:=holding [Value.int x t] (setAdd a (.int x t))) (wpAny_holding ?_);unfold setAdd;refine wpAny_holding ?_;refine ub ((intKind prog w).pyHash (k:=x) (intKind_is _ _ _ _) ?_);have p:x∈ks\/ks.length<12:=by
   by_cases c:x∈ks
   ·exact .inl c
   ·right;obtain⟨_,_,_,_,_,_,_,_,_,nd,_,_⟩:=r;have:=(nodup_cons.mpr ⟨c,nd⟩).length_le_of_subset (l₂:=D) fun y K=>by
     rcases mem_cons.mp K with rfl | K
     ·exact Z _ (vj S)
     ·exact Z _ (mem_of_mem_take ((f y).mp K))
    rw[vS]at this;lia
  refine setAddG (s:={s' with toks:=s'.toks+1}) u p fun b h' d X B E=>?_
  have H:∀y,y∈d↔y∈xs.take (i+1):=fun y=>by
   have e2:xs.take (i+1)=xs.take i++[x]:=by
    rw[List.take_succ,S];rfl
   rw[e2,E,f,vg,vo]
  refine uA ⟨plainId_quiet F.plain_set_update_loop _,ih (i+1) _ d (by lia) U (W.frame _ s' _ _ O (Nat.le_succ _) fun b C o e=>?_) B H fun M j L g J=>?_⟩
  ·rw[X.2 b (fun z:b=a=>T (by rw[<-z];exact C))];exact e
  ·refine q M j (Moved.trans W.gtrans ((l.mono Y).then_heap (Nat.le_succ _) fun b o C e=>?_) L) g J;rw[X.2 b (fun z:b=a=>C (by rw[z];exact vq))];exact e
end
open PySem PySem.Spec PySem.W PyProof.Rows
theorem xj:Manifest.owners.lookup (String.ofList ['r','o','t','a','r','e','t','i','_','t','e','s'].reverse)=some Manifest.sig_set_iterator:=by kernel_rfl
theorem Z9:Slot "set_iterator" "__next__" "set_iterator.__next__":=
 .of (owner:="set_iterator") (n:="__next__") (by rw[typeLookup_type,builtinLookup_eq_fast];kernel_rfl) (by decide +kernel) (by decide +kernel) (by decide +kernel) (by first | exact .inl (by decide +kernel) | exact .inr (by decide +kernel)) (by rw[isSubtype_type];kernel_rfl)
theorem xi:entryFor table "set_iterator.__next__"= some Builtin.«set_iterator.__next__»:=entryFor_of_tree (by kernel_rfl)
theorem j0a(a:Value):argsOk "set_iterator.__next__" ⟨[a],[]⟩:=by
 unfold argsOk;rw[signature?_of (id:="set_iterator.__next__") (n:=['_','_','t','x','e','n','_','_']) (o:=['r','o','t','a','r','e','t','i','_','t','e','s']) (by kernel_rfl) xj];kernel_rfl
theorem j0b:Slot "set_iterator" "__iter__" "set_iterator.__iter__":=
 .of (owner:="set_iterator") (n:="__iter__") (by rw[typeLookup_type,builtinLookup_eq_fast];kernel_rfl) (by decide +kernel) (by decide +kernel) (by decide +kernel) (by first | exact .inl (by decide +kernel) | exact .inr (by decide +kernel)) (by rw[isSubtype_type];kernel_rfl)
theorem j0X:entryFor table "set_iterator.__iter__"= some Builtin.«dict_keyiterator.__iter__»:=entryFor_alias (id':="dict_keyiterator.__iter__") (by kernel_rfl) rfl (by decide +kernel) (by kernel_rfl)
theorem j2m(a:Value):argsOk "set_iterator.__iter__" ⟨[a],[]⟩:=by
 unfold argsOk;rw[signature?_of (id:="set_iterator.__iter__") (n:=['_','_','r','e','t','i','_','_']) (o:=['r','o','t','a','r','e','t','i','_','t','e','s']) (by kernel_rfl) xj];kernel_rfl
theorem j2k:entryFor table "set.__iter__"= some Builtin.«frozenset.__iter__»:=entryFor_alias (id':="frozenset.__iter__") (by kernel_rfl) rfl (by decide +kernel) (by kernel_rfl)
theorem KS{b:Type}(nx:Nat->Nat):∀(f k:Nat) (left:List b) (out:Array b),f=left.length->(pickOrder.go nx f k left out).toList.Perm (out.toList++left)
 | 0,_,left,out,e=>by
  rw[List.eq_nil_of_length_eq_zero e.symm,append_nil];exact .rfl
 | f+1,k,left,out,e=>by
  have a:nx k%left.length<left.length:=Nat.mod_lt _ (by lia);unfold pickOrder.go;rw[vz a];dsimp only;refine(KS nx f (k+1) _ _ (by rw[List.length_eraseIdx_of_lt a];lia)).trans ?_;rw[Array.toList_push,List.append_assoc];refine List.Perm.append_left _ ?_;rw[List.singleton_append,List.eraseIdx_eq_take_drop_succ];have c:left=left.take (nx k%left.length)++left[nx k%left.length]::left.drop (nx k%left.length+1):=by
   rw[List.getElem_cons_drop,List.take_append_drop]
  exact List.perm_middle.symm.trans (List.Perm.of_eq c.symm)
section
variable{prog:Program}{w:World}{A:Around}{E:Value->Shared->Prop}{s:Shared}
noncomputable abbrev byT(w:World):Bool:=w.params.followText "set-order"
noncomputable def ordS(w:World)(a:Addr)(ep:Nat)(es:Array (Int×Value)):Array (Int×Value):=if byT w=true then pickOrder (w.params.setOrder a ep) es else es
theorem YC(a:Addr)(ep:Nat)(b:Array (Int×Value)):(ordS w a ep b).toList.Perm b.toList:=by
 unfold ordS;split
 ·have:=KS (w.params.setOrder a ep) b.size 0 b.toList #[] (by rw[Array.length_toList]);rw[show(#[]:Array (Int×Value)).toList++b.toList=b.toList from List.nil_append _]at this;exact this
 ·exact .rfl
noncomputable def plS(w:World)(t:SetTable)(i:Nat):Nat:=if byT w=true then 0 else if i=0 then 0 else t.place.getD (i-1) 0+1
theorem STc.below_at{led:Bool}{n:Nat}{t:SetTable}(T:STc led n t){i:Nat}(hi:i<=n):SetTable.below t.place (if i=0 then 0 else t.place.getD (i-1) 0+1)=i:=by
 obtain⟨g,d,f⟩:=Zy T.up (if i=0 then 0 else t.place.getD (i-1) 0+1);generalize b:(if i=0 then 0 else t.place.getD (i-1) 0+1)=j at g d f|-;have l:=T.sz;have a:∀k,k<n->t.place.toList[k]?=some (t.place.getD k 0):=fun k h=>by
  rw[Array.getElem?_toList,Array.getElem?_eq_getElem (by lia)];simp[Array.getD,show k<t.place.size by lia]
 rcases Nat.lt_trichotomy (SetTable.below t.place j) i with z | z | z
 ·have e:=a (i-1) (by lia);have:=f (i-1) _ (by lia) e;rw[vb (by lia)]at b;lia
 ·exact z
 ·have e:=a i (by lia);have:=d i _ z e;by_cases c:i=0
  ·rw[vc c]at b;lia
  ·rw[vb c]at b;have:=Kc T.up (a (i-1) (by lia)) e (by lia);lia
theorem nextG{a:Addr}{o:Obj}{b:Array (Int×Value)}{ep:Nat}{t:SetTable}{i:Nat}{Q:Option (Value×Nat)->Shared->Prop}(k:s.heap.get? a=some o)(g:o.data = .set b ep t)(T:STc (!byT w) b.size t)(hi:i<=b.size)
  (h:Q (((ordS w a ep b)[i]?).map fun e=>(e.2,plS w t (i+1))) s):wpAny (model prog w) A (setNext a (plS w t i) i ep) Q E s:=by
 have j:=T.fits;have f:∀{R:Bool->Shared->Prop} {l:Shared},R (byT w) l->wpAny (model prog w) A setsByText R E l:=fun h=>ub (wpAny_askSetting (uA h))
 unfold setNext;refine ub (wpAny_setState_of k g j ?_);dsimp only;refine ub (f ?_);by_cases c:byT w=true
 ·rw[vc c];rw[vb (by simp)];unfold setWalk;refine ub (ub (wpAny_setState_of k g j ?_));dsimp only;refine ub (f ?_);rw[vc c];refine ub (wpAny_askSetting (uA (uA ?_)));unfold ordS plS at h;rw[vc c,vc c]at h;unfold plS;rw[vc c];exact h
 ·rw[vb c];have n:t.led=true:=by rw[T.ld];simpa using c
  refine wpAny_ite_split (fun z=>?_) (fun _=>?_)
  ·exact uB (show(!t.plain&&decide (b.size>1))=true from z) (by rw[T.plain];simp)
  refine ub ?_;show wpAny _ _ (if(!t.led && !b.isEmpty)=true then _ else pure ()) _ _ _;rw[vb (by rw[n];simp)];refine uA ?_;have m:=T.below_at hi;have d:plS w t i=if i=0 then 0 else t.place.getD (i-1) 0+1:=by unfold plS;rw[vb c]
  rw[d,m];unfold ordS plS at h;rw[vb c,vb c,vb (Nat.succ_ne_zero i)]at h;refine uA ?_;rcases Nat.lt_or_ge i b.size with z | z
  ·have p:=T.sz;rw[Array.getElem?_eq_getElem z]at h|-;rw[Array.getElem?_eq_getElem (show i<t.place.size by lia)];dsimp only;rw[show i+1-1=i from rfl]at h;have e:t.place.getD i 0=t.place[i]'(by lia):=by simp[Array.getD,show i<t.place.size by lia]
   rw[e]at h;exact h
  ·rw[Array.getElem?_eq_none z]at h|-;exact h
noncomputable abbrev siO(a:Addr)(p i n ep:Nat):Obj:={cls:=.type "set_iterator",dict:=none,data:=.fields #[.int p 0,.int i 0,.ref a,.int n 0,.int ep 0],slots:=#[]}
theorem nextI{it a:Addr}{o:Obj}{c:Array (Int×Value)}{ep:Nat}{t:SetTable}{i:Nat}{e:Int×Value}{Q:Option Value->Shared->Prop}(g:s.heap.get? a=some o)(f:o.data = .set c ep t)(T:STc (!byT w) c.size t)(hi:i<c.size)(q:(ordS w a ep c)[i]?=some e)
  (b:s.heap.get? it=some (siO a (plS w t i) i c.size ep)) (p:∀h',h'.get? it=some (siO a (plS w t (i+1)) (i+1) c.size ep)->Heap.SameBut it s.heap h'->Q (some e.2) {s with heap:=h'}):wpAny (model prog w) A (pyNext (.ref it)) Q E s:=by
 have d:s.TypeIs (.ref it) "set_iterator":=⟨_,b,rfl⟩
 have r:=T.fits;unfold pyNext;refine ub (wpAny_attempt (wpAny_callSpecial?_slot (name:=Str.ofString "__next__") d Z9 (wpAny_call_entry Z9 d xi ?_ (j0a _))));unfold Builtin.«set_iterator.__next__»;refine ub (m:=slotArgs "__next__" 0 ⟨[.ref it],[]⟩) (uA ?_);refine ub (wpAny_fieldsOf b rfl ?_);dsimp only;refine ub (wpAny_setEntries_of g f r ?_);rw[vb (by simp)];simp only[Int.toNat_natCast];refine ub (nextG g f T (v3 hi) ?_);rw[q];dsimp only[Option.map];refine ub (wpAny_setField_rec b (by simp) fun u k h=>?_);refine ub (wpAny_setField_rec k (by simp) fun n l j=>?_);exact uA ⟨_,rfl,uA (p n (by rw[l];simp[rawInt]) (h.trans j))⟩
theorem endI{it a:Addr}{o:Obj}{d:Array (Int×Value)}{ep:Nat}{t:SetTable}{Q:Option Value->Shared->Prop}(k:A.handled=none)(g:s.heap.get? a=some o)(f:o.data = .set d ep t)(T:STc (!byT w) d.size t)
  (c:s.heap.get? it=some (siO a (plS w t d.size) d.size d.size ep)) (i:∀h',Heap.ExtBut it s.heap h'->Q none {s with heap:=h'}):wpAny (model prog w) A (pyNext (.ref it)) Q E s:=by
 have e:s.TypeIs (.ref it) "set_iterator":=⟨_,c,rfl⟩
 have j:=T.fits;unfold pyNext;refine ub (wpAny_attempt (wpAny_callSpecial?_slot (name:=Str.ofString "__next__") e Z9 (wpAny_call_entry Z9 e xi ?_ (j0a _))));unfold Builtin.«set_iterator.__next__»;refine ub (m:=slotArgs "__next__" 0 ⟨[.ref it],[]⟩) (uA ?_);refine ub (wpAny_fieldsOf c rfl ?_);dsimp only;refine ub (wpAny_setEntries_of g f j ?_);rw[vb (by simp)];simp only[Int.toNat_natCast];have l:=(YC (w:=w) a ep d).length_eq;rw[Array.length_toList,Array.length_toList]at l;refine ub (nextG g f T (va _) ?_);rw[Array.getElem?_eq_none (by lia)];dsimp only[Option.map];refine ub (wpAny_setField_rec c (by simp) fun p n h=>?_);refine ub ?_;simp only[newExc,newTuple];refine ub (wpAny_newObj_type ?_ (by size_fits));refine ub (m:=firstArgMember _ _) (wpAny_of_eq (a:=Value.none) (by first | rfl | (simp only[firstArgMember];rfl)) ?_);refine wpAny_newObj_type ?_ (by size_fits);simp only[raiseNew];refine ub (wpAny_handled ?_);rw[show A.in1.handled=none from k];refine ub (uA (wpAny_throw ?_));refine ub (wpAny_isInstance (T:="StopIteration") (b:=true) ⟨_,Heap.get?_push_size _ rfl,rfl⟩ isSubtype_stop ?_);exact uA (i _ ((h.extBut.push _).push _))
theorem iterI{a:Addr}{o:Obj}{b:Array (Int×Value)}{ep:Nat}{t:SetTable}{Q:Value->Shared->Prop}(c:s.heap.get? a=some o)(h:o.ExactSet)(d:o.data = .set b ep t)(T:STc (!byT w) b.size t)
  (g:Q (.ref s.heap.objs.size) {s with heap:=s.heap.push (siO a 0 0 b.size ep)}):wpAny (model prog w) A (pyIter (.ref a)) Q E s:=by
 have f:s.TypeIs (.ref a) "set":=⟨_,c,h.1⟩
 have e:=T.fits;refine wpAny_pyIter_slot f F.slot_set_iter (wpAny_call_entry F.slot_set_iter f j2k ?_ (F.args_set_iter_1 _));unfold Builtin.«frozenset.__iter__»;refine ub (m:=Builtin.Frozenset.slot0 "__iter__" ⟨[.ref a],[]⟩) (uA ?_);unfold Builtin.Frozenset.sizeOf;refine ub (ub (wpAny_setEntries_of c d e (uA ?_)));unfold setDrawn;refine ub (ub (wpAny_setState_of c d e ?_));dsimp only;refine ub (ub (wpAny_askSetting (uA (uA ?_))));refine wpAny_ite_split (fun z=>?_) (fun _=>?_)
 ·exact uB (show(!byT w&&(!t.plain&&decide (b.size>1)))=true from z) (by rw[T.plain];simp)
 refine ub (uA ?_);refine ub (wpAny_setEpoch_of c d e ?_);refine ub (wpAny_newObj_type (uA ⟨_,rfl,"set_iterator",_,⟨_,Heap.get?_push_size _ rfl,rfl⟩,Z9.lookup,?_⟩));exact g
theorem walkI(x:A.handled=none)(I a:Addr)(m:a≠I){o:Obj}{d:Array (Int×Value)}{ep:Nat}{t:SetTable}(n:o.data = .set d ep t)(T:STc (!byT w) d.size t) :
  Walks prog w A I [I,a] [I] d.size (fun i v=>∃e,(ordS w a ep d)[i]?=some e/\v=e.2) (fun i h=>h.get? I=some (siO a (plS w t i) i d.size ep)/\h.get? a=some o) where
 sub:=fun b g=>by rw[vo.mp g];exact vq
 frame:=fun _ _ _ c q=>⟨q I vq _ c.1,q a (vp _ vq) _ c.2⟩
 item:=fun i s Q E y c f=>by
  have B:=(YC (w:=w) a ep d).length_eq;rw[Array.length_toList,Array.length_toList]at B;have p:(ordS w a ep d)[i]?=some ((ordS w a ep d)[i]'(by lia)):=Array.getElem?_eq_getElem _;refine nextI c.2 n T y p c.1 fun j u r=>?_
  exact f _ j s.toks ⟨_,p,rfl⟩ ⟨u,(r.2 a m).trans c.2⟩ fun b o g e=>(r.2 b fun z=>g (by rw[z];exact vq)).trans e
 done:=fun s Q E c f=>endI x c.2 n T c.1 fun j l=>f j s.toks fun b o g e=>l b o (fun z=>g (by rw[z];exact vq)) e
 self:=fun i s Q E c f=>by
  have k:s.TypeIs (.ref I) "set_iterator":=⟨_,c.1,rfl⟩
  refine wpAny_pyIter_slot k j0b (wpAny_call_entry j0b k j0X ?_ (j2m _));show wpAny _ _ (ret (.ref I)) _ _ s;exact uA ⟨_,rfl,"set_iterator",_,k,Z9.lookup,f⟩
theorem hintI{r:Addr}{Q:Bool->Shared->Prop}(c:s.TypeIs (.ref r) "set")(h:Q false s):wpAny (model prog w) A (Builtin.List.listLengthHint (.ref r)) Q E s:=by
 unfold Builtin.List.listLengthHint;refine ub (wpAny_specialOf c F.slot_set_len.lookup ?_);generalize a:("set.__len__" : String)=id0
 wp_delta
 rw[show splitId id0=some ("set","__len__")from by subst a;decide +kernel];subst a;refine ub (wpAny_isInstance (T:="set") (b:=true) c (by rw[isSubtype_type];kernel_rfl) ?_);refine wpAny_ite_split (fun z=>uB z (by decide)) (fun _=>?_);refine wpAny_ite_split (fun _=>?_) (fun z=>uB (by decide +kernel) z);exact ub (wpAny_typeOf c (uA h))
theorem srcI{a:Addr}{o:Obj}{c:Array (Int×Value)}{ep:Nat}{t:SetTable}(f:o.ExactSet)(g:o.data = .set c ep t)(T:STc (!byT w) c.size t) :
  KdlSrc prog w "set" a a c.size (fun i v=>∃e,(ordS w a ep c)[i]?=some e/\v=e.2) (fun h=>h.get? a=some o) where
 type:=fun _ b=>⟨_,b,f.1⟩
 there:=fun _ b=>⟨vJ b,vJ b⟩
 keep:=fun _ _ b k=>k a (.inl rfl) o b
 notList:=by decide
 notTuple:=by decide
 hint:=fun _ _ s _ b d=>hintI ⟨_,b,f.1⟩ d
 iter:=fun A s j b=>⟨siO a 0 0 c.size ep,_,(fun _ _ d=>iterI b f g T d),walkI j _ a (vF (vJ b)) g T,by
  refine⟨?_,vK _ b⟩;rw[show plS w t 0=0 by unfold plS;split<;>rfl];exact Heap.get?_push_size _ rfl⟩
end
section
variable{prog:Program}{w:World}{A:Around}{E:Value->Shared->Prop}{s:Shared}
noncomputable abbrev emI(w:World):Obj:={cls:=.type "set",dict:=none,data:=.set #[] 0 (.fresh 0 0 (!byT w))}
theorem newI(a:Value){Q:Value->Shared->Prop}(h:Q (.ref s.heap.objs.size) {s with heap:=s.heap.push (emI w)}):codeAny (model prog w) A (.call (.builtin "set.__new__") ⟨[.type "set",a],[]⟩) (wants Q E) s:=by
 refine codeAny_of_tree ?_;show wpAny _ A.in1 (do checkBuiltinCall "set.__new__" ⟨[.type "set",a],[]⟩;again (.builtin "set.__new__" ⟨[.type "set",a],[]⟩)) _ _ s;refine ub (wpAny_of_eq (F.newCall_set_1 a) (uA ⟨plainId_quiet F.plain_set_new _,codeAny_builtin F.entry_set_new ?_⟩));rw[Around.under_plainId F.plain_set_new _];unfold Builtin.«set.__new__» Builtin.Frozenset.newClass;have b:=sub_set_self;obtain⟨c,g,d,f,e⟩:=s;dsimp only
 wp_walk
 refine wpAny_askSetting (uA ?_);dsimp only;simp only[newObj];exact ub (wpAny_alloc (uA (uA h)))
set_option maxRecDepth 100000 in
set_option maxHeartbeats 3200000 in
theorem j0n{l:Addr}{items:Array Value}{xs D:List Int}{Q:Value->Shared->Prop}(hh:A.handled=none)(hl:s.heap.IsList l items)(X:D.length<=12)(xD:∀x∈xs,x∈D)(hn:xs.length=items.size)(hx:∀(i:Nat) (v:Value),items[i]?=some v->∃(x:Int) (t:Tok),xs[i]?=some x/\v = .int x t)
  (h:∀(h':Heap) (tk:Nat) (ks:List Int),SetG prog w (!byT w) h' s.heap.objs.size ks->(∀x,x∈ks↔x∈xs)->(∀b o,s.heap.get? b=some o->h'.get? b=some o)->Q (.ref s.heap.objs.size) {s with heap:=h',toks:=tk}) :
  wpAny (model prog w) A (call (.type "set") [.ref l]) Q E s:=by
 obtain⟨c,tl,mr⟩:=F.called_set.mro;have k1:=F.called_set.made;have k2:=F.called_set.sub;refine wpAny_call (codeAny_of_tree ?_);show wpAny _ _ (callAny (.type "set") _) _ _ _;refine uA ⟨Code.quiet_builtin _ (by decide +kernel),codeAny_builtin F.entry_type_call ?_⟩;rw[Around.under_plain (weight_type_call_type "set" [.ref l] []) rfl];have k3:=F.called_set.notType;have k4:=F.called_set.canCreate;have k5:=F.typeCall_set_1 (.ref l)
 repeat (any_goals (first | assumption | wp_step))
 refine codeAny_mono (newI (.ref l) (E:=E) (Q:=fun m n=>m = .ref s.heap.objs.size/\n={s with heap:=s.heap.push (emI w)}) ⟨rfl,rfl⟩) fun r s1 B=>?_
 cases r with
 | error e=>exact B
 | ok fl=>
  cases fl with
  | ret m=>
   obtain⟨rfl,rfl⟩:=B;have J:(s.heap.push (emI w)).get? s.heap.objs.size=some (emI w):=Heap.get?_push_size _ rfl;have Y:Shared.TypeIs {s with heap:=s.heap.push (emI w)} (.ref s.heap.objs.size) "set":=⟨_,J,rfl⟩
   have k6:=F.called_set.init.lookup;have k7:=F.called_set.init.bind (.ref s.heap.objs.size)
   repeat (any_goals (first | assumption | wp_step))
   refine codeAny_mono (codeAny_call_builtin (R:=wants (fun r p=>r = .none/\∃h' tk ks,p={s with heap:=h',toks:=tk}/\SetG prog w (!byT w) h' s.heap.objs.size ks/\(∀x,x∈ks↔x∈xs)/\(∀b o,s.heap.get? b=some o->h'.get? b=some o)) E) F.called_set.init.plain F.entry_set_init (check_set_init_1 Y ?_)) fun r2 s2 a=>?_
   ·obtain⟨ol,j,d,M,f⟩:=hl;obtain⟨oc,od,a0,H⟩:=ol;simp only at d f;subst d f;have k:(s.heap.push (emI w)).get? l=some {cls:=.type "list",dict:=od,data:=.seq items M,slots:=H}:=vK _ j;have j1:=F.sub_list_set;have j2:=F.sub_list_frozenset;have j3:(Value.type "list"== Value.type "dict")=false:=by decide
    have g:(s.heap.push (emI w)).IsList l items:=⟨_,k,rfl,M,rfl⟩
    unfold Builtin.«set.__init__» noKeywords Builtin.Frozenset.updateFrom;generalize u:pyIter=PI
    wp_walk
    subst u;refine wpAny_pyIter_list g ?_;refine ub (wpAny_runValue ?_);have K:l<s.heap.objs.size:=vJ j;have W:A.in1.in1.in1.handled=none:=by simp[hh]
    have n1:l≠(s.heap.push (emI w)).objs.size:=by rw[Heap.size_push];exact vF (Nat.lt_succ_of_lt K)
    have n2:s.heap.objs.size∉[(s.heap.push (emI w)).objs.size,l]:=by
     rw[Heap.size_push];simp only[mem_cons,not_mem_nil,or_false,not_or];exact⟨vF (Nat.lt_succ_self _),Nat.ne_of_gt K⟩
    refine j2l (led:=!byT w) ((Walks.list W _ l n1 items).toS) s.heap.objs.size n2 xs D X xD hn hx (items.size-0) 0 _ [] (by lia) (vA _) ⟨⟨_,Heap.get?_push_size _ rfl,rfl,rfl⟩,(g.push _)⟩ ?hS0 (fun x=>by simp) ?hR
    case hS0=>
     have hg:((s.heap.push (emI w)).push {cls:=.type "list_iterator",data:=.fields #[.ref l,.int 0 0]}).get? s.heap.objs.size=some (emI w):=vK _ J;exact⟨_,#[],0,_,hg,⟨rfl,rfl,rfl⟩,rfl,(fun e Z=>nomatch Z),rfl,.nil,(STb.fresh _).c (by decide),.inl ⟨by decide,STb.fresh _⟩⟩
    case hR=>
     intro s' C q y z;obtain⟨h',U,O,I,G⟩:=s';have S:U=s.gens:=q.gens;have P:O=s.drawn:=q.drawn;have T:G=s.os:=q.os;subst S P T;show wpAny _ _ _ _ _ _;refine uA ?_;show wpAny _ _ (ret Value.none) _ _ _;refine uA ⟨rfl,h',I,C,rfl,y,z,fun b o e=>?_⟩;have L:=vJ e;have N:b≠(s.heap.push (emI w)).objs.size:=by rw[Heap.size_push];exact vF (Nat.lt_succ_of_lt L)
     exact q.heap b o (by simp only[mem_cons,not_mem_nil,or_false,not_or];exact⟨vF L,N⟩) (vK _ (vK _ e))
   ·cases r2 with
    | error e=>exact a
    | ok fl2=>
     cases fl2 with
     | ret r=>
      obtain⟨rfl,h',tk,ks,rfl,q1,q2,q3⟩:=a
      repeat (any_goals (first | assumption | wp_step))
      exact h _ _ _ q1 q2 q3
     | _=>exact a.elim
  | _=>exact B.elim
end
section
variable{X:Cx}
theorem j0v{prog:Program}{w:World}{l:List (Int×Value)}(h:ElemsOf (intKind prog w) l):IntsAre (l.map (·.2)) (l.map keyI):=by
 induction l with
 | nil=>exact .nil
 | cons e r ih=>
  obtain⟨t,b⟩:=X4 h (vq (a:=e) (l:=r));rw[uy,uy,b];exact .cons _ t (ih h.tail)
def tSS(K:Frg)(te:TE):TE:=fun σ H Q=>te σ H fun x H1=>∃(a:Addr) (xs D:List Int),x = .ref a/\SqL K H1 a (xs.map V.int)/\D.length<=12/\(∀x∈xs,x∈D)/\∀(l:Addr) (ms:List Int),H1 l=none->ms.Pairwise (· < ·)->(∀x,x∈ms↔x∈xs)->Q (.ref l) (upd H1 l (.lst (ms.map V.int)))
theorem j51{K:Frg}{c:TE}{d:St}{H:Hp}{Q:VK}(h:c d H fun x H1=>∃(a:Addr) (xs D:List Int),x = .ref a/\SqL K H1 a (xs.map V.int)/\D.length<=12/\(∀x∈xs,x∈D)/\∀(l:Addr) (b:List Int),H1 l=none->b.Pairwise (· < ·)->(∀x,x∈b↔x∈xs)->Q (.ref l) (upd H1 l (.lst (b.map V.int)))):tSS K c d H Q:=h
theorem Xt{e:Expr}{te:TE}{p U Y f:Pos}(hc:X.calm=true)(g1:Gl X "sorted")(m1:X.mg "sorted"= none)(g2:Gl X "set")(m2:X.mg "set"= none)(M:PE X e te)(b1:bootBuiltins "sorted"= some (.builtin "sorted"):=by decide +kernel)
  (E:starEach [.Call (.Name "set" U) [e] [] f] X.env=[(false,eval (.Call (.Name "set" U) [e] [] f) X.env)]:=by rfl) (hs:starEach [e] X.env=[(false,eval e X.env)]:=by rfl) :
  PE X (.Call (.Name "sorted" p) [.Call (.Name "set" U) [e] [] f] [] Y) (tSS X.K te):=by
 intro k s σ H Q I h;refine wpAny_Call_Name_kw (zP I g1 m1 b1 ?_);refine PyProof.Rows.callWith_builtin1 ?_ E rfl;rw[E];refine Calls.spliced_cons ?_;refine Call_ (zP I g2 m2 j49 (PyProof.Rows.callWith_type1 ?_ hs rfl));rw[hs];refine Calls.spliced_cons (thn (M k s σ H _ I h) fun u B ⟨x,H1,n,r1,a,xs,D,G,hq,hD,xD,q⟩=>Calls.spliced_nil ?_);subst G;cases r1;obtain⟨F,rv,pl,_⟩:=n.list hq;have lx:=rv.length;rw[vt]at lx;refine j0n (xs:=xs) (D:=D) (n.ok.hd hc) pl.isList hD xD (by rw[size_toArray];exact lx) (fun i v hv=>?_) fun h' tk ks hS R hk=>?_
 ·have hi:i<F.length:=by
   have:=(Array.getElem?_eq_some_iff.mp hv).1;simpa using this
  have G:xs[i]?=some (xs[i]'(by lia)):=vz _;obtain⟨u,hu,ru⟩:=rv.get (i:=i) (x:=V.int (xs[i]'(by lia))) (by rw[vv,G];rfl);obtain⟨t,rfl⟩:=ru;have:v=_:=vM (hv.symm.trans (show F.toArray[i]?=some _ by simpa using hu));exact⟨_,t,G,this⟩
 ·refine Calls.spliced_nil ?_;obtain⟨o,r,K,t,ho,O,hd,N,C,nd,T,L⟩:=hS;have h4:r.size<=12:=by rcases L with⟨z,_⟩ | ⟨_,z,_⟩<;>lia
  have I2:Inv X k σ H1 {B with heap:=h',toks:=tk}:=n.kept hk;refine Calls.call_function_entry kind_sorted plain_sorted entry_sorted (args_sorted1 _) ?_;unfold Builtin.«sorted»;refine ub (m:=checkCount "sorted" 1 1 _) (uA ?_);refine ub (kdu_collect (A:=X.A.in1) (srcI O hd T) (I2.ok.hd hc) ho (vY h4 (by decide)) fun j Z c P d=>?_);have S:=YC (w:=X.w) B.heap.objs.size K r;have ol:=S.length_eq;rw[Array.length_toList,Array.length_toList]at ol;have ea:c.toList=(ordS X.w B.heap.objs.size K r).toList.map (·.2):=by
   refine List.ext_getElem? fun i=>?_
   rw[vv,Array.getElem?_toList,Array.getElem?_toList];rcases Nat.lt_or_ge i c.size with z | z
   ·obtain⟨e,j,h2⟩:=d.2 i _ (Array.getElem?_eq_getElem z);rw[Array.getElem?_eq_getElem z,j,h2];rfl
   ·rw[Array.getElem?_eq_none z,Array.getElem?_eq_none (by have:=d.1;lia)];rfl
  have hI:IntsAre c.toList ((ordS X.w B.heap.objs.size K r).toList.map keyI):=by rw[ea];exact j0v (N.perm S)
  have al:c.toList.length=r.size:=by rw[Array.length_toList];exact d.1
  refine ub (wpAny_newList ?_ (by rw[al,sizeLine_eq];lia));have l:(j.push (seqObj "list" c.toList.toArray 0)).get? j.objs.size=some (seqObj "list" c.toList.toArray 0):=Heap.get?_push_size _ rfl;refine ub (wpAny_holding (wpAny_call_entry slot_list_sort ⟨_,l,rfl⟩ entry_list_sort (list_sort_tree l hI (by rw[al];lia) fun out J a1 a2 a3=>⟨_,rfl,?_⟩) (args_list_sort _)));refine uA ⟨_,rfl,?_⟩;have W:J.Perm ks:=a2.trans ((S.map keyI).trans (List.Perm.of_eq C));have kl:ks.length=r.size:=by rw[<-C,vt,Array.length_toList]
  have ml:J.length<=12:=by rw[W.length_eq];lia
  have g:∀b o,B.heap.get? b=some o->j.get? b=some o:=fun b o e=>P b o (hk b o e)
  have hn:=n.none_at g;have hb:=n.newB g;have k2:∀b o,B.heap.get? b=some o->(sortedHeap (j.push (seqObj "list" c.toList.toArray 0)) j.objs.size c.toList out).get? b=some o:=fun b o e=>by
   have lt:=vJ (g b o e);rw[sortedHeap_old (vF lt) (by rw[size_push'];exact Nat.lt_succ_of_lt lt)];exact vK _ (g b o e)
  obtain⟨e',M⟩:=sortedHeap_at (out:=out) l;refine⟨.ref j.objs.size,_,(n.kept (t':=Z) k2).track hn hb (show ObjOk X.prog X.w _ _ _ (.lst (J.map V.int))from⟨by rw[vt];exact vY ml (by decide),out.toList,_,j2H a1,by rw[Array.toArray_toList];exact M⟩),rfl,q _ J hn ?_ fun x=>?_⟩
  ·exact(List.Pairwise.and a3 (W.nodup_iff.mpr nd)).imp fun⟨x,y⟩=>by lia
  ·rw[W.mem_iff,R]
end
section
variable{prog:Program}{w:World}{A:Around}{E:Value->Shared->Prop}{s:Shared}
theorem j4B{a b:Int}{t u:Tok}{Q:Value->Shared->Prop}(h:Q (.bool (decide (a<b))) s):wpAny (model prog w) A (richCompare .Lt (.int a t) (.int b u)) Q E s:=
 richCompare_gives (op:=.Lt) (typeIs_int s _ t) (typeIs_int s _ u) F.slot_int_lt F.entry_int_lt (F.args_int_lt_2 _ _) (gives_int_lt _ _ t u) (fun x=>nomatch x) h
theorem j3e(a v:Value):argsOk "min" ⟨[a],[(Str.ofString "default",v)]⟩:=by unfold argsOk;kernel_rfl
noncomputable abbrev dfN:List (Str×Value):=[(Str.ofString "default",Value.none)]
noncomputable abbrev lob(items:Array Value)(c:Nat):Obj:={cls:=.type "list",dict:=none,data:=.seq items c,slots:=#[]}
def LsI(ns:List Int)(m:Int):Prop:=m∈ns/\∀x∈ns,m<=x
section
variable{R:Result->Shared->Prop}{I:Addr}{fp wr:List Addr}{n:Nat}{P:Nat->Value->Prop}{St:Nat->Heap->Prop}
theorem Xl(W:Walks prog w A.in1 I fp wr n P St){ns:List Int}(hn:ns.length=n)(Y:∀i v,P i v->∃x t,ns[i]?=some x/\v = .int x t)(S:Addr)(D:S∉fp) :
  ∀(k i:Nat) (s:Shared) (m:Int) (t:Tok) (c:Nat),n-i=k->i<=n->St i s.heap->LsI (ns.take i) m->s.heap.get? S=some (lob #[.int m t,.int m t] c)->
   (∀m t h' tk,LsI ns m->(∀b o,b∉wr->b≠S->s.heap.get? b=some o->h'.get? b=some o)->R (.ok (.ret (.int m t))) {s with heap:=h',toks:=tk})->
   codeAny (model prog w) A (.builtin "min.loop" ⟨[.ref I,.none,.ref S],dfN⟩) R s:=by
 have E:S∉wr:=fun h=>D (W.sub _ h)
 have U:(toString "min"++toString ".loop" : String) = "min.loop":=by decide
 intro k
 induction k with
 | zero=>
  intro i s m t c hk Z N B C H;have K:i=n:=by lia
  subst K;refine codeAny_builtin F.entry_min_loop ?_;rw[Around.under_plainId F.plain_min_loop _];show wpAny _ A.in1 (seqItems? (.ref S) >>= _) _ _ s;refine ub (wpAny_seqItems C rfl ?_);show wpAny _ A.in1 (tryCatch (pyNext (.ref I)) _ >>= _) _ _ s;refine ub (wpAny_tryCatch (W.done s _ _ N fun h' tk f=>?_));have g:=f S _ E C;show wpAny _ A.in1 (updateSeq S (fun _=>#[]) >>= _) _ _ _;refine ub ?_;refine wpAny_updateSeq g rfl (ub (wpAny_letGo (uA ?_)));refine H m t _ tk (by rw[<-hn,v7]at B;exact B) fun b o a d e=>(Heap.get?_update_other _ _ (Ne.symm d)).trans (f b o a e)
 | succ k ih=>
  intro i s m t c hk Z N B C H;have q:i<n:=by lia
  refine codeAny_builtin F.entry_min_loop ?_;rw[Around.under_plainId F.plain_min_loop _];show wpAny _ A.in1 (seqItems? (.ref S) >>= _) _ _ s;refine ub (wpAny_seqItems C rfl ?_);show wpAny _ A.in1 (tryCatch (pyNext (.ref I)) _ >>= _) _ _ s;refine ub (wpAny_tryCatch (W.item i s _ _ q N fun v h' tk pv G f=>?_));obtain⟨x,u,X,rfl⟩:=Y i v pv;have g:=f S _ E C;have Q:ns.take (i+1)=ns.take i++[x]:=by
   rw[List.take_succ,X];rfl
  show wpAny _ A.in1 (tryCatch (holding [Value.int x u,Value.int x u] (richCompare .Lt (.int x u) (.int m t) >>= _)) _ >>= _) _ _ _;refine ub (wpAny_tryCatch (wpAny_holding (ub (j4B ?_))));refine ub (wpAny_holding (wpAny_truthy_bool ?_));refine ub (wpAny_letGo (uA ?_));by_cases T:x<m
  ·rw[vH T];simp only[if_true];refine ub ?_;refine wpAny_updateSeq g rfl (ub (wpAny_letGo ?_));rw[U];refine uA ⟨plainId_quiet F.plain_min_loop _,ih (i+1) _ x u _ (by lia) q (W.frame _ _ _ G fun b J o e=>?_) ?_ (Heap.get?_update_self _ g rfl) fun M O p l r j=>?_⟩
   ·exact(Heap.get?_update_other _ _ (fun h:S=b=>D (by rw[h];exact J))).trans e
   ·rw[Q];refine⟨mem_append_right _ vq,fun y L=>?_⟩;rcases vg.mp L with z | z
    ·have:=B.2 y z;lia
    ·rw[vo.mp z];exact vB _
   ·exact H M O p l r fun b o a d e=>j b o a d ((Heap.get?_update_other _ _ (Ne.symm d)).trans (f b o a e))
  ·rw[vI T];simp only[Bool.false_eq_true,if_false];refine ub (wpAny_letGo ?_);rw[U];refine uA ⟨plainId_quiet F.plain_min_loop _,ih (i+1) _ m t c (by lia) q G ?_ g fun M O p l r j=>?_⟩
   ·rw[Q];refine⟨mem_append_left _ B.1,fun y L=>?_⟩;rcases vg.mp L with z | z
    ·exact B.2 y z
    ·rw[vo.mp z];lia
   ·exact H M O p l r fun b o a d e=>j b o a d (f b o a e)
end
theorem j1K{l:Addr}{items:Array Value}{ns:List Int}{Q:Value->Shared->Prop}(hh:A.handled=none)(K:s.heap.IsList l items)(L:ns.length=items.size)(P:∀(i:Nat) (v:Value),items[i]?=some v->∃(x:Int) (t:Tok),ns[i]?=some x/\v = .int x t)
  (h0:ns=[]->∀h' tk,(∀b o,s.heap.get? b=some o->h'.get? b=some o)->Q .none {s with heap:=h',toks:=tk}) (h1:∀m t h' tk,LsI ns m->(∀b o,s.heap.get? b=some o->h'.get? b=some o)->Q (.int m t) {s with heap:=h',toks:=tk}) :
  wpAny (model prog w) A (call (.builtin "min") [.ref l] dfN) Q E s:=by
 have X:(toString "min"++toString ".loop" : String) = "min.loop":=by decide
 have U:l<s.heap.objs.size:=by obtain⟨_,e,_⟩:=K;exact vJ e
 refine wpAny_call (codeAny_call_builtin F.plain_min F.entry_min ?_);simp only[checkBuiltinCall,F.kind_min];have D:∀{R:Unit->Shared->Prop} {N:Value->Shared->Prop},R () s->wpAny (model prog w) A.in1 (match Manifest.signature? "min" with | none=>pure () | some sig=>Bind.checkArgs "min" sig ⟨[.ref l],dfN⟩) R N s:=fun {R N} O=>by
  have ha:=j3e (.ref l) .none;cases hsig:Manifest.signature? "min" with
  | none=>exact uA O
  | some sig=>
   have I:Bind.checkArgs "min" sig ⟨[.ref l],dfN⟩=pure ():=by simpa only[argsOk,hsig]using ha
   simp only[I];exact uA O
 refine D ?_;show wpAny _ A.in1 (Builtin.Builtins.bindParams "min" ["key","default"] 0 ⟨[],dfN⟩ >>= _) _ _ s;refine ub (wpAny_of_eq (show Builtin.Builtins.bindParams "min" ["key","default"] 0 ⟨[],dfN⟩=pure [none,some .none]from rfl) ?_);refine ub (uA ?_);refine ub (wpAny_pyIter_list K ?_);refine ub (wpAny_newObj_type ?_);rw[X];generalize c:s.heap.push _=h2;have k2:∀b o,s.heap.get? b=some o->h2.get? b=some o:=fun b o e=>c▸vK _ e
 have Z:h2.objs.size=s.heap.objs.size+1:=by rw[<-c,Heap.size_push]
 have i2:h2.IsListIter s.heap.objs.size l 0:=c▸⟨_,Heap.get?_push_size _ rfl,rfl,rfl⟩;clear c;generalize f:h2.push _=h3;have j:h3.get? h2.objs.size=some (lob #[] 0):=f▸Heap.get?_push_size _ rfl;have S:∀b o,h2.get? b=some o->h3.get? b=some o:=fun b o e=>f▸vK _ e
 clear f;have g:∀b o,s.heap.get? b=some o->h3.get? b=some o:=fun b o e=>S b o (k2 b o e)
 have W:=Walks.list (prog:=prog) (w:=w) (A:=A.in1) hh s.heap.objs.size l (vF U) items;have Y:h3.IsListIter s.heap.objs.size l 0/\h3.IsList l items:=⟨i2.at fun o e=>S _ o e,by obtain⟨o,e,r⟩:=K;exact⟨o,g l o e,r⟩⟩
 have d:h2.objs.size∉[s.heap.objs.size,l]:=by
  rw[Z];simp only[mem_cons,not_mem_nil,or_false,not_or];exact⟨Nat.succ_ne_self _,Nat.ne_of_gt (Nat.lt_succ_of_lt U)⟩
 have H:h2.objs.size∉[s.heap.objs.size]:=fun h=>d (W.sub _ h)
 have q:∀b o,s.heap.get? b=some o->b∉[s.heap.objs.size]/\b≠h2.objs.size:=fun b o e=>by
  have T:=vJ e;exact⟨fun z=>vF T (vo.mp z),by rw[Z];exact vF (Nat.lt_succ_of_lt T)⟩
 refine uA ⟨plainId_quiet F.plain_min_loop _,?_⟩;refine codeAny_builtin F.entry_min_loop ?_;rw[Around.under_plainId F.plain_min_loop _];show wpAny _ A.in1 (seqItems? (.ref h2.objs.size) >>= _) _ _ _;refine ub (wpAny_seqItems (s:={s with heap:=h3}) j rfl ?_);show wpAny _ A.in1 (tryCatch (pyNext (.ref s.heap.objs.size)) _ >>= _) _ _ _;by_cases C:ns=[]
 ·have e0:items.size=0:=by rw[<-L,C];rfl
  refine ub (wpAny_tryCatch (W.done {s with heap:=h3} _ _ (e0.symm▸Y) fun h' tk a=>?_));refine ub (wpAny_rule (uA ?_));exact h0 C h' tk fun b o e=>a b o (q b o e).1 (g b o e)
 ·have p:0<items.size:=by
   rw[<-L];exact List.length_pos_iff.mpr C
  refine ub (wpAny_tryCatch (W.item 0 {s with heap:=h3} _ _ p Y fun v h4 tk pv M a=>?_));obtain⟨x,u,ex,rfl⟩:=P 0 v pv;have k:=a _ _ H j;show wpAny _ A.in1 (updateSeq h2.objs.size (fun _=>#[Value.int x u,Value.int x u]) >>= _) _ _ _;refine ub ?_;refine wpAny_updateSeq k rfl ?_;rw[X];refine uA ⟨plainId_quiet F.plain_min_loop _,Xl W L P h2.objs.size d _ 1 _ x u _ rfl p (W.frame _ _ _ M fun b J o e=>?_) ?_ (Heap.get?_update_self _ k rfl) fun m t G B hm n=>?_⟩
  ·exact(Heap.get?_update_other _ _ (fun h:h2.objs.size=b=>d (by rw[h];exact J))).trans e
  ·have e1:ns.take 1=[x]:=by
    cases ns with
    | nil=>exact uB rfl C
    | cons y r=>cases ex;rfl
   rw[e1];exact⟨vq,fun y hy=>by rw[vo.mp hy];exact vB _⟩
  ·exact h1 m t G B hm fun b o e=>n b o (q b o e).1 (q b o e).2 ((Heap.get?_update_other _ _ (Ne.symm (q b o e).2)).trans (a b o (q b o e).1 (g b o e)))
end
section
variable{X:Cx}
def tMD(K:Frg)(te:TE):TE:=fun σ H Q=>te σ H fun x H1=>∃(a:Addr) (ns:List Int),x = .ref a/\SqL K H1 a (ns.map V.int)/\(ns=[]->Q .non H1)/\∀m,LsI ns m->Q (.int m) H1
theorem j4Z{K:Frg}{b:TE}{c:St}{H:Hp}{Q:VK}(h:b c H fun x H1=>∃(a:Addr) (ns:List Int),x = .ref a/\SqL K H1 a (ns.map V.int)/\(ns=[]->Q .non H1)/\∀m,LsI ns m->Q (.int m) H1):tMD K b c H Q:=h
theorem j3v{e:Expr}{C:TE}{p b o:Pos}{c:Expr}(N:X.calm=true)(L:Gl X "min")(T:X.mg "min"= none)(O:PE X e C)(n:PE X c (tC .non))(F:bootBuiltins "min"= some (.builtin "min"):=by decide +kernel)(hs:starEach [e] X.env=[(false,eval e X.env)]:=by rfl)
  (g:(backToKw b (keywordEach [⟨some "default",c,o⟩] X.env)).filterMap (·.1)=[Str.ofString "default"]:=by rfl) (f:(backToKw b (keywordEach [⟨some "default",c,o⟩] X.env)).all (·.1.isSome)=true:=by rfl) (q:(backToKw b (keywordEach [⟨some "default",c,o⟩] X.env)).any (·.1.isNone)=false:=by rfl) :
  PE X (.Call (.Name "min" p) [e] [⟨some "default",c,o⟩] b) (tMD X.K C):=by
 intro d s D H Q I h;refine wpAny_Call_Name_kw (zP I L T F (callWith_kw ?_ (by rw[hs];rfl) (by rw[hs];rfl) f q));rw[hs];refine Calls.spliced_cons (thn (O d s D H _ I h) fun u s1 ⟨x,w,E,Z,a,ns,l,R,W,Y⟩=>Calls.spliced_nil ?_);subst l;cases Z;refine kws_cons (thn (n d s1 D w (fun v z=>v = .non/\z=w) E ⟨rfl,rfl⟩) fun y s2 ⟨y',z,k,r2,K,J⟩=>kws_nil ?_);subst K J;cases r2;rw[g];obtain⟨j,B,U,_⟩:=k.list R;have A:=B.length;rw[vt]at A;refine j1K (ns:=ns) (k.ok.hd N) U.isList (by rw[size_toArray];exact A) (fun i v n=>?_) (fun G M r g=>⟨.non,_,k.kept (t':=r) g,rfl,W G⟩) fun m t M r P g=>⟨.int m,_,k.kept (t':=r) g,⟨t,rfl⟩,Y m P⟩
 have hi:i<j.length:=by
  have:=(Array.getElem?_eq_some_iff.mp n).1;simpa using this
 have l:ns[i]?=some (ns[i]'(by lia)):=vz _;obtain⟨u,S,ru⟩:=B.get (i:=i) (x:=V.int (ns[i]'(by lia))) (by rw[vv,l];rfl);obtain⟨t,rfl⟩:=ru;have:v=_:=vM (n.symm.trans (show j.toArray[i]?=some _ by simpa using S));exact⟨_,t,l,this⟩
theorem KD(C:X.calm=true):CallR X (.builtin "any") (fun xs H Q=>∃(p:Addr) (bs:List Bool),xs=[.ref p]/\SqL X.K H p (bs.map V.bl)/\Q (.bl (bs.any id)) H):=by
 intro t s S H xs R Q I r h;obtain⟨p,bs,rfl,F,q⟩:=h;obtain⟨u,rfl,K⟩:=vals1 r;cases K;obtain⟨c,y,G,_⟩:=I.list F;have k:=G.isList;obtain⟨o,E,_⟩:=id k;have l:p≠s.heap.objs.size:=vF (vJ E);have n:=y.length;rw[vt]at n;have W:=Walks.list (prog:=X.prog) (w:=X.w) (A:=X.A.in1) (I.ok.hd C) s.heap.objs.size p l c.toArray;refine call_any_walk (wpAny_pyIter_list k ⟨s.heap.objs.size,_,_,_,_,_,fun i=>bs.getD i false,rfl,W,⟨⟨_,Heap.get?_push_size _ rfl,rfl,rfl⟩,k.at fun o e=>vK _ e⟩,?_,?_⟩)
 ·intro i v P N M B j;have d:c[i]?=some v:=by simpa using B
  have a:i<bs.length:=by have:=(vx.mp d).1;lia
  obtain⟨u,m,J⟩:=y.get (i:=i) (x:=.bl bs[i]) (by rw[vv,vz a];rfl);rw[d]at m;cases m;cases J;dsimp only at j;rw[vy,vz a]at j;exact wpAny_truthy_bool j
 ·intro O L D;have e:(List.range c.toArray.size).any (fun i=>bs.getD i false)=bs.any id:=by
   rw[size_toArray,<-n,Bool.eq_iff_iff];simp only[any_eq_true,mem_range,id_eq];constructor
   ·rintro⟨i,f,g⟩;rw[vy,vz f]at g;exact⟨_,getElem_mem f,g⟩
   ·rintro⟨b,g,rfl⟩;obtain⟨i,f,e⟩:=mem_iff_getElem.mp g;exact⟨i,f,by rw[vy,vz f];exact e⟩
  rw[e];refine⟨.bl _,H,I.kept (t':=L) fun b o e=>D b o (fun z=>?_) (vK _ e),rfl,q⟩;rw[vo.mp z]at e;exact Nat.lt_irrefl _ (vJ e)
theorem j37{K:Frg}{n i j k:Nat}(hi:i<n)(y:j<n)(z:k<n):GKeeps n (gTup K 3 (gCons (gName i) (gCons (gName j) (gCons (gName k) gNil)))):=fun x B H Q q=>by
 obtain⟨a,w,d,f,g,v,r,h,t,s,l,c,b,o,p,q⟩:=q;refine⟨a,w,d,f,g,v,r,h,t,s,l,c,b,o,p,fun m u A e=>?_,q⟩;rw[List.getElem?_set_ne (by lia),List.getElem?_set_ne (by lia),List.getElem?_set_ne (by lia)];exact e
end
end L2
namespace Rm
open PySem PySem.Spec PyProof.Rows L2
noncomputable def bgs(gs:List Int)(b:Int)(qs:List Pc):List (Nat×Int):=qs.flatMap fun q=>(List.range q.2.1.toNat).map fun u:Nat=>(q.1,b+q.2.2+(u:Int)*gs.getD q.1 0)
inductive sp_begins(vs:List V)(H:Hp)(Q:VK)(xk:XK):Prop
 | mk (l s:Addr) (t:Int) (bs:List Addr) (qs:List Pc) (gs:List Int) (_:vs=[.ref l,.ref s,.int t]) (_:H l=some (.lst (bs.map V.ref))) (_:PcsAt H bs qs) (_:H s=some (.lst (gs.map V.int))) (_:(∀q∈qs,PcOk gs q)) (_:(bgs gs t qs).length<=10000) (_:∀(p:Addr) (as:List Addr) (H':Hp),Same H H'->H p=none->H' p=some (.lst (as.map V.ref))->GonAt H' as (bgs gs t qs)->Q (.ref p) H'):sp_begins vs H Q xk
section
variable{L:List Str}{fs:List Fn}{M:List (List Int)}{gs:List Int}{names:List Str}{ls:List (Str×Int)}{n:Nat}
end
noncomputable def setE(es:List (Int×Int))(h:List Int):List Int:=es.foldl (fun h q=>h.set q.1.toNat q.2) h
section
variable{L:List Str}{fs:List Fn}{M:List (List Int)}{gs:List Int}{names:List Str}{ls:List (Str×Int)}{n:Nat}{E:List (List (Int×Int))}
end
section
variable{α β:Type}
theorem ZY{f:α->List β}{p:α->Bool}:∀{R:List α},(∀x∈R,p x=false->f x=[])->(R.filter p).flatMap f=R.flatMap f
 | [],_=>rfl
 | x::r,k=>by
  cases e:p x with
  | true=>
   rw[List.filter_cons_of_pos e,flatMap_cons,flatMap_cons,ZY fun y a=>k y (vp _ a)]
  | false=>
   rw[List.filter_cons_of_neg (by simp[e]),flatMap_cons,k x vq e,ZY fun y a=>k y (vp _ a)];rfl
end
section
variable{ls:List (Str×Int)}{ps:List (Str×Fm)}{gs:List Int}{hs:List (List Int)}{E:List (List (Int×Int))}{t:Int}
noncomputable def ovB(gs:List Int)(x:Nat×Int):Bool:=decide (gs.getD x.1 0<=x.2)
noncomputable def leafB(ps:List (Str×Fm))(gs:List Int)(x:Nat×Int):Bool:=(pcB ps gs x.1).isEmpty
noncomputable def strH(ls:List (Str×Int))(ps:List (Str×Fm))(gs:List Int)(E:List (List (Int×Int)))(t:Int):List Int:=((reach ps gs (ps.length-1) t).filter (ovB gs)).foldl (fun h x=>setE (E.getD x.1 []) h) (ls.map (·.2))
theorem j0B{x:Nat×Int}{y:Str}{n:Int}{nm:Str}(a:ps[x.1]?=some (nm,.ring y n)):leafB ps gs x=true:=by
 unfold leafB pcB;rw[a];rfl
theorem xq(N:Sn ls ps gs hs){P:List (Nat×Int)}(a:P.filter (leafB ps gs)=(reach ps gs (ps.length-1) t).filter fun x=>!ovB gs x):P.flatMap (ringX ps)=ringsW ps gs t:=by
 have d:=N.ne;unfold ringsW;rw[<-ZY (p:=leafB ps gs) (fun x _ c=>?_),a,ZY fun x b c=>?_]
 ·have c:ovB gs x=true:=by simpa using c
  have c:=of_decide_eq_true c;have:=(N.g (j2a N.s.w (show ps.length-1<ps.length by lia) b)).1;unfold ringX;split
  ·rw[vb (by lia)]
  ·rfl
 ·unfold ringX;split
  ·rename_i hp;rw[j0B hp]at c;cases c
  ·rfl
end
structure StageAt(C:Addr)(H:Hp)(a:Addr)(z:Sa)(ls:List (Str×Int))(ps:List (Str×Fm))(gs:List Int)(E:List (List (Int×Int))):Prop where
 ob:∃dx,H a=some (.ins C dx (fldS z))
 hd:H z.d=some (.dK (numK (nmsOf ls)))
 hf:H z.f=some (.lst ((ls.map (·.2)).map V.int))
 ho:H z.o=some (.lst (z.fb.map V.ref))
 fo:All2 (fun a p=>FormAt H a p.2) z.fb ps
 hs:H z.s=some (.lst (gs.map V.int))
 hl:H z.l=some (.lst (z.la.map V.ref))
 el:E.length=ps.length
 ea:EndsAt H z.la E
 eo:EndOk ls ps E
 hp:H z.p=some (.lst (z.pa.map V.ref))
 pa:PssAt H z.pa (ps.map fun p=>pcsI gs p.2 (inP ps p.2))
theorem StageAt.same{C:Addr}{H H':Hp}{a:Addr}{z:Sa}{ls:List (Str×Int)}{ps:List (Str×Fm)}{gs:List Int}{E:List (List (Int×Int))}(A:StageAt C H a z ls ps gs E)(s:Same H H'):StageAt C H' a z ls ps gs E:=
 ⟨A.ob.imp fun g h=>s _ _ h,s _ _ A.hd,s _ _ A.hf,s _ _ A.ho,All2.mono A.fo fun a p h=>FormAt.same s h,s _ _ A.hs,s _ _ A.hl,A.el,All2.mono A.ea fun a e ⟨c,d,f⟩=>⟨c,s _ _ d,All2.mono f fun b q h=>s _ _ h⟩,A.eo,
  s _ _ A.hp,All2.mono A.pa fun a e ⟨c,d,f⟩=>⟨c,s _ _ d,All2.mono f fun b q h=>s _ _ h⟩⟩
inductive sp_initS(C:Addr)(vs:List V)(H:Hp)(Q:VK)(xk:XK):Prop
 | mk (a dx b pl pp:Addr) (las pas:List Addr) (ls:List (Str×Int)) (ps:List (Str×Fm)) (gs:List Int) (hs:List (List Int)) (_:vs=[.ref a,.ref b]) (_:H a=some (.ins C dx [])) (_:BookAt H b pl pp las pas ls ps) (_:Sn ls ps gs hs) (_:∀(z:Sa) (E:List (List (Int×Int))) (H':Hp),(∀c u,c≠a->H c=some u->H' c=some u)->StageAt C H' a z ls ps gs E->Q .non H'):sp_initS C vs H Q xk
inductive sp_sceneS(C:Addr)(vs:List V)(H:Hp)(Q:VK)(xk:XK):Prop
 | mk (a:Addr) (z:Sa) (ls:List (Str×Int)) (ps:List (Str×Fm)) (gs:List Int) (hs:List (List Int)) (E:List (List (Int×Int))) (t:Int) (_:vs=[.ref a,.int t]) (_:StageAt C H a z ls ps gs E) (_:Sn ls ps gs hs) (_:0<=t) (_:t<=gs.getD (ps.length-1) 0) (_:∀(r l1 l2:Addr) (as:List Addr) (P:List (Nat×Int)) (H':Hp),Same H H'->H l1=none->H l2=none->H' r=some (.tup [.ref l1,.ref l2])->H' l1=some (.lst ((strH ls ps gs E t).map V.int))->(strH ls ps gs E t).length=ls.length->(∀h∈strH ls ps gs E t,0<=h/\h<=10^18)->H' l2=some (.lst (as.map V.ref))->l1≠l2->GonAt H' as P->P.length<=5000->(∀x∈P,x.1<ps.length/\0<=x.2/\x.2<gs.getD x.1 0)->P.filter (leafB ps gs)=((reach ps gs (ps.length-1) t).filter fun x=>!ovB gs x)->Q (.ref r) H'):sp_sceneS C vs H Q xk
inductive sp_wordsS(C:Addr)(vs:List V)(H:Hp)(Q:VK)(xk:XK):Prop
 | mk (a:Addr) (z:Sa) (ls:List (Str×Int)) (ps:List (Str×Fm)) (gs:List Int) (hs:List (List Int)) (E:List (List (Int×Int))) (t:Int) (_:vs=[.ref a,.int t]) (_:StageAt C H a z ls ps gs E) (_:Sn ls ps gs hs) (_:0<=t) (_:t<=gs.getD (ps.length-1) 0) (_:∀(l:Addr) (H':Hp),Same H H'->H l=none->H' l=some (.lst ((ringsW ps gs t).map V.str))->(ringsW ps gs t).length<=5000->Q (.ref l) H'):sp_wordsS C vs H Q xk
theorem FormAt.put{H H':Hp}{a:Addr}{f:Fm}(k:∀b xs,H b=some (.tup xs)->H' b=some (.tup xs))(h:FormAt H a f):FormAt H' a f:=by
 cases f with
 | row ps=>obtain⟨c,d,e⟩:=h;exact⟨c,k _ _ d,k _ _ e⟩
 | side ps=>obtain⟨c,d,e⟩:=h;exact⟨c,k _ _ d,k _ _ e⟩
 | hold n=>exact k _ _ h
 | ring x n=>exact k _ _ h
 | rise x v n=>exact k _ _ h
 | again k' x=>exact k _ _ h
theorem XF{a:Type}{f:a->Nat}:∀{l:List a},(∀x∈l,1<=f x)->l.length<=(l.map f).sum
 | [],_=>va _
 | x::r,h=>by
  have c:=h x vq;have d:=XF (l:=r) fun y b=>h y (vp _ b)
  rw[uy,ux,vS];lia
section
variable{ls:List (Str×Int)}{ps:List (Str×Fm)}{gs:List Int}{E:List (List (Int×Int))}{D:List (Nat×Int)}{x:Nat×Int}
noncomputable def hOf(ls:List (Str×Int))(gs:List Int)(E:List (List (Int×Int)))(D:List (Nat×Int)):List Int:=(D.filter (ovB gs)).foldl (fun h x=>setE (E.getD x.1 []) h) (ls.map (·.2))
theorem kD(h:ovB gs x=false):hOf ls gs E (if leafB ps gs x=true then D++[x]else D)=hOf ls gs E D:=by
 split
 ·unfold hOf;rw[filter_append,List.filter_cons_of_neg (by rw[h];decide)];show(D.filter (ovB gs)++[]).foldl _ _=_;rw[append_nil]
 ·rfl
theorem kE(h:ovB gs x=true):hOf ls gs E (D++[x])=setE (E.getD x.1 []) (hOf ls gs E D):=by
 unfold hOf;rw[filter_append,List.filter_cons_of_pos h,List.foldl_append];rfl
theorem Yz(W:WfB ls ps){i:Nat}{t:Int}(c:t<gs.getD i 0):1+((wth gs t (pcB ps gs i)).map fun x=>nodes ps gs x.1 x.2).sum<=nodes ps gs i t:=by
 by_cases e:pcB ps gs i=[]
 ·rw[e,yr (.inr e)];exact va _
 ·rw[kK W (fun h=>h.elim (fun z=>by lia) e)];exact va _
end
structure ScAt(ls:List (Str×Int))(ps:List (Str×Fm))(gs:List Int)(E:List (List (Int×Int)))(t0:Int)(H H':Hp)(p1 p2 p4:Addr)(pas tas:List Addr)(D P S:List (Nat×Int)):Prop where
 sm:Same H H'
 e1:H' p1=some (.lst ((hOf ls gs E D).map V.int))
 e2:H' p2=some (.lst (pas.map V.ref))
 eT:H' p4=some (.lst (tas.map V.ref))
 gP:GonAt H' pas P
 gT:GonAt H' tas S
 inv:D++S.reverse.flatMap (fun x=>reach ps gs x.1 x.2)=reach ps gs (ps.length-1) t0
 hS:∀x∈S,x.1<ps.length/\0<=x.2
 hP:P.filter (leafB ps gs)=D.filter fun x=>!ovB gs x
 bP:∀x∈P,x.1<ps.length/\0<=x.2/\x.2<gs.getD x.1 0
 bnd:P.length+(S.map fun x=>nodes ps gs x.1 x.2).sum<=5000
 ll:(hOf ls gs E D).length=ls.length
 hb:∀h∈hOf ls gs E D,0<=h/\h<=10^18
end Rm
namespace L2
open PySem PySem.Spec PySem.W PyProof.Rows HT
section
variable{prog:Program}{w:World}{A:Around}{E:Value->Shared->Prop}{s:Shared}
theorem yP{t e:Addr}{items:Array Value}{f g:Value}{lo hi:Option Int}{Q:Value->Shared->Prop}(a:IsTup s.heap t items)(hs:s.heap.IsSliceOf e f g .none)(pl:IsPart f lo)(m:IsPart g hi)
  (i:sIx items.size 0 lo=0) (j:sIx items.size items.size hi=items.size) (h:Q (.ref t) s):wpAny (model prog w) A (getItem (.ref t) (.ref e)) Q E s:=by
 obtain⟨l,d,c,k⟩:=id hs;have b:s.TypeIs (.ref e) "slice":=⟨l,d,c⟩
 unfold getItem
 try with_reducible refine wpAny_holding ?_
 first | refine ub (uA ?_) | skip
 refine ub (wpAny_sequenceKey a.typeIs (by decide) ?_);refine ub (wpAny_callSpecial?_slot (name:=Str.ofString "__getitem__") a.typeIs PyProof.Rows.slot_tuple_getitem (wpAny_call_entry PyProof.Rows.slot_tuple_getitem a.typeIs entry_tuple_getitem ?_ (args_tuple_getitem _ _)));show wpAny _ _ (Builtin.Tuple.tupleItemsOf (.ref t) >>= _) _ _ s;refine ub (tupleItemsOf_ a ?_);refine ub (wpAny_typeOf b ?_);rw[vc (by decide)];refine ub (zq hs pl m ?_);show wpAny _ _ (if(((sIx items.size 0 lo:Nat):Int)==0&&(1:Int)==1&&(sIx items.size items.size hi-sIx items.size 0 lo)==items.size)=true then _ else _) _ _ s;rw[vc (by rw[i,j];simp)];unfold Builtin.Tuple.tupleIsExact;refine ub (ub (wpAny_typeOf a.typeIs (uA ?_)));rw[vc (by decide)]
 first
  | exact ub (wpAny_rule (uA ⟨_,rfl,uA h⟩))
  | exact ub (wpAny_rule (ub (uA (uA ⟨_,rfl,uA h⟩))))
end
section
variable{X:Cx}
noncomputable def rSlW(K:Frg):V->Option Int->Option Int->Hp->VK->Prop:=fun x lo hi H Q=>∃a xs,x = .ref a/\SqT K H a xs/\HT.sIx xs.length 0 lo=0/\HT.sIx xs.length xs.length hi=xs.length/\Q (.ref a) H
theorem j4G:SlR X (rSlW X.K):=by
 intro e s z H x v w y t o u Q I m i k l h;obtain⟨a,n,rfl,j,f,g,q⟩:=h;cases m;obtain⟨c,r,d,p⟩:=I.tuple j;have b:c.toArray.size=n.length:=by rw[size_toArray];exact r.length.symm
 refine⟨"tuple",_,PyProof.Rows.slot_tuple_getitem.lookup,d.typeIs,?_⟩;exact yP d i k l (by rw[b];exact f) (by rw[b];exact g) ⟨.ref a,H,I,rfl,q⟩
theorem j4H:SlR X (fun x lo hi H Q=>rSlT X.K x lo hi H Q\/rSlW X.K x lo hi H Q):=SlR.or j2q j4G
theorem Y6{K:Frg}{e:Expr}{f:Str}{a:Pos}{b:TE}(g:X.K=K)(d:PE X e b)(c:attributeBase e f X.env (eval e X.env)=eval e X.env):PE X (.Attribute e f a) (tFld K b f):=g▸Je d c
end
end L2
namespace Rm
open PySem PySem.Spec PyProof.Rows L2
structure Tq where
 s:Addr
 p:Addr
 w:Addr
 pa:List Addr
noncomputable def fldR(z:Tq)(g:Int):List (Str×V):=putF "wholes" (.ref z.w) (putF "pieces" (.ref z.p) (putF "last" (.int g) (putF "sizes" (.ref z.s) [])))
section
variable{z:Tq}{g:Int}
theorem qx:(fldR z g).lookup ("wholes" : Str)=some (.ref z.w):=qY
theorem Z0:(fldR z g).lookup ("pieces" : Str)=some (.ref z.p):=(j6 (by decide +kernel)).trans qY
theorem X0:(fldR z g).lookup ("last" : Str)=some (.int g):=(j6 (by decide +kernel)).trans ((j6 (by decide +kernel)).trans qY)
theorem yO:(fldR z g).lookup ("sizes" : Str)=some (.ref z.s):=(j6 (by decide +kernel)).trans ((j6 (by decide +kernel)).trans ((j6 (by decide +kernel)).trans qY))
end
noncomputable def ownW(x:Str):Fm->Int
 | .ring y _=>if y=x then 1 else 0
 | _=>0
noncomputable def wSum(W:List Int)(qs:List Pc):Int:=(qs.map fun q=>q.2.1*W.getD q.1 0).sum
def WPre(ps:List (Str×Fm))(gs:List Int)(x:Str)(W:List Int)(n:Nat):Prop:=W.length=n/\∀(j:Nat) (p:Str×Fm),j<n->ps[j]?=some p->W.getD j 0=ownW x p.2+wSum W (pcB ps gs j)
structure TalAt(C:Addr)(H:Hp)(a:Addr)(z:Tq)(ps:List (Str×Fm))(gs W:List Int):Prop where
 o:∃dx,H a=some (.ins C dx (fldR z (gs.getD (ps.length-1) 0)))
 s:H z.s=some (.lst (gs.map V.int))
 p:H z.p=some (.lst (z.pa.map V.ref))
 pa:PssAt H z.pa (ps.map fun p=>pcsI gs p.2 (inP ps p.2))
 w:H z.w=some (.lst (W.map V.int))
inductive sp_initR(C:Addr)(vs:List V)(H:Hp)(Q:VK)(xk:XK):Prop
 | mk (a dx b pl pp:Addr) (las pas:List Addr) (ls:List (Str×Int)) (ps:List (Str×Fm)) (gs:List Int) (hs:List (List Int)) (x:Str) (_:vs=[.ref a,.ref b,.str x]) (_:H a=some (.ins C dx [])) (_:BookAt H b pl pp las pas ls ps) (_:Sn ls ps gs hs) (_:Ws.isW x=true) (_:(∀p∈ps,FmWs p.2)) (_:∀(z:Tq) (W:List Int) (H':Hp),(∀c u,c≠a->H c=some u->H' c=some u)->WPre ps gs x W ps.length->TalAt C H' a z ps gs W->Q .non H'):sp_initR C vs H Q xk
section
variable{ls:List (Str×Int)}{ps:List (Str×Fm)}{gs:List Int}{hs:List (List Int)}{x:Str}{W:List Int}
theorem TalAt.keep{C:Addr}{H H':Hp}{a:Addr}{z:Tq}(T:TalAt C H a z ps gs W)(s:Same H H'):TalAt C H' a z ps gs W:=by
 obtain⟨⟨f,o⟩,g,i,j,k⟩:=T;exact⟨⟨f,s _ _ o⟩,s _ _ g,s _ _ i,All2.mono j fun c e ⟨d,l,m⟩=>⟨d,s _ _ l,All2.mono m fun b q h=>s _ _ h⟩,s _ _ k⟩
theorem j1B{l:List Int}(h:∀y∈l,0<=y){y:Int}(c:y∈l):y<=l.sum/\0<=l.sum:=by
 induction l generalizing y with
 | nil=>exact nomatch c
 | cons a r ih=>
  have d:=h a vq;have e:0<=r.sum:=by
   cases r with
   | nil=>exact vB _
   | cons b r'=>exact(ih (fun y c=>h y (vp _ c)) vq |>.2)
  rw[ux];rcases mem_cons.mp c with rfl | c
  ·lia
  ·have:=(ih (fun y c=>h y (vp _ c)) c).1;lia
theorem j1F:∀{l:List Int},l≠[]->∃g,g∈l/\∀y∈l,y<=g
 | [],h=>uB rfl h
 | [a],_=>⟨a,vq,fun y d=>by rw[vo.mp d];exact vB _⟩
 | a::b::r,_=>by
  obtain⟨g,i,f⟩:=j1F (l:=b::r) (List.cons_ne_nil _ _);by_cases c:a<=g
  ·exact⟨g,vp _ i,fun y d=>(mem_cons.mp d).elim (fun e=>e▸c) (f y)⟩
  ·exact⟨a,vq,fun y d=>(mem_cons.mp d).elim (fun e=>e▸vB _) fun z=>by have:=f y z;lia⟩
theorem Sn.fit(N:Sn ls ps gs hs){i:Nat}{q:Pc}(h:q∈pcB ps gs i):q.2.1*gs.getD q.1 0<=gs.getD i 0:=by
 unfold pcB at h;split at h
 case h_2=>exact nomatch h
 rename_i p hp;have B:=(vx.mp hp).1;have o:=(N.s.ln i p hp).2;have C:=(N.s.ln i p hp).1;have t:∀k∈inP ps p.2,1<=gs.getD k 0:=fun k u=>by
  have:=N.s.w.inP_lt hp u;exact(N.g (show k<ps.length by lia)).1
 have f:∀y∈(inP ps p.2).map fun j=>gs.getD j 0,0<=y:=fun y w=>by
  obtain⟨j,a,rfl⟩:=vL.mp w;have:=t j a;lia
 have x:=WV h;have c:gs.getD q.1 0∈(inP ps p.2).map fun j=>gs.getD j 0:=vL.mpr ⟨q.1,x,rfl⟩
 unfold pcsI at h;split at h
 ·rename_i k y e;have m:=N.a18 i p.1 y k (by rw[hp,<-e]);split at h
  ·exact nomatch h
  ·rename_i j r ein;have A:=t j (by rw[ein];exact vq);have b:k*gs.getD j 0=gs.getD i 0:=o _ (by rw[e]at ein|-;rw[ein];exact⟨_,rfl,rfl⟩);rw[<-b];rcases mem_cons.mp h with rfl | h
   ·exact vW m.1 (by show 0<=gs.getD j 0;lia)
   ·split at h
    ·rw[vo.mp h];exact vW (show k-1<=k by lia) (by show 0<=gs.getD j 0;lia)
    ·exact nomatch h
 ·rename_i ns e;have b:=o ((inP ps p.2).map fun j=>gs.getD j 0).sum (by rw[e];rfl);rw[(Z5 h).2,Int.one_mul,<-b];exact(j1B f c).1
 ·rename_i n1 n2;obtain⟨j,a,rfl⟩:=vL.mp h;rw[Int.one_mul];cases e:p.2 with
  | side ns=>
   obtain⟨g,s,d⟩:=j1F (l:=(inP ps p.2).map fun j=>gs.getD j 0) (fun z=>by rw[z]at c;exact nomatch c);have b:=o g (by rw[e]at s d|-;exact⟨s,d⟩);rw[<-b];exact d _ c
  | row ns=>exact uB e (n2 ns)
  | again k y=>exact uB e (n1 k y)
  | hold n=>rw[e]at a;exact nomatch a
  | ring y n=>rw[e]at a;exact nomatch a
  | rise y v n=>rw[e]at a;exact nomatch a
theorem j0e{b:Type}{f:b->Int}{B:Int}(c:0<=B):∀{l:List b},(∀y∈l,0<=f y/\f y<=B)->0<=(l.map f).sum/\(l.map f).sum<=l.length*B
 | [],_=>by
  rw[map_nil,sum_nil];exact⟨vB _,by show(0:Int)<=(0:Nat)*B;simp⟩
 | a::r,h=>by
  have e:=h a vq;have g:=j0e c fun y d=>h y (vp _ d)
  rw[uy,ux,vS];have:((r.length+1:Nat):Int)*B=r.length*B+B:=by rw[show((r.length+1:Nat):Int)=(r.length:Int)+1 by lia,Int.add_mul,Int.one_mul]
  lia
theorem Y4(N:Sn ls ps gs hs)(i:Nat):(pcB ps gs i).length<=8:=by
 unfold pcB;split
 ·rename_i p hp;exact WU (N.i8 hp)
 ·exact vA _
theorem WPre.bnd(N:Sn ls ps gs hs){n:Nat}(v:n<=ps.length)(O:WPre ps gs x W n):∀i,i<n->0<=W.getD i 0/\W.getD i 0<=gs.getD i 0*8^(i+1):=by
 intro i
 induction i using Nat.strongRecOn with
 | ind i ih=>
  intro k;obtain⟨p,d⟩:∃p,ps[i]?=some p:=⟨_,vz (by lia)⟩
  have e:=O.2 i p k d;have j:=N.g (show i<ps.length by lia);have C:(0:Int)<8^i:=Int.pow_pos (by decide);have u:1*1<=gs.getD i 0*8^i:=Int.mul_le_mul j.1 (by lia) (by decide) (by lia);have b:=j0e (f:=fun q:Pc=>q.2.1*W.getD q.1 0) (B:=gs.getD i 0*8^i) (by lia) (l:=pcB ps gs i) fun q a=>by
   have r:=qi N.s.w a;have g:=N.pcOk a;have w:=ih q.1 r (by lia);refine⟨vO (by have:=g.2.2.2.1;lia) w.1,?_⟩;have f:=N.fit a;have s:(8:Int)^(q.1+1)<=8^i:=by
    have:=Nat.pow_le_pow_right (show 0<8 by decide) (show q.1+1<=i by lia)
    exact_mod_cast this
   have t:0<=q.2.1:=by have:=g.2.2.2.1;lia
   calc q.2.1*W.getD q.1 0<=q.2.1*(gs.getD q.1 0*8^(q.1+1)):=Int.mul_le_mul_of_nonneg_left w.2 t
    _=q.2.1*gs.getD q.1 0*8^(q.1+1):=(Int.mul_assoc ..).symm
    _<=gs.getD i 0*8^(q.1+1):=vW f (Int.le_of_lt (Int.pow_pos (by decide)))
    _<=gs.getD i 0*8^i:=Int.mul_le_mul_of_nonneg_left s (by lia)
  have A:=Y4 N i;have o:0<=ownW x p.2/\ownW x p.2<=1/\(ownW x p.2=1->pcB ps gs i=[]):=by
   unfold ownW;split
   ·rename_i y m e';split
    ·refine⟨by decide,by decide,fun _=>?_⟩;unfold pcB;rw[d];show pcsI gs p.2 (inP ps p.2)=[]
     rw[e'];rfl
    ·exact⟨by decide,by decide,fun z=>by cases z⟩
   ·exact⟨by decide,by decide,fun z=>by cases z⟩
  rw[e,Int.pow_succ,<-Int.mul_assoc];have h:0<=wSum W (pcB ps gs i)/\wSum W (pcB ps gs i)<=(pcB ps gs i).length*(gs.getD i 0*8^i):=b;by_cases c:ownW x p.2=1
  ·rw[o.2.2 c]at h|-;have:wSum W []=0:=rfl;rw[this];lia
  ·have:((pcB ps gs i).length:Int)*(gs.getD i 0*8^i)<=8*(gs.getD i 0*8^i):=vW (by lia) (by lia);lia
theorem WPre.b250(N:Sn ls ps gs hs){n:Nat}(a:n<=ps.length)(O:WPre ps gs x W n){i:Nat}(hi:i<n):0<=W.getD i 0/\W.getD i 0<=10^200:=by
 have b:=O.bnd N a i hi;have g:=N.g (show i<ps.length by lia);have c:=N.s.w.p61;refine⟨b.1,vZ b.2 ?_⟩;have d:(8:Int)^(i+1)<=8^61:=by
  have:=Nat.pow_le_pow_right (show 0<8 by decide) (show i+1<=61 by lia)
  exact_mod_cast this
 have:=Int.mul_le_mul g.2 d (Int.le_of_lt (Int.pow_pos (by decide))) (by decide);exact vZ this (by decide)
theorem j13{v:Int}{a:List Pc}(h:∀q∈a,q.1<W.length):wSum (W++[v]) a=wSum W a:=by
 unfold wSum;congr 1;refine map_congr_left fun q b=>?_
 rw[vy,vy,vC (h q b)]
theorem WPre.snoc(c:WfB ls ps){n:Nat}(O:WPre ps gs x W n){p:Str×Fm}(d:ps[n]?=some p):WPre ps gs x (W++[ownW x p.2+wSum W (pcB ps gs n)]) (n+1):=by
 have b:=O.1;refine⟨by rw[vn,b];rfl,fun j f g a=>?_⟩;rw[j13 fun q e=>by have:=qi c e;lia];rcases Nat.lt_or_ge j n with z | z
 ·rw[<-O.2 j f z a,vy,vy,vC (by lia)]
 ·have:j=n:=by lia
  subst this;rw[d]at a;cases a;rw[vy,vD (by lia),b,Nat.sub_self];rfl
end
theorem j2C{H:Hp}{q:Addr}{f:Fm}{x:Str}(h:FormAt H q f)(j:FmWs f):∃xs:List V,H q=some (.tup xs)/\(xs.length=2\/xs.length=3\/xs.length=4)/\
  ∀(H':Hp) (p:Addr),Same H H'->H' p=some (.tup (xs.take 2))->∃d,DV H' (.ref p) d/\SeqAt.shaped d=true/\PyData.eqv d (.tuple [.str "ring",.str x])=decide (ownW x f=1):=by
 have c:∀y:Str,Ws.isW y=true->Shp 0 (.str y):=fun y w=>Shp.str (j0c w)
 have g:∀{a b:PyData},Shp 1 a->Shp 1 b->SeqAt.shaped (.tuple [a,b])=true:=fun t u=>(Shp.tup (n:=1) fun d r=>by
  simp only[mem_cons,not_mem_nil,or_false]at r;rcases r with rfl | rfl
  ·exact t
  ·exact u).ok (by decide)
 have m:∀{d:PyData},Shp 0 d->Shp 1 d:=fun h=>h.mono (by decide)
 have i:∀{y:Str} {a:PyData},(y==("ring" : Str))=false->PyData.eqv (.tuple [.str y,a]) (.tuple [.str "ring",.str x])=false:=fun {y a} e=>by
  show((y==("ring" : Str))&&_)=false;rw[e];rfl
 cases f with
 | hold n=>exact⟨_,h,.inl rfl,fun H' p s e=>⟨_,.tup e (.cons (.str _) (.cons (.int _) .nil)),g (m (c _ (by decide +kernel))) (m .int),by rw[i (by decide +kernel)];rfl⟩⟩
 | ring y n=>
  refine⟨_,h,.inr (.inl rfl),fun H' p s e=>⟨_,.tup e (.cons (.str _) (.cons (.str _) .nil)),g (m (c _ (by decide +kernel))) (m (c _ j.1)),?_⟩⟩;show((("ring" : Str) == "ring")&&((y==x)&&true))=_;rw[beq_self_eq_true,Bool.true_and,Bool.and_true];show(y==x)=decide ((if y=x then(1:Int)else 0)=1);by_cases e:y=x
  ·rw[e,vc rfl];simp
  ·rw[vb e,beq_false_of_ne e];rfl
 | rise y v n=>exact⟨_,h,.inr (.inr rfl),fun H' p s e=>⟨_,.tup e (.cons (.str _) (.cons (.str _) .nil)),g (m (c _ (by decide +kernel))) (m (c _ j.1)),by rw[i (by decide +kernel)];rfl⟩⟩
 | row ns=>
  obtain⟨b,l,o⟩:=h;exact⟨_,l,.inl rfl,fun H' p s e=>⟨_,.tup e (.cons (.str _) (.cons (.tup (s _ _ o) (Y1 ns)) .nil)),g (m (c _ (by decide +kernel))) (Shp.tup (Yb j.2)),by rw[i (by decide +kernel)];rfl⟩⟩
 | side ns=>
  obtain⟨b,l,o⟩:=h;exact⟨_,l,.inl rfl,fun H' p s e=>⟨_,.tup e (.cons (.str _) (.cons (.tup (s _ _ o) (Y1 ns)) .nil)),g (m (c _ (by decide +kernel))) (Shp.tup (Yb j.2)),by rw[i (by decide +kernel)];rfl⟩⟩
 | again k y=>exact⟨_,h,.inr (.inl rfl),fun H' p s e=>⟨_,.tup e (.cons (.str _) (.cons (.int _) .nil)),g (m (c _ (by decide +kernel))) (m .int),by rw[i (by decide +kernel)];rfl⟩⟩
theorem cut2{xs:List V}(h:xs.length=3\/xs.length=4):¬(HT.sIx xs.length 0 none=0/\HT.sIx xs.length xs.length (some 2)=xs.length)/\cutV xs none (some 2)=xs.take 2:=by
 unfold cutV;rcases h with e | e<;>rw[e]<;>exact⟨by decide,rfl⟩
theorem j3H{K:Frg}{H:Hp}{a:Addr}{xs:List V}{Q:VK}(e:H a=some (.tup xs))(c:xs.length=2\/xs.length=3\/xs.length=4)(k:∀(b:Addr) (H':Hp),Same H H'->H' b=some (.tup (xs.take 2))->Q (.ref b) H'):rSlT K (.ref a) none (some 2) H Q\/rSlW K (.ref a) none (some 2) H Q:=by
 rcases c with h | h
 ·exact .inr ⟨a,xs,rfl,SqT.of e,by rw[h];rfl,by rw[h];rfl,k a H (Same.refl _) (by rw[List.take_of_length_le (by lia)];exact e)⟩
 ·exact .inl ⟨a,xs,rfl,SqT.of e,(cut2 h).1,fun p d=>k p _ (Wq d rfl) (by rw[(cut2 h).2];exact jt)⟩
end Rm
namespace Ct
def GB(r s g f:Int):Prop:=1<=g/\g ∣ r/\g ∣ s/\∃t,r*f=g+s*t
theorem GB.rep{r s g f y:Int}(G:GB r s g f):(∃p q,y=r*p+s*q)↔g ∣ y:=by
 obtain⟨h,⟨a,c⟩,⟨b,d⟩,t,e⟩:=G;constructor
 ·rintro⟨p,q,rfl⟩;rw[c,d];exact⟨a*p+b*q,by rw[Int.mul_add,Int.mul_assoc,Int.mul_assoc]⟩
 ·rintro⟨k,rfl⟩;refine⟨f*k,-(t*k),?_⟩;rw[<-Int.mul_assoc,e,Int.add_mul,Int.mul_neg,Int.mul_assoc s t k];lia
theorem X6{r s g f m:Int}(G:GB r s g f):r*(s/g) ∣ m↔r ∣ m/\s ∣ m:=by
 obtain⟨w,⟨a,n⟩,⟨b,c⟩,t,v⟩:=G;have d:g≠0:=by lia
 have l:s/g=b:=by rw[c,Int.mul_ediv_cancel_left _ d]
 rw[l];constructor
 ·rintro⟨k,rfl⟩;refine⟨⟨b*k,Int.mul_assoc _ _ _⟩,⟨a*k,?_⟩⟩;rw[n,c,Int.mul_assoc g a b,Int.mul_comm a b,<-Int.mul_assoc g b a,Int.mul_assoc]
 ·rintro⟨⟨p,o⟩,q,u⟩;refine⟨q*f-p*t,?_⟩;have e:g*m=g*(r*b*(q*f-p*t)):=by
   have h:g*m=(r*f-s*t)*m:=by rw[v];congr 1;lia
   have i:r*f*m=r*f*(s*q):=by rw[<-u]
   have j:s*t*m=s*t*(r*p):=by rw[<-o]
   rw[h,Int.sub_mul,i,j,c];simp only[Int.mul_sub,Int.mul_left_comm,Int.mul_comm]
  exact Int.eq_of_mul_eq_mul_left d e
theorem j3g{r s g f b w:Int}(J:1<=r)(hs:1<=s)(G:GB r s g f)(H:0<=b/\b<r)(hw:0<=w/\w<s)(h:(w-b)%g=0) :
  0<=b+(w-b)/g*f%(s/g)*r/\b+(w-b)/g*f%(s/g)*r<r*(s/g)/\r ∣ b+(w-b)/g*f%(s/g)*r-b/\s ∣ b+(w-b)/g*f%(s/g)*r-w:=by
 have D:=G;obtain⟨F,⟨a,y⟩,⟨c,l⟩,t,A⟩:=G;have n:g≠0:=by lia
 have v:s/g=c:=by rw[l,Int.mul_ediv_cancel_left _ n]
 have E:1<=c:=by
  by_cases z:c<=0
  ·have:=Int.mul_nonpos_of_nonpos_of_nonneg z (show 0<=g by lia);rw[Int.mul_comm]at this;lia
  ·lia
 rw[v];obtain⟨d,m⟩:g ∣ w-b:=Int.dvd_of_emod_eq_zero h;have x:(w-b)/g=d:=by rw[m,Int.mul_ediv_cancel_left _ n]
 rw[x];have o:=vd (d*f) (show c≠0 by lia);have B:=ve (d*f) (show 0<c by lia);have i:=Int.emod_add_mul_ediv (d*f) c;generalize I:d*f%c=k at o B i|-;generalize d*f/c=e at i;have C:0<=k*r:=vO o (by lia);have j:k*r<=(c-1)*r:=vW (by lia) (by lia);rw[Int.sub_mul,Int.one_mul]at j;refine⟨by lia,by rw[Int.mul_comm r c];lia,⟨k,by rw[Int.mul_comm r k];lia⟩,?_⟩;refine⟨d*t-a*e,?_⟩;have p:k*r=d*f*r-c*e*r:=by rw[<-i,Int.add_mul];lia
 have q:d*f*r=(w-b)+s*(d*t):=by
  rw[Int.mul_assoc,Int.mul_comm f r,A,Int.mul_add,m];simp only[Int.mul_comm,Int.mul_left_comm]
 have u:c*e*r=s*(a*e):=by
  rw[y,l];simp only[Int.mul_comm,Int.mul_left_comm]
 rw[p,q,u,Int.mul_sub];lia
theorem KW{r s g f:Int}(hs:1<=s)(G:GB r s g f):1<=s/g:=by
 obtain⟨d,_,⟨c,a⟩,_⟩:=G;have b:g≠0:=by lia
 rw[show s/g=c by rw[a,Int.mul_ediv_cancel_left _ b]];by_cases z:c<=0
 ·have:=Int.mul_nonpos_of_nonpos_of_nonneg z (show 0<=g by lia);rw[Int.mul_comm]at this;lia
 ·lia
end Ct
namespace Rm
open PySem PySem.Spec PyProof.Rows L2
noncomputable def rq(W:List Int)(qs:List Pc):List Pc:=qs.filter fun q=>decide (0<W.getD q.1 0)
noncomputable def rbL(pc:Nat->List Pc)(gs W:List Int):Nat->Nat->Int->List Int
 | 0,_,t=>[t]
 | n+1,i,t=>if rq W (pc i)=[]then[t]else(bgs gs t (rq W (pc i))).flatMap fun x=>rbL pc gs W n x.1 x.2
noncomputable def nrL(pc:Nat->List Pc)(gs W:List Int):Nat->Nat->Nat
 | 0,_=>1
 | n+1,i=>1+((bgs gs 0 (rq W (pc i))).map fun x=>nrL pc gs W n x.1).sum
noncomputable def RB(ps:List (Str×Fm))(gs W:List Int)(i:Nat)(t:Int):List Int:=rbL (pcB ps gs) gs W (i+1) i t
noncomputable def NR(ps:List (Str×Fm))(gs W:List Int)(i:Nat):Nat:=nrL (pcB ps gs) gs W (i+1) i
section
variable{ls:List (Str×Int)}{ps:List (Str×Fm)}{gs W:List Int}{hs:List (List Int)}{x:Str}
theorem j3h{a:List Pc}{b:Int}{y:Nat×Int}(h:y∈bgs gs b a):∃q∈a,y.1=q.1:=by
 obtain⟨q,c,d⟩:=mem_flatMap.mp h;obtain⟨u,_,rfl⟩:=vL.mp d;exact⟨q,c,rfl⟩
theorem KU(a:WfB ls ps){i:Nat}{b:Int}{y:Nat×Int}(h:y∈bgs gs b (rq W (pcB ps gs i))):y.1<i/\0<W.getD y.1 0:=by
 obtain⟨q,f,e⟩:=j3h h;obtain⟨c,d⟩:=vQ.mp f;exact⟨e▸qi a c,e▸of_decide_eq_true d⟩
theorem j06(a:WfB ls ps):∀{n m i:Nat} {t:Int},i<n->i<m->rbL (pcB ps gs) gs W n i t=rbL (pcB ps gs) gs W m i t
 | 0,_,_,_,h,_=>uB h (Nat.not_lt_zero _)
 | _,0,_,_,_,h=>uB h (Nat.not_lt_zero _)
 | n+1,m+1,i,t,h1,h2=>by
  unfold rbL;split
  ·rfl
  ·exact JK fun y b=>by
    have:=(KU a b).1;exact j06 a (by lia) (by lia)
theorem j00(a:WfB ls ps):∀{n m i:Nat},i<n->i<m->nrL (pcB ps gs) gs W n i=nrL (pcB ps gs) gs W m i
 | 0,_,_,h,_=>uB h (Nat.not_lt_zero _)
 | _,0,_,_,h=>uB h (Nat.not_lt_zero _)
 | n+1,m+1,i,h1,h2=>by
  unfold nrL;congr 2;exact map_congr_left fun y b=>by
   have:=(KU a b).1;exact j00 a (by lia) (by lia)
theorem Y0{i:Nat}{t:Int}(h:rq W (pcB ps gs i)=[]):RB ps gs W i t=[t]:=by
 unfold RB rbL;rw[vc h]
theorem K5(a:WfB ls ps){i:Nat}{t:Int}(h:¬rq W (pcB ps gs i)=[]):RB ps gs W i t=(bgs gs t (rq W (pcB ps gs i))).flatMap fun y=>RB ps gs W y.1 y.2:=by
 unfold RB;rw[rbL,vb h];exact JK fun y b=>by
  have:=(KU a b).1;exact j06 a (by lia) (by lia)
theorem j46{b:Int}(a:List Pc):(bgs gs b a).map (·.1)=(bgs gs 0 a).map (·.1):=by
 unfold bgs;rw[List.map_flatMap,List.map_flatMap];exact JK fun q _=>by rw[v8,v8];rfl
theorem j2P(a:WfB ls ps){i:Nat}{t:Int}:NR ps gs W i=1+((bgs gs t (rq W (pcB ps gs i))).map fun y=>NR ps gs W y.1).sum:=by
 unfold NR;rw[nrL];congr 2;have e:∀b,(bgs gs b (rq W (pcB ps gs i))).map (fun y=>nrL (pcB ps gs) gs W (y.1+1) y.1)=((bgs gs b (rq W (pcB ps gs i))).map (·.1)).map fun j=>nrL (pcB ps gs) gs W (j+1) j:=fun b=>by rw[v8];rfl
 rw[e,j46,<-e];exact map_congr_left fun y c=>by
  have:=(KU a c).1;exact j00 a (by lia) (by lia)
theorem j42(i:Nat):1<=NR ps gs W i:=by
 unfold NR nrL;lia
theorem j3U(N:Sn ls ps gs hs)(O:WPre ps gs x W ps.length){i:Nat}(hi:i<ps.length)(t:Int):((bgs gs t (rq W (pcB ps gs i))).map fun y=>W.getD y.1 0).sum<=W.getD i 0:=by
 have f:∀j,j<ps.length->0<=W.getD j 0:=fun j w=>(O.bnd N (va _) j w).1
 have e:=O.2 i _ hi (vz hi);have o:0<=ownW x ps[i].2:=by
  unfold ownW;split
  ·split<;>decide
  ·decide
 have s:∀b:List Pc,(∀q∈b,q.1<ps.length/\1<=q.2.1)->((bgs gs t (rq W b)).map fun y=>W.getD y.1 0).sum<=wSum W b:=by
  intro b
  induction b with
  | nil=>intro _;exact vB _
  | cons q r a=>
   intro h;have d:=h q vq;have a:=a fun y A=>h y (vp _ A)
   have g:=f q.1 d.1;have v:wSum W (q::r)=q.2.1*W.getD q.1 0+wSum W r:=by unfold wSum;rw[uy,ux]
   rw[v];unfold rq at a|-;by_cases c:0<W.getD q.1 0
   ·rw[uz,vc (vH c)];have m:bgs gs t (q::r.filter fun q=>decide (0<W.getD q.1 0))=((List.range q.2.1.toNat).map fun u:Nat=>(q.1,t+q.2.2+(u:Int)*gs.getD q.1 0))++bgs gs t (r.filter fun q=>decide (0<W.getD q.1 0)):=by unfold bgs;rw[flatMap_cons]
    rw[m,vi,sum_append,v8];have p:((List.range q.2.1.toNat).map ((fun y:Nat×Int=>W.getD y.1 0)∘fun u:Nat=>(q.1,t+q.2.2+(u:Int)*gs.getD q.1 0))).sum=q.2.1*W.getD q.1 0:=by
     have k:((fun y:Nat×Int=>W.getD y.1 0)∘fun u:Nat=>(q.1,t+q.2.2+(u:Int)*gs.getD q.1 0))=fun _=>W.getD q.1 0:=rfl
     rw[k];have l:∀n:Nat,((List.range n).map fun _=>W.getD q.1 0).sum=(n:Int)*W.getD q.1 0:=fun n=>by
      induction n with
      | zero=>simp
      | succ n a=>rw[range_succ,vi,sum_append,a,uy,map_nil,ux,sum_nil,show((n+1:Nat):Int)=(n:Int)+1 by lia,Int.add_mul];lia
     rw[l,Int.toNat_of_nonneg (by lia)]
    rw[p];lia
   ·rw[uz,vb (fun z=>c (of_decide_eq_true z))];have:=vO (show 0<=q.2.1 by lia) g;lia
 have:=s (pcB ps gs i) fun q d=>⟨by have:=qi N.s.w d;lia,(N.pcOk d).2.2.2.1⟩
 lia
theorem xt{b:Type}{f:b->Int}:∀{l:List b},(∀y∈l,1<=f y)->(l.length:Int)<=(l.map f).sum
 | [],_=>vB _
 | a::r,h=>by
  have:=h a vq;have:=xt fun y c=>h y (vp _ c)
  rw[uy,ux,vS];lia
end
inductive sp_rung(C:Addr)(vs:List V)(H:Hp)(Q:VK)(xk:XK):Prop
 | mk (a:Addr) (z:Tq) (ls:List (Str×Int)) (ps:List (Str×Fm)) (gs W:List Int) (hs:List (List Int)) (x:Str) (_:vs=[.ref a]) (_:TalAt C H a z ps gs W) (_:Sn ls ps gs hs) (_:WPre ps gs x W ps.length) (_:W.getD (ps.length-1) 0<=12) (_:∀(l:Addr) (ms:List Int) (H':Hp),Same H H'->H l=none->H' l=some (.lst (ms.map V.int))->ms.Pairwise (· < ·)->(∀y,y∈ms↔0<W.getD (ps.length-1) 0/\y∈RB ps gs W (ps.length-1) 0)->ms.length<=12->Q (.ref l) H'):sp_rung C vs H Q xk
inductive sp_common(vs:List V)(H:Hp)(Q:VK)(xk:XK):Prop
 | mk (r s:Int) (_:vs=[.int r,.int s]) (_:1<=r) (_:r<=10^200) (_:1<=s) (_:s<=10^100) (_:∀(p:Addr) (g f:Int) (H':Hp),Same H H'->H p=none->H' p=some (.tup [.int g,.int f])->Ct.GB r s g f->-s<=f->f<=s->Q (.ref p) H'):sp_common vs H Q xk
structure Tg(B:List Int)(T:Int)(S:Int->Prop):Prop where
 t1:1<=T
 b:∀y∈B,0<=y/\y<T
 s:∀y,S y↔∃z∈B,T ∣ y-z
inductive sp_together(vs:List V)(H:Hp)(Q:VK)(xk:XK):Prop
 | mk (a b la lb:Addr) (B O:List Int) (T L:Int) (S S':Int->Prop) (_:vs=[.ref a,.ref b]) (_:H a=some (.tup [.ref la,.int T])) (_:H la=some (.lst (B.map V.int))) (_:H b=some (.tup [.ref lb,.int L])) (_:H lb=some (.lst (O.map V.int))) (_:Tg B T S) (_:Tg O L S') (_:T<=10^130) (_:L<=10^61) (_:B.length*O.length<=2000) (_:∀(p l:Addr) (B':List Int) (T':Int) (H':Hp),Same H H'->H p=none->H' p=some (.tup [.ref l,.int T'])->H' l=some (.lst (B'.map V.int))->Tg B' T' (fun y=>S y/\S' y)->B'.length<=B.length*O.length->T'<=T*L->Q (.ref p) H'):sp_together vs H Q xk
noncomputable def mtV(T L g f b w:Int):Int:=b+(w-b)/g*f%(L/g)*T
theorem j3L{B O:List Int}{T L g f:Int}{S n:Int->Prop}(h:Tg B T S)(k:Tg O L n)(G:Ct.GB T L g f):Tg (B.flatMap fun b=>(O.filter fun w=>decide ((w-b)%g=0)).map (mtV T L g f b)) (T*(L/g)) (fun y=>S y/\n y):=by
 have x:=Ct.KW k.t1 G;have l:∀{b w},b∈B->w∈O->(w-b)%g=0->0<=mtV T L g f b w/\mtV T L g f b w<T*(L/g)/\T ∣ mtV T L g f b w-b/\L ∣ mtV T L g f b w-w:=fun c a e=>Ct.j3g h.t1 k.t1 G (h.b _ c) (k.b _ a) e
 refine⟨?_,fun y j=>?_,fun y=>?_⟩
 ·have:=Int.mul_le_mul h.t1 x (by decide) (by have:=h.t1;lia);lia
 ·obtain⟨b,c,j⟩:=mem_flatMap.mp j;obtain⟨w,a,rfl⟩:=vL.mp j;obtain⟨a,e⟩:=vQ.mp a;have:=l c a (of_decide_eq_true e);exact⟨this.1,this.2.1⟩
 ·rw[h.s,k.s];constructor
  ·rintro⟨⟨b,c,o⟩,w,a,r⟩;have s:(w-b)%g=0:=Int.emod_eq_zero_of_dvd (by
    obtain⟨p,z⟩:=o;obtain⟨q,A⟩:=r;exact G.rep.mp ⟨p,-q,by rw[Int.mul_neg];lia⟩)
   have m:=l c a s;refine⟨_,mem_flatMap.mpr ⟨b,c,vL.mpr ⟨w,vQ.mpr ⟨a,vH s⟩,rfl⟩⟩,(Ct.X6 G).mpr ⟨?_,?_⟩⟩
   ·have:=Int.dvd_sub o m.2.2.1;rw[show y-b-(mtV T L g f b w-b)=y-mtV T L g f b w by lia]at this;exact this
   ·have:=Int.dvd_sub r m.2.2.2;rw[show y-w-(mtV T L g f b w-w)=y-mtV T L g f b w by lia]at this;exact this
  ·rintro⟨v,i,d⟩;obtain⟨b,c,i⟩:=mem_flatMap.mp i;obtain⟨w,a,rfl⟩:=vL.mp i;obtain⟨a,e⟩:=vQ.mp a;have m:=l c a (of_decide_eq_true e);obtain⟨u,t⟩:=(Ct.X6 G).mp d;refine⟨⟨b,c,?_⟩,w,a,?_⟩
   ·have:=Int.dvd_add u m.2.2.1;rw[show y-mtV T L g f b w+(mtV T L g f b w-b)=y-b by lia]at this;exact this
   ·have:=Int.dvd_add t m.2.2.2;rw[show y-mtV T L g f b w+(mtV T L g f b w-w)=y-w by lia]at this;exact this
theorem j2z:Tg [0] 1 (fun _=>True):=⟨by decide,fun y a=>by rw[vo.mp a];decide,fun y=>⟨fun _=>⟨0,vq,Int.one_dvd _⟩,fun _=>trivial⟩⟩
structure Mb where
 ls:List (Str×Int)
 ps:List (Str×Fm)
 gs:List Int
 hs:List (List Int)
 x:Str
 W:List Int
noncomputable def Mb.n(d:Mb):Nat:=d.ps.length-1
noncomputable def Mb.L(d:Mb):Int:=d.gs.getD d.n 0
structure MbOk(d:Mb):Prop where
 sn:Sn d.ls d.ps d.gs d.hs
 w:WPre d.ps d.gs d.x d.W d.ps.length
 few:d.W.getD d.n 0<=12
 x1:Ws.isW d.x=true
 x2:∀p∈d.ps,FmWs p.2
 rb:∀y∈RB d.ps d.gs d.W d.n 0,0<=y/\y<d.L
def Mb.R(d:Mb)(y:Int):Prop:=∃w,(0<d.W.getD d.n 0/\w∈RB d.ps d.gs d.W d.n 0)/\d.L ∣ y-w
def BkA(H:Hp)(a:Addr)(d:Mb):Prop:=∃(pl pp:Addr) (las pas:List Addr),BookAt H a pl pp las pas d.ls d.ps
inductive MeetR(ds:List Mb)(b:Int)(v:V):Prop
 | no (_:v = .non) (_:∀y,¬∀d∈ds,d.R y):MeetR ds b v
 | yes (y:Int) (_:v = .int y) (_:b<=y) (_:y<=b+10^200) (_:∀d∈ds,d.R y) (_:∀y',b<=y'->(∀d∈ds,d.R y')->y<=y'):MeetR ds b v
inductive sp_meeting(vs:List V)(H:Hp)(Q:VK)(xk:XK):Prop
 | mk (a b:Addr) (as:List Addr) (ds:List Mb) (t:Int) (_:vs=[.ref a,.ref b,.int t]) (_:H a=some (.lst (as.map V.ref))) (_:All2 (BkA H) as ds) (_:H b=some (.lst (ds.map fun d=>V.str d.x))) (_:ds.length<=3) (_:(∀d∈ds,MbOk d)) (_:∀(v:V) (H':Hp),Same H H'->MeetR ds (max t 0) v->Q v H'):sp_meeting vs H Q xk
theorem xy{ps:List (Str×Fm)}{ls:List (Str×Int)}{gs:List Int}{x:Str}{W a:List Int}{n:Nat}(e:WfB ls ps)(k:n<=ps.length)(O:WPre ps gs x W n)(b:WPre ps gs x a n):W=a:=by
 have h:∀i,i<n->W.getD i 0=a.getD i 0:=by
  intro i
  induction i using Nat.strongRecOn with
  | ind i ih=>
   intro c;have d:=vz (show i<ps.length by lia);rw[O.2 i _ c d,b.2 i _ c d];congr 1;unfold wSum;congr 1;refine map_congr_left fun q j=>?_
   have:=qi e j;rw[ih q.1 this (by lia)]
 have l:=O.1;have m:=b.1;refine ext_getElem (by lia) fun i f g=>?_
 have:=h i (by lia);rw[vy,vy,vz f,vz g]at this;exact this
end Rm
namespace Ct
structure Ce(r s a b x y:Int):Prop where
 a1:1<=a
 b0:0<=b
 bs:b<=s
 ar:a<=r\/a<=s
 sg:(0<=x/\y<=0/\b*x-a*y=s)\/(x<=0/\0<=y/\a*y-b*x=s)
 x1 : -s<=x
 x2:x<=s
 y1 : -s<=y
 y2:y<=s
 rx:∃t,r*x=a+s*t
 ry:∃t,r*y=b+s*t
 dv:∀d,d ∣ a->d ∣ b->d ∣ r/\d ∣ s
theorem Ce.start{r s:Int}(c:1<=r)(hs:1<=s):Ce r s r s 1 0:=
 ⟨c,by lia,vB _,.inl (vB _),.inl ⟨by decide,by decide,by rw[Int.mul_one,Int.mul_zero,Int.sub_zero]⟩,by lia,by lia,by lia,by lia,⟨0,by rw[Int.mul_one,Int.mul_zero,ut]⟩,⟨-1,by rw[Int.mul_zero,Int.mul_neg,Int.mul_one];lia⟩,fun d a b=>⟨a,b⟩⟩
theorem KP{b y s:Int}(a:1<=b)(c:0<=y)(h:b*y<=s):y<=s:=by
 have:=vW a c;lia
theorem Ce.step{r s a b x y:Int}(C:Ce r s a b x y)(i:1<=b):Ce r s b (a-a/b*b) y (x-a/b*y):=by
 have g:0<=a/b:=Int.ediv_nonneg (by have:=C.a1;lia) (by lia);have B:=Int.emod_add_mul_ediv a b;have D:=vd a (show b≠0 by lia);have E:=ve a (show 0<b by lia);have F:a/b*b=b*(a/b):=Int.mul_comm ..;have f:0<=a-a/b*b:=by lia
 have n:a-a/b*b<b:=by lia
 generalize G:a/b=m at *;have H:=C.x1;have I:=C.x2;have z:=C.y1;have A:=C.y2;have o:=C.bs;have w:b*(x-m*y)-(a-m*b)*y=b*x-a*y:=by
  rw[Int.mul_sub,Int.sub_mul,Int.mul_left_comm b m y,Int.mul_assoc m b y];lia
 refine⟨i,f,by lia,.inr o,?_,z,A,?_,?_,C.ry,?_,fun d e c=>?_⟩
 ·rcases C.sg with⟨e,c,h⟩ | ⟨e,c,h⟩
  ·refine .inr ⟨c,?_,by lia⟩;have:=Int.mul_nonpos_of_nonneg_of_nonpos g c;lia
  ·refine .inl ⟨c,?_,by lia⟩;have:=vO g c;lia
 ·rcases C.sg with⟨e,c,h⟩ | ⟨e,c,h⟩
  ·have:=Int.mul_nonpos_of_nonneg_of_nonpos g c;lia
  ·have k:0<=m*y-x:=by have:=vO g c;lia
   have p:=vO f c;have q:b*(m*y-x)<=s:=by
    rw[show m*y-x = -(x-m*y) by lia,Int.mul_neg];lia
   have:=KP i k q;lia
 ·rcases C.sg with⟨e,c,h⟩ | ⟨e,c,h⟩
  ·have k:0<=x-m*y:=by have:=Int.mul_nonpos_of_nonneg_of_nonpos g c;lia
   have p:=Int.mul_nonpos_of_nonneg_of_nonpos f c;exact KP i k (by lia)
  ·have:=vO g c;lia
 ·obtain⟨t,v⟩:=C.rx;obtain⟨l,j⟩:=C.ry;refine⟨t-m*l,?_⟩;rw[Int.mul_sub,Int.mul_left_comm r m y,v,j,Int.mul_add,Int.mul_sub,Int.mul_left_comm s m l];lia
 ·have u:d ∣ a:=by
   have:=Int.dvd_add c (Int.dvd_trans e (Int.dvd_mul_left m b));rw[show a-m*b+m*b=a by lia]at this;exact this
  exact C.dv d u e
theorem Ce.done{r s a x y:Int}(C:Ce r s a 0 x y):GB r s a x:=by
 obtain⟨b,c⟩:=C.dv a (Int.dvd_refl a) (Int.dvd_zero a);exact⟨C.a1,b,c,C.rx⟩
end Ct
namespace Rm
open PySem PySem.Spec PyProof.Rows L2
structure RgS(ps:List (Str×Fm))(gs W:List Int)(R:Int->Prop)(F:List Int)(S:List (Nat×Int)):Prop where
 inv:∀y,R y↔y∈F\/∃s∈S,y∈RB ps gs W s.1 s.2
 ok:∀s∈S,s.1<ps.length/\0<W.getD s.1 0
 bnd:(F.length:Int)+(S.map fun s=>W.getD s.1 0).sum<=12
section
variable{ls:List (Str×Int)}{ps:List (Str×Fm)}{gs W:List Int}{hs:List (List Int)}{R:Int->Prop}{F:List Int}{S0:List (Nat×Int)}{s:Nat×Int}{x:Str}
theorem RgS.few(h:RgS ps gs W R F S0):F.length+S0.length<=12:=by
 have b:=h.bnd;have:=xt (f:=fun s:Nat×Int=>W.getD s.1 0) (l:=S0) fun y a=>by have:=(h.ok y a).2;lia
 lia
theorem RgS.leaf(h:RgS ps gs W R F (S0++[s]))(e:rq W (pcB ps gs s.1)=[]):RgS ps gs W R (F++[s.2]) S0:=by
 refine⟨fun y=>?_,fun y c=>h.ok y (mem_append_left _ c),?_⟩
 ·rw[h.inv,vg,vo];constructor
  ·rintro(z | ⟨u,a,z⟩)
   ·exact .inl (.inl z)
   ·rcases vg.mp a with a | a
    ·exact .inr ⟨u,a,z⟩
    ·rw[vo.mp a,Y0 e,vo]at z;exact .inl (.inr z)
  ·rintro((z | z) | ⟨u,a,z⟩)
   ·exact .inl z
   ·exact .inr ⟨s,mem_append_right _ vq,by rw[Y0 e,z];exact vq⟩
   ·exact .inr ⟨u,mem_append_left _ a,z⟩
 ·have b:=h.bnd;have:=(h.ok s (mem_append_right _ vq)).2;rw[vi,sum_append,uy,map_nil,ux,sum_nil]at b;rw[vn,vU];lia
theorem RgS.node(N:Sn ls ps gs hs)(O:WPre ps gs x W ps.length)(h:RgS ps gs W R F (S0++[s]))(e:¬rq W (pcB ps gs s.1)=[]):RgS ps gs W R F (S0++bgs gs s.2 (rq W (pcB ps gs s.1))):=by
 have f:=h.ok s (mem_append_right _ vq);refine⟨fun y=>?_,fun y c=>?_,?_⟩
 ·rw[h.inv];constructor
  ·rintro(z | ⟨u,a,z⟩)
   ·exact .inl z
   ·rcases vg.mp a with a | a
    ·exact .inr ⟨u,mem_append_left _ a,z⟩
    ·rw[vo.mp a,K5 N.s.w e]at z;obtain⟨v,d,z⟩:=mem_flatMap.mp z;exact .inr ⟨v,mem_append_right _ d,z⟩
  ·rintro(z | ⟨u,a,z⟩)
   ·exact .inl z
   ·rcases vg.mp a with a | a
    ·exact .inr ⟨u,mem_append_left _ a,z⟩
    ·exact .inr ⟨s,mem_append_right _ vq,by rw[K5 N.s.w e];exact mem_flatMap.mpr ⟨u,a,z⟩⟩
 ·rcases vg.mp c with c | c
  ·exact h.ok y (mem_append_left _ c)
  ·have:=KU N.s.w c;exact⟨by lia,this.2⟩
 ·have b:=h.bnd;have w:=j3U N O f.1 s.2;rw[vi,sum_append,uy,map_nil,ux,sum_nil]at b;rw[vi,sum_append];lia
theorem RgS.done(h:RgS ps gs W R F [])(y:Int):R y↔y∈F:=by
 rw[h.inv];exact⟨fun z=>z.elim id (fun⟨_,a,_⟩=>nomatch a),.inl⟩
end
def TlA(C:Addr)(H:Hp)(a:Addr)(d:Mb):Prop:=∃z,TalAt C H a z d.ps d.gs d.W
theorem MbOk.tg{d:Mb}(k:MbOk d){c:List Int}(b:∀y,y∈c↔0<d.W.getD (d.ps.length-1) 0/\y∈RB d.ps d.gs d.W (d.ps.length-1) 0):Tg c d.L d.R:=by
 have g:=k.sn.ne;refine⟨(k.sn.g (show d.n<_ by unfold Mb.n;lia)).1,fun y f=>k.rb y ((b y).mp f).2,fun y=>⟨?_,?_⟩⟩
 ·rintro⟨w,a,e⟩;exact⟨w,(b w).mpr a,e⟩
 ·rintro⟨w,a,e⟩;exact⟨w,(b w).mp a,e⟩
theorem j3M{ds:List Mb}{i:Nat}{d:Mb}(b:ds[i]?=some d):(fun y=>(∀e∈ds.take i,e.R y)/\d.R y)=fun y=>∀e∈ds.take (i+1),Mb.R e y:=by
 funext y;rw[take_snoc b];refine propext ⟨fun h e a=>?_,fun h=>⟨fun e a=>h e (mem_append_left _ a),h d (mem_append_right _ vq)⟩⟩;rcases vg.mp a with z | z
 ·exact h.1 e z
 ·rw[vo.mp z];exact h.2
noncomputable def cnd(b T z:Int):Int:=b+(z-b)%T
section
variable{ds:List Mb}{B:List Int}{T b:Int}
theorem j3f(h:Tg B T (fun y=>∀d∈ds,d.R y))(e:B=[]):MeetR ds b .non:=.no rfl fun y c=>by
 obtain⟨z,a,_⟩:=(h.s y).mp c;rw[e]at a;exact nomatch a
theorem j1G(h:Tg B T (fun y=>∀d∈ds,d.R y))(l:T<=10^190){m:Int}(k:LsI (B.map (cnd b T)) m):MeetR ds b (.int m):=by
 have v:=h.t1;have c:∀z,b<=cnd b T z/\cnd b T z<=b+T/\T ∣ cnd b T z-z:=fun z=>by
  have s:=vd (z-b) (show T≠0 by lia);have t:=ve (z-b) (show 0<T by lia);have u:=Int.emod_add_mul_ediv (z-b) T;unfold cnd;exact⟨by lia,by lia,⟨-((z-b)/T),by rw[Int.mul_neg];lia⟩⟩
 obtain⟨z,j,rfl⟩:=vL.mp k.1;have e:=c z;refine .yes _ rfl e.1 (by lia) ((h.s _).mpr ⟨z,j,e.2.2⟩) fun y p i=>?_
 obtain⟨f,a,d⟩:=(h.s y).mp i;refine vZ (k.2 _ (vL.mpr ⟨f,a,rfl⟩)) ?_;obtain⟨q,r⟩:=d;unfold cnd;rw[show f-b=(y-b)+T*(-q) by rw[Int.mul_neg];lia,Int.add_mul_emod_self_left];have n:=Int.emod_add_mul_ediv (y-b) T;have g:0<=(y-b)/T:=Int.ediv_nonneg (by lia) (by lia);have o:=vO (show 0<=T by lia) g;lia
end
theorem max0(t:Int):(if(0:Int)>t then 0 else t)=max t 0:=by
 split<;>lia
section
variable{fs:List Fn}{names:List Str}{x:Str}
variable{a:Int}
end
end Rm
namespace Ct
end Ct
namespace Rm
open PySem PySem.Spec PyProof.Rows L2
inductive sp_goneE(vs:List V)(H:Hp)(Q:VK)(xk:XK):Prop
 | mk (b pl pp:Addr) (las pas:List Addr) (ls:List (Str×Int)) (ps:List (Str×Fm)) (gs:List Int) (hs:List (List Int)) (t:Int) (_:vs=[.ref b,.int t]) (_:BookAt H b pl pp las pas ls ps) (_:Sn ls ps gs hs) (_:0<=t) (_:∀H',Same H H'->Q (.int (t%gs.getD (ps.length-1) 0)) H'):sp_goneE vs H Q xk
inductive sp_ringsE(vs:List V)(H:Hp)(Q:VK)(xk:XK):Prop
 | mk (b pl pp:Addr) (las pas:List Addr) (ls:List (Str×Int)) (ps:List (Str×Fm)) (gs:List Int) (hs:List (List Int)) (t:Int) (_:vs=[.ref b,.int t]) (_:BookAt H b pl pp las pas ls ps) (_:Sn ls ps gs hs) (_:0<=t) (_:∀(l:Addr) (H':Hp),Same H H'->H l=none->H' l=some (.lst ((ringsW ps gs (t%gs.getD (ps.length-1) 0)).map V.str))->Q (.ref l) H'):sp_ringsE vs H Q xk
noncomputable def stepR(W:List Int)(r:Nat->Int->Int)(y:Pr4):Int:=y.2.2.1*W.getD y.1 0+(match y.2.2.2 with | some u=>r y.1 u | none=>0)
noncomputable def raL(pc:Nat->List Pc)(gs W:List Int):Nat->Nat->Int->Int
 | 0,_,_=>0
 | n+1,i,t=>if pc i=[]then(if 0<t then W.getD i 0 else 0)else((prg gs t (pc i)).map (stepR W (raL pc gs W n))).sum
noncomputable def RA(ps:List (Str×Fm))(gs W:List Int)(i:Nat)(t:Int):Int:=raL (pcB ps gs) gs W (i+1) i t
noncomputable def cntR(x:Str)(ps:List (Str×Fm))(gs:List Int)(i:Nat)(t:Int):Int:=(((reach ps gs i t).flatMap (ringX ps)).count x:Nat)
theorem zr{a:Type}{f g:a->Int}{l:List a}(h:∀x∈l,f x=g x):(l.map f).sum=(l.map g).sum:=by rw[map_congr_left h]
section
variable{ls:List (Str×Int)}{ps:List (Str×Fm)}{gs W:List Int}{hs:List (List Int)}{x:Str}
theorem Wi(a:WfB ls ps){i:Nat}{t:Int}{y:Pr4}(h:y∈prg gs t (pcB ps gs i)):y.1<i:=by
 obtain⟨q,b,e⟩:=Z4 h;rw[kS e];exact qi a b
theorem Wm(a:WfB ls ps):∀{n m i:Nat} {t:Int},i<n->i<m->raL (pcB ps gs) gs W n i t=raL (pcB ps gs) gs W m i t
 | 0,_,_,_,h,_=>uB h (Nat.not_lt_zero _)
 | _,0,_,_,_,h=>uB h (Nat.not_lt_zero _)
 | n+1,m+1,i,t,h1,h2=>by
  unfold raL;split
  ·rfl
  ·refine zr fun y b=>?_
   have:=Wi a b;unfold stepR;split
   ·rw[Wm a (show y.1<n by lia) (show y.1<m by lia)]
   ·rfl
theorem QH{i:Nat}{t:Int}(h:pcB ps gs i=[]):RA ps gs W i t=if 0<t then W.getD i 0 else 0:=by
 unfold RA raL;rw[vc h]
noncomputable def cQ(ps:List (Str×Fm))(gs W:List Int)(t:Int)(q:Pc):Int:=if q.2.2<=t then ov gs t q*W.getD q.1 0+(if ov gs t q<q.2.1 then RA ps gs W q.1 (t-q.2.2-ov gs t q*gs.getD q.1 0)else 0)else 0
theorem j2t{f:Pc->Option Pr4}{g:Pr4->Int}{c:Pc->Int}(a:∀q,f q=none->c q=0)(b:∀q y,f q=some y->c q=g y):∀d:List Pc,((d.filterMap f).map g).sum=(d.map c).sum
 | []=>rfl
 | q::r=>by
  rw[uy,ux,<-j2t a b r];cases e:f q with
  | none=>rw[filterMap_cons_none e,a q e,uv]
  | some y=>rw[filterMap_cons_some e,uy,ux,b q y e]
theorem yG(f:WfB ls ps){i:Nat}{t:Int}(h:¬pcB ps gs i=[]):RA ps gs W i t=((pcB ps gs i).map (cQ ps gs W t)).sum:=by
 have e:RA ps gs W i t=((prg gs t (pcB ps gs i)).map (stepR W (RA ps gs W))).sum:=by
  unfold RA;rw[raL,vb h];refine zr fun y a=>?_
  have:=Wi f a;unfold stepR;split
  ·rw[Wm f (show y.1<i by lia) (show y.1<y.1+1 by lia)]
  ·rfl
 rw[e];unfold prg;refine j2t (fun q d=>?_) (fun q y a=>?_) _
 ·unfold prg1 at d;unfold cQ;split at d
  ·cases d
  ·rename_i c;rw[vb c]
 ·unfold prg1 at a;unfold cQ;split at a
  ·rename_i c;rw[vc c];injection a with a;subst a;unfold stepR;dsimp only;by_cases b:ov gs t q<q.2.1
   ·rw[vc b,vc b]
   ·rw[vb b,vb b]
  ·cases a
theorem j08{g:Nat->Int}:∀{is:List Nat} {b:Int} {q:Pc},(∀j∈is,0<=gs.getD j 0)->q∈rowPc gs is b->q.2.2+gs.getD q.1 0<=b+(is.map fun j=>gs.getD j 0).sum
 | [],_,_,_,h=>nomatch h
 | j::r,b,q,h0,h=>by
  have e:0<=(r.map fun j=>gs.getD j 0).sum:=by
   cases r with
   | nil=>exact vB _
   | cons a s=>
    refine(j1B (l:=(a::s).map fun j=>gs.getD j 0) (fun y d=>?_) (vL.mpr ⟨a,vq,rfl⟩)).2;obtain⟨k,c,rfl⟩:=vL.mp d;exact h0 k (vp _ c)
  rw[uy,ux];rcases mem_cons.mp h with rfl | h
  ·show b+gs.getD j 0<=_;lia
  ·have:=j08 (g:=g) (fun k c=>h0 k (vp _ c)) h;lia
theorem Sn.fit2(N:Sn ls ps gs hs){i:Nat}{q:Pc}(h:q∈pcB ps gs i):q.2.2+q.2.1*gs.getD q.1 0<=gs.getD i 0:=by
 have m:=N.fit h;by_cases b:q.2.2=0
 ·lia
 unfold pcB at h;split at h
 case h_2=>exact nomatch h
 rename_i p hp;have d:=(N.s.ln i p hp).2;have f:∀k∈inP ps p.2,1<=gs.getD k 0:=fun k l=>by
  have:=N.s.w.inP_lt hp l;have:=(vx.mp hp).1;exact(N.g (show k<ps.length by lia)).1
 unfold pcsI at h;split at h
 ·rename_i k y e;split at h
  ·exact nomatch h
  ·rename_i j r ein;have a:k*gs.getD j 0=gs.getD i 0:=d _ (by rw[e]at ein|-;rw[ein];exact⟨_,rfl,rfl⟩);rcases mem_cons.mp h with rfl | h
   ·exact uB rfl b
   ·split at h
    ·rw[vo.mp h,<-a];show gs.getD j 0+(k-1)*gs.getD j 0<=_;rw[Int.sub_mul];lia
    ·exact nomatch h
 ·rename_i ns e;have a:=d ((inP ps p.2).map fun j=>gs.getD j 0).sum (by rw[e];rfl);have:=j08 (g:=fun _=>0) (fun j c=>by have:=f j c;lia) h;rw[(Z5 h).2,Int.one_mul,<-a];lia
 ·obtain⟨j,c,rfl⟩:=vL.mp h;exact uB rfl b
theorem kQ{i:Nat}{p:Str×Fm}(a:ps[i]?=some p)(h:¬pcB ps gs i=[]):ownW x p.2=0:=by
 unfold ownW;split
 ·rename_i y n e;exfalso;apply h;unfold pcB;rw[a];show pcsI gs p.2 (inP ps p.2)=[]
  rw[e];rfl
 ·rfl
theorem ZX(N:Sn ls ps gs hs):∀i,RA ps gs W i 0=0:=by
 intro i
 induction i using Nat.strongRecOn with
 | ind i ih=>
  by_cases c:pcB ps gs i=[]
  ·rw[QH c];rfl
  ·rw[yG N.s.w c];have:∀q∈pcB ps gs i,cQ ps gs W 0 q=0:=fun q e=>by
    have d:=N.pcOk e;have f:=qi N.s.w e;unfold cQ;split
    ·have b:q.2.2=0:=by have:=d.2.2.2.2.2.1;lia
     have o:ov gs 0 q=0:=by
      unfold ov;rw[b,show(0:Int)-0=0 from rfl,Int.zero_ediv,vb (by have:=d.2.2.2.1;lia)]
     rw[o,b,vc (by have:=d.2.2.2.1;lia),Int.zero_mul,Int.zero_mul,uv,show(0:Int)-0-0=0 from rfl];exact ih q.1 f
    ·rfl
   rw[map_congr_left this];generalize pcB ps gs i=l
   induction l with
   | nil=>rfl
   | cons a r ih2=>rw[uy,ux,ih2];rfl
theorem zi(N:Sn ls ps gs hs)(O:WPre ps gs x W ps.length){i:Nat}(hi:i<ps.length):RA ps gs W i (gs.getD i 0)=W.getD i 0:=by
 have e:=(N.g hi).1;by_cases c:pcB ps gs i=[]
 ·rw[QH c,vc (by lia)]
 ·rw[yG N.s.w c,O.2 i _ hi (vz hi),kQ (vz hi) c,uv];unfold wSum;refine zr fun q b=>?_
  have a:=N.pcOk b;have d:=N.fit2 b;have f:=Int.mul_pos (show 0<q.2.1 by have:=a.2.2.2.1;lia) (show 0<gs.getD q.1 0 by have:=a.2.1;lia);unfold cQ;rw[vc (by lia)];have o:ov gs (gs.getD i 0) q=q.2.1:=by
   unfold ov;have:q.2.1<=(gs.getD i 0-q.2.2)/gs.getD q.1 0:=(Int.le_ediv_iff_mul_le (by have:=a.2.1;lia)).mpr (by lia);split<;>lia
  rw[o,vb (Int.lt_irrefl _),ut]
noncomputable def nQ(x:Str)(ps:List (Str×Fm))(gs:List Int)(t:Int)(q:Pc):Int:=if q.2.2<=t/\ov gs t q<q.2.1 then cntR x ps gs q.1 (t-q.2.2-ov gs t q*gs.getD q.1 0)else 0
theorem j2b{i:Nat}{g:Int}(h:1<=g):ringX ps (i,g)=[]:=by
 unfold ringX;split
 ·exact vb (by show¬g=0;lia)
 ·rfl
theorem j30(a b:List Str):((a++b).count x:Int)=(a.count x:Int)+(b.count x:Int):=by rw[List.count_append];lia
theorem Yq(N:Sn ls ps gs hs){i:Nat}{t:Int}(h:¬(gs.getD i 0<=t\/pcB ps gs i=[])):cntR x ps gs i t=((pcB ps gs i).map (nQ x ps gs t)).sum:=by
 unfold cntR;rw[yv N.s.w h];have g:∀b:List Pc,(∀q∈b,q∈pcB ps gs i)->(((((b.filterMap (prg1 gs t)).flatMap (wth1 gs)).flatMap fun y=>reach ps gs y.1 y.2).flatMap (ringX ps)).count x:Int)=(b.map (nQ x ps gs t)).sum:=by
  intro b
  induction b with
  | nil=>intro _;rfl
  | cons q r f=>
   intro d;have l:=N.pcOk (d q vq);have f:=f fun y k=>d y (vp _ k)
   rw[uy,ux,<-f];unfold nQ;by_cases c:q.2.2<=t
   ·have e:prg1 gs t q=some (q.1,q.2.2,ov gs t q,if ov gs t q<q.2.1 then some (t-q.2.2-ov gs t q*gs.getD q.1 0)else none):=vc c;rw[filterMap_cons_some e,flatMap_cons,flatMap_append,flatMap_append,j30];congr 1;have j:((wth1 gs (q.1,q.2.2,ov gs t q,if ov gs t q<q.2.1 then some (t-q.2.2-ov gs t q*gs.getD q.1 0)else none)).flatMap fun y=>reach ps gs y.1 y.2).flatMap (ringX ps)=if ov gs t q<q.2.1 then(reach ps gs q.1 (t-q.2.2-ov gs t q*gs.getD q.1 0)).flatMap (ringX ps)else[]:=by
     unfold wth1;rw[flatMap_append,flatMap_append];have z:((if 0<ov gs t q then[(q.1,gs.getD q.1 0)]else[]).flatMap fun y:Nat×Int=>reach ps gs y.1 y.2).flatMap (ringX ps)=[]:=by
      split
      ·rw[flatMap_cons,flatMap_nil,append_nil,QC (.inl (vB _)),flatMap_cons,flatMap_nil,append_nil];exact j2b l.2.1
      ·rfl
     have m:((if 0<(q.1,q.2.2,ov gs t q,if ov gs t q<q.2.1 then some (t-q.2.2-ov gs t q*gs.getD q.1 0)else none).2.2.1 then[((q.1,q.2.2,ov gs t q,if ov gs t q<q.2.1 then some (t-q.2.2-ov gs t q*gs.getD q.1 0)else none).1,gs.getD q.1 0)]else[]).flatMap fun y:Nat×Int=>reach ps gs y.1 y.2).flatMap (ringX ps)=[]:=z;rw[m,List.nil_append];by_cases a:ov gs t q<q.2.1
     ·rw[vc a,vc a];show(([(q.1,t-q.2.2-ov gs t q*gs.getD q.1 0)].flatMap fun y:Nat×Int=>reach ps gs y.1 y.2).flatMap (ringX ps))=_;rw[flatMap_cons,flatMap_nil,append_nil]
     ·rw[vb a,vb a];rfl
    rw[j];by_cases a:ov gs t q<q.2.1
    ·rw[vc a,vc ⟨c,a⟩];rfl
    ·rw[vb a,vb fun z=>a z.2];rfl
   ·have e:prg1 gs t q=none:=vb c;rw[filterMap_cons_none e,vb fun z=>c z.1,uv]
 exact g _ fun q d=>d
theorem j0d{b:Type}{f g h:b->Int}:∀{l:List b},(∀y∈l,f y=g y+h y)->(l.map f).sum=(l.map g).sum+(l.map h).sum
 | [],_=>rfl
 | a::r,e=>by
  rw[uy,uy,uy,ux,ux,ux,j0d fun y c=>e y (vp _ c),e a vq];lia
noncomputable def fQ(w T g:Int)(r:Int->Int)(u:Int):Int:=if u/g<T then u/g*w+r (u%g)else T*w
theorem XY{w T g:Int}{r c:Int->Int}{u:Int}(k:0<g)(o:0<=u)(l:r 0=0)(n:r g=w)(st:∀v,0<=v->v<g->r (v+1)=r v+c v):fQ w T g r (u+1)=fQ w T g r u+(if u/g<T then c (u%g)else 0):=by
 have e:=Int.emod_add_mul_ediv u g;have h:=vd u (show g≠0 by lia);have i:=ve u k;have f:=st _ h i;unfold fQ;rcases Int.lt_or_le (u%g+1) g with z | z
 ·have d:(u+1)/g=u/g:=by
   rw[show u+1=u%g+1+g*(u/g) by lia,Int.add_mul_ediv_left _ _ (by lia),Int.ediv_eq_zero_of_lt (by lia) z,uv]
  have m:(u+1)%g=u%g+1:=by
   rw[show u+1=u%g+1+g*(u/g) by lia,Int.add_mul_emod_self_left,Int.emod_eq_of_lt (by lia) z]
  rw[d,m];split
  ·rw[f];lia
  ·lia
 ·have j:u%g+1=g:=by lia
  have d:(u+1)/g=u/g+1:=by
   rw[show u+1=0+g*(u/g+1) by rw[Int.mul_add];lia,Int.add_mul_ediv_left _ _ (by lia),Int.zero_ediv,uv]
  have m:(u+1)%g=0:=by
   rw[show u+1=0+g*(u/g+1) by rw[Int.mul_add];lia,Int.add_mul_emod_self_left,Int.zero_emod]
  rw[d,m,l];rw[j,n]at f;by_cases a:u/g<T
  ·rw[vc a,vc a];by_cases b:u/g+1<T
   ·rw[vc b,Int.add_mul];lia
   ·rw[vb b,show T=u/g+1 by lia,Int.add_mul];lia
  ·rw[vb a,vb a,vb (by lia)];lia
theorem j1X{q:Pc}{t:Int}:ov gs t q=if(t-q.2.2)/gs.getD q.1 0<q.2.1 then(t-q.2.2)/gs.getD q.1 0 else q.2.1:=by
 unfold ov;split<;>split<;>lia
theorem Wn{u g:Int}:u-u/g*g=u%g:=by
 have:=Int.emod_add_mul_ediv u g;rw[Int.mul_comm (u/g) g];lia
theorem j1c{q:Pc}{t:Int}(a:PcOk gs q)(h:q.2.2<=t):cQ ps gs W t q=fQ (W.getD q.1 0) q.2.1 (gs.getD q.1 0) (RA ps gs W q.1) (t-q.2.2):=by
 unfold cQ fQ;rw[vc h,j1X];by_cases c:(t-q.2.2)/gs.getD q.1 0<q.2.1
 ·rw[vc c,vc c,vc c,Wn]
 ·rw[vb c,vb c,vb (Int.lt_irrefl _),ut]
theorem j1M{q:Pc}{t:Int}(a:PcOk gs q)(h:q.2.2<=t):nQ x ps gs t q=if(t-q.2.2)/gs.getD q.1 0<q.2.1 then cntR x ps gs q.1 ((t-q.2.2)%gs.getD q.1 0)else 0:=by
 unfold nQ;rw[j1X];by_cases c:(t-q.2.2)/gs.getD q.1 0<q.2.1
 ·rw[vc c,vc ⟨h,c⟩,vc c,Wn]
 ·rw[vb c,vb (fun z=>Int.lt_irrefl _ z.2),vb c]
theorem ZW(N:Sn ls ps gs hs)(O:WPre ps gs x W ps.length):∀(i:Nat),i<ps.length->∀t,0<=t->t<gs.getD i 0->RA ps gs W i (t+1)=RA ps gs W i t+cntR x ps gs i t:=by
 intro i
 induction i using Nat.strongRecOn with
 | ind i ih=>
  intro e t v w;by_cases c:pcB ps gs i=[]
  ·have m:W.getD i 0=ownW x ps[i].2:=by
    rw[O.2 i _ e (vz e),c];exact ut _
   rw[QH c,QH c,vc (by lia),m];unfold cntR;rw[QC (.inr c),flatMap_cons,flatMap_nil,append_nil];unfold ringX ownW;rw[vz e];generalize ps[i]=p;obtain⟨y,f⟩:=p;cases f with
   | ring z n=>
    show(if z=x then(1:Int)else 0)=(if 0<t then(if z=x then(1:Int)else 0)else 0)+(((if t=0 then[z]else[]):List Str).count x:Int);by_cases h:t=0
    ·subst h;rw[vb (Int.lt_irrefl _),vc rfl,uv];by_cases d:z=x
     ·rw[vc d,d];simp
     ·rw[vb d,List.count_singleton];simp[d]
    ·rw[vc (show 0<t by lia),vb h];simp
   | _=>simp
  ·rw[yG N.s.w c,yG N.s.w c,Yq N (fun z=>z.elim (fun z=>by lia) c)];refine j0d fun q j=>?_
   have a:=N.pcOk j;have o:=qi N.s.w j;have k:q.1<ps.length:=by lia
   have u:=a.2.1;have s:=a.2.2.2.1;by_cases b:q.2.2<=t
   ·rw[j1c a (show q.2.2<=t+1 by lia),j1c a b,j1M a b,show t+1-q.2.2=t-q.2.2+1 by lia];exact XY (by lia) (by lia) (ZX N q.1) (zi N O k) (ih q.1 o k)
   ·have r:nQ x ps gs t q=0:=vb fun z=>b z.1
    have l:cQ ps gs W t q=0:=vb b;rw[r,l];by_cases g:q.2.2<=t+1
    ·rw[j1c a g,show t+1-q.2.2=0 by lia];unfold fQ;rw[Int.zero_ediv,vc (by lia),Int.zero_mul,Int.zero_emod,ZX N]
    ·exact vb g
noncomputable def rsts(ys:List Pr4):List (Nat×Int):=ys.filterMap fun y=>y.2.2.2.map fun r=>(y.1,r)
noncomputable def ovs(W:List Int)(ys:List Pr4):Int:=(ys.map fun y=>y.2.2.1*W.getD y.1 0).sum
theorem xr(r:Nat->Int->Int):∀ys:List Pr4,(ys.map (stepR W r)).sum=ovs W ys+((rsts ys).map fun s=>r s.1 s.2).sum
 | []=>rfl
 | y::t=>by
  have a:=xr r t;unfold ovs rsts at a|-;rw[uy,ux,a,uy,ux];unfold stepR;cases e:y.2.2.2 with
  | none=>
   rw[filterMap_cons_none (by rw[e];rfl)];show y.2.2.1*W.getD y.1 0+0+_=_;lia
  | some u=>
   rw[filterMap_cons_some (b:=(y.1,u)) (by rw[e];rfl),uy,ux];show y.2.2.1*W.getD y.1 0+r y.1 u+_=_+(r y.1 u+_);lia
theorem j2Q(a:WfB ls ps){i:Nat}{t:Int}:RA ps gs W i t=(if pcB ps gs i=[]then(if 0<t then W.getD i 0 else 0)else 0)+(ovs W (prg gs t (pcB ps gs i))+((rsts (prg gs t (pcB ps gs i))).map fun s=>RA ps gs W s.1 s.2).sum):=by
 by_cases h:pcB ps gs i=[]
 ·rw[QH h,vc h,h];show _=_+(0+0);lia
 ·rw[vb h,uv,<-xr];unfold RA;rw[raL,vb h];refine zr fun y b=>?_
  have:=Wi a b;unfold stepR;split
  ·rw[Wm a (show y.1<i by lia) (show y.1<y.1+1 by lia)]
  ·rfl
theorem xc{t:Int}{d:List Pc}{s:Nat×Int}(h:s∈rsts (prg gs t d)):∃q∈d,s.1=q.1/\q.2.2<=t/\ov gs t q<q.2.1/\s.2=t-q.2.2-ov gs t q*gs.getD q.1 0:=by
 obtain⟨y,g,e⟩:=mem_filterMap.mp h;obtain⟨q,f,a⟩:=Z4 g;obtain⟨r,b,rfl⟩:=vf.mp e;unfold prg1 at a;split at a
 ·rename_i c;injection a with a;subst a;dsimp only at b|-;split at b
  ·rename_i c';exact⟨q,f,rfl,c,c',(vM b).symm⟩
  ·cases b
 ·cases a
theorem xf:∀ys:List Pr4,((rsts ys).map fun x=>nodes ps gs x.1 x.2).sum<=((ys.flatMap (wth1 gs)).map fun x=>nodes ps gs x.1 x.2).sum
 | []=>va _
 | y::t=>by
  have a:=xf t;unfold rsts at a|-;rw[flatMap_cons,vi,sum_append];unfold wth1;rw[vi,sum_append];cases e:y.2.2.2 with
  | none=>
   rw[filterMap_cons_none (by rw[e];rfl)];unfold wth1 at a;lia
  | some u=>
   rw[filterMap_cons_some (b:=(y.1,u)) (by rw[e];rfl),uy,ux];show nodes ps gs y.1 u+_<=_+(nodes ps gs y.1 u+0)+_;unfold wth1 at a;lia
theorem kY(N:Sn ls ps gs hs){i:Nat}{t:Int}:((rsts (prg gs t (pcB ps gs i))).map fun x=>nodes ps gs x.1 x.2).sum<nodes ps gs i t:=by
 by_cases c:t<gs.getD i 0
 ·have:=Yz N.s.w (gs:=gs) (i:=i) c;have:=xf (ps:=ps) (gs:=gs) (prg gs t (pcB ps gs i));unfold wth at *;lia
 ·have e:rsts (prg gs t (pcB ps gs i))=[]:=by
   apply List.eq_nil_iff_forall_not_mem.mpr;intro s a;obtain⟨q,d,_,g,b,_⟩:=xc a;have f:=N.pcOk d;have h:=N.fit2 d;have:q.2.1<=(t-q.2.2)/gs.getD q.1 0:=(Int.le_ediv_iff_mul_le (by have:=f.2.1;lia)).mpr (by lia);unfold ov at b;split at b<;>lia
  rw[e];exact Z6 i t
theorem j3D(N:Sn ls ps gs hs){i:Nat}{t:Int}(hi:i<ps.length)(m:t<=10^61){s:Nat×Int}(h:s∈rsts (prg gs t (pcB ps gs i))):s.1<ps.length/\0<=s.2/\s.2<=10^61:=by
 obtain⟨q,d,l,k,b,e⟩:=xc h;have a:=N.pcOk d;have n:=qi N.s.w d;have f:ov gs t q=(t-q.2.2)/gs.getD q.1 0:=by
  rw[j1X]at b|-;split at b
  ·rename_i c;rw[vc c]
  ·lia
 rw[f,Wn]at e;have g:=vd (t-q.2.2) (show gs.getD q.1 0≠0 by have:=a.2.1;lia);have j:=ve (t-q.2.2) (show 0<gs.getD q.1 0 by have:=a.2.1;lia);have:=a.2.2.1;exact⟨by lia,by lia,by lia⟩
inductive sp_aheadR(C:Addr)(vs:List V)(H:Hp)(Q:VK)(xk:XK):Prop
 | mk (a:Addr) (z:Tq) (ls:List (Str×Int)) (ps:List (Str×Fm)) (gs W:List Int) (hs:List (List Int)) (x:Str) (t:Int) (_:vs=[.ref a,.int t]) (_:TalAt C H a z ps gs W) (_:Sn ls ps gs hs) (_:WPre ps gs x W ps.length) (_:0<=t) (_:t<=gs.getD (ps.length-1) 0+1) (_:∀H',Same H H'->Q (.int (RA ps gs W (ps.length-1) t)) H'):sp_aheadR C vs H Q xk
structure AhS(ps:List (Str×Fm))(gs W:List Int)(G to:Int)(S:List (Nat×Int)):Prop where
 e:to+(S.map fun s=>RA ps gs W s.1 s.2).sum=G
 ok:∀s∈S,s.1<ps.length/\0<=s.2/\s.2<=10^61
 n:(S.map fun s=>nodes ps gs s.1 s.2).sum<=5000
theorem AhS.next(N:Sn ls ps gs hs){G c:Int}{a:List (Nat×Int)}{s:Nat×Int}(h:AhS ps gs W G c (a++[s])):AhS ps gs W G (c+(if pcB ps gs s.1=[]then(if 0<s.2 then W.getD s.1 0 else 0)else 0)+ovs W (prg gs s.2 (pcB ps gs s.1))) (a++rsts (prg gs s.2 (pcB ps gs s.1))):=by
 have b:=h.ok s (mem_append_right _ vq);have e:=h.e;have n:=h.n;have f:=kY (i:=s.1) (t:=s.2) N;rw[vi,sum_append,uy,map_nil,ux,sum_nil]at e n;rw[j2Q N.s.w]at e;refine⟨?_,fun y d=>?_,?_⟩
 ·rw[vi,sum_append];lia
 ·rcases vg.mp d with z | z
  ·exact h.ok y (mem_append_left _ z)
  ·exact j3D N b.1 b.2.2 z
 ·rw[vi,sum_append];lia
theorem j0U{ys:List Pr4}{k:Nat}{y:Pr4}(h:ys[k]?=some y)(e:y.2.2.2=none):rsts (ys.take (k+1))=rsts (ys.take k):=by
 unfold rsts;rw[take_snoc h,filterMap_append,filterMap_cons_none (by rw[e];rfl),List.filterMap_nil,append_nil]
theorem j0V{ys:List Pr4}{k:Nat}{y:Pr4}{r:Int}(h:ys[k]?=some y)(e:y.2.2.2=some r):rsts (ys.take (k+1))=rsts (ys.take k)++[(y.1,r)]:=by
 unfold rsts;rw[take_snoc h,filterMap_append,filterMap_cons_some (b:=(y.1,r)) (by rw[e];rfl),List.filterMap_nil]
theorem j1Y{ys:List Pr4}{k:Nat}{y:Pr4}(h:ys[k]?=some y):ovs W (ys.take (k+1))=ovs W (ys.take k)+y.2.2.1*W.getD y.1 0:=by
 unfold ovs;rw[take_snoc h,vi,sum_append,uy,map_nil,ux,sum_nil,ut]
theorem j4z(N:Sn ls ps gs hs){i:Nat}{t:Int}{y:Pr4}(h:y∈prg gs t (pcB ps gs i)):0<=y.2.2.1/\y.2.2.1<=10^18:=by
 obtain⟨q,b,e⟩:=Z4 h;have a:=N.pcOk b;unfold prg1 at e;split at e
 ·rename_i c;injection e with e;subst e;show 0<=ov gs t q/\ov gs t q<=_;have:=Int.ediv_nonneg (show 0<=t-q.2.2 by lia) (show 0<=gs.getD q.1 0 by have:=a.2.1;lia);have:=a.2.2.2.1;have:=a.2.2.2.2.1;unfold ov;split<;>lia
 ·cases e
theorem j2R(N:Sn ls ps gs hs)(O:WPre ps gs x W ps.length){i:Nat}(hi:i<ps.length){t:Int}(f:gs.getD i 0<=t):RA ps gs W i t=W.getD i 0:=by
 have e:=(N.g hi).1;by_cases c:pcB ps gs i=[]
 ·rw[QH c,vc (by lia)]
 ·rw[yG N.s.w c,O.2 i _ hi (vz hi),kQ (vz hi) c,uv];unfold wSum;refine zr fun q b=>?_
  have a:=N.pcOk b;have d:=N.fit2 b;have g:=Int.mul_pos (show 0<q.2.1 by have:=a.2.2.2.1;lia) (show 0<gs.getD q.1 0 by have:=a.2.1;lia);unfold cQ;rw[vc (by lia)];have o:ov gs t q=q.2.1:=by
   unfold ov;have:q.2.1<=(t-q.2.2)/gs.getD q.1 0:=(Int.le_ediv_iff_mul_le (by have:=a.2.1;lia)).mpr (by lia);split<;>lia
  rw[o,vb (Int.lt_irrefl _),ut]
noncomputable def rungN(x:Str)(ps:List (Str×Fm))(gs:List Int):Nat->Int
 | 0=>0
 | n+1=>rungN x ps gs n+(((ringsW ps gs (n:Int)).count x:Nat):Int)
theorem K4(N:Sn ls ps gs hs)(O:WPre ps gs x W ps.length):∀n:Nat,(n:Int)<=gs.getD (ps.length-1) 0->RA ps gs W (ps.length-1) (n:Int)=rungN x ps gs n
 | 0,_=>ZX N _
 | n+1,h=>by
  have a:=N.ne;rw[show((n+1:Nat):Int)=(n:Int)+1 by lia]at h|-;rw[ZW N O _ (by lia) n (by lia) (by lia),K4 N O n (by lia)];rfl
theorem WE(N:Sn ls ps gs hs)(O:WPre ps gs x W ps.length){t:Int}(h:0<=t):RA ps gs W (ps.length-1) t=rungN x ps gs (min t (gs.getD (ps.length-1) 0)).toNat:=by
 have b:=N.ne;have a:=(N.g (show ps.length-1<ps.length by lia)).1;rcases Int.le_total t (gs.getD (ps.length-1) 0)with z | z
 ·rw[show min t (gs.getD (ps.length-1) 0)=t by lia,<-K4 N O t.toNat (by lia),Int.toNat_of_nonneg h]
 ·rw[show min t (gs.getD (ps.length-1) 0)=gs.getD (ps.length-1) 0 by lia,<-K4 N O _ (by lia),Int.toNat_of_nonneg (by lia),j2R N O (by lia) z,zi N O (by lia)]
theorem j1p{z:Tq}{g:Int}:(fldR z g).lookup ("ahead" : Str)=none:=(j6 (by decide +kernel)).trans ((j6 (by decide +kernel)).trans ((j6 (by decide +kernel)).trans ((j6 (by decide +kernel)).trans rfl)))
inductive sp_ringC(vs:List V)(H:Hp)(Q:VK)(xk:XK):Prop
 | mk (b pl pp:Addr) (las pas:List Addr) (ls:List (Str×Int)) (ps:List (Str×Fm)) (gs:List Int) (hs:List (List Int)) (x:Str) (t:Int) (_:vs=[.ref b,.str x,.int t]) (_:BookAt H b pl pp las pas ls ps) (_:Sn ls ps gs hs) (_:Ws.isW x=true) (_:(∀p∈ps,FmWs p.2)) (_:0<=t) (_:t<=gs.getD (ps.length-1) 0+1) (_:∀H',Same H H'->Q (.int (rungN x ps gs (min t (gs.getD (ps.length-1) 0)).toNat)) H'):sp_ringC vs H Q xk
end
section
variable{L:List Str}{fs:List Fn}{M:List (List Int)}{gs:List Int}{names:List Str}{n:Nat}{E:List (List (Int×Int))}
end
section
variable{L:List Str}{fs:List Fn}{M:List (List Int)}{gs:List Int}{names:List Str}{n:Nat}{E:List (List (Int×Int))}
end
section
variable{L:List Str}{fs:List Fn}{M:List (List Int)}{gs:List Int}{names:List Str}
end
end Rm
namespace L2
open PySem PySem.Spec PyProof.Rows
theorem j3w{X:Cx}{K:Frg}{c l:Expr}{a:TE}(e:X.K=K)(b:PE X l a):PI X c l (iTup K a):=by subst e;exact Xu b
end L2
namespace Rm
open PySem PySem.Spec PyProof.Rows L2
inductive sp_poolC(K:Frg)(vs:List V)(H:Hp)(Q:VK)(xk:XK):Prop
 | mk (a:Addr) (ns:List Int) (k:Int) (_:vs=[.ref a,.int k]) (_:SqL K H a (ns.map V.int)) (_:ns.length<=63) (_:0<=k) (_:k<=100) (_:∀(p:Addr) (y:Int) (H':Hp),Same H H'->H p=none->H' p=some (.lst [.int y])->Q (.ref p) H'):sp_poolC K vs H Q xk
def PairC(M:List (List Int))(H:Hp)(v:V):Prop:=v = .non\/∃(p:Addr) (i j:Nat),v = .ref p/\H p=some (.tup [.int (i:Nat),.int (j:Nat)])/\i<M.length/\j<M.length/\M.getD i []≠[]/\M.getD j []≠[]/\∀k∈M.getD i [],¬k∈M.getD j []
inductive sp_pairC(vs:List V)(H:Hp)(Q:VK)(xk:XK):Prop
 | mk (m:Addr) (mas:List Addr) (M:List (List Int)) (at':Int) (_:vs=[.ref m,.int at']) (_:H m=some (.lst (mas.map V.ref))) (_:ListsAt H mas M) (_:(∀ks∈M,ks.length<=8)) (_:1<=M.length) (_:M.length<=60) (_:0<=at') (_:at'<=10^6) (_:∀(v:V) (H':Hp),Same H H'->PairC M H' v->Q v H'):sp_pairC vs H Q xk
noncomputable def abcC:Str:="abcdefghijklnopqrstuvwxyz"
noncomputable def wdC(p k:Nat):Str:=Txt.slice "mmmm" none (some (p:Int))++(⟨#[abcC.cps.toList.getD k 97]⟩:Str)++Txt.slice "mmm" (some (p:Int)) none++("" : Str)
inductive sp_wordC(vs:List V)(H:Hp)(Q:VK)(xk:XK):Prop
 | mk (p k:Nat) (_:vs=[.int (p:Nat),.int (k:Nat)]) (_:p<4) (_:k<25) (_:∀H',Same H H'->Q (.str (wdC p k)) H'):sp_wordC vs H Q xk
structure NmC(p nl m g:Addr)(names:List Str)(n:Nat)(mas:List Addr)(Mv:List (List Int))(gs:List Int)(H:Hp):Prop where
 en:H nl=some (.lst ((names.take n).map V.str))
 em:H m=some (.lst (mas.map V.ref))
 am:ListsAt H mas Mv
 eg:H g=some (.lst (gs.map V.int))
 nn:n<=names.length
 ml:Mv.length=n
 gl:gs.length=n
 n1:1<=n
 n60:n<=60
 m8:∀ks∈Mv,ks.length<=8
 g0:∀j,j<n->1<=gs.getD j 0/\gs.getD j 0<=10^60
 nlp:nl≠p
 nmp:m≠p
 ngp:g≠p
 nap:∀a∈mas,a≠p
theorem NmC.ex{p d m g:Addr}{names:List Str}{n:Nat}{b:List Addr}{c:List (List Int)}{gs:List Int}{H H':Hp}(C:NmC p d m g names n b c gs H)(x:Ex p H H'):NmC p d m g names n b c gs H':=
 ⟨x _ _ C.nlp C.en,x _ _ C.nmp C.em,All2.monoM C.am fun a e f h=>x _ _ (C.nap a e) h,x _ _ C.ngp C.eg,C.nn,C.ml,C.gl,C.n1,C.n60,C.m8,C.g0,C.nlp,C.nmp,C.ngp,C.nap⟩
theorem NmC.at'{p d m g:Addr}{names:List Str}{n:Nat}{a:List Addr}{b:List (List Int)}{gs:List Int}{H:Hp}(C:NmC p d m g names n a b gs H){j:Nat}(c:j<n):atI ((names.take n).map V.str) ((j:Nat):Int)=some (.str (names.getD j ⟨#[]⟩)):=by
 have:=C.nn;refine L2.jL ?_;rw[vv,uf c,vy,vz (by lia)];rfl
def AgB(gs:List Int)(f:Fn):Prop:=∀k j,f = .again k j->k*gs.getD j 0<=10^40\/k<=3
inductive sp_namingC(vs:List V)(H:Hp)(Q:VK)(xk:XK):Prop
 | mk (p nl m g:Addr) (x way most:Int) (names:List Str) (n:Nat) (mas:List Addr) (Mv:List (List Int)) (gs:List Int) (_:vs=[.ref p,.int way,.ref nl,.ref m,.ref g,.int most]) (_:H p=some (.lst [.int x])) (_:NmC p nl m g names n mas Mv gs H) (_:1<=most) (_:most<=10^18) (_:∀(a:Addr) (f:Fn) (y:Int) (H':Hp),Ex p H H'->H' p=some (.lst [.int y])->FormAt H' a (toldF names f)->(∀Ls,PreN Ls Mv n f)->AgB gs f->Q (.ref a) H'):sp_namingC vs H Q xk
structure BkC(b pl pp m g:Addr)(las pas mas:List Addr)(ls:List (Str×Int))(names:List Str)(fs:List Fn)(Mv:List (List Int))(gs:List Int)(H:Hp):Prop where
 bk:BookAt H b pl pp las pas ls (drawnPs names fs)
 em:H m=some (.lst (mas.map V.ref))
 am:ListsAt H mas Mv
 eg:H g=some (.lst (gs.map V.int))
 nn:fs.length<=names.length
 ml:Mv.length=fs.length
 gl:gs.length=fs.length
 n60:fs.length<=60
 m8:∀ks∈Mv,ks.length<=8
 g0:∀j,j<fs.length->1<=gs.getD j 0/\gs.getD j 0<=10^60
 l1:1<=ls.length
 l8:ls.length<=8
inductive sp_formC(vs:List V)(H:Hp)(Q:VK)(xk:XK):Prop
 | mk (p b pl pp m g:Addr) (x most:Int) (las pas mas:List Addr) (ls:List (Str×Int)) (names:List Str) (fs:List Fn) (Mv:List (List Int)) (gs:List Int) (_:vs=[.ref p,.ref b,.ref m,.ref g,.int most]) (_:H p=some (.lst [.int x])) (_:BkC b pl pp m g las pas mas ls names fs Mv gs H) (_:b≠p) (_:pl≠p) (_:pp≠p) (_:m≠p) (_:g≠p) (_:(∀a∈mas,a≠p)) (_:1<=most) (_:most<=10^18) (_:(∀x∈names,Ws.isW x=true)) (_:∀(a:Addr) (f:Fn) (y:Int) (H':Hp),Ex p H H'->H' p=some (.lst [.int y])->FormAt H' a (toldF names f)->PreN (nmsOf ls) Mv fs.length f->AgB gs f->Q (.ref a) H'):sp_formC vs H Q xk
theorem j4U(xs:List Str):PyData.eqv (.list (xs.map PyData.str)) (.list [])=decide (xs=[]):=by
 cases xs<;>simp[PyData.eqv,PyData.eqvAll]
theorem j54{xs:List Str}(h:∀x∈xs,Ws.isW x=true):SeqAt.shaped (.list (xs.map PyData.str))=true:=(Shp.lst (n:=0) (Yb h)).ok (by decide)
theorem j2V{xs:List V}{k:Int}(h:∀v∈xs,∃w:Str,v = .str w/\Ws.isW w=true)(k0:0<=k)(k1:k<(xs.length:Int)):∃w:Str,atI xs k=some (.str w)/\Ws.isW w=true:=by
 obtain⟨j,rfl⟩:∃j:Nat,k=(j:Int):=⟨k.toNat,by lia⟩
 have a:j<xs.length:=by lia
 obtain⟨w,e,b⟩:=h xs[j] (getElem_mem a);exact⟨w,L2.jL (by rw[vz a,e]),b⟩
theorem j4b{xs:List V}{lo hi:Option Int}{v:V}(h:v∈cutV xs lo hi):v∈xs:=mem_of_mem_drop (mem_of_mem_take h)
theorem ZS{f:Nat->Int}{p:Nat->Bool}:∀(l:List Nat),(∀k,p k=false->f k=0)->((l.filter p).map f).sum=(l.map f).sum
 | [],_=>rfl
 | k::l,h=>by
  rw[uz];cases e:p k with
  | true=>rw[vc rfl,uy,uy,ux,ux,ZS l h]
  | false=>rw[vb vG,uy,ux,h k e,uv,ZS l h]
theorem xu{f g:Nat->Int}:∀(l:List Nat),(l.map fun k=>f k+g k).sum=(l.map f).sum+(l.map g).sum
 | []=>rfl
 | k::l=>by
  rw[uy,uy,uy,ux,ux,ux,xu l];lia
theorem Kb{f:Nat->Int}:∀(l:List Nat),(∀k∈l,f k=0)->(l.map f).sum=0
 | [],_=>rfl
 | k::l,h=>by
  rw[uy,ux,h k vq,Kb l fun i a=>h i (vp _ a)];rfl
theorem j0g{g:Nat->Int}{j:Nat}:∀{n:Nat},j<n->((List.range n).map fun k=>if k=j then g k else 0).sum=g j
 | 0,h=>uB h (Nat.not_lt_zero _)
 | n+1,h=>by
  rw[range_succ,vi,sum_append];by_cases c:n=j
  ·subst c;rw[Kb _ fun k a=>vb (by have:=v6.mp a;lia)];show 0+((if n=n then g n else 0)+0)=g n;rw[vc rfl];lia
  ·rw[j0g (n:=n) (by lia)];show g j+((if n=j then g n else 0)+0)=g j;rw[vb c];lia
theorem KZ{g:Nat->Int}{n:Nat}:∀(a:List Nat),(∀j∈a,j<n)->((List.range n).map fun k=>g k*((a.filter fun j=>decide (j=k)).length:Nat)).sum=(a.map g).sum
 | [],_=>Kb _ fun k _=>Int.mul_zero _
 | j::a,h=>by
  have d:=KZ (g:=g) a fun i b=>h i (vp _ b)
  rw[uy,ux,<-d,<-j0g (g:=g) (h j vq),<-xu];congr 1;refine map_congr_left fun k _=>?_
  rw[uz];by_cases c:k=j
  ·subst c;rw[vc rfl,vc (vH rfl),vS];rw[show((((a.filter fun j=>decide (j=k)).length+1:Nat)):Int)=((a.filter fun j=>decide (j=k)).length:Nat)+1 from rfl,Int.mul_add,Int.mul_one];lia
  ·rw[vb c,vb (by rw[vI fun z:j=k=>c z.symm];exact vG),uv]
noncomputable def Fn.tag:Fn->Str
 | .hold _=>"hold"
 | .ring _ _=>"ring"
 | .rise _ _ _=>"raise"
 | .row _=>"row"
 | .side _=>"side"
 | .again _ _=>"again"
noncomputable def Fn.rs:Fn->Bool
 | .row _=>true
 | .side _=>true
 | _=>false
noncomputable def Fn.ag:Fn->Bool
 | .again _ _=>true
 | _=>false
noncomputable def Fn.rz:Fn->Bool
 | .rise _ _ _=>true
 | _=>false
noncomputable def Fn.x:Fn->Str
 | .rise x _ _=>x
 | _=>⟨#[]⟩
noncomputable def tupF(names:List Str)(b:Addr):Fn->List V
 | .hold n=>[.str "hold",.int n]
 | .ring x n=>[.str "ring",.str x,.int n]
 | .rise x h n=>[.str "raise",.str x,.int h,.int n]
 | .row _=>[.str "row",.ref b]
 | .side _=>[.str "side",.ref b]
 | .again k j=>[.str "again",.int k,.str (names.getD j ⟨#[]⟩)]
theorem j1o{H:Hp}{a:Addr}{names:List Str}{f:Fn}(h:FormAt H a (toldF names f)):∃b,H a=some (.tup (tupF names b f))/\(f.rs=true->H b=some (.tup ((f.js.map fun j=>names.getD j ⟨#[]⟩).map V.str))):=by
 cases f with
 | hold n=>exact⟨a,h,fun z=>by cases z⟩
 | ring x n=>exact⟨a,h,fun z=>by cases z⟩
 | rise x v n=>exact⟨a,h,fun z=>by cases z⟩
 | row is=>obtain⟨b,c,d⟩:=h;exact⟨b,c,fun _=>d⟩
 | side is=>obtain⟨b,c,d⟩:=h;exact⟨b,c,fun _=>d⟩
 | again k j=>exact⟨a,h,fun z=>by cases z⟩
theorem ya{names:List Str}{b:Addr}{f:Fn}:atI (tupF names b f) 0=some (.str f.tag):=by cases f<;>rfl
theorem j3N{names:List Str}{b:Addr}{f:Fn}(h:f.rs=true):atI (tupF names b f) 1=some (.ref b):=by cases f<;>first | rfl | cases h
theorem j2A{names:List Str}{b:Addr}{f:Fn}(h:f.rz=true):atI (tupF names b f) 1=some (.str f.x):=by cases f<;>first | rfl | cases h
theorem j4J{f:Fn}:decide (f.tag∈[("row" : Str),"side"])=f.rs:=by
 cases f
 ·exact(by decide +kernel:decide (("hold" : Str)∈[("row" : Str),"side"])=false)
 ·exact(by decide +kernel:decide (("ring" : Str)∈[("row" : Str),"side"])=false)
 ·exact(by decide +kernel:decide (("raise" : Str)∈[("row" : Str),"side"])=false)
 ·exact(by decide +kernel:decide (("row" : Str)∈[("row" : Str),"side"])=true)
 ·exact(by decide +kernel:decide (("side" : Str)∈[("row" : Str),"side"])=true)
 ·exact(by decide +kernel:decide (("again" : Str)∈[("row" : Str),"side"])=false)
theorem j2y{f:Fn}:decide (f.tag = "again")=f.ag:=by
 cases f
 ·exact(by decide +kernel:decide (("hold" : Str) = "again")=false)
 ·exact(by decide +kernel:decide (("ring" : Str) = "again")=false)
 ·exact(by decide +kernel:decide (("raise" : Str) = "again")=false)
 ·exact(by decide +kernel:decide (("row" : Str) = "again")=false)
 ·exact(by decide +kernel:decide (("side" : Str) = "again")=false)
 ·exact(by decide +kernel:decide (("again" : Str) = "again")=true)
theorem j4L{f:Fn}:decide (f.tag = "raise")=f.rz:=by
 cases f
 ·exact(by decide +kernel:decide (("hold" : Str) = "raise")=false)
 ·exact(by decide +kernel:decide (("ring" : Str) = "raise")=false)
 ·exact(by decide +kernel:decide (("raise" : Str) = "raise")=true)
 ·exact(by decide +kernel:decide (("row" : Str) = "raise")=false)
 ·exact(by decide +kernel:decide (("side" : Str) = "raise")=false)
 ·exact(by decide +kernel:decide (("again" : Str) = "raise")=false)
noncomputable def Fn.rw:Fn->Bool
 | .row _=>true
 | _=>false
noncomputable def Fn.sd:Fn->Bool
 | .side _=>true
 | _=>false
theorem j4K{f:Fn}:decide (f.tag = "row")=f.rw:=by
 cases f
 ·exact(by decide +kernel:decide (("hold" : Str) = "row")=false)
 ·exact(by decide +kernel:decide (("ring" : Str) = "row")=false)
 ·exact(by decide +kernel:decide (("raise" : Str) = "row")=false)
 ·exact(by decide +kernel:decide (("row" : Str) = "row")=true)
 ·exact(by decide +kernel:decide (("side" : Str) = "row")=false)
 ·exact(by decide +kernel:decide (("again" : Str) = "row")=false)
theorem j4M{f:Fn}:decide (f.tag = "side")=f.sd:=by
 cases f
 ·exact(by decide +kernel:decide (("hold" : Str) = "side")=false)
 ·exact(by decide +kernel:decide (("ring" : Str) = "side")=false)
 ·exact(by decide +kernel:decide (("raise" : Str) = "side")=false)
 ·exact(by decide +kernel:decide (("row" : Str) = "side")=false)
 ·exact(by decide +kernel:decide (("side" : Str) = "side")=true)
 ·exact(by decide +kernel:decide (("again" : Str) = "side")=false)
theorem wI(n:Str):∀hs:List Str,inV (.str n) (hs.map V.str)=decide (n∈hs)
 | []=>by simp[inV]
 | h::r=>by
  have a:=wI n r;unfold inV at a|-;rw[uy,any_cons,a];have e:eqV (.str h) (.str n)=decide (h=n):=by
   show(h==n)=_;by_cases c:h=n
   ·subst c;simp
   ·rw[vI c];exact beq_eq_false_iff_ne.mpr c
  rw[e,Bool.eq_iff_iff];simp only[Bool.or_eq_true,decide_eq_true_eq,mem_cons];constructor
  ·rintro(x | x)
   ·exact .inl x.symm
   ·exact .inr x
  ·rintro(x | x)
   ·exact .inl x.symm
   ·exact .inr x
theorem inS(n:Str)(hs:List Str):(if false=true then !inV (.str n) (hs.map V.str)else inV (.str n) (hs.map V.str))=decide (n∈hs):=by rw[vb (by decide),wI]
theorem flatS:∀hs:List Str,(hs.map V.str).all flatV=true
 | []=>rfl
 | h::r=>by rw[uy,all_cons,flatS r];rfl
theorem inRS(f:Fn):(if false=true then !inV (.str f.tag) [.str "row",.str "side"]else inV (.str f.tag) [.str "row",.str "side"])=f.rs:=(inS f.tag ["row","side"]).trans j4J
theorem iteBl{b:Bool}{A B:Prop}(a:b=true->A)(c:b=false->B):if b=true then A else B:=by
 cases b with
 | true=>exact a rfl
 | false=>exact c rfl
noncomputable def lastF(names:List Str)(b:Addr):Fn->V
 | .hold n=>.int n
 | .ring _ n=>.int n
 | .rise _ _ n=>.int n
 | .row _=>.ref b
 | .side _=>.ref b
 | .again _ j=>.str (names.getD j ⟨#[]⟩)
theorem j3O{names:List Str}{b:Addr}{f:Fn}:atI (tupF names b f) (-1)=some (lastF names b f):=by cases f<;>rfl
theorem j1z{names:List Str}{b:Addr}{f:Fn}{gs:List Int}:(∃a,lastF names b f = .int a/\LenN gs f a)\/f.ag=true\/f.sd=true\/f.rw=true:=by
 cases f with
 | hold n=>exact .inl ⟨n,rfl,rfl⟩
 | ring x n=>exact .inl ⟨n,rfl,rfl⟩
 | rise x h n=>exact .inl ⟨n,rfl,rfl⟩
 | row is=>exact .inr (.inr (.inr rfl))
 | side is=>exact .inr (.inr (.inl rfl))
 | again k j=>exact .inr (.inl rfl)
theorem j4V{f:Fn}(h:f.rw=true):∃is,f = .row is:=by
 cases f with
 | row is=>exact⟨is,rfl⟩
 | _=>cases h
theorem j4W{f:Fn}(h:f.sd=true):∃is,f = .side is:=by
 cases f with
 | side is=>exact⟨is,rfl⟩
 | _=>cases h
theorem j3W{f:Fn}(h:f.ag=true):∃k j,f = .again k j:=by
 cases f with
 | again k j=>exact⟨k,j,rfl⟩
 | _=>cases h
noncomputable def numsC(n:Nat)(f:Fn):List Nat:=(List.range n).filter fun k=>decide (k∈f.js)
theorem Z7{n:Nat}{f:Fn}(h:∀j∈f.js,j<n)(k:Nat):k∈numsC n f↔k∈f.js:=by
 unfold numsC;rw[vQ,v6,decide_eq_true_eq];exact⟨fun z=>z.2,fun z=>⟨h k z,z⟩⟩
theorem kM{n:Nat}{f:Fn}{k:Nat}(h:k∈numsC n f):k<n:=v6.mp (vQ.mp h).1
theorem j0J{n:Nat}{f:Fn}:(numsC n f).length<=n:=vY (length_filter_le _ _) (Nat.le_of_eq length_range)
theorem j4h{f:Fn}(a:f.rs=false)(b:f.ag=false):f.js=[]:=by
 cases f with
 | row is=>exact uB a Bool.noConfusion
 | side is=>exact uB a Bool.noConfusion
 | again k j=>exact uB b Bool.noConfusion
 | _=>rfl
theorem j3q{n:Nat}{f:Fn}(h:f.ag=false):(List.range n).filter (fun k=>f.rs&&decide (k∈f.js))=numsC n f:=by
 unfold numsC;cases e:f.rs with
 | true=>rfl
 | false=>
  rw[j4h e h];rfl
theorem j0K{n j:Nat}{k:Int}(h:j<n):numsC n (.again k j)=[j]:=by
 have m:∀x,x∈numsC n (.again k j)↔x∈[j]:=Z7 (f:=.again k j) fun i d=>by rw[vo.mp d];exact h
 have c:(numsC n (.again k j)).Nodup:=nodup_range.filter _;generalize numsC n (.again k j)=l at m c
 match l,m,c with
 | [],m,_=>exact uB ((m j).mpr vq) (by simp)
 | [x],m,_=>rw[vo.mp ((m x).mp vq)]
 | x::y::r,m,c=>
  have a:=vo.mp ((m x).mp vq);have b:=vo.mp ((m y).mp (vp _ vq));rw[a,b]at c;simp at c
theorem WZ{names:List Str}(c:names.Nodup){is:List Nat}{k:Nat}(b:k<names.length)(h:∀j∈is,j<names.length):names.getD k ⟨#[]⟩∈(is.map fun j=>names.getD j ⟨#[]⟩)↔k∈is:=by
 constructor
 ·intro z;obtain⟨j,a,e⟩:=vL.mp z;rw[<-getD_inj c (h j a) b e];exact a
 ·intro z;exact vL.mpr ⟨k,z,rfl⟩
theorem JS{p:Nat->Bool}{i:Nat}:((List.range (i+1)).filter p)=if p i=true then(List.range i).filter p++[i]else(List.range i).filter p:=by
 rw[range_succ,filter_append,uz,filter_nil];split<;>simp
def MovU(L:List Str)(M:List (List Int))(f:Fn)(ks:List Int):Prop:=ks.Nodup/\∀k,k∈ks↔(∃j∈f.js,k∈M.getD j [])\/∃(x:Str) (h n:Int) (i:Nat),f = .rise x h n/\L[i]?=some x/\k=(i:Int)
def MvOk(n:Nat)(Mv:List (List Int)):Prop:=∀ks∈Mv,ks.Nodup/\∀k∈ks,0<=k/\k<(n:Int)
theorem X9{n:Nat}{a:List (List Int)}(h:MvOk n a)(j:Nat):(a.getD j []).Nodup/\∀k∈a.getD j [],0<=k/\k<(n:Int):=by
 by_cases c:j<a.length
 ·refine h _ ?_;rw[vy,vz c];exact getElem_mem c
 ·rw[vy,List.getElem?_eq_none (by lia)];exact⟨List.nodup_nil,fun k b=>by cases b⟩
theorem MovU.ok{L:List Str}{a:List (List Int)}{f:Fn}{ks:List Int}(h:MovU L a f ks)(m:MvOk L.length a):ks.Nodup/\∀k∈ks,0<=k/\k<(L.length:Int):=by
 refine⟨h.1,fun k b=>?_⟩;rcases(h.2 k).mp b with⟨j,_,z⟩ | ⟨x,v,n,i,_,e,rfl⟩
 ·exact(X9 m j).2 k z
 ·have:=(vx.mp e).1;lia
theorem MvOk.snoc{n:Nat}{a:List (List Int)}{ks:List Int}(h:MvOk n a)(k:ks.Nodup/\∀k∈ks,0<=k/\k<(n:Int)):MvOk n (a++[ks]):=fun c b=>by
 rcases vg.mp b with z | z
 ·exact h c z
 ·rw[vo.mp z];exact k
theorem j0F{M:List (List Int)}{is:List Nat}{d hs:List Int}{i j:Nat}(g:is[i]?=some j)(h:∀k,k∈hs↔k∈d\/∃x∈is.take i,k∈M.getD x [])(m:hs.Nodup)(n:(M.getD j []).Nodup) :
  (hs++(M.getD j []).filter fun k=>!decide (k∈hs)).Nodup/\∀k,k∈hs++((M.getD j []).filter fun k=>!decide (k∈hs))↔k∈d\/∃x∈is.take (i+1),k∈M.getD x []:=by
 rw[take_snoc g];refine⟨nodup_append.mpr ⟨m,n.filter _,fun x b y l e=>?_⟩,fun k=>?_⟩
 ·have:=(vQ.mp l).2;rw[<-e]at this;simp[b]at this
 ·rw[vg,vQ];constructor
  ·rintro(f | ⟨a,_⟩)
   ·rcases(h k).mp f with z | ⟨x,b,a⟩
    ·exact .inl z
    ·exact .inr ⟨x,mem_append_left _ b,a⟩
   ·exact .inr ⟨j,mem_append_right _ vq,a⟩
  ·rintro(z | ⟨x,b,a⟩)
   ·exact .inl ((h k).mpr (.inl z))
   ·rcases vg.mp b with z | z
    ·exact .inl ((h k).mpr (.inr ⟨x,z,a⟩))
    ·rw[vo.mp z]at a;by_cases c:k∈hs
     ·exact .inl c
     ·exact .inr ⟨a,by simpa using c⟩
noncomputable def limC(L:List Str)(f:Fn):List Nat:=(List.range L.length).filter fun k=>f.rz&&decide (L.getD k ⟨#[]⟩=f.x)
theorem j3j{L:List Str}{M:List (List Int)}{n:Nat}{f:Fn}{ks:List Int}(c:∀j∈f.js,j<n)(o:ks.Nodup)(h:∀k,k∈ks↔k∈(limC L f).map (fun i:Nat=>(i:Int))\/∃x∈numsC n f,k∈M.getD x []):MovU L M f ks:=by
 refine⟨o,fun k=>(h k).trans ?_⟩;constructor
 ·rintro(z | ⟨x,l,g⟩)
  ·obtain⟨i,d,rfl⟩:=vL.mp z;obtain⟨b,a⟩:=vQ.mp d;rw[v6]at b;rw[Bool.and_eq_true,decide_eq_true_eq]at a;refine .inr ?_;cases f with
   | rise x v m=>
    refine⟨x,v,m,i,rfl,?_,rfl⟩;have e:L.getD i ⟨#[]⟩=x:=a.2;rw[vy,vz b]at e;rw[vz b,<-e];rfl
   | hold m=>cases a.1
   | ring x m=>cases a.1
   | row is=>cases a.1
   | side is=>cases a.1
   | again k j=>cases a.1
  ·exact .inl ⟨x,(Z7 c x).mp l,g⟩
 ·rintro(⟨j,b,a⟩ | ⟨x,v,m,i,rfl,e,rfl⟩)
  ·exact .inr ⟨j,(Z7 c j).mpr b,a⟩
  ·refine .inl (vL.mpr ⟨i,vQ.mpr ⟨v6.mpr (vx.mp e).1,?_⟩,rfl⟩);rw[vy,e];show(true&&decide (x=x))=true;simp
theorem j3d{L:List Str}{f:Fn}:((limC L f).map (fun i:Nat=>(i:Int))).Nodup:=by
 have a:(limC L f).Nodup:=nodup_range.filter _;exact(pairwise_map.mpr (a.imp fun h z=>h (by lia)))
theorem j3c{L:List Str}{f:Fn}:∀k∈(limC L f).map (fun i:Nat=>(i:Int)),0<=k/\k<(L.length:Int):=fun k b=>by
 obtain⟨i,a,rfl⟩:=vL.mp b;have:=v6.mp (vQ.mp a).1;lia
theorem j3C{gs:List Int}{n:Nat}{is:List Nat}(h:∀j∈is,j<n) :
  ((numsC n (.row is)).map fun k=>gs.getD k 0*((is.filter fun j=>decide (j=k)).length:Nat)).sum=(is.map fun j=>gs.getD j 0).sum:=by
 rw[<-KZ (g:=fun j=>gs.getD j 0) is h];unfold numsC;refine ZS _ fun k b=>?_
 have e:is.filter (fun j=>decide (j=k))=[]:=List.filter_eq_nil_iff.mpr fun j a=>by
  have:¬k∈is:=of_decide_eq_false b;simp only[decide_eq_true_eq];intro z;exact this (z▸a)
 rw[e];show gs.getD k 0*((0:Nat):Int)=0;rw[show((0:Nat):Int)=0 from rfl,Int.mul_zero]
theorem Wx{B:Int}:∀{xs:List Int},(∀x∈xs,0<=x/\x<=B)->0<=xs.sum/\xs.sum<=(xs.length:Int)*B
 | [],_=>⟨vB _,by simp⟩
 | x::xs,h=>by
  obtain⟨a,b⟩:=Wx (xs:=xs) fun y d=>h y (vp _ d)
  have c:=h x vq;rw[ux,vS];refine⟨by lia,?_⟩;rw[show(((xs.length+1:Nat)):Int)=(xs.length:Int)+1 from rfl,Int.add_mul,Int.one_mul];lia
theorem j3a{L:List Str}{t:List (List Int)}{gs:List Int}{n:Nat}{f:Fn}{g B:Int}(p:PreN L t n f)(u:AgB gs f)(l:LenN gs f g)(w:10^40<=B)(b:∀j,j<n->1<=gs.getD j 0/\gs.getD j 0<=B):1<=g/\g<=8*B:=by
 cases f with
 | hold m=>obtain⟨c,h⟩:=p;have e:g=m:=l;lia
 | ring x m=>obtain⟨c,h,_⟩:=p;have e:g=m:=l;lia
 | rise x v m=>obtain⟨_,_,_,c,h⟩:=p;have e:g=m:=l;lia
 | row is=>
  obtain⟨c,h,a⟩:=p;have e:g=(is.map fun j=>gs.getD j 0).sum:=l;have q:=Wx (B:=B) (xs:=is.map fun j=>gs.getD j 0) fun x i=>by
   obtain⟨j,d,rfl⟩:=vL.mp i;have:=b j (a j d);exact⟨by lia,this.2⟩
  rw[vt]at q;have r:(is.length:Int)*B<=8*B:=vW (by lia) (by lia);refine⟨?_,by lia⟩;cases is with
  | nil=>exact uB rfl c
  | cons j js=>
   rw[e,uy,ux];have y:=b j (a j vq);have:=(Wx (B:=B) (xs:=js.map fun j=>gs.getD j 0) fun x i=>by
    obtain⟨s,d,rfl⟩:=vL.mp i;have:=b s (a s (vp _ d));exact⟨by lia,this.2⟩).1
   lia
 | side is=>
  obtain⟨_,_,a,_⟩:=p;obtain⟨⟨j,d,e⟩,_⟩:=l;have:=b j (a j d);lia
 | again k j=>
  obtain⟨c,h,a⟩:=p;have e:g=k*gs.getD j 0:=l;have o:=b j a;refine⟨?_,?_⟩
  ·have:=Int.mul_le_mul c o.1 (by decide) (by lia);lia
  ·rcases u k j rfl with z | z
   ·lia
   ·have:=Int.mul_le_mul z o.2 (by lia) (by decide);lia
theorem xV{names:List Str}{a:List Fn}{f:Fn}:drawnPs names (a++[f])=drawnPs names a++[(names.getD a.length ⟨#[]⟩,toldF names f)]:=by
 refine List.ext_getElem? fun i=>?_
 unfold drawnPs;rw[vn,vU,range_succ,vi];congr 2
 ·refine map_congr_left fun j b=>?_
  rw[qF (v6.mp b)]
 ·rw[uy,JF];rfl
structure Sep(pl pp m g:Addr)(mas:List Addr):Prop where
 lp:pl≠pp
 lm:pl≠m
 lg:pl≠g
 pm:pp≠m
 pg:pp≠g
 mg:m≠g
 ma:∀a∈mas,a≠pp/\a≠m/\a≠g
inductive sp_putC(vs:List V)(H:Hp)(Q:VK)(xk:XK):Prop
 | mk (b pl pp m g a:Addr) (las pas mas:List Addr) (ls:List (Str×Int)) (names:List Str) (fs:List Fn) (Mv:List (List Int)) (gs:List Int) (f:Fn) (B:Int) (_:vs=[.ref b,.ref m,.ref g,.str (names.getD fs.length ⟨#[]⟩),.ref a]) (_:BkC b pl pp m g las pas mas ls names fs Mv gs H) (_:Sep pl pp m g mas) (_:MvOk ls.length Mv) (_:FormAt H a (toldF names f)) (_:PreN (nmsOf ls) Mv fs.length f) (_:AgB gs f) (_:fs.length<names.length) (_:fs.length<30) (_:names.Nodup) (_:10^40<=B) (_:8*B<=10^60) (_:(∀j,j<fs.length->gs.getD j 0<=B)) (_:∀(c a1:Addr) (ks:List Int) (gg:Int) (H':Hp),(∀x u,x≠pp->x≠m->x≠g->H x=some u->H' x=some u)->BkC b pl pp m g las (pas++[c]) (mas++[a1]) ls names (fs++[f]) (Mv++[ks]) (gs++[gg]) H'->Sep pl pp m g (mas++[a1])->MovU (nmsOf ls) Mv f ks->LenN gs f gg->gg<=8*B->Q .non H'):sp_putC vs H Q xk
noncomputable def ordB(t:Nat):List Str:=match t with
 | 0=>["arm","armm","head"]
 | 1=>["head","armm","arm"]
 | _=>["armm","head","arm"]
noncomputable def ordC(t:Nat):List Str:=ordB t++[("leg" : Str),"wing","tail","eye","paw"]
noncomputable def nmC(p c:Nat)(x:Str):List Str:=(List.range 13).map fun k=>if c=1/\k=1 then x else wdC p k
theorem j3o{p c:Nat}{x:Str}:(nmC p c x).length=13:=by unfold nmC;rw[vt,length_range]
theorem j3n{p c:Nat}{x:Str}{k:Nat}(h:k<13):(nmC p c x).getD k ⟨#[]⟩=if c=1/\k=1 then x else wdC p k:=by
 unfold nmC;rw[vy,vv,List.getElem?_range h];rfl
theorem j3m:∀p,p<4->∀c,c<2->∀t,t<3->(decide (nmC p c ((ordC t).getD 0 ⟨#[]⟩)).Nodup&&(nmC p c ((ordC t).getD 0 ⟨#[]⟩)).all fun x=>Ws.isW x)=true:=by decide +kernel
theorem j4s{p c t:Nat}(b:p<4)(a:c<2)(d:t<3):(nmC p c ((ordC t).getD 0 ⟨#[]⟩)).Nodup/\∀x∈nmC p c ((ordC t).getD 0 ⟨#[]⟩),Ws.isW x=true:=by
 have h:=j3m p b c a t d;rw[Bool.and_eq_true,decide_eq_true_eq,all_eq_true]at h;exact h
theorem j1U:∀t,t<3->(decide (ordC t).Nodup&&(ordC t).all fun x=>Ws.isW x)=true:=by decide +kernel
theorem j3u{t:Nat}(a:t<3):(ordC t).Nodup/\∀x∈ordC t,Ws.isW x=true:=by
 have h:=j1U t a;rw[Bool.and_eq_true,decide_eq_true_eq,all_eq_true]at h;exact h
theorem j1V{t:Nat}:(ordC t).length=8:=by
 unfold ordC ordB;split<;>rfl
structure DUk(L:List Str)(fs:List Fn)(M:List (List Int))(gs:List Int):Prop where
 ml:M.length=fs.length
 gl:gs.length=fs.length
 f:∀(i:Nat) (f:Fn),fs[i]?=some f->PreN L M i f/\MovU L M f (M.getD i [])/\LenN gs f (gs.getD i 0)
 g:∀i,i<fs.length->1<=gs.getD i 0/\gs.getD i 0<=10^40*8^(i+1)
theorem MovU.ext{L:List Str}{M:List (List Int)}{ks hs:List Int}{f:Fn}(c:∀j∈f.js,j<M.length)(h:MovU L M f hs):MovU L (M++[ks]) f hs:=by
 refine⟨h.1,fun k=>(h.2 k).trans ?_⟩;have:(∃j∈f.js,k∈M.getD j [])↔∃j∈f.js,k∈(M++[ks]).getD j []:=by
  constructor
  ·rintro⟨j,a,b⟩;exact⟨j,a,by rw[qF (c j a)];exact b⟩
  ·rintro⟨j,a,b⟩;exact⟨j,a,by rw[qF (c j a)]at b;exact b⟩
 rw[this]
theorem DUk.nil{L:List Str}:DUk L [] [] []:=⟨rfl,rfl,fun i f h=>by simp at h,fun i h=>uB h (Nat.not_lt_zero i)⟩
theorem DUk.add{L:List Str}{h:List Fn}{M:List (List Int)}{gs:List Int}{f:Fn}{ks:List Int}{g:Int}(D:DUk L h M gs)(r:PreN L M h.length f)(u:MovU L M f ks)(v:LenN gs f g)(w:1<=g/\g<=10^40*8^(h.length+1)):DUk L (h++[f]) (M++[ks]) (gs++[g]):=by
 have s:=D.ml;have o:=D.gl;refine⟨by simp[s],by simp[o],fun i q d=>?_,fun i l=>?_⟩
 ·by_cases l:i<h.length
  ·rw[vC l]at d;obtain⟨a,b,c⟩:=D.f i q d;have m:=a.js.2;rw[qF (by lia),qF (by lia)];exact⟨a.ext (by lia),b.ext fun j k=>by have:=m j k;lia,c.ext fun j k=>by have:=m j k;lia⟩
  ·rw[vD (by lia)]at d;have p:i=h.length:=by
    have:=(vx.mp d).1;simp at this;lia
   subst p;rw[Nat.sub_self]at d;have e:q=f:=(vM d).symm;subst e;have m:=r.js.2;have t:(M++[ks]).getD h.length []=ks:=by rw[<-s];exact JF
   have n:(gs++[g]).getD h.length 0=g:=by rw[<-o];exact JF
   rw[t,n];exact⟨r.ext (by lia),u.ext fun j k=>by have:=m j k;lia,v.ext fun j k=>by have:=m j k;lia⟩
 ·rw[vn]at l;have l:i<h.length+1:=l;by_cases c:i<h.length
  ·rw[qF (by lia)];exact D.g i c
  ·have e:i=h.length:=by lia
   subst e;have n:(gs++[g]).getD h.length 0=g:=by rw[<-o];exact JF
   rw[n];exact w
theorem pow8{i n:Nat}(h:i<=n):(10:Int)^40*8^i<=10^40*8^n:=by
 have:(8:Int)^i<=8^n:=by
  obtain⟨k,rfl⟩:=Nat.exists_eq_add_of_le h;rw[Int.pow_add];have a:(1:Int)<=8^k:=Int.add_one_le_iff.mpr (Int.pow_pos (by decide));have b:(0:Int)<8^i:=Int.pow_pos (by decide);have:=Int.mul_le_mul_of_nonneg_left a (Int.le_of_lt b);lia
 exact Int.mul_le_mul_of_nonneg_left this (by decide)
theorem DUk.bnd{L:List Str}{a:List Fn}{M:List (List Int)}{gs:List Int}(D:DUk L a M gs):∀j,j<a.length->gs.getD j 0<=10^40*8^a.length:=fun j b=>vZ (D.g j b).2 (pow8 b)
theorem Wh{n:Nat}(h:n<=13):(10:Int)^40*8^n<=10^60:=vZ (pow8 h) (by decide)
noncomputable def srtC(ks:List Int):List Int:=((List.range 8).filter fun k:Nat=>decide ((k:Int)∈ks)).map fun k:Nat=>(k:Int)
theorem xo{ks:List Int}(h:∀k∈ks,0<=k/\k<8)(k:Int):k∈srtC ks↔k∈ks:=by
 unfold srtC;constructor
 ·intro z;obtain⟨j,a,rfl⟩:=vL.mp z;exact of_decide_eq_true (vQ.mp a).2
 ·intro z;have:=h k z;refine vL.mpr ⟨k.toNat,vQ.mpr ⟨v6.mpr (by lia),?_⟩,by lia⟩;rw[show((k.toNat:Nat):Int)=k by lia];exact vH z
theorem j3I{ks:List Int}:(srtC ks).Pairwise (· < ·):=by
 unfold srtC;refine pairwise_map.mpr ?_;refine(List.Pairwise.filter _ (List.pairwise_lt_range (n:=8))).imp fun {a b} h=>?_
 lia
theorem j2s{ks:List Int}(h:∀k∈ks,0<=k/\k<8)(n:ks≠[]):srtC ks≠[]:=fun z=>by
 obtain⟨k,a⟩:=List.exists_mem_of_ne_nil ks n;have:=(xo h k).mpr a;rw[z]at this;cases this
theorem DUk.sorted{L:List Str}{l:List Fn}{M:List (List Int)}{gs:List Int}(D:DUk L l M gs)(B:MvOk L.length M)(E:L.length<=8)(C:l.length<=12):DOk L l (M.map srtC) gs:=by
 have A:=D.ml;have n:∀j,(M.map srtC).getD j []=srtC (M.getD j []):=fun j=>by
  rw[vy,vy,vv];cases M[j]? with
  | none=>exact(by decide +kernel:([]:List Int)=srtC [])
  | some x=>rfl
 have r:∀j,∀k∈M.getD j [],0<=k/\k<8:=fun j k o=>by
  have:=(X9 B j).2 k o;lia
 have g:∀j k,k∈(M.map srtC).getD j []↔k∈M.getD j []:=fun j k=>by rw[n];exact xo (r j) k
 refine⟨by rw[vt];exact A,D.gl,fun i f w=>?_,fun i q=>⟨(D.g i q).1,vZ (D.g i q).2 (Wh (by lia))⟩⟩;obtain⟨a,b,c⟩:=D.f i f w;refine⟨?_,⟨by rw[n];exact j3I,fun k=>(g i k).trans ((b.2 k).trans ?_)⟩,c⟩
 ·cases f with
  | side is=>
   obtain⟨d,e,s,t,u⟩:=a;refine⟨d,e,s,fun j z=>by rw[n];exact j2s (r j) (t j z),u.imp fun {x y} h k o p=>h k ((g x k).mp o) ((g y k).mp p)⟩
  | hold m=>exact a
  | ring x m=>exact a
  | rise x v m=>exact a
  | row is=>exact a
  | again k j=>exact a
 ·have:(∃j∈f.js,k∈M.getD j [])↔∃j∈f.js,k∈(M.map srtC).getD j []:=by
   constructor
   ·rintro⟨j,d,e⟩;exact⟨j,d,(g j k).mpr e⟩
   ·rintro⟨j,d,e⟩;exact⟨j,d,(g j k).mp e⟩
  rw[this]
theorem BkC.same{b pl j m g:Addr}{c e d:List Addr}{ls:List (Str×Int)}{names:List Str}{i:List Fn}{f:List (List Int)}{gs:List Int}{H H':Hp}(C:BkC b pl j m g c e d ls names i f gs H)(s:Same H H'):BkC b pl j m g c e d ls names i f gs H':=
 ⟨C.bk.same s,s _ _ C.em,C.am.mono fun a k h=>s _ _ h,s _ _ C.eg,C.nn,C.ml,C.gl,C.n60,C.m8,C.g0,C.l1,C.l8⟩
theorem BkC.ex{p b pl j m g:Addr}{e f d:List Addr}{ls:List (Str×Int)}{names:List Str}{l:List Fn}{k:List (List Int)}{gs:List Int}{H H':Hp}{xs:List V}(C:BkC b pl j m g e f d ls names l k gs H)(x:Ex p H H')(ep:H p=some (.lst xs))
  (n:pl≠p) (o:j≠p) (q:m≠p) (r:g≠p) (s:∀a∈d,a≠p):BkC b pl j m g e f d ls names l k gs H':=by
 have i:∀c xs,H c=some (.tup xs)->H' c=some (.tup xs):=fun c xs h=>x _ _ (ZF h ep fun z=>by cases z) h
 exact⟨⟨i _ _ C.bk.t,x _ _ n C.bk.l,C.bk.la.mono fun c u h=>i _ _ h,x _ _ o C.bk.p,C.bk.pa.mono fun c u h=>PartAt.keep i h⟩,x _ _ q C.em,All2.monoM C.am fun a t v h=>x _ _ (s a t) h,x _ _ r C.eg,C.nn,C.ml,C.gl,C.n60,C.m8,C.g0,C.l1,C.l8⟩
theorem j4S{xs:List V}:cutV xs (some (-3)) none=xs.drop (xs.length-3):=by
 have e:HT.sIx xs.length 0 (some (-3))=xs.length-3:=by
  have:=HT.wz (-3) xs.length 0;rw[vc (by decide)]at this;lia
 unfold cutV;rw[e,HT.j2h];exact List.take_of_length_le (by rw[length_drop];lia)
noncomputable def lastC(n:Nat):List Nat:=(List.range n).drop (n-3)
theorem WR{n j:Nat}(h:j∈lastC n):j<n:=v6.mp (mem_of_mem_drop h)
theorem j0z{n:Nat}(h:2<=n):2<=(lastC n).length/\(lastC n).length<=3:=by
 unfold lastC;rw[length_drop,length_range];lia
inductive sp_bookC(K:Frg)(vs:List V)(H:Hp)(Q:VK)(xk:XK):Prop
 | mk (a:Addr) (ns:List Int) (start most:Int) (_:vs=[.ref a,.int start,.int most]) (_:SqL K H a (ns.map V.int)) (_:ns.length<=63) (_:0<=start) (_:start<=50) (_:1<=most) (_:most<=10^18) (_:∀(r b pl pp:Addr) (las pas:List Addr) (names:List Str) (ls:List (Str×Int)) (fs:List Fn) (M:List (List Int)) (gs:List Int) (H':Hp),Same H H'->H' r=some (.tup [.ref b,.int (gs.getD (fs.length-1) 0)])->BookAt H' b pl pp las pas ls (drawnPs names fs)->DOk (nmsOf ls) fs M gs->Sn ls (drawnPs names fs) gs M->3<=fs.length->fs.length<=11->names.length=13->names.Nodup->(∀x∈names,Ws.isW x=true)->1<=ls.length->ls.length<=8->(nmsOf ls).Nodup->(∀x∈nmsOf ls,Ws.isW x=true)->pl≠pp->Q (.ref r) H'):sp_bookC K vs H Q xk
end Rm
namespace L2
open PySem PySem.Spec PyProof.Rows
theorem ObjOk.has{P:Program}{w:World}{H:Hp}{h:Heap}{a:Addr}{o:HO}(x:ObjOk P w H h a o):∃b,h.get? a=some b:=by
 cases o with
 | lst xs=>obtain⟨_,_,_,_,e⟩:=x;exact⟨_,e⟩
 | tup xs=>obtain⟨_,_,_,_,e,_⟩:=x;exact⟨_,e⟩
 | dK kvs=>obtain⟨_,_,_,_,o,_,_,e,_⟩:=x;exact⟨_,e⟩
 | dT kvs=>obtain⟨_,_,_,_,o,_,_,e,_⟩:=x;exact⟨_,e⟩
 | set S n=>obtain⟨o,_,_,_,e,_⟩:=x;exact⟨_,e⟩
 | ins C dx fs=>obtain⟨_,_,_,e,_⟩:=x;exact⟨_,e⟩
 | own y=>exact x
 | xd fs=>obtain⟨_,⟨_,_,_,e,_⟩,_⟩:=x;exact⟨_,e⟩
 | rng lo hi=>obtain⟨_,_,_,e⟩:=x;exact⟨_,e⟩
 | frz b u=>obtain⟨e,_⟩:=x;exact⟨_,e⟩
 | tbl ps=>exact⟨_,show h.get? a=some _ from x⟩
 | met f y=>exact⟨_,show h.get? a=some _ from x⟩
 | ext φ=>obtain⟨_,e,_⟩:=x;exact e
def Air(B:Heap)(l:List Env)(a:Addr)(cls:Value)(h:Heap):Prop:=
 B.StaysIn h/\B.get? a=none/\h.FunFrames B l/\
  ((∃a0,h.TracedW B a cls a0)\/∃oe vs a0,h.get? a=some oe/\oe.cls=cls/\oe.data = .fields vs/\vs[1]?=some .none/\vs[0]?=some a0)
section
variable{M:Model}{A:Around}{E:Value->Shared->Prop}{s:Shared}{B:Heap}{env:Env}{outer:List Env}{L a:Addr}{cls:Value}{Q:Unit->Shared->Prop}
theorem WG(b:A.frames=some (env::outer))(i:env.frame=some L)(x:Air B (env::outer) a cls s.heap)
  (h:∀h',Air B outer a cls h'->s.heap.UpToSlots h'->Q () {s with heap:=h'}):wpAny M A (leaving env (.ref a)) Q E s:=by
 obtain⟨j,c,k,⟨a0,t⟩ | ⟨p,q,a0,o,rfl,n,m,l⟩⟩:=x
 ·exact wpAny_leaving_nextW b k i t j c fun h' ⟨d,⟨_,_,e⟩,f,g⟩=>h h' ⟨d,c,e,.inl ⟨a0,f⟩⟩ g
 ·exact wpAny_leaving_firstW (a0:=a0) b k i o j c n m l fun h' ⟨d,⟨_,_,e⟩,f,g⟩=>h h' ⟨d,c,e,.inl ⟨a0,f⟩⟩ g
theorem j0j(b:A.frames=some (env::outer))(f:env.frame=some L)(x:Air B (env::outer) a cls s.heap)
  (j:∀h' a0,Heap.FlyingW B (env::outer) a cls a0 h'->s.heap.UpToSlots h'->Q () {s with heap:=h'}) :
  wpAny M A (noteFrame (.ref a) env) (fun _ c=>wpAny M A (setFlight (.ref a) none) Q E c) E s:=by
 obtain⟨m,g,n,⟨a0,t⟩ | ⟨z,C,a0,l,rfl,k,i,o⟩⟩:=x
 ·exact wpAny_looks_onW b f ⟨m,g,n,t⟩ fun p q r=>wpAny_landsW q fun e d h=>j e a0 d (r.trans h)
 ·unfold noteFrame;simp only[f];refine ub (wpAny_field l k i ?_);rw[vb (by decide)];refine wpAny_entryW b n f l m g k (Array.getElem?_eq_some_iff.mp i).1 o fun p ⟨u,v,w,y⟩=>?_
  exact wpAny_landsW ⟨u,g,v,w⟩ fun e d h=>j e a0 d (Heap.UpToSlots.trans y h)
end
noncomputable def CX1(P:Program)(w:World):CXT:=fun outer H s E e s'=>∃a cls H' B,e = .ref a/\s.heap.get? a=none/\s'.os=s.os/\AllBare s'.gens/\
 Un (frs outer) [] H H' s.heap s'.heap/\HOk P w H' s'.heap/\H' a=none/\Air B outer a cls s'.heap/\
 (∀b o,s'.heap.get? b=some o->(H' b≠none\/∃o0,s.heap.get? b=some o0)->b∉frs outer->B.get? b=some o)/\E cls none H'
def XP(X:Cx)(pins:List (Addr×Obj))(σ:St)(E:XK)(e:Value)(s':Shared):Prop:=
 ∃a cls H' B,e = .ref a/\X.s₀.heap.get? a=none/\Inv X pins σ H' s'/\H' a=none/\Air B X.stack a cls s'.heap/\
  (∀b o,s'.heap.get? b=some o->(H' b≠none\/(∃o0,X.s₀.heap.get? b=some o0)\/∃p∈X.pn++pins,p.1=b)->b∉frs X.stack->B.get? b=some o)/\E cls none H'
structure Flat(X:Cx):Prop where
 ex:X.ex=[]
 stk:X.stack=X.env::X.outer
 fr:X.env.frame=some X.env.locals
 calm:X.calm=true
section
variable{X:Cx}{pins:List (Addr×Obj)}{σ:St}{H:Hp}{s s':Shared}{E:XK}{e:Value}
theorem Flat.fs(F:Flat X):frs X.stack=X.env.locals::X.fs:=by
 rw[F.stk];unfold frs;rw[filterMap_cons,F.fr];rfl
theorem XP.of_call(F:Flat X)(I:Inv X pins σ H s)(h:CX1 X.prog X.w X.stack H s E e s'):XP X pins σ E e s':=by
 obtain⟨a,g,k,B,rfl,w,y,c,A,j,n,f,i,t⟩:=h;have r:Inv X pins σ k s':=I.call' (ch:=[]) y A j c (fun b z=>uB z (by simp));have d:∀b o,X.s₀.heap.get? b=some o->∃m,s.heap.get? b=some m:=fun b o e=>I.base.there b o e (by rw[F.ex];simp)
 refine⟨a,g,k,B,rfl,?_,r,n,f,fun b o e q u=>i b o e ?_ u,t⟩
 ·cases q:X.s₀.heap.get? a with
  | none=>rfl
  | some o=>obtain⟨m,l⟩:=d a o q;rw[w]at l;cases l
 ·rcases q with q | ⟨x,q⟩ | ⟨p,v,rfl⟩
  ·exact .inl q
  ·exact .inr (d b x q)
  ·exact .inr ⟨_,(I.pin p v).1⟩
theorem XP.of_made{C:Addr}{us:List Value}{h':Heap}{a:Addr}(F:Flat X)(I:Inv X pins σ H s)(c:Heap.MadeExcOf s.heap h' a (.ref C) us)(r:E (.ref C) none H):XP X pins σ E (.ref a) {s with heap:=h'}:=by
 obtain⟨t,j,y,_⟩:=c.there;have m:Inv X pins σ H {s with heap:=h'}:=I.kept (h':=h') (t':=s.toks) c.keeps;have h:∀b o,X.s₀.heap.get? b=some o->∃f,s.heap.get? b=some f:=fun b o e=>I.base.there b o e (by rw[F.ex];simp)
 have w:H a=none:=by
  cases q:H a with
  | none=>rfl
  | some o=>obtain⟨z,e⟩:=(I.hok a o q).has;rw[c.new]at e;cases e
 have k:∀d∈X.stack,∀b,d.frame=some b->b∈frs X.stack:=fun d j b i=>mem_filterMap.mpr ⟨d,j,i⟩
 refine⟨a,.ref C,H,PySem.W.hideAll s.heap (frs X.stack),rfl,?_,m,w,⟨fun b o e=>c.keeps b o (PySem.W.of_hideAll _ e),?_,?_,.inr ⟨_,_,.ref t,j,rfl,rfl,rfl,rfl⟩⟩,fun b o e q i=>?_,r⟩
 ·cases q:X.s₀.heap.get? a with
  | none=>rfl
  | some o=>obtain⟨f,g⟩:=h a o q;rw[c.new]at g;cases g
 ·cases q:(PySem.W.hideAll s.heap (frs X.stack)).get? a with
  | none=>rfl
  | some o=>have:=PySem.W.of_hideAll _ q;rw[c.new]at this;cases this
 ·exact(PySem.W.funFrames_hide I.stack k).of_keeps fun b o e _=>⟨o,c.keeps b o e,rfl⟩
 ·refine PySem.W.hideAll_get _ ?_ i;have:∃f,s.heap.get? b=some f:=by
   rcases q with q | ⟨x,q⟩ | ⟨p,v,rfl⟩
   ·cases q':H b with
    | none=>exact uB q' q
    | some u=>exact(I.hok b u q').has
   ·exact h b x q
   ·exact⟨_,(I.pin p v).1⟩
  obtain⟨f,g⟩:=this;have n:=c.keeps b f g;have l:h'.get? b=some o:=e;rw[n]at l;cases l;exact g
theorem XP.stays(F:Flat X){H':Hp}{B h':Heap}(I:Inv X pins σ H' s')
  (f:∀b o,s'.heap.get? b=some o->(H' b≠none\/(∃a,X.s₀.heap.get? b=some a)\/∃p∈X.pn++pins,p.1=b)->b∉frs X.stack->B.get? b=some o)
  (st:B.StaysIn h') (m:s'.heap.UpToSlots h') :
  (∀b o,s'.heap.get? b=some o->(H' b≠none\/(∃a,X.s₀.heap.get? b=some a)\/∃p∈X.pn++pins,p.1=b)->b∉frs X.stack->h'.get? b=some o)/\
  (∀b o,s'.heap.get? b=some o->b∈frs X.stack->∃l,h'.get? b=some {o with slots:=l})/\HOk X.prog X.w H' h':=by
 have h:∀b o,s'.heap.get? b=some o->(H' b≠none\/(∃a,X.s₀.heap.get? b=some a)\/∃p∈X.pn++pins,p.1=b)->b∉frs X.stack->h'.get? b=some o:=fun b o e q g=>st b o (f b o e q g)
 refine⟨h,fun b o e g=>?_,fun b u e=>?_⟩
 ·obtain⟨_,n,i,k⟩:=I.stack.mem g;rw[e]at i;cases i;exact m b o e k
 ·have j:∀c v,H' c=some v->c∉frs X.stack:=fun c v q z=>by rw[I.stkFree c z]at q;cases q
  refine(I.hok b u e).stay (fun c v d q=>?_) (fun _ q=>q) fun _ _ q=>q
  rcases d with rfl | d
  ·exact h c v q (.inl (by rw[e];simp)) (j c u e)
  ·exact h c v q (.inl (by rw[d];simp)) (j c _ d)
end
theorem XP.leaves{P:Program}{w:World}{K:Frg}{r:Str->Option Value}{g:Heap}{N:List Str}{i:Str}{d:Scope}{f:Addr}{l:Value}{A:Around}{c:List Env}{s T:Shared}{H:Hp}{E:XK}{σ:St}{e:Value}
  (h:XP (cxOf (CX1 P w) P w K r g N i d f l A c s H E) [] σ E e T):(cxOf (CX1 P w) P w K r g N i d f l A c s H E).xe e T:=by
 obtain⟨a,Q,M,B,rfl,na,I,n,O,C,hE⟩:=h;refine WG (L:=s.heap.objs.size) I.ok.frames rfl O fun Z k up=>?_
 obtain⟨W,Y,S⟩:=XP.stays (X:=cxOf (CX1 P w) P w K r g N i d f l A c s H E) ⟨rfl,rfl,rfl,rfl⟩ I C k.1 up;have D:frs (cxOf (CX1 P w) P w K r g N i d f l A c s H E).stack=s.heap.objs.size::frs c:=rfl;have nL:∀b o,s.heap.get? b=some o->b≠s.heap.objs.size:=fun b o e=>vF (vJ e)
 have x:∀b o,s.heap.get? b=some o->b∉frs c->b∉frs (cxOf (CX1 P w) P w K r g N i d f l A c s H E).stack:=fun b o e j z=>by
  rw[D]at z;rcases mem_cons.mp z with z | z
  ·exact nL b o e z
  ·exact j z
 have F:∀b:Addr,b∉(cxOf (CX1 P w) P w K r g N i d f l A c s H E).ex:=fun b z=>uB (show b∈([]:List Addr)from z) (by simp)
 have inS:∀b,b∈frs c->b∈frs (cxOf (CX1 P w) P w K r g N i d f l A c s H E).stack:=fun b z=>by rw[D];exact vp _ z
 refine⟨a,Q,M,B,rfl,na,I.os,I.bare,⟨fun b o e m j _=>?_,fun b o e m j _=>?_,fun b o e m _=>I.base.free b o e m (F b),fun b o e _=>?_,I.base.tups,I.base.frzs,I.base.tbls⟩,S,n,k,fun b o e q j=>?_,hE⟩
 ·exact W b o (I.base.keep b o e m j (F b)) (.inr (.inl ⟨o,e⟩)) (x b o e j)
 ·obtain⟨sl,v⟩:=I.base.slot b o e m j (F b);obtain⟨G,y⟩:=Y b _ v (inS b j);exact⟨G,y⟩
 ·obtain⟨t,v⟩:=I.base.there b o e (F b);by_cases j:b∈frs c
  ·obtain⟨G,y⟩:=Y b _ v (inS b j);exact⟨_,y⟩
  ·exact⟨t,W b t v (.inr (.inl ⟨o,e⟩)) (x b o e j)⟩
 ·have R:∃t,T.heap.get? b=some t/\b∉frs (cxOf (CX1 P w) P w K r g N i d f l A c s H E).stack:=by
   rcases q with q | ⟨J,q⟩
   ·cases q':M b with
    | none=>exact uB q' q
    | some u=>
     obtain⟨ob,z⟩:=(I.hok b u q').has;exact⟨ob,z,fun zz=>by rw[I.stkFree b zz]at q';cases q'⟩
   ·obtain⟨t,v⟩:=I.base.there b J q (F b);exact⟨t,v,x b J q j⟩
  obtain⟨t,v,nf⟩:=R;have q2:M b≠none\/(∃J,s.heap.get? b=some J)\/∃p∈(cxOf (CX1 P w) P w K r g N i d f l A c s H E).pn++[],p.1=b:=by
   rcases q with q | q
   ·exact .inl q
   ·exact .inr (.inl q)
  have y:=C b t v q2 nf;have U:Z.get? b=some o:=e;rw[k.1 b t y]at U;cases U;exact y
noncomputable abbrev XS:=St->XK
noncomputable abbrev TRE:=St->Hp->XK->Prop
noncomputable abbrev TRS:=St->Hp->XS->Prop
def XPS(X:Cx)(pins:List (Addr×Obj))(E:XS)(e:Value)(s':Shared):Prop:=∃σ',XP X pins σ' (E σ') e s'
def RE(X:Cx)(e:Expr)(t:TRE):Prop:=
 ∀(pins:List (Addr×Obj)) (s:Shared) (σ:St) (H:Hp) (E:XK),Inv X pins σ H s->t σ H E->wpAny (model X.prog X.w) X.A (eval e X.env) (fun _ _=>False) (XP X pins σ E) s
def RS(X:Cx)(st:Stmt)(t:TRS):Prop:=
 ∀(pins:List (Addr×Obj)) (s:Shared) (σ:St) (H:Hp) (E:XS),Inv X pins σ H s->t σ H E->wpAny (model X.prog X.w) X.A (exec st X.env) (fun _ _=>False) (XPS X pins E) s
def RSs(X:Cx)(st:List Stmt)(t:TRS):Prop:=
 ∀(pins:List (Addr×Obj)) (s:Shared) (σ:St) (H:Hp) (E:XS),Inv X pins σ H s->t σ H E->wpAny (model X.prog X.w) X.A (execs st X.env) (fun _ _=>False) (XPS X pins E) s
noncomputable def rE(t:TRE):TRS:=fun σ H E=>t σ H (E σ)
noncomputable def rSeq(t1:TS)(t2:TRS):TRS:=fun σ H E=>t1 {nx:=fun σ' H'=>t2 σ' H' E,rt:=fun _ _=>False} σ H
noncomputable def rIf(tc:TT)(ta tb:TRS):TRS:=fun σ H E=>tc σ H fun b H1=>if b=true then ta σ H1 E else tb σ H1 E
noncomputable def rNever:TRS:=fun _ _ _=>False
section
variable{X:Cx}{e a b c:Expr}{t:TRE}{ta tb:TRS}{x:Str}{pos pos':Pos}{st:Stmt}{rest l r:List Stmt}
theorem j4D(c:RE X e t)(hs:swapsWith e (some (.Name x pos')) pos.line X.env=pure false:=by rfl):RS X (.Assign [.Name x pos'] e pos) (rE t):=fun a s b H E I h=>
 wpAny_Assign_Name (wpAny_mono (c a s b H _ I h) (fun _ _ z=>z.elim) fun e d q=>⟨b,q⟩) hs
theorem j0T:RSs X l rNever:=fun _ _ _ _ _ _ h=>h.elim
theorem kW(b:RS X st ta):RSs X (st::rest) ta:=fun a s c H E I h=>
 wpAny_execs_cons (wpAny_mono (b a s c H E I h) (fun _ _ z=>z.elim) fun _ _ q=>q)
theorem j2e{c:TS}(g:PS X.nox st c)(i:RSs X rest tb):RSs X (st::rest) (rSeq c tb):=fun a s k H E I h=>by
 refine wpAny_execs_cons (wpAny_mono (g a s k H _ (I.wish _) h) (fun f j q=>?_) fun _ _ z=>False.elim z);cases f with
 | next=>
  obtain⟨b,d,e,q⟩:=q;exact i a j b d E e.unwish q
 | ret v=>obtain⟨_,_,_,_,_,q⟩:=q;exact q.elim
 | brk=>obtain⟨_,_,_,q⟩:=q;exact q.elim
 | cont=>obtain⟨_,_,_,q⟩:=q;exact q.elim
theorem j52{j:TT}(n:PT X.nox c j)(k:RSs X l ta)(m:RSs X r tb):RS X (.If c l r pos) (rIf j ta tb):=fun a s b H E I h=>by
 refine wpAny_If (wpAny_mono (n a s b H _ (I.wish _) h) (fun d i ⟨e,f,g⟩=>?_) fun _ _ z=>False.elim z);cases d with
 | true=>exact k a i b e E f.unwish g
 | false=>exact m a i b e E f.unwish g
end
section
variable{X:Cx}{k:Nat}{f C:Addr}{fd:FuncData}{ps:List Str}{sp:Sp}{dvs:List V}{ds:List Value}{E:XK}{x m:Str}{p pos apos:Pos}{e o:Expr}{es:List Expr}{ta:TE}{t:TA}
theorem j3E{a:List (Addr×Obj)}{g:St}{H:Hp}{s:Shared}{us:List Value}{vs:List V}(F:FnOk X.prog X.w X.K X.mg X.base (CX1 X.prog X.w) k f fd ps sp)(m:Room k X.A)(i:Binds X.K fd ps ds)(j:Vals dvs ds)(c:Flat X)
  (I:Inv X a g H s) (r:Vals vs us) (h:sp (vs++dvs) H (fun _ _=>False) E):wpAny (model X.prog X.w) X.A (call (.ref f) us) (fun _ _=>False) (XP X a g E) s:=by
 have d:Vals (vs++dvs) (us++ds):=r.append j;have l:(us++ds).length=ps.length:=by rw[<-d.length];exact F.len _ _ _ _ h
 refine wpAny_call (codeAny_mono (F.run X.A X.stack s H ⟨us,[]⟩ (us++ds) (vs++dvs) _ E m I.env0 (i s us I.kIn l) d h) fun r n b=>?_);cases r with
 | error e=>exact XP.of_call c I b
 | ok c=>
  cases c with
  | ret u=>obtain⟨_,_,_,_,_,_,_,q⟩:=b;exact q.elim
  | next=>exact False.elim b
  | brk=>exact False.elim b
  | cont=>exact False.elim b
noncomputable def rCall(sp:Sp)(dvs:List V)(t:TA):TRE:=fun σ H E=>t σ H fun vs H1=>sp (vs++dvs) H1 (fun _ _=>False) E
theorem j3B(F:FnOk X.prog X.w X.K X.mg X.base (CX1 X.prog X.w) k f fd ps sp)(v:Room k X.A)(n:Gl X x)(u:X.mg x=some (.ref f))(o:PySem.W.keepIn X.K (.ref f)=true)(j:Binds X.K fd ps ds)(l:Vals dvs ds)(g:Flat X)
  (i:PA X.nox (e::es) t) (b:(x==("__debug__" : Str))=false:=by decide) (m:starEach (e::es) X.env=(false,eval e X.env)::starEach es X.env:=by rfl) (c:(backTo pos (starEach es X.env)).any (·.1)=false:=by rfl) :
  RE X (.Call (.Name x p) (e::es) [] pos) (rCall sp dvs t):=by
 intro a s w H E I h;refine wpAny_Call_Name_kw (Z2 I n u ?_ b);refine PySem.W.callWith_K (h₀:=X.base) I.ok.mod.kin o (wpAny_mono (i pos a s w H _ (I.wish _) h) (fun C B ⟨D,y,d,r,q⟩=>⟨d.unwish.kIn,?_⟩) fun _ _ z=>False.elim z) m c;exact j3E F v j l g d.unwish r q
end
theorem j1l{K:Frg}{h:Heap}{C:Addr}{d:List Value}{a:String}(X:K.In h)(q:PySem.W.excIn K C d a=true) :
  ∃bm N nm g bs hdct sn sub ab col dd k0 k1 k2 k3 k5 mN,h.get? C=some (excClassObj nm g C N bs bm hdct sn sub ab col dd k0 k1 k2 k3 k5 a)/\h.Ns N mN/\mN "__init__"= none/\OwnTail h d bm:=by
 unfold PySem.W.excIn at q;split at q
 ·rename_i dd cd sl ho;split at q
  ·rename_i C' bm k0 k1 k2 k3 n k5 hm hs;simp only[Bool.and_eq_true,beq_iff_eq,Bool.not_eq_true']at q;obtain⟨⟨⟨⟨⟨rfl,rfl⟩,b⟩,k⟩,c⟩,e⟩:=q;obtain⟨nm,bs,m,o,g,j,sn,sub,ab,col,i⟩:=cd;dsimp only at hm b c e;subst hm b;have f:sl = #[k0,k1,k2,k3,some (.builtin n),k5]:=by
    obtain⟨l⟩:=sl;simp only at hs;rw[hs]
   subst f;exact⟨bm,o,nm,g,bs,j,sn,sub,ab,col,dd,k0,k1,k2,k3,k5,_,X _ _ ho,.of_isNs (PySem.W.isNs_of_in X c),PySem.W.nsMap_none_of_in X c e,PySem.W.tail_of_in X k⟩
  ·cases q
 ·cases q
noncomputable def rRaise(C:Addr):TRS:=fun σ H E=>E σ (.ref C) none H
theorem j2d{X:Cx}{x:Str}{C:Addr}{u e j:Pos}{b c:String}{d:List Value}(k:ExcBaseFacts "ValueError" b c d)(l:Flat X)(r:Gl X x)(t:X.mg x=some (.ref C))(p:PySem.W.excIn X.K C d b=true)
  (g:(x==("__debug__" : Str))=false:=by decide):RS X (.Raise (some (.Call (.Name x u) [] [] e)) none j) (rRaise C):=by
 intro m s w H E I h;obtain⟨v,N,nm,q,bs,hdct,sn,sub,ab,col,dd,k0,k1,k2,k3,k5,mN,n,o,i,T⟩:=j1l I.kIn p;refine wpAny_Raise_call_subT (C:=C) (nm:=nm) (q:=q) (N:=N) (bs:=bs) (bm:=v) (hdct:=hdct) (sn:=sn) (sub:=sub) (ab:=ab) (col:=col) (dd:=dd) (k0:=k0) (k1:=k1) (k2:=k2) (k3:=k3) (k5:=k5)
  k (mN:=mN) (T.hasType k.hasBase) (I.ok.hd l.calm) rfl i (Z2 I r t ⟨rfl,?_⟩ g)
 exact evalArgs_empty ⟨rfl,vA _,n,o,T,fun y a f=>⟨w,XP.of_made l I f h⟩⟩
section
variable{P:Program}{w:World}{K:Frg}{mg:Str->Option Value}{base:Heap}
theorem j4f{k:Nat}{f:Addr}{name c:Str}{d:Arguments}{i:List Stmt}{a:Scope}{R kV m T g O oc:Value}{L od:Option Addr}
  {G:Array (Option Value)} {N ps:List Str} {sp:Sp} (lk:K.lookup f=some ⟨oc,od,.func (PySem.W.fnOf name c d i a R kV m T L g O),G⟩) (C:PySem.W.codeIn K g c=true) (S:FnScope N ps a)
  (B:∀vs H Q E,sp vs H Q E->vs.length=ps.length)
  (j:∀(A:Around) (outer:List Env) (s:Shared) (H:Hp) (vs:List V) (Q:VK) (E:XK),Room k (A.deeper (envOfC c a s.heap.objs.size f g))->sp vs H Q E->
   ∃t,RSs (cxOf (CX1 P w) P w K mg base N c a f g A outer s H E) i t/\t (start N vs) H (fun _=>E)) :
  FnOk P w K mg base (CX1 P w) (k+1) f (PySem.W.fnOf name c d i a R kV m T L g O) ps sp:=by
 refine⟨B,fun A outer s H M us vs Q E D p X r u=>?_⟩;have Z:=B _ _ _ _ u;have J:K.In s.heap:=p.mod.kin.keeps fun b o e=>(p.bs b o e).1
 have F:s.heap.NoLimit:=p.mod.nolimit.keeps fun b o e=>(p.bs b o e).1
 have l:∀y∈ps.zip us,a.names.lookup y.1=some .local\/(a.names.lookup y.1=some .cell/\((cellsFrom (s.heap.objs.size+1) a.names []).lookup y.1).isSome=true):=fun⟨n,v⟩ hy=>by
  rcases S.par n (of_mem_zip hy).1 with q | q
  ·exact .inl q
  ·exact .inr ⟨q,PySem.W.cellsFrom_some _ _ _ (.inl q)⟩
 refine codeAny_call_function D.depth (J _ _ lk) rfl S.co S.gen rfl (PySem.W.codeRec_of J C) (X _ _ _ _ ?_);refine wpAny_newFunctionEnv_cells S.kind l fun W Y U x=>?_
 subst Y;refine⟨F.keeps x.toInCall.keep,codeAny_func ?_⟩;obtain⟨t,ht,hq⟩:=j A outer s H vs Q E (D.deeper _) u;have I:Inv (cxOf (CX1 P w) P w K mg base N c a f g A outer s H E) [] (start N vs) H U:=KM S D.hd p Z r x;exact wpAny_mono (ht [] U (start N vs) H _ I hq) (fun _ _ z=>z.elim) fun e s' ⟨a0,q⟩=>XP.leaves q
theorem FunD.okR{x a:Str}{st:Stmt}{T f:Addr}{i:FuncData}{N ps:List Str}{k:Nat}{sp:Sp}(F:FunD K x a st T f i)(S:FnScope N ps (defScope st))(g:∀vs H Q E,sp vs H Q E->vs.length=ps.length)
  (c:∀(b:Value) (A:Around) (outer:List Env) (s:Shared) (H:Hp) (vs:List V) (Q:VK) (E:XK),Room k (A.deeper (envOfC a (defScope st) s.heap.objs.size f b))->sp vs H Q E->
   ∃t,RSs (cxOf (CX1 P w) P w K mg base N a (defScope st) f b A outer s H E) (defBody st) t/\t (start N vs) H (fun _=>E)):FnOk P w K mg base (CX1 P w) (k+1) f i ps sp:=by
 obtain⟨q,r,kV,j,u,o,b,p,n,rfl,m,d⟩:=F.ex;exact j4f m d S g fun A outer s H vs Q E l e=>c b A outer s H vs Q E l e
end
noncomputable def xcO(cls:Value)(a:Addr):Heap->Prop:=fun h=>∃o vs,h.get? a=some o/\o.cls=cls/\o.data = .fields vs
noncomputable abbrev XcO(cls:Value)(a:Addr):HO:=.ext (xcO cls a)
section
variable{X:Cx}{pins:List (Addr×Obj)}{σ:St}{H:Hp}{s:Shared}
theorem Inv.landed{H':Hp}{B h':Heap}(F:Flat X)(I:Inv X pins σ H' s)
  (y:∀b o,s.heap.get? b=some o->(H' b≠none\/(∃Q,X.s₀.heap.get? b=some Q)\/∃p∈X.pn++pins,p.1=b)->b∉frs X.stack->B.get? b=some o)
  (st:B.StaysIn h') (D:s.heap.UpToSlots h'):Inv X pins σ H' {s with heap:=h'}:=by
 obtain⟨C,H,A⟩:=XP.stays F I y st D;have t:∀b o,X.s₀.heap.get? b=some o->b∉X.fs->b∉frs X.stack:=fun b o e f z=>by
  rw[F.fs]at z;rcases mem_cons.mp z with z | z
  ·exact uB (Nat.lt_of_lt_of_le (vJ e) I.ok.above) (by rw[z];exact Nat.lt_irrefl _)
  ·exact f z
 have inS:∀b,b∈X.fs->b∈frs X.stack:=fun b z=>by rw[F.fs];exact vp _ z
 have a:∀c v,s.heap.IsCell c v->h'.IsCell c v:=fun c v ⟨o,P,E⟩=>by
  obtain⟨R,e⟩:=D c o P fun S q=>by rw[E]at q;cases q
  exact⟨_,e,E⟩
 refine⟨I.ok,I.os,I.bare,⟨fun b o e n f j=>?_,fun b o e n f j=>?_,I.base.free,fun b o e j=>?_,I.base.tups,I.base.frzs,I.base.tbls⟩,?_,fun x c e=>?_,I.free,I.freeC,fun p G=>?_,A,I.len⟩
 ·exact C b o (I.base.keep b o e n f j) (.inr (.inl ⟨o,e⟩)) (t b o e f)
 ·obtain⟨R,g⟩:=I.base.slot b o e n f j;obtain⟨w,h⟩:=H b _ g (inS b f);exact⟨w,h⟩
 ·obtain⟨L,g⟩:=I.base.there b o e j;by_cases f:b∈X.fs
  ·obtain⟨w,h⟩:=H b _ g (inS b f);exact⟨_,h⟩
  ·exact⟨L,C b L g (.inr (.inl ⟨o,e⟩)) (t b o e f)⟩
 ·obtain⟨m,O,N⟩:=I.loc;refine⟨m,D.ns O,fun i x v g h M=>?_⟩;obtain⟨u,r,l⟩:=N i x v g h M;refine⟨u,r,?_⟩;rcases l with l | ⟨k,c,e,z⟩
  ·exact .inl l
  ·exact .inr ⟨k,c,e,a c _ z⟩
 ·obtain⟨v,z⟩:=I.cell x c e;exact⟨v,a c v z⟩
 ·obtain⟨e,n,J,K,d⟩:=I.pin p G;refine⟨C p.1 p.2 e (.inr (.inr ⟨p,G,rfl⟩)) ?_,n,J,K,d⟩;rw[F.fs];intro z;rcases mem_cons.mp z with z | z
  ·exact J z
  ·exact K z
theorem Inv.known{T:Addr}{o:HO}(I:Inv X pins σ H s)(h:H T=none)(hs:X.s₀.heap.get? T=none)(j:T≠X.env.locals)(i:∀x c,X.env.cells.lookup x=some c->c≠T)(k:∀p∈X.pn++pins,p.1≠T)
  (f:ObjOk X.prog X.w (upd H T o) s.heap T o):Inv X pins σ (upd H T o) s:=by
 have d:∀b u,H b=some u->b≠T:=fun b u e z=>by rw[z,h]at e;cases e
 have m:∀b u,X.s₀.heap.get? b=some u->b≠T:=fun b u e z=>by rw[z,hs]at e;cases e
 refine⟨I.ok,I.os,I.bare,⟨I.base.keep,I.base.slot,fun b u e n l=>(jg (m b u e)).trans (I.base.free b u e n l),I.base.there,fun b w e=>?_,fun b u v e=>?_,fun b t e=>?_⟩,I.loc,I.cell,(jg (Ne.symm j)).trans I.free,fun x c e=>(jg (i x c e)).trans (I.freeC x c e),fun p g=>?_,fun b u e=>?_,I.len⟩
 ·have:=I.base.tups b w e;exact(jg (d _ _ this)).trans this
 ·have:=I.base.frzs b u v e;exact(jg (d _ _ this)).trans this
 ·obtain⟨a,this⟩:=I.base.tbls b t e;exact⟨a,(jg (d _ _ this)).trans this⟩
 ·obtain⟨e,n,r⟩:=I.pin p g;exact⟨e,(jg (k p g)).trans n,r⟩
 ·by_cases z:b=T
  ·subst z;rw[jt]at e;cases e;exact f
  ·rw[jg z]at e;exact(I.hok b u e).stay (fun c v _ q=>q) (fun c q=>(jg (d _ _ q)).trans q) fun c y q=>(jg (d _ _ q)).trans q
noncomputable abbrev Cx.inExc(X:Cx)(A:Around):Cx:={X with A:=A,calm:=false,xe:=fun _ _=>False}
theorem Inv.inExc(I:Inv X pins σ H s){A:Around}(a:A.frames=X.A.frames):Inv (X.inExc A) pins σ H s:=
 ⟨⟨I.ok.mod,I.ok.kind,I.ok.glob,I.ok.blt,I.ok.above,I.ok.inj,I.ok.has,I.ok.cab,(fun z=>nomatch z),a.trans I.ok.frames,I.ok.stk,I.ok.exf,I.ok.bs,I.ok.bsz,I.ok.noex,I.ok.exfs,I.ok.funs,I.ok.frf⟩,I.os,I.bare,I.base,I.loc,I.cell,I.free,I.freeC,I.pin,I.hok,I.len⟩
theorem Inv.outExc{A:Around}(I:Inv (X.inExc A) pins σ H s)(a:X.Ok):Inv X pins σ H s:=⟨a,I.os,I.bare,I.base,I.loc,I.cell,I.free,I.freeC,I.pin,I.hok,I.len⟩
theorem j0H{M:Model}{A:Around}{E:Value->Shared->Prop}{i:Nat}{n:Str}{D:Pos}{Q:Unit->Shared->Prop}(I:Inv X pins σ H s)(N:X.N.Nodup)(hi:X.N[i]?=some n)(O:X.env.scope.names.lookup n=some .local)
  (h:∀s',Inv X pins (σ.set i none) H s'->Q () s'):wpAny M A (do bindName X.env n .none;unbindBehindTheSuite X.env n D) Q E s:=by
 obtain⟨m,F,B⟩:=id I.loc;refine wpAny_nameGoes_keeps O F (by rw[I.ok.kind];rfl) fun L v C f=>h _ ?_
 obtain⟨oL,_,_,P,_⟩:=id F;have r:i<σ.length:=by rw[I.len];exact(vx.mp hi).1
 have a:HOk X.prog X.w H L:=fun b U e=>by
  refine(I.hok b U e).stay (fun c J l q=>(f.2 c ?_).trans q) (fun _ q=>q) fun _ _ q=>q
  rintro rfl;rcases l with l | l
  ·rw[<-l,I.free]at e;cases e
  ·rw[I.free]at l;cases l
 refine⟨I.ok,I.os,I.bare,⟨fun b o e n w t=>?_,fun b o e n w t=>?_,I.base.free,fun b o e t=>?_,I.base.tups,I.base.frzs,I.base.tbls⟩,⟨_,C,fun j y v' g u K=>?_⟩,fun y c e=>?_,I.free,I.freeC,fun p R=>?_,a,by simpa using I.len⟩
 ·exact(f.2 b (vF (Nat.lt_of_lt_of_le (vJ e) I.ok.above))).trans (I.base.keep b o e n w t)
 ·obtain⟨Y,g⟩:=I.base.slot b o e n w t;exact⟨Y,(f.2 b (vF (Nat.lt_of_lt_of_le (vJ e) I.ok.above))).trans g⟩
 ·obtain⟨T,g⟩:=I.base.there b o e t;exact⟨T,(f.2 b (vF (Nat.lt_of_lt_of_le (vJ e) I.ok.above))).trans g⟩
 ·by_cases x:j=i
  ·subst x;rw[List.getElem?_set_self r]at u;cases u
  ·rw[List.getElem?_set_ne (Ne.symm x)]at u;obtain⟨Z,W,q⟩:=B j y v' g u K;refine⟨Z,W,?_⟩;rcases q with⟨k,e⟩ | ⟨k,c,e,z⟩
   ·refine .inl ⟨k,?_⟩;have:y≠n:=fun e=>x (kL N g (e▸hi))
    simp[this,e]
   ·exact .inr ⟨k,c,e,z.sameBut f (I.cne y c e)⟩
 ·obtain⟨J,z⟩:=I.cell y c e;exact⟨J,z.sameBut f (I.cne y c e)⟩
 ·obtain⟨e,n,G,S,d⟩:=I.pin p R;exact⟨(f.2 p.1 G).trans e,n,G,S,d⟩
end
def tTry(K:Frg)(c:Value)(i:Nat)(tn:TS)(tr:TRS)(ts:TS):TS:=fun D σ H=>
 tn D σ H\/tr σ H fun σ' cls _ H'=>PySem.W.exmOne K cls c=some true/\∀a,H' a=none->
  ts {nx:=fun σ2 H2=>D.nx (σ2.set i none) H2,rt:=D.rt,bk:=fun σ2 H2=>D.bk (σ2.set i none) H2,ct:=fun σ2 H2=>D.ct (σ2.set i none) H2} (σ'.set i (some (.ref a))) (upd H' a (XcO cls a))
theorem j4A{X:Cx}{g t:List Stmt}{b0:Stmt}{x n:Str}{C:Addr}{i:Nat}{np Z a8:Pos}{tn:TS}{tr:TRS}{ts:TS}(O:Flat X)(hN:X.N.Nodup)(hi:X.N[i]?=some n)(hl:X.env.scope.names.lookup n=some .local)
  (hg:Gl X x) (hm:X.mg x=some (.ref C)) (hb:PSs X.nox g tn) (hr:RSs X g tr) (hs:∀A,PSs (X.inExc A) (b0::t) ts) (a4:(x==("__debug__" : Str))=false:=by decide) :
  PS X (.Try g [.ExceptHandler (some (.Name x np)) (some n) (b0::t) Z] [] [] a8) (tTry X.K (.ref C) i tn tr ts):=by
 intro b s σ H D I h;rcases h with h | h
 ·refine wpAny_Try_except (wpAny_mono (hb b s σ H D (I.wish _) h) (fun f s1 q=>?_) fun _ _ z=>False.elim z);have q:=q.unwish;cases f with
  | next=>exact wpAny_execs_nil q
  | ret v=>exact q
  | brk=>exact q
  | cont=>exact q
 ·refine wpAny_Try_except (wpAny_mono (hr b s σ H _ I h) (fun _ _ z=>z.elim) fun e s1 xp=>?_);obtain⟨G,a,R,H',B,rfl,na,I1,nT,Q,M,U,a6⟩:=xp;have J:=Q;rw[O.stk]at J;have T:X.A.frames=some (X.env::X.outer):=by rw[<-O.stk];exact I.ok.frames
  refine j0j T O.fr J fun h5 a0 N a2=>?_
  have I5:Inv X b G H' {s1 with heap:=h5}:=I1.landed O M N.1 a2;have a3:Inv (X.inExc (X.A.mark (some (.ref a)))) b G H' {s1 with heap:=h5}:=I5.inExc rfl;have LT:PySem.W.Looks (model X.prog X.w) h5 (typeOf (.ref a)) R:=by
   obtain⟨ob,a5,hc⟩:=N.there;subst hc;exact(PySem.W.Looks.ld a5).andThen .now
  refine wpAny_handleBy_cons (codeAny_handlers_test (Z2 (X:=X.inExc (X.A.mark (some (.ref a)))) a3 hg hm ?_ a4)) (by intro q;cases q);refine(PySem.W.exm_one I5.kIn LT U).here (codeAny_handlers_suite_as ?_);refine lands_againW N fun h6 S a9=>?_
  have I6:Inv X b G H' {s1 with heap:=h6}:=I1.landed O M S.1 (a2.trans a9);obtain⟨oe,ws,F,Y,l,_⟩:=S.first
  have I7:Inv X b G (upd H' a (XcO R a)) {s1 with heap:=h6}:=by
   refine I6.known nT na (fun z=>?_) (fun y c e z=>?_) (fun p Z z=>?_) ⟨⟨oe,ws,F,Y,l⟩,⟨oe,F⟩,fun h1 h2 ⟨o,vs,e1,e2,e3⟩ k=>⟨o,vs,k o e1,e2,e3⟩⟩
   ·obtain⟨m,⟨o,es,ep,ho,W,_⟩,_⟩:=I6.loc;have j:h6.get? a=some o:=by rw[z];exact ho
    rw[F]at j;cases j;rw[l]at W;cases W
   ·obtain⟨v,o,ho,W⟩:=I6.cell y c e;have j:h6.get? a=some o:=by rw[<-z];exact ho
    rw[F]at j;cases j;rw[l]at W;cases W
   ·obtain⟨e,nn,ne,nf,_⟩:=I1.pin p Z;have a7:p.1∉frs X.stack:=by
     rw[O.fs];intro zz;rcases mem_cons.mp zz with zz | zz
     ·exact ne zz
     ·exact nf zz
    have:=M p.1 p.2 e (.inr (.inr ⟨p,Z,rfl⟩)) a7;rw[z,Q.2.1]at this;cases this
  refine Yd (X:=X) I7 hN hi (.inl hl) (v:=.ref a) rfl (fun s8 I8=>?_) (.inr hl);refine wpAny_mono (hs (X.A.mark (some (.ref a))) b s8 _ _ _ (I8.inExc rfl) (a6 a nT)) (fun f s9 q=>?_) fun _ _ z=>False.elim z
  have E:∀{d:St} {K:Hp},Inv (X.inExc (X.A.mark (some (.ref a)))) b d K s9->(∀P,Inv X b (d.set i none) K P->SP X b D f P)->
    wpAny (model X.prog X.w) X.A (do bindName X.env n .none;unbindBehindTheSuite X.env n Z) (fun _ a1=>SP X b D f a1) X.xe s9:=fun {d K} w k=>j0H (w.outExc I.ok) hN hi hl k
  cases f with
  | next=>obtain⟨d,K,w,q⟩:=q;exact E w fun P L=>⟨_,_,L,q⟩
  | brk=>obtain⟨d,K,w,q⟩:=q;exact E w fun P L=>⟨_,_,L,q⟩
  | cont=>obtain⟨d,K,w,q⟩:=q;exact E w fun P L=>⟨_,_,L,q⟩
  | ret u=>obtain⟨v,d,K,w,r,q⟩:=q;exact E w fun P L=>⟨v,_,_,L,r,q⟩
def tTryJ(K:Frg)(c:Value)(i:Nat)(tn:TS)(tr:TRS)(ts:TS):TS:=fun D σ H=>∃Mid:St->Hp->Prop,tTry K c i tn tr ts {nx:=Mid,rt:=D.rt} σ H/\∀σ' H',Mid σ' H'->D.nx σ' H'
theorem j3x{X:Cx}{a b:List Stmt}{l:Stmt}{x n:Str}{C:Addr}{i:Nat}{J F g:Pos}{m:TS}{o:TRS}{p:TS}(u:Flat X)(w:X.N.Nodup)(hi:X.N[i]?=some n)(B:X.env.scope.names.lookup n=some .local)
  (z:Gl X x) (E:X.mg x=some (.ref C)) (y:PSs X.nox a m) (G:RSs X a o) (hs:∀A,PSs (X.inExc A) (l::b) p) (e:(x==("__debug__" : Str))=false:=by decide) :
  PS X (.Try a [.ExceptHandler (some (.Name x J)) (some n) (l::b) F] [] [] g) (tTryJ X.K (.ref C) i m o p):=by
 intro c s K H D I ⟨t,h,k⟩;refine thn (j4A u w hi B z E y G hs e c s K H _ I h) fun f L q=>?_
 cases f with
 | next=>obtain⟨d,j,r,q⟩:=q;exact⟨d,j,r,k d j q⟩
 | ret v=>exact q
 | brk=>obtain⟨_,_,_,q⟩:=q;exact q.elim
 | cont=>obtain⟨_,_,_,q⟩:=q;exact q.elim
open PySem PySem.Spec PyProof.Rows PySem.W
structure ExcI(K:Frag)(C:Addr):Prop where
 ga:findIn K (.ref C) "__getattribute__"= some (some (.builtin "BaseException.__getattribute__"))
 nh:findIn K (.ref C) "__getattr__"= some none
 cls:findIn K (.ref C) "__class__"= some (some (.builtin "object.__class__"))
 base:subIn K (.ref C) (.type "BaseException")=some true
 obj:subIn K (.ref C) (.type "object")=some true
 is:isClsIn K C=true
section
variable{prog:Program}{w:World}{A:Around}{E:Value->Shared->Prop}{K:Frag}{C a:Addr}
theorem xz{M:Model}{h:Heap}{cls:Value}(p:xcO cls a h):Looks M h (typeOf (.ref a)) cls:=by
 obtain⟨o,d,b,c,_⟩:=p;exact c▸(Looks.ld b).andThen .now
theorem j4P{R:Result->Shared->Prop}{h:Heap}{g:Array GenState}{d:Drawn}{t:Nat}{c:OsState}(Z:ExcI K C)(X:K.In h)(p:xcO (.ref C) a h)(i:R (.ok (.ret (.ref C))) ⟨h,g,d,t,c⟩) :
  codeAny (model prog w) A (.call (.builtin "getset_descriptor.__get__") ⟨[.builtin "object.__class__",.ref a,.ref C],[]⟩) R ⟨h,g,d,t,c⟩:=by
 have e:Looks (model prog w) h (typeOf (.ref a)) (.ref C):=xz p;have b:(⟨h,g,d,t,c⟩:Shared).TypeIs (.builtin "object.__class__") "getset_descriptor":=F.typeOf_object_class;have f:Looks (model prog w) h (isSubtype (.ref C) (.type (".".intercalate ("object.__class__".cutAt '.').dropLast))) true:=by rw[F.owner_object_class];exact looks_subIn X Z.obj
 refine codeAny_call_builtin F.slot_gs_get.plain F.entry_gs_get (F.slot_gs_get.check _ _ _ _ _ _ _ _ b (F.args_gs_get _ _ _) ?_)
 repeat (any_goals (first | assumption | with_reducible refine Looks.at e ?_ | with_reducible refine Looks.at f ?_ | wp_step))
 refine⟨Code.quiet_builtin _ (by decide +kernel),codeAny_builtin F.entry_object_class ?_⟩
 repeat (any_goals (first | assumption | with_reducible refine Looks.at e ?_ | wp_step))
theorem j2N{i:Tok}{Q:Fin->Shared->Prop}{h:Heap}{g:Array GenState}{d:Drawn}{t:Nat}{b:OsState}(Z:ExcI K C)(X:K.In h)(p:xcO (.ref C) a h)(m:Q (.done (.ret (.ref C))) ⟨h,g,d,t,b⟩) :
  wpAny (model prog w) A (Builtin.«object.__getattribute__» ⟨[.ref a,.str "__class__" i],[]⟩) Q E ⟨h,g,d,t,b⟩:=by
 have c:Looks (model prog w) h (typeOf (.ref a)) (.ref C):=xz p;have e:=looks_findIn (M:=model prog w) X Z.cls;have f:(⟨h,g,d,t,b⟩:Shared).TypeIs (.builtin "object.__class__") "getset_descriptor":=F.typeOf_object_class;have j:=F.typeOf_object_class;have k:=F.slot_gs_get.lookup;have l:=F.slot_gs_set.lookup
 repeat (any_goals (first | assumption | with_reducible refine Looks.at c ?_ | with_reducible refine Looks.at e ?_ | wp_step))
 refine j4P Z X p ?_
 repeat (any_goals (first | assumption | wp_step))
theorem j2L{M:Model}{b:Value}{Q:Unit->Shared->Prop}{h:Heap}{g:Array GenState}{d:Drawn}{t:Nat}{e:OsState}(Z:ExcI K C)(X:K.In h)(p:xcO (.ref C) a h)(k:Q () ⟨h,g,d,t,e⟩) :
  wpAny M A (checkBuiltinCall "BaseException.__getattribute__" ⟨[.ref a,b],[]⟩) Q E ⟨h,g,d,t,e⟩:=by
 have j:builtinKind "BaseException.__getattribute__"= some .slot:=by decide +kernel
 have c:splitId "BaseException.__getattribute__"= some ("BaseException","__getattribute__"):=by decide +kernel
 have f:Looks M h (typeOf (.ref a)) (.ref C):=xz p;have i:Looks M h (isSubtype (.ref C) (.type "BaseException")) true:=looks_subIn X Z.base;have l:=F.args_bexc_ga (.ref a) b;simp only[checkBuiltinCall,j,c];refine ub ?_;unfold isInstance
 repeat (first | with_reducible refine Looks.at f ?_ | with_reducible refine Looks.at i ?_ | wp_step)
 exact k
theorem j2M{Q:Option Value->Shared->Prop}{s:Shared}(Z:ExcI K C)(X:K.In s.heap)(p:xcO (.ref C) a s.heap)(q:Q (some (.ref C)) {s with toks:=s.toks+1}) :
  wpAny (model prog w) A (getAttr? (.ref a) "__class__") Q E s:=by
 obtain⟨h,g,d,t,i⟩:=s;have c:Looks (model prog w) h (typeOf (.ref a)) (.ref C):=xz p;have e:=looks_findIn (M:=model prog w) X Z.ga;have L2:=looks_findIn (M:=model prog w) X Z.nh;have f:=F.attr_ValueError.ga.bind (.ref a);have b:(Value.builtin "BaseException.__getattribute__"== Value.builtin "object.__getattribute__")=false:=by decide +kernel
 unfold getAttr? getAttrBy? getAttrBy;refine ub (wpAny_mkText (ub (wpAny_attempt (wpAny_holding (ub (c.at (ub (e.at ?_))))))));dsimp only;rw[show(onTheHeap (Value.ref C)&&Value.builtin "BaseException.__getattribute__"== Value.builtin "object.__getattribute__")=false from by rw[b];rfl];simp only[Bool.false_eq_true,if_false];unfold getAttrByItsOwn hookBefore;rw[show onTheHeap (Value.ref C)=true from rfl];simp only[if_true];refine ub (L2.at ?_);refine ub (wpAny_attempt (wpAny_holding ?_));unfold callGetattribute;simp only[Bool.false_and,Bool.false_eq_true,if_false];unfold boundAndCalled
 repeat (any_goals (first | assumption | wp_step))
 refine codeAny_call_builtin F.attr_ValueError.ga.plain F.entry_bexc_ga (j2L Z X p (j2N Z X p ?_))
 repeat (any_goals (first | assumption | wp_step))
theorem j1y(Z:ExcI K C):KitX K (.ref a) (.ref C) (xcO (.ref C) a) where
 ty:=fun _ _ _ p=>xz p
 it:=fun _ _ X _=>by
  have b:(clsIn K C).isSome=true:=Z.is;unfold clsIn at b;split at b
  ·rename_i c' d' cd' sl' ho;intro g j i m k q;unfold isType loadHead;exact ub (wpAny_loadPart (k _ _ (X _ _ ho)) (uA q))
  ·cases b
 ne:=fun h f l d n o X c=>by
  have b:(clsIn K C).isSome=true:=Z.is;refine Bool.eq_false_iff.mpr fun q=>?_
  have e:C=f:=Value.ref.inj (beq_iff_eq.mp q);subst e;unfold clsIn at b;split at b
  ·rename_i c' d' cd' sl' ho;have z:=(X _ _ ho).symm.trans c;cases z
  ·cases b
 ca:=fun X p k=>j2M Z X p k
end
section
variable{X:Cx}
def rIsiE(K:Frag)(xs:List V)(H:Hp)(Q:VK):Prop:=∃a C d u b,xs=[.ref a,d]/\H a=some (XcO (.ref C) a)/\ExcI K C/\RelV d u/\kitOne K (.ref C) u=some b/\Q (.bl b) H
theorem KE:CallR X (.builtin "isinstance") (rIsiE X.K):=by
 intro l s B H A x Q I r h;obtain⟨a,C,d,u,b,rfl,n,Z,g,e,q⟩:=h;obtain⟨v,c,rfl,o,f⟩:=vals2 r;cases(show v=Value.ref a from o);obtain⟨p,_,_⟩:=(show ObjOk X.prog X.w H s.heap a (XcO (.ref C) a)from I.hok a _ n)
 have m:kitOne X.K (.ref C) c=some b:=by
  cases d with
  | ref D=>cases(show c=Value.ref D from f);cases(show u=Value.ref D from g);exact e
  | ty T=>cases(show c=Value.type T from f);cases(show u=Value.type T from g);exact e
  | non=>cases(show u=Value.none from g);cases(show c=Value.none from f);exact e
  | bl y=>cases(show u=Value.bool y from g);cases(show c=Value.bool y from f);exact e
  | int i=>obtain⟨t,z⟩:=(show∃t,u=Value.int i t from g);obtain⟨k,j⟩:=(show∃t,c=Value.int i t from f);subst z j;unfold kitOne at e|-;rw[vb (by intro h;cases beq_iff_eq.mp h)]at e|-;exact e
  | str i=>obtain⟨t,z⟩:=(show∃t,u=Value.str i t from g);obtain⟨k,j⟩:=(show∃t,c=Value.str i t from f);subst z j;unfold kitOne at e|-;rw[vb (by intro h;cases beq_iff_eq.mp h)]at e|-;exact e
  | byt i=>obtain⟨t,z⟩:=(show∃t,u=Value.bytes i t from g);obtain⟨k,j⟩:=(show∃t,c=Value.bytes i t from f);subst z j;unfold kitOne at e|-;rw[vb (by intro h;cases beq_iff_eq.mp h)]at e|-;exact e
  | flt i=>obtain⟨t,z⟩:=(show∃t,u=Value.float i t from g);obtain⟨k,j⟩:=(show∃t,c=Value.float i t from f);subst z j;unfold kitOne at e|-;rw[vb (by intro h;cases beq_iff_eq.mp h)]at e|-;exact e
 exact kia_one (j1y Z) I.kIn p m (fun z=>nomatch z) fun w=>⟨.bl b,H,I.tok _,rfl,q⟩
theorem j07{a C:Addr}{d:V}{u:Value}{b:Bool}{K:Frag}{H:Hp}{Q:VK}(c:H a=some (XcO (.ref C) a))(Z:ExcI K C)(e:kitOne K (.ref C) u=some b)(q:Q (.bl b) H)(f:RelV d u:=by rfl):rIsiE K [.ref a,d] H Q:=⟨a,C,d,u,b,rfl,c,Z,f,e,q⟩
theorem Ki:bootBuiltins "ValueError"= some (.type "ValueError"):=by decide +kernel
theorem j0S{t:TRS}{a σ':St}{H:Hp}{E:XS}(e:a=σ')(h:t σ' H E):t a H E:=by subst e;exact h
theorem j3y{a:TS}{b:TRS}{c:St}{H:Hp}{E:XS}(h:a {nx:=fun σ' H'=>b σ' H' E,rt:=fun _ _=>False} c H):rSeq a b c H E:=h
theorem j4C{e:TT}{c d:TRS}{a:St}{H:Hp}{E:XS}(h:e a H fun b H1=>if b=true then c a H1 E else d a H1 E):rIf e c d a H E:=h
theorem j50{t:TRE}{a:St}{H:Hp}{E:XS}(h:t a H (E a)):rE t a H E:=h
theorem j29{sp:Sp}{a:List V}{t:TA}{b:St}{H:Hp}{E:XK}(h:t b H fun vs H1=>sp (vs++a) H1 (fun _ _=>False) E):rCall sp a t b H E:=h
theorem j3z{K:Frag}{c:Value}{i:Nat}{a:TS}{d:TRS}{e:TS}{D:Ends}{b:St}{H:Hp}(h:a D b H):tTry K c i a d e D b H:=.inl h
theorem j3A{K:Frag}{c:Value}{i:Nat}{g:TS}{d:TRS}{e:TS}{D:Ends}{f:St}{H:Hp} (h:d f H fun σ' cls _ H'=>exmOne K cls c=some true/\∀a,H' a=none->
  e {nx:=fun b H2=>D.nx (b.set i none) H2,rt:=D.rt,bk:=fun b H2=>D.bk (b.set i none) H2,ct:=fun b H2=>D.ct (b.set i none) H2} (σ'.set i (some (.ref a))) (upd H' a (XcO cls a))):tTry K c i g d e D f H:=.inr h
end
section
variable{X:Cx}{e:PySem.Expr}{es:List PySem.Expr}{te:TE}{t:TRE}{f:Addr}{x:Str}{p pos:Pos}
end
end L2
namespace Rm
open PySem PySem.Spec PyProof.Rows L2
theorem DOk.bkok{ls:List (Str×Int)}{names:List Str}{c:List Fn}{M:List (List Int)}{gs:List Int}(D:DOk (nmsOf ls) c M gs)(A:ls.length<=8)(u:∀q∈ls,0<=q.2/\q.2<=10^18)(t:∀x∈nmsOf ls,Ws.isW x=true)
  (B:∀x∈names,Ws.isW x=true) (C:c.length<=names.length) (n:c.length<=61):BkOk ls (drawnPs names c):=by
 have l:∀{j:Nat},j<c.length->Ws.isW (names.getD j ⟨#[]⟩)=true:=fun h=>B _ (getD_in (by lia))
 refine⟨A,fun p g=>⟨t _ (vL.mpr ⟨p,g,rfl⟩),(u p g).1,(u p g).2⟩,by rw[qc];exact n,fun p g=>?_⟩;obtain⟨i,y⟩:=List.mem_iff_getElem?.mp g;obtain⟨f,s,rfl⟩:=JA y;have z:=(vx.mp s).1;have a:=(D.f i f s).1;refine⟨l z,?_⟩;cases f with
 | hold m=>exact⟨by have:=a.1;lia,a.2⟩
 | ring x m=>exact⟨a.2.2,by have:=a.1;lia,a.2.1⟩
 | rise x v m=>
  obtain⟨⟨j,e⟩,r,b,d,w⟩:=a;exact⟨t x (vj e),r,b,by lia,w⟩
 | row is=>
  obtain⟨_,b,d⟩:=a;refine⟨by rw[vt];exact b,fun x o=>?_⟩;obtain⟨j,e,rfl⟩:=vL.mp o;exact l (by have:=d j e;lia)
 | side is=>
  obtain⟨_,b,d,_⟩:=a;refine⟨by rw[vt];exact b,fun x o=>?_⟩;obtain⟨j,e,rfl⟩:=vL.mp o;exact l (by have:=d j e;lia)
 | again k j=>
  obtain⟨r,b,d⟩:=a;exact⟨by lia,b,l (by lia)⟩
end Rm
namespace Ct
section
variable{s w g f a o b:Int}
end
end Ct
namespace Rm
open PySem PySem.Spec PyProof.Rows L2
structure MbS(d:Mb):Prop where
 sn:Sn d.ls d.ps d.gs d.hs
 w:WPre d.ps d.gs d.x d.W d.ps.length
 x1:Ws.isW d.x=true
 x2:∀p∈d.ps,FmWs p.2
section
variable{ls:List (Str×Int)}{names:List Str}{fs:List Fn}{gs W:List Int}{M:List (List Int)}{L:List Str}{x:Str}{k b:Int}{m:Bool}
end
def xl(B:Addr):Sp:=fun vs H _ xk=>∃(a b:Addr) (as:List Addr) (ds:List Mb) (t:Int),vs=[.ref a,.ref b,.int t]/\H a=some (.lst (as.map V.ref))/\All2 (BkA H) as ds/\H b=some (.lst (ds.map fun d=>V.str d.x))/\ds.length<=3/\(∀d∈ds,MbS d)/\(∃d∈ds,12<d.W.getD d.n 0)/\∀H',Same H H'->xk (.ref B) none H'
theorem BkA.same{H H':Hp}{a:Addr}{d:Mb}(s:Same H H')(h:BkA H a d):BkA H' a d:=by
 obtain⟨e,f,b,c,B⟩:=h;exact⟨e,f,b,c,B.same s⟩
section
variable{ls:List (Str×Int)}{ps:List (Str×Fm)}{gs W:List Int}{hs:List (List Int)}{x:Str}
theorem wA(i:Nat)(t:Int):0<=cntR x ps gs i t:=Int.natCast_nonneg _
theorem j15(N:Sn ls ps gs hs)(O:WPre ps gs x W ps.length){i:Nat}(hi:i<ps.length){v:Int}(b:0<=v):∀n:Nat,v+n<=gs.getD i 0->RA ps gs W i v<=RA ps gs W i (v+n)
 | 0,_=>by rw[show v+((0:Nat):Int)=v by lia];exact vB _
 | n+1,h=>by
  have c:=j15 N O hi b n (by lia);have a:=ZW N O i hi (v+n) (by lia) (by lia);have:=wA (x:=x) (ps:=ps) (gs:=gs) i (v+n);rw[show v+((n+1:Nat):Int)=v+n+1 by lia,a];lia
theorem XO(N:Sn ls ps gs hs)(O:WPre ps gs x W ps.length){i:Nat}(hi:i<ps.length){v:Int}(c:0<=v)(d:v<gs.getD i 0)(h:0<cntR x ps gs i v):0<W.getD i 0:=by
 have e:=ZW N O i hi v c d;have z:=ZX (W:=W) N i;have a:=j15 N O hi (vB 0) v.toNat (by lia);rw[show(0:Int)+(v.toNat:Int)=v by lia,z]at a;have b:=j15 N O hi (v:=v+1) (by lia) (gs.getD i 0-(v+1)).toNat (by lia);rw[show v+1+((gs.getD i 0-(v+1)).toNat:Int)=gs.getD i 0 by lia,zi N O hi]at b;lia
theorem Ye{j:Type}{f:j->Int}:∀{l:List j},(∀y∈l,0<=f y)->(0<(l.map f).sum↔∃y∈l,0<f y)
 | [],_=>⟨fun h=>uB h (show¬(0:Int)<0 by decide),fun⟨_,h,_⟩=>nomatch h⟩
 | a::r,h=>by
  have e:=Ye (l:=r) fun y d=>h y (vp _ d)
  have k:=h a vq;have i:0<=(r.map f).sum:=by
   clear e;have i:=fun y (d:y∈r)=>h y (vp _ d)
   clear h k
   induction r with
   | nil=>exact vB _
   | cons b s e=>
    have:=i b vq;have:=e fun y d=>i y (vp _ d)
    rw[uy,ux];lia
  rw[uy,ux];constructor
  ·intro s;by_cases c:0<f a
   ·exact⟨a,vq,c⟩
   ·obtain⟨y,d,g⟩:=e.mp (by lia);exact⟨y,vp _ d,g⟩
  ·rintro⟨y,d,g⟩;rcases mem_cons.mp d with rfl | d
   ·lia
   ·have:=e.mpr ⟨y,d,g⟩;lia
theorem j3X(t:Int)(q:Pc):0<=nQ x ps gs t q:=by
 unfold nQ;split
 ·exact wA _ _
 ·exact vB _
theorem kI{t:Int}{c:List Pc}{z:Nat×Int}:z∈bgs gs t c↔∃q∈c,∃u:Nat,u<q.2.1.toNat/\z=(q.1,t+q.2.2+(u:Int)*gs.getD q.1 0):=by
 unfold bgs;rw[mem_flatMap];constructor
 ·rintro⟨q,a,h⟩;obtain⟨u,b,e⟩:=vL.mp h;exact⟨q,a,u,v6.mp b,e.symm⟩
 ·rintro⟨q,a,u,b,e⟩;exact⟨q,a,vL.mpr ⟨u,v6.mpr b,e.symm⟩⟩
theorem xH(N:Sn ls ps gs hs)(O:WPre ps gs x W ps.length):∀(i:Nat),i<ps.length->0<W.getD i 0->∀(t y:Int),y∈RB ps gs W i t↔0<=y-t/\y-t<gs.getD i 0/\0<cntR x ps gs i (y-t):=by
 intro i
 induction i using Nat.strongRecOn with
 | ind i ih=>
  intro n C t y;have T:=(N.g n).1;by_cases c:pcB ps gs i=[]
  ·rw[Y0 (by rw[c];rfl),vo];have o:∀b,0<=b->b<gs.getD i 0->(0<cntR x ps gs i b↔b=0):=fun b E F=>by
    have v:=ZW N O i n b E F;rw[QH c,QH c,vc (by lia)]at v;by_cases z:b=0
    ·rw[vb (by lia)]at v;exact⟨fun _=>z,fun _=>by lia⟩
    ·rw[vc (by lia)]at v;exact⟨fun h=>uB h (by lia),fun h=>uB h z⟩
   constructor
   ·rintro rfl;exact⟨by lia,by lia,(o _ (by lia) (by lia)).mpr (by lia)⟩
   ·rintro⟨f,k,d⟩;have:=(o _ f k).mp d;lia
  ·have D:∀j,j<ps.length->0<=W.getD j 0:=fun j K=>(O.bnd N (va _) j K).1
   have r:∀{q:Pc},q∈pcB ps gs i->q.1<i:=fun a=>qi N.s.w a
   have Q:¬rq W (pcB ps gs i)=[]:=fun z=>by
    have e:=O.2 i _ n (vz n);rw[kQ (vz n) c,uv]at e;unfold wSum at e;rw[e]at C;obtain⟨q,a,L⟩:=(Ye fun q a=>vO (by have:=(N.pcOk a).2.2.2.1;lia) (D q.1 (by have:=r a;lia))).mp C;have wq:0<W.getD q.1 0:=by
     have:=D q.1 (by have:=r a;lia);by_cases z:W.getD q.1 0=0
     ·rw[z,Int.mul_zero]at L;lia
     ·lia
    have:q∈rq W (pcB ps gs i):=vQ.mpr ⟨a,vH wq⟩;rw[z]at this;exact nomatch this
   rw[K5 N.s.w Q,mem_flatMap];constructor
   ·rintro⟨z,P,M⟩;obtain⟨q,a,u,U,rfl⟩:=kI.mp P;obtain⟨a,wq⟩:=vQ.mp a;have wq:=of_decide_eq_true wq;have s:=r a;have m:=N.pcOk a;have S:=N.fit2 a;obtain⟨f,k,d⟩:=(ih q.1 s (by lia) wq _ y).mp M;have J:=m.2.1;have R:=m.2.2.2.2.2.1;dsimp only at f k d;generalize p:gs.getD q.1 0=g at *;have Z:(u:Int)*g+g<=q.2.1*g:=by
     have:=vW (show(u:Int)+1<=q.2.1 by lia) (show 0<=g by lia);rw[Int.add_mul]at this;lia
    have Y:0<=(u:Int)*g:=vO (by lia) (by lia);refine⟨by lia,by lia,?_⟩;rw[Yq N (by intro z;rcases z with z | z;lia;exact c z)];refine(Ye fun q _=>j3X _ q).mpr ⟨q,a,?_⟩;rw[j1M m (by lia),p];have w:y-t-q.2.2=(y-(t+q.2.2+u*g))+g*u:=by rw[Int.mul_comm g];lia
    have H:(y-t-q.2.2)/g=u:=by
     rw[w,Int.add_mul_ediv_left _ _ (by lia),Int.ediv_eq_zero_of_lt f k,uv]
    have I:(y-t-q.2.2)%g=y-(t+q.2.2+u*g):=by
     rw[w,Int.add_mul_emod_self_left,Int.emod_eq_of_lt f k]
    rw[H,I,vc (by lia)];exact d
   ·rintro⟨f,k,d⟩;rw[Yq N (by intro z;rcases z with z | z;lia;exact c z)]at d;obtain⟨q,a,l⟩:=(Ye fun q _=>j3X _ q).mp d;have s:=r a;have m:=N.pcOk a;have J:=m.2.1;by_cases b:q.2.2<=y-t
    case neg=>
     exfalso;unfold nQ at l;rw[vb (fun z=>b z.1)]at l;lia
    rw[j1M m b]at l;generalize p:gs.getD q.1 0=g at *;have A:=vd (y-t-q.2.2) (show g≠0 by lia);have B:=ve (y-t-q.2.2) (show 0<g by lia);have X:=Int.emod_add_mul_ediv (y-t-q.2.2) g;have G:0<=(y-t-q.2.2)/g:=Int.ediv_nonneg (by lia) (by lia);split at l
    ·rename_i d1;have wq:=XO N O (show q.1<ps.length by lia) A (by rw[p];exact B) l;refine⟨(q.1,t+q.2.2+(((y-t-q.2.2)/g).toNat:Int)*gs.getD q.1 0),kI.mpr ⟨q,vQ.mpr ⟨a,vH wq⟩,((y-t-q.2.2)/g).toNat,by lia,rfl⟩,?_⟩;have e:y-(t+q.2.2+(((y-t-q.2.2)/g).toNat:Int)*g)=(y-t-q.2.2)%g:=by
      rw[Int.toNat_of_nonneg G,Int.mul_comm _ g];lia
     refine(ih q.1 s (by lia) wq _ y).mpr ?_;rw[p,e];exact⟨A,B,l⟩
    ·lia
theorem j2J{W b:List Int}{a:List Pc}(h:∀q∈a,W.getD q.1 0=b.getD q.1 0):wSum W a=wSum b a:=by
 unfold wSum;rw[map_congr_left fun q c=>by rw[h q c]]
theorem j0h(N:Sn ls ps gs hs)(x:Str):∀n,n<=ps.length->∃W,WPre ps gs x W n
 | 0,_=>⟨[],rfl,fun j p h=>uB h (Nat.not_lt_zero _)⟩
 | n+1,h=>by
  obtain⟨W,c,d⟩:=j0h N x n (by lia);have f:n<ps.length:=by lia
  refine⟨W++[ownW x ps[n].2+wSum W (pcB ps gs n)],by rw[vn,c];rfl,fun j p i a=>?_⟩;have ext:∀k,k<n->(W++[ownW x ps[n].2+wSum W (pcB ps gs n)]).getD k 0=W.getD k 0:=fun k e=>by
   rw[vy,vy,vC (by lia)]
  have b:∀k,k<=n->wSum (W++[ownW x ps[n].2+wSum W (pcB ps gs n)]) (pcB ps gs k)=wSum W (pcB ps gs k):=fun k e=>by
   refine j2J fun q g=>?_
   have:=qi N.s.w g;rw[ext q.1 (by lia)]
  rcases Nat.lt_or_ge j n with z | z
  ·rw[ext j z,b j (by lia)];exact d j p z a
  ·have:j=n:=by lia
   subst this;rw[vz f]at a;cases a;rw[b j (va _),vy,vD (by lia),c,Nat.sub_self];rfl
end
structure MbG(d:Mb):Prop where
 ms:MbS d
 rb:∀y∈RB d.ps d.gs d.W d.n 0,0<=y/\y<d.L
 r:∀y,0<=y->(d.R y↔0<cntR d.x d.ps d.gs d.n (y%d.L))
 L1:1<=d.L
 L2:d.L<=10^60
 w0:0<=d.W.getD d.n 0
theorem MbS.g{d:Mb}(k:MbS d):MbG d:=by
 have D:=k.sn.ne;have a:d.n<d.ps.length:=by unfold Mb.n;lia
 have o:=k.sn.g a;have B:=(k.w.bnd k.sn (va _) d.n a).1;have A:1<=d.L:=o.1;have z:∀y∈RB d.ps d.gs d.W d.n 0,0<=y/\y<d.L:=fun y i=>by
  by_cases c:0<d.W.getD d.n 0
  ·obtain⟨p,r,_⟩:=(xH k.sn k.w d.n a c 0 y).mp i;rw[Int.sub_zero]at p r;exact⟨p,r⟩
  ·have e:rq d.W (pcB d.ps d.gs d.n)=[]:=by
    refine List.filter_eq_nil_iff.mpr fun q g h=>?_
    have wq:=of_decide_eq_true h;have E:=qi k.sn.s.w g;have e:=k.w.2 d.n _ a (vz a);have b:=j3U k.sn k.w a 0;have m:(q.1,0+q.2.2+((0:Nat):Int)*d.gs.getD q.1 0)∈bgs d.gs 0 (rq d.W (pcB d.ps d.gs d.n)):=kI.mpr ⟨q,vQ.mpr ⟨g,h⟩,0,by have:=(k.sn.pcOk g).2.2.2.1;lia,rfl⟩;have s:=(Ye (f:=fun y:Nat×Int=>d.W.getD y.1 0) (l:=bgs d.gs 0 (rq d.W (pcB d.ps d.gs d.n))) fun y i=>by have:=(KU k.sn.s.w i).2;lia).mpr ⟨_,m,wq⟩;lia
   rw[Y0 e,vo]at i;lia
 refine⟨k,z,fun y F=>?_,A,o.2,B⟩;have v:=vd y (show d.L≠0 by lia);have x:=ve y (show 0<d.L by lia);have C:=Int.emod_add_mul_ediv y d.L;constructor
 ·rintro⟨w,⟨j,u⟩,q,g⟩;have n:=z w u;obtain⟨_,_,t⟩:=(xH k.sn k.w d.n a j 0 w).mp u;rw[Int.sub_zero]at t;have:y%d.L=w:=by
   rw[show y=w+d.L*q by lia,Int.add_mul_emod_self_left];exact Int.emod_eq_of_lt n.1 n.2
  rw[this];exact t
 ·intro h;have j:=XO k.sn k.w a v x h;exact⟨y%d.L,⟨j,(xH k.sn k.w d.n a j 0 _).mpr (by rw[Int.sub_zero];exact⟨v,x,h⟩)⟩,y/d.L,by lia⟩
theorem MbG.ok{d:Mb}(k:MbG d)(h:d.W.getD d.n 0<=12):MbOk d:=⟨k.ms.sn,k.ms.w,h,k.ms.x1,k.ms.x2,k.rb⟩
noncomputable def ahE(d:Mb)(b:Int):Int:=b/d.L*d.W.getD d.n 0+RA d.ps d.gs d.W d.n (b%d.L)
theorem j17{d:Mb}(k:MbG d){b:Int}(h:0<=b):ahE d (b+1)=ahE d b+cntR d.x d.ps d.gs d.n (b%d.L):=by
 have n:=k.ms.sn.ne;have e:d.n<d.ps.length:=by unfold Mb.n;lia
 have l:=k.L1;have f:∀b,0<=b->ahE d b=fQ (d.W.getD d.n 0) (b/d.L+1) d.L (RA d.ps d.gs d.W d.n) b:=fun b _=>by
  unfold ahE fQ;rw[vc (by lia)]
 have g:=XY (w:=d.W.getD d.n 0) (T:=b/d.L+2) (g:=d.L) (r:=RA d.ps d.gs d.W d.n) (c:=cntR d.x d.ps d.gs d.n) (u:=b) (by lia) h (ZX k.ms.sn d.n) (zi k.ms.sn k.ms.w e) (fun v i j=>ZW k.ms.sn k.ms.w d.n e v i j);unfold fQ at g;have m:(b+1)/d.L<=b/d.L+1:=by
  have a:=Int.ediv_le_ediv (show 0<d.L by lia) (show b+1<=b+d.L by lia);rw[Int.add_ediv_of_dvd_right (Int.dvd_refl _),Int.ediv_self (by lia)]at a;exact a
 rw[vc (by lia),vc (by lia),vc (by lia)]at g;exact g
theorem WF{d:Mb}(k:MbG d){b:Int}(a:0<=b):∀n:Nat,(∀y,b<=y->y<b+n->¬d.R y)->ahE d (b+n)=ahE d b
 | 0,_=>by rw[show b+((0:Nat):Int)=b by lia]
 | n+1,h=>by
  have e:=WF k a n fun y c f=>h y c (by lia)
  rw[show b+((n+1:Nat):Int)=b+n+1 by lia,j17 k (by lia),e];have z:=h (b+n) (by lia) (by lia);rw[k.r _ (by lia)]at z;have:=wA (x:=d.x) (ps:=d.ps) (gs:=d.gs) d.n ((b+n)%d.L);lia
inductive sp_askedZ(B:Addr)(vs:List V)(H:Hp)(Q:VK)(xk:XK):Prop
 | mk (b:Addr) (d:Mb) (_:vs=[.ref b,.str d.x]) (_:BkA H b d) (_:MbG d) (_:∀(p:Addr) (ev fv:V) (H':Hp),Same H H'->H' p=some (.tup [ev,fv])->(if 12<d.W.getD d.n 0 then∃x,ev = .ref x/\H' x=some (XcO (.ref B) x)else ev = .non/\MeetR [d] 0 fv)->Q (.ref p) H'):sp_askedZ B vs H Q xk
inductive sp_aheadZ(vs:List V)(H:Hp)(Q:VK)(xk:XK):Prop
 | mk (b:Addr) (d:Mb) (t:Int) (_:vs=[.ref b,.str d.x,.int d.L,.int t]) (_:BkA H b d) (_:MbG d) (_:0<=t) (_:t<=10^230) (_:d.W.getD d.n 0<=12) (_:∀H',Same H H'->Q (.int (ahE d t)) H'):sp_aheadZ vs H Q xk
inductive sp_nextZ(vs:List V)(H:Hp)(Q:VK)(xk:XK):Prop
 | mk (b:Addr) (d:Mb) (t:Int) (_:vs=[.ref b,.str d.x,.int d.L,.int t]) (_:BkA H b d) (_:MbG d) (_:0<=t) (_:t<=10^210) (_:0<d.W.getD d.n 0) (_:d.W.getD d.n 0<=12) (_:∀(y:Int) (H':Hp),Same H H'->t<=y->y<=t+10^200->d.R y->(∀y',t<=y'->d.R y'->y<=y')->Q (.int y) H'):sp_nextZ vs H Q xk
inductive sp_beatZ(vs:List V)(H:Hp)(Q:VK)(xk:XK):Prop
 | mk (c n:Int) (_:vs=[.int c,.int n]) (_:1<=n) (_:n<=10^60) (_:∀r:Int,0<=r->r<=10^70->Q (.int r) H):sp_beatZ vs H Q xk
theorem MbG.some{d:Mb}(k:MbG d)(w:0<d.W.getD d.n 0):∃y,d.R y:=by
 have p:=k.ms.sn.ne;have a:d.n<d.ps.length:=by unfold Mb.n;lia
 have l:=k.L1;by_cases h:∃v,0<=v/\v<d.L/\0<cntR d.x d.ps d.gs d.n v
 ·obtain⟨v,b,j,g⟩:=h;exact⟨v,(k.r v b).mpr (by rw[Int.emod_eq_of_lt b j];exact g)⟩
 ·exfalso;have z:∀n:Nat,(n:Int)<=d.L->RA d.ps d.gs d.W d.n n=0:=fun n=>by
   induction n with
   | zero=>exact fun _=>ZX k.ms.sn d.n
   | succ n ih=>
    intro f;have i:=ZW k.ms.sn k.ms.w d.n a (n:Int) (by lia) (show(n:Int)<d.L by lia);have m:=wA (x:=d.x) (ps:=d.ps) (gs:=d.gs) d.n (n:Int);have o:¬0<cntR d.x d.ps d.gs d.n (n:Int):=fun c=>h ⟨n,by lia,by lia,c⟩
    rw[show((n+1:Nat):Int)=(n:Int)+1 by lia,i,ih (by lia)];lia
  have e:=z d.L.toNat (by lia);rw[Int.toNat_of_nonneg (by lia)]at e;have q:=zi k.ms.sn k.ms.w a;have:RA d.ps d.gs d.W d.n (d.gs.getD d.n 0)=0:=e;lia
theorem Xz{d:Mb}(k:MbG d){t:Int}(a:0<=t):rungN d.x d.ps d.gs (min t (d.gs.getD (d.ps.length-1) 0)).toNat=RA d.ps d.gs d.W d.n t:=(WE k.ms.sn k.ms.w a).symm
theorem MbG.whole{d:Mb}(k:MbG d):RA d.ps d.gs d.W d.n d.L=d.W.getD d.n 0:=zi k.ms.sn k.ms.w (by have:=k.ms.sn.ne;unfold Mb.n;lia)
theorem flatZ(a:List Str):(a.map V.str).all flatV=true:=by
 rw[List.all_map];exact all_eq_true.mpr fun _ _=>rfl
end Rm
namespace L2
inductive IvA2(a0 a1:Prop):Prop | mk:a0->a1->IvA2 a0 a1
inductive IvA3(a0 a1 a2:Prop):Prop | mk:a0->a1->a2->IvA3 a0 a1 a2
inductive IvA4(a0 a1 a2 a3:Prop):Prop | mk:a0->a1->a2->a3->IvA4 a0 a1 a2 a3
inductive IvA5(a0 a1 a2 a3 a4:Prop):Prop | mk:a0->a1->a2->a3->a4->IvA5 a0 a1 a2 a3 a4
inductive IvA6(a0 a1 a2 a3 a4 a5:Prop):Prop | mk:a0->a1->a2->a3->a4->a5->IvA6 a0 a1 a2 a3 a4 a5
inductive IvA7(a0 a1 a2 a3 a4 a5 a6:Prop):Prop | mk:a0->a1->a2->a3->a4->a5->a6->IvA7 a0 a1 a2 a3 a4 a5 a6
inductive IvA8(a0 a1 a2 a3 a4 a5 a6 a7:Prop):Prop | mk:a0->a1->a2->a3->a4->a5->a6->a7->IvA8 a0 a1 a2 a3 a4 a5 a6 a7
inductive IvE1{α0:Type}(p:α0->Prop):Prop | mk (x0) (h:p x0):IvE1 p
inductive IvE2{α0 α1:Type}(p:α0->α1->Prop):Prop | mk (x0 x1) (h:p x0 x1):IvE2 p
inductive IvE3{α0 α1 α2:Type}(p:α0->α1->α2->Prop):Prop | mk (x0 x1 x2) (h:p x0 x1 x2):IvE3 p
inductive IvE4{α0 α1 α2 α3:Type}(p:α0->α1->α2->α3->Prop):Prop | mk (x0 x1 x2 x3) (h:p x0 x1 x2 x3):IvE4 p
inductive IvE5{α0 α1 α2 α3 α4:Type}(p:α0->α1->α2->α3->α4->Prop):Prop | mk (x0 x1 x2 x3 x4) (h:p x0 x1 x2 x3 x4):IvE5 p
inductive IvE6{α0 α1 α2 α3 α4 α5:Type}(p:α0->α1->α2->α3->α4->α5->Prop):Prop | mk (x0 x1 x2 x3 x4 x5) (h:p x0 x1 x2 x3 x4 x5):IvE6 p
inductive IvE7{α0 α1 α2 α3 α4 α5 α6:Type}(p:α0->α1->α2->α3->α4->α5->α6->Prop):Prop | mk (x0 x1 x2 x3 x4 x5 x6) (h:p x0 x1 x2 x3 x4 x5 x6):IvE7 p
inductive IvE8{α0 α1 α2 α3 α4 α5 α6 α7:Type}(p:α0->α1->α2->α3->α4->α5->α6->α7->Prop):Prop | mk (x0 x1 x2 x3 x4 x5 x6 x7) (h:p x0 x1 x2 x3 x4 x5 x6 x7):IvE8 p
end L2
theorem L2.fsc(a:sc.kind = .function:=by rfl)(b:sc.isCoroutine=false:=by rfl)(c:sc.isGenerator=false:=by rfl)(d:N.Nodup:=by decide +kernel)(e:N.take P.length=P:=by rfl)(f:∀x∈P,sc.names.lookup x=some .local\/sc.names.lookup x=some .cell:=by decide +kernel)(g:∀y∈sc.names,y.2≠.free:=by decide +kernel):L2.FnScope N P sc:=⟨a,b,c,d,e,f,g⟩
structure PySem.W.Fast:Prop where
  (tw13057543926880794752 tw8479909910335685506 tw16057916320855147426 tw7551944734419999726 tw18093881817352819751 tw1495320962339234536 tw6392059937150294706 tw686272484425996162 tw15362316072455498772 tw3167706782945386693 tw901218378287803577 tw13165472518842182908 tw6781794711214758872 tw3003624146371641528 tw6935360550695000381 tw4446722252917357474 tw4062786722195998800 tw8703809621448830293 tw7931091011753829206 tw9031384884641155908 tw5489961576926450722 tw48811377450299875 tw11994584156702689819 tw3321419275718987235 tw18118796505758571249 tw8739237819742201146 tw3194022699117625943 tw9514426934899942992 tw9379710356859212556 tw11903830621752516409 tw10965132279645589056 tw6946621263459706882 tw7305026814776927784 tw16238966569751978419 tw15896310199224103339 tw1526780557325886231 tw11598130400614604087 tw9721958915944383023 tw552101388295813300 tw3700834510314009922 tw3051629584319040276 tw364998189819616485 tw5682509808207850689 tw5481053218653834044 tw1343633732202456473 tw7868400083535649360 tw12388119911992169377 tw18419936879246872022 tw13214682087697223627 tw15827256222604864601 tw9035733312973005420 tw148639886376341803 tw4689848731651741924 tw11373950936650822452 tw9275991768561909970 tw7313883426601822495 tw1223917215224382160 tw5689034739943051546 tw15671486316063637143 tw11931214059099654417 tw11269463436081381578 tw3089171430505197196 tw5254328993610512683 tw14316602344019450172 tw16562005773535656108 tw7105909445853681137 tw12214014895549137356 tw1192164788580459897 tw5722669105558739318 tw15844966695138087874 tw15515472337110260119 tw8598803240610346392 tw5286386698276538230 tw10951868038117481700 tw12369906148654299507 tw8725352434077948651 tw14700018601679467526 tw17129552976153146316 tw9659328210447355244 tw5504448689083260683 tw3967407715941064038 tw16267112357721810401 tw10093402543192744210 tw4232177306832282527 tw3349760042987267829 tw11433569700174576370 tw6019980622484815240 tw1020732637837129313 tw7725705689702524608 tw5157011497109917195 tw9372342670615073782 tw7677428734408851646 tw16135065615575239168 tw11170899078804191239 tw8661876482755293922 tw12072504086516536855 tw15501389055738867658 tw9317592118468858847 tw16614136992049958643 tw12012695409787562089 tw11490059158970646278 tw2631436742913523967 tw8606488715697306725 tw14383058681831884854 tw4884905713643711859 tw8537363503564611634 tw15174580026927714781 tw7261874349588994766 tw7864517403375587355 tw6655254357544576430 tw3181744460925961835 tw9640713688218568780 tw13539860792400571973 tw11968768556994629356 tw6931428191849354881 tw13390356936460192143 tw13767261711586401621 tw18427076237509604273 tw5228534626746203746 tw2371405625312043460 tw16556032962660150020 tw18184286371214667052 tw16197094763515496713 tw2907947377352521485 tw14988563440688015351 tw13077341053520831553 tw12022531107630721150 tw14276383567484097158 tw6696342682530789317 tw1519507689491337480 tw14213219558820991435 tw12950759573624093742 tw5939817979698745248 tw15755005947649951059 tw2170267584450223955 tw1829210742396354938 tw15161552025400194294 tw8563259370616791406 tw15252242393634505847 tw5911898224540122395 tw4388746375615620388 tw11474879280319632491 tw8730939832793080775 tw3595593279031372460 tw12967815413681253889 tw9632082595047743265 tw9450100983966565636 tw15244568568346837105 tw6970738206927997836 tw2867317103757424090 tw18328803639888507337 tw5625567619556131779 tw6684488566001626908 tw14259679403755175183 tw13881672021599371171 tw548252307734023646 tw15741674353867236508 tw2769022229164147056 tw15047572985328618448 tw6045988389854729380 tw14931002241297463025 tw1895544558912404185 tw4572485922654866288 tw8899054969417077450 tw16468631514659753078 tw15400122196444347119 tw18989421003083011 tw13911842837236560046 tw12413924322240377013 tw4867166052721441661 tw5892633410588482622 tw7521970868367724937 tw5044742973911547743 tw8396602828812244273 tw15539449505054554615 tw16001853999680270103 tw4240426322258285553 tw2801441110426687159 tw4513276036979158125 tw14319237079069691926 tw7358239483940724691 tw11509324684512117438 tw3769167875488217586 tw14281474065412201517 tw7585558579800966729 tw6830672074254819501 tw4894596182537786789 tw4558651435425374807 tw1669661483563466828 tw1750302296792791570 tw9398149002289058000 tw17003397788070455320 tw6644436283803342415 tw11931225911915370071 tw4073450349030513954 tw6310383752733850945 tw10249093218537259454 tw8415466035403051288 tw9689729621351388304 tw17233656813894882091 tw17391889850699708945 tw7740714950021697024 tw12431615361907647147 tw3426613300559570971 tw1329264058636787512 tw1564909415272317386 tw13490520850239365460 tw17154630695724535892 tw15021578691789425988 tw11403919004124378386 tw16939179226699173100 tw1163762054187798059 tw4750194601559171687 tw13732699111334409301 tw775733972105786519 tw10126637808961273017 tw3887827640106746655 tw1607630251731680326 tw170618508247116567 tw16220057027576040300 tw608706526351822272 tw16430111262549499588 tw3469395254509270741 tw8415972744677501303 tw6266660755733967678 tw13031879765664382999 tw6672754544122045141 tw10083298255602971976 tw12119413492139123553 tw6722325259538500558 tw17715462776993165350 tw15065645957666140434 tw9782752119351297978 tw5897637029913252820 tw16841156233612502989 tw13995314347531699121 tw15064573632046253564 tw16738134837511584208 tw17190738593556426095:True)
namespace L2
open PySem PySem.Spec PyProof.Rows
structure Dfn(K:Frg)(mg:Str->Option Value)(x:Str)(st:Stmt)(f:Addr)(d:FuncData)(ps:List Str):Prop where
  F:Fun K x x st f d
  m:mg x=some (.ref f)
  B:Binds K d ps []
theorem jk{X:Cx}{x:Str}{st:Stmt}{f:Addr}{g:FuncData}{ps:List Str}{j k:Nat}{sp:Sp}{e:Expr}{a:List Expr}{p b:Pos}{t:TA}(D:Dfn X.K X.mg x st f g ps)(F:FnOk X.prog X.w X.K X.mg X.base CX0 j f g ps sp)(o:Room k X.A)(i:PA X (e::a) t)(n:j<=k:=by decide)(m:Gl X x:=by rfl)(c:(x==("__debug__" : Str))=false:=by decide)(l:starEach (e::a) X.env=(false,eval e X.env)::starEach a X.env:=by rfl)(d:(backTo b (starEach a X.env)).any (·.1)=false:=by rfl):PE X (.Call (.Name x p) (e::a) [] b) (tCall sp [] E0 t):=Y5 (F.mono n) o m D.m D.F.kp D.B .nil pass0 i c l d
end L2
local macro_rules | `(tactic| specialize $e) => do
  let i:=fun(k:String)=>Lean.mkIdent (Lean.Name.mkSimple k)
  `(tactic| (refine $e (fun $(i "vs") $(i "H") $(i "Q") $(i "E") $(i "h")=>?_) (fun $(i "cdv") $(i "A") $(i "outer") $(i "s") $(i "H") $(i "vs") $(i "Q") $(i "E") $(i "hr") $(i "h")=>?_);focus (cases $(i "h"):ident;subst_vars;rfl)))
theorem Rm.iteE0{b:Bool}{A B:Prop}(h:B)(e:b=false:=by decide +kernel):if b=true then A else B:=Rm.iteB0 e h
theorem Rm.iteE1{b:Bool}{A B:Prop}(h:A)(e:b=true:=by decide +kernel):if b=true then A else B:=Rm.iteB1 e h
namespace K46
open PySem L2 Rm
noncomputable def top(i:Nat):Stmt:=PySem.Challenge.pw_camplay_k46_one_book_rings.main.body.getD i (.Pass ⟨0,0,0,0⟩)
noncomputable abbrev Wo:Stmt:=top 0
theorem j53:FnScope ["k"] ["k"] (defScope Wo):=fsc
noncomputable abbrev Zc:Stmt:=top 10
theorem qU:FnScope ["named","numbers","number","one"] ["named"] (defScope Zc):=fsc
noncomputable abbrev yx:Stmt:=top 11
theorem xh:FnScope ["form"] ["form"] (defScope yx):=fsc
noncomputable abbrev Y8:Stmt:=top 13
theorem ZR:FnScope ["book","numbers","found","name","form"] ["book"] (defScope Y8):=fsc
noncomputable abbrev XA:Stmt:=top 14
theorem Q5:FnScope ["book","limbs","found","part","inside","form","left","other"] ["book"] (defScope XA):=fsc
noncomputable abbrev Y9:Stmt:=top 15
theorem Ka:FnScope ["book","found","left"] ["book"] (defScope Y9):=fsc
noncomputable abbrev Qo:Stmt:=top 16
theorem zh:FnScope ["row","moves","limbs","number","limb"] ["row","moves","limbs"] (defScope Qo):=fsc
noncomputable abbrev ZO:Stmt:=top 17
theorem Wt:FnScope ["form","inside"] ["form","inside"] (defScope ZO):=fsc
noncomputable abbrev zo:Stmt:=top 18
theorem qv:FnScope ["book","moves","found","row","inside","form","length"] ["book"] (defScope zo):=fsc
noncomputable abbrev ZP:Stmt:=top 20
theorem JI:FnScope ["form","inside","sizes","part","later","found","begin"] ["form","inside","sizes"] (defScope ZP):=fsc
noncomputable abbrev Q4:Stmt:=top 21
theorem Wu:FnScope ["book","sizes"] ["book","sizes"] (defScope Q4):=fsc
noncomputable abbrev yy:Stmt:=top 22
theorem JV:FnScope ["pieces","sizes","gone","found","part","turns","begin","over","rest"] ["pieces","sizes","gone"] (defScope yy):=fsc
noncomputable abbrev Jv:Stmt:=(inClass (top 24) 0)
theorem Js:FnScope ["self","book","word","part","pieces","own"] ["self","book","word"] (defScope Jv):=fsc
noncomputable abbrev qH:Stmt:=(inClass (top 24) 1)
theorem jH:FnScope ["self","beat","told","playing","now","other","begin","over","rest"] ["self","beat"] (defScope qH):=fsc
noncomputable abbrev yw:Stmt:=top 25
theorem xg:FnScope ["tally","beat"] ["tally","beat"] (defScope yw):=fsc
noncomputable abbrev Zd:Stmt:=top 26
theorem Ku:FnScope ["book","word","beat"] ["book","word","beat"] (defScope Zd):=fsc
noncomputable abbrev yX:Stmt:=top 28
theorem zp:FnScope ["pieces","sizes","beat","found","part","turns","begin"] ["pieces","sizes","beat"] (defScope yX):=fsc
noncomputable abbrev Qn:Stmt:=top 30
theorem qt:FnScope ["tally","found","todo","now","ringing"] ["tally"] (defScope Qn):=fsc
noncomputable abbrev ZN:Stmt:=top 31
theorem qf:FnScope ["one","other","rests","factors","many"] ["one","other"] (defScope ZN):=fsc
noncomputable abbrev Zf:Stmt:=top 32
theorem qz:FnScope ["rung","other","common","steps","beats","beat","wanted"] ["rung","other"] (defScope Zf):=fsc
noncomputable abbrev JD:Stmt:=top 33
theorem JU:FnScope ["books","words","beat","tallies","rung","tally","begin"] ["books","words","beat"] (defScope JD):=fsc
noncomputable abbrev kZ:Stmt:=top 35
theorem Qq:FnScope ["pieces","sizes","gone","found","part","begin","over","rest"] ["pieces","sizes","gone"] (defScope kZ):=fsc
noncomputable abbrev JC:Stmt:=(inClass (top 36) 0)
theorem yY:FnScope ["self","book"] ["self","book"] (defScope JC):=fsc
noncomputable abbrev zf:Stmt:=(inClass (top 36) 1)
theorem Jq:FnScope ["self","beat","starts","playing","todo","now","limb","height"] ["self","beat"] (defScope zf):=fsc
noncomputable abbrev qu:Stmt:=(inClass (top 36) 2)
theorem xC:FnScope ["self","beat"] ["self","beat"] (defScope qu):=fsc
noncomputable abbrev qN:Stmt:=(inClass (top 36) 3)
theorem Jw:FnScope ["self","beat","words","part","gone","form"] ["self","beat"] (defScope qN):=fsc
noncomputable abbrev Wp:Stmt:=top 37
theorem j2j:FnScope ["book","beat"] ["book","beat"] (defScope Wp):=fsc
noncomputable abbrev YD:Stmt:=top 39
theorem XB:FnScope ["book","beat"] ["book","beat"] (defScope YD):=fsc
noncomputable abbrev Ze:Stmt:=top 40
theorem Kv:FnScope ["book","beat"] ["book","beat"] (defScope Ze):=fsc
noncomputable abbrev QD:Stmt:=top 42
theorem YY:FnScope ["_law_script","_law_k"] ["_law_script","_law_k"] (defScope QD):=fsc
noncomputable abbrev ZK:Stmt:=top 43
theorem Jj:FnScope ["_law_script","_law_k","_law_cell","_law_number_here","_law_found","_law_turn"] ["_law_script","_law_k"] (defScope ZK):=fsc
noncomputable abbrev ZL:Stmt:=top 44
theorem y9:FnScope ["_law_pool_here","_law_many","_law_found"] ["_law_pool_here","_law_many"] (defScope ZL):=fsc
noncomputable abbrev ZM:Stmt:=top 45
theorem Wr:FnScope ["_law_place","_law_k"] ["_law_place","_law_k"] (defScope ZM):=fsc
noncomputable abbrev zg:Stmt:=top 46
theorem ZQ:FnScope ["_law_pool_here","_law_most","_law_way"] ["_law_pool_here","_law_most"] (defScope zg):=fsc
noncomputable abbrev Q3:Stmt:=top 47
theorem qI:FnScope ["_law_moves","_law_at","_law_many","_law_k","_law_one","_law_other"] ["_law_moves","_law_at"] (defScope Q3):=fsc
noncomputable abbrev qr:Stmt:=top 48
theorem JT:FnScope ["_law_pool_here","_law_way","_law_names","_law_moves","_law_longs","_law_most","_law_pair_here","_law_at","_law_times"] ["_law_pool_here","_law_way","_law_names","_law_moves","_law_longs","_law_most"] (defScope qr):=fsc
noncomputable abbrev Q2:Stmt:=top 49
theorem JH:FnScope ["_law_pool_here","_law_book_here","_law_moves","_law_longs","_law_most","_law_way","_law_names","_law_limb","_law_goal","_law_some","_law_word_here"] ["_law_pool_here","_law_book_here","_law_moves","_law_longs","_law_most"] (defScope Q2):=fsc
noncomputable abbrev JG:Stmt:=top 50
theorem Jn:FnScope ["_law_book_here","_law_moves","_law_longs","_law_name","_law_form_here","_law_numbers","_law_limbs","_law_k","_law_long"] ["_law_book_here","_law_moves","_law_longs","_law_name","_law_form_here"] (defScope JG):=fsc
noncomputable abbrev qX:Stmt:=top 51
theorem jQ:FnScope ["_law_script","_law_start","_law_most","_law_pool_here","_law_place","_law_called","_law_order","_law_many","_law_book_here","_law_moves","_law_longs","_law_k","_law_name","_law_last"] ["_law_script","_law_start","_law_most"] (defScope qX):=fsc
noncomputable abbrev Zb:Stmt:=top 52
theorem Kt:FnScope ["_law_found"] ["_law_found"] (defScope Zb):=fsc
noncomputable abbrev ZI:Stmt:=top 53
theorem yZ:FnScope ["_law_cell","_law_long","_law_beat_here"] ["_law_cell","_law_long"] (defScope ZI):=fsc
noncomputable abbrev Za:Stmt:=top 54
theorem JL:FnScope ["_law_book_here","_law_word_here","_law_error","_law_found","e"] ["_law_book_here","_law_word_here"] (defScope Za):=fsc
noncomputable abbrev zZ:Stmt:=top 55
theorem Ks:FnScope ["_law_book_here","_law_word_here","_law_long","_law_beat_here"] ["_law_book_here","_law_word_here","_law_long","_law_beat_here"] (defScope zZ):=fsc
noncomputable abbrev ZJ:Stmt:=top 56
theorem y8:FnScope ["_law_book_here","_law_word_here","_law_long","_law_beat_here","_law_found"] ["_law_book_here","_law_word_here","_law_long","_law_beat_here"] (defScope ZJ):=fsc
noncomputable abbrev j2i:Stmt:=top 57
theorem Zg:FnScope ["_law_script","_law_book_here","_law_long","_law_word_here","_law_many","_law_error","_law_found","_law_beat_here","_law_there"] ["_law_script"] (defScope j2i):=fsc
set_option genInjectivity false in
set_option genSizeOf false in
structure Ad where
 j2S:Addr
 j31:FuncData
 J1:Addr
 qb:FuncData
 zG:Addr
 zN:FuncData
 yI:Addr
 yM:FuncData
 K6:Addr
 wB:FuncData
 K7:Addr
 wC:FuncData
 Qf:Addr
 Qk:FuncData
 QN:Addr
 QV:FuncData
 zj:Addr
 zk:FuncData
 QO:Addr
 QW:FuncData
 QP:Addr
 QX:FuncData
 Qt:Addr
 Qv:FuncData
 jP:Addr
 jU:FuncData
 JM:Addr
 JN:FuncData
 yk:Addr
 yn:FuncData
 Qg:Addr
 Ql:FuncData
 yH:Addr
 yL:FuncData
 zF:Addr
 zM:FuncData
 QM:Addr
 QU:FuncData
 yl:Addr
 yo:FuncData
 J0:Addr
 JJ:FuncData
 j10:Addr
 kh:Addr
 kz:FuncData
 Jz:Addr
 J3:FuncData
 qP:Addr
 qR:FuncData
 Qs:Addr
 Qu:FuncData
 JZ:Addr
 qa:FuncData
 K8:Addr
 wD:FuncData
 Yl:Addr
 Yr:FuncData
 zH:Addr
 zO:FuncData
 qC:Addr
 qE:FuncData
 QK:Addr
 QS:FuncData
 JP:Addr
 JR:FuncData
 QL:Addr
 QT:FuncData
 qk:Addr
 qm:FuncData
 QJ:Addr
 QR:FuncData
 Q8:Addr
 za:FuncData
 Zv:Addr
 ZB:FuncData
 zE:Addr
 zL:FuncData
 Zu:Addr
 ZA:FuncData
 Qe:Addr
 Qj:FuncData
 QI:Addr
 QQ:FuncData
 zD:Addr
 zK:FuncData
 zC:Addr
 zJ:FuncData
 Zw:Addr
 ZC:FuncData
 j16:Addr
 XR:FuncData
 jx:Addr
 j9:Addr
 J2:Addr
 YS:Addr
 qg:Addr
structure Txt(K:Frg)(mg:Str->Option Value)(t:Ad):Prop where
 j55:Dfn K mg "_wall" Wo t.j2S t.j31 ["k"]
 Qa:Dfn K mg "numbers_of" Zc t.J1 t.qb ["named"]
 kc:Dfn K mg "names_in" yx t.zG t.zN ["form"]
 YZ:Dfn K mg "inner" Y8 t.yI t.yM ["book"]
 xF:Dfn K mg "ends" XA t.K6 t.wB ["book"]
 XL:Dfn K mg "moved" Y9 t.K7 t.wC ["book"]
 yD:Dfn K mg "check_side" Qo t.Qf t.Qk ["row","moves","limbs"]
 YO:Dfn K mg "length_of" ZO t.QN t.QV ["form","inside"]
 ZV:Dfn K mg "lengths" zo t.zj t.zk ["book"]
 YQ:Dfn K mg "pieces_in" ZP t.QO t.QW ["form","inside","sizes"]
 Zk:Dfn K mg "pieces_of" Q4 t.QP t.QX ["book","sizes"]
 yf:Dfn K mg "progress" yy t.Qt t.Qv ["pieces","sizes","gone"]
 Zl:Fun K "__init__" "RingTally.__init__" Jv t.jP t.jU
 WA:Meth K t.jx "__init__" t.jP
 JO:Binds K t.jU ["self","book","word"] []
 yF:Fun K "ahead" "RingTally.ahead" qH t.JM t.JN
 yp:Meth K t.jx "ahead" t.JM
 yz:Binds K t.JN ["self","beat"] []
 ka:Dfn K mg "ahead_of" yw t.yk t.yn ["tally","beat"]
 Qb:Dfn K mg "ring_count" Zd t.Qg t.Ql ["book","word","beat"]
 WB:Dfn K mg "begins" yX t.yH t.yL ["pieces","sizes","beat"]
 yC:Dfn K mg "beats_rung" Qn t.zF t.zM ["tally"]
 YM:Dfn K mg "common_of" ZN t.QM t.QU ["one","other"]
 ke:Dfn K mg "together" Zf t.yl t.yo ["rung","other"]
 Qp:FunD K "meeting" "meeting" JD t.j10 t.J0 t.JJ
 Z3:mg "meeting"= some (.ref t.J0)
 Kx:Binds K t.JJ ["books","words","beat"] []
 WC:∃ds,Binds K t.JJ ["books","words","beat"] ds/\Vals [.int 0] ds
 WD:Dfn K mg "within" kZ t.kh t.kz ["pieces","sizes","gone"]
 Yh:Fun K "__init__" "Stage.__init__" JC t.Jz t.J3
 X7:Meth K t.j9 "__init__" t.Jz
 Yf:Binds K t.J3 ["self","book"] []
 Kh:Fun K "scene" "Stage.scene" zf t.qP t.qR
 kH:Meth K t.j9 "scene" t.qP
 Kg:Binds K t.qR ["self","beat"] []
 xG:Fun K "heights_at" "Stage.heights_at" qu t.Qs t.Qu
 xB:Meth K t.j9 "heights_at" t.Qs
 xE:Binds K t.Qu ["self","beat"] []
 Yi:Fun K "words_at" "Stage.words_at" qN t.JZ t.qa
 yS:Meth K t.j9 "words_at" t.JZ
 Yg:Binds K t.qa ["self","beat"] []
 XM:Dfn K mg "rings" Wp t.K8 t.wD ["book","beat"]
 Ky:Dfn K mg "gone_at" YD t.Yl t.Yr ["book","beat"]
 yE:Dfn K mg "rings_ever" Ze t.zH t.zO ["book","beat"]
 Qr:Dfn K mg "_law_cell_at" QD t.qC t.qE ["_law_script","_law_k"]
 Zi:Dfn K mg "_law_pool" ZK t.QK t.QS ["_law_script","_law_k"]
 jJ:Dfn K mg "_law_take" ZL t.JP t.JR ["_law_pool_here","_law_many"]
 Zj:Dfn K mg "_law_word" ZM t.QL t.QT ["_law_place","_law_k"]
 Jk:Dfn K mg "_law_number" zg t.qk t.qm ["_law_pool_here","_law_most"]
 YL:Dfn K mg "_law_pair" Q3 t.QJ t.QR ["_law_moves","_law_at"]
 yc:Dfn K mg "_law_naming" qr t.Q8 t.za ["_law_pool_here","_law_way","_law_names","_law_moves","_law_longs","_law_most"]
 YJ:Dfn K mg "_law_form" Q2 t.Zv t.ZB ["_law_pool_here","_law_book_here","_law_moves","_law_longs","_law_most"]
 ye:Dfn K mg "_law_put" JG t.zE t.zL ["_law_book_here","_law_moves","_law_longs","_law_name","_law_form_here"]
 YI:Dfn K mg "_law_book" qX t.Zu t.ZA ["_law_script","_law_start","_law_most"]
 yB:Dfn K mg "_law_whole" Zb t.Qe t.Qj ["_law_found"]
 YG:Dfn K mg "_law_beat" ZI t.QI t.QQ ["_law_cell","_law_long"]
 yA:Dfn K mg "_law_asked" Za t.zD t.zK ["_law_book_here","_law_word_here"]
 zt:Dfn K mg "_law_ahead" zZ t.zC t.zJ ["_law_book_here","_law_word_here","_law_long","_law_beat_here"]
 QE:Dfn K mg "_law_next" ZJ t.Zw t.ZC ["_law_book_here","_law_word_here","_law_long","_law_beat_here"]
 j14:Dfn K mg "law" j2i t.j16 t.XR ["_law_script"]
 jv:Cls K t.jx
 Zt:Mk K t.jx t.jP
 zS:mg "RingTally"= some (.ref t.jx)
 jO:NoAttr K t.jx "sizes"
 JB:NoAttr K t.jx "last"
 jT:NoAttr K t.jx "pieces"
 jC:NoAttr K t.jx "wholes"
 Jc:Cls K t.j9
 j2O:Mk K t.j9 t.Jz
 j1J:mg "Stage"= some (.ref t.j9)
 zc:NoAttr K t.j9 "limbs"
 qS:NoAttr K t.j9 "first"
 qT:NoAttr K t.j9 "forms"
 Jm:NoAttr K t.j9 "sizes"
 Qm:NoAttr K t.j9 "left"
 qG:NoAttr K t.j9 "pieces"
 WW:mg "Broad"= some (.ref t.J2)
 wN:mg "PlayError"= some (.ref t.YS)
 ZU:W.excIn K t.J2 [.type "ValueError",.type "Exception",.type "BaseException",.type "object"] "ValueError.__new__"= true
 xA:ExcI K t.J2
 Jr:W.exmOne K (.ref t.J2) (.ref t.YS)=some true
 Jh:W.kitOne K (.ref t.J2) (.type "ValueError")=some true
 JW:W.kitOne K (.ref t.J2) (.ref t.J2)=some true
 we:mg "ValueError"= none
 j3T:mg "any"= none
 j43:mg "bool"= none
 j44:mg "dict"= none
 Zx:mg "enumerate"= none
 j4Q:mg "int"= none
 Qh:mg "isinstance"= none
 qW:mg "len"= none
 j45:mg "list"= none
 j19:mg "max"= none
 XN:mg "min"= none
 Qi:mg "range"= none
 j4R:mg "set"= none
 WH:mg "sorted"= none
 j1a:mg "sum"= none
 wg:mg "tuple"= none
 WI:mg "zip"= none
 wk:mg "MOST_NAMES"= some (.ref t.qg)
 qd:TabK K t.qg [("row",.flat (.int 8)),("side",.flat (.int 4))]
section
variable{P:Program}{w:World}{K:Frg}{mg:Str->Option Value}{base:Heap}{t:Ad}
theorem Ko(T:Txt K mg t):FnOk P w K mg base CX0 1 t.J1 t.qb ["named"] (sp_numbers_of):=by
 specialize T.Qa.F.ok qU;obtain⟨l,M,xs,rfl,B,U,R,X,D,q⟩:=h;refine⟨_,(jb (jm (i:=1) qU.nd rfl (.inl rfl) W9)
  (jb (Jt PassesOwn.never rfl (Wg (by rfl) T.Zx (ja (pv 0) jc)) (Jy rfl (jr (ji (i:=2) qU.nd rfl (.inl rfl)) (jr (ji (i:=3) qU.nd rfl (.inl rfl)) Jb)))
   (jf (j05 (X1 hr) (pv 1) (jh jo (pv 3) jd) (pv 2) rfl)))
  (jf (jw (pv 1))))),?_⟩
 refine ju (σ':=[some _,none,none,none]) rfl ?_
 try dsimp only[cxOf,Cx.nox]
 have sz:(200:Nat)<sizeLine:=by decide
 walk_at"g";walk_at"f d hd H1 s1 t1";exists⟨l,_,rfl,SqL.of (s1 _ _ B),?_⟩;refine kC (xs:=M.map V.ref) (fun i p c=>IvE2 fun(m n:Option V)=>IvA2 (p=[some (.ref l),some (.ref d),m,n]) (Same H c/\c d=some (.dK (numK (xs.take i))))) ⟨_,_,rfl,s1,t1⟩ ?_ ?_ ?_
 ·rintro i p c _ ⟨m,n,rfl,g,f⟩;exact SqL.of (g _ _ B)
 ·rintro i v p c P L G ⟨m,n,rfl,g,f⟩ J Y;rw[vv]at G;obtain⟨a,x,rfl⟩:=vf.mp G;have Z:=(vx.mp x).1;have C:xs[i]?=some xs[i]:=vz (by lia);obtain⟨r,O⟩:=R i a _ x C;have I:=g.trans J;have o:(xs.take i).length=i:=by rw[vh];lia
  refine qj (SqT.of Y) ?_;exists ixTm (SqT.of (I _ _ O)) rfl ?_;refine⟨d,_,rfl,DPut.k (k:=Sum.inr xs[i]) (J _ _ f) (by rw[j1O,o];lia),?_⟩;have S:(Sum.inr xs[i]:Key)∉(numK (xs.take i)).map (·.1):=fun z=>by
   rw[KR]at z;obtain⟨y,W,e⟩:=vL.mp z;have N:y=xs[i]:=Sum.inr.inj e;subst N;obtain⟨j,F,e⟩:=mem_iff_getElem.mp W;rw[List.getElem_take]at e;rw[o]at F;exact uB e (pairwise_iff_getElem.mp X j i (by lia) (by lia) F)
  refine⟨_,_,rfl,fun b u h=>(jg (je h hd)).trans (I _ _ h),?_⟩;rw[jt,j23 S,take_snoc C,j0I,o]
 rintro σ' c ⟨m,n,rfl,g,f⟩;rw[vt,U,v7]at f;walk_at"g";exact q d c g hd f
theorem W4(T:Txt K mg t):FnOk P w K mg base CX0 1 t.zG t.zN ["form"] (sp_names_in):=by
 specialize T.kc.F.ok xh;obtain⟨a,f,rfl,d,q⟩:=h;refine⟨_,(jb (jY (jp j4v (jh jo (pv 0) jd) (j02 (v:=.ref t.qg) (by rfl) T.wk rfl) (by with_unfolding_all rfl))
   (jf (jw (jh jo (pv 0) jd)))
   jy)
  (jf (jw (ZG (jp Jo (jh jo (pv 0) jd) jD (nomark _)) (Qz j2q (pv 0) (Q1 jd) zW) (jN jc))))),?_⟩
 refine ju (σ':=[some _]) rfl ?_
 try dsimp only[cxOf,Cx.nox]
 have e:(200:Nat)<sizeLine:=by decide
 cases f with
 | hold n=>
  have c:H a=some (.tup _):=d;exists ixTm (SqT.of c) rfl ?_;exists⟨_,_,_,rfl,rfl,T.qd,?_⟩;exists iteE0 ?_;exists ixTm (SqT.of c) rfl ?_;exists iteE0 ?_;exists⟨vA _,?_⟩;walk_at"f b hb H1 s1 t1";exact q b H1 s1 t1
 | ring x n=>
  have c:H a=some (.tup _):=d;exists ixTm (SqT.of c) rfl ?_;exists⟨_,_,_,rfl,rfl,T.qd,?_⟩;exists iteE0 ?_;exists ixTm (SqT.of c) rfl ?_;exists iteE0 ?_;exists⟨vA _,?_⟩;walk_at"f b hb H1 s1 t1";exact q b H1 s1 t1
 | rise x v n=>
  have c:H a=some (.tup _):=d;exists ixTm (SqT.of c) rfl ?_;exists⟨_,_,_,rfl,rfl,T.qd,?_⟩;exists iteE0 ?_;exists ixTm (SqT.of c) rfl ?_;exists iteE0 ?_;exists⟨vA _,?_⟩;walk_at"f b hb H1 s1 t1";exact q b H1 s1 t1
 | row ps=>
  obtain⟨b,c,hb⟩:=d;exists ixTm (SqT.of c) rfl ?_;exists⟨_,_,_,rfl,rfl,T.qd,?_⟩;exists iteE1 ?_;exists ixTm (SqT.of c) rfl ?_;exact q b H (Same.refl _) hb
 | side ps=>
  obtain⟨b,c,hb⟩:=d;exists ixTm (SqT.of c) rfl ?_;exists⟨_,_,_,rfl,rfl,T.qd,?_⟩;exists iteE1 ?_;exists ixTm (SqT.of c) rfl ?_;exact q b H (Same.refl _) hb
 | again k x=>
  have c:H a=some (.tup _):=d;exists ixTm (SqT.of c) rfl ?_;exists⟨_,_,_,rfl,rfl,T.qd,?_⟩;exists iteE0 ?_;exists ixTm (SqT.of c) rfl ?_;exists iteE1 ?_;exists⟨a,_,rfl,SqT.of c,(by show¬(HT.sIx 3 0 (some 2)=0/\HT.sIx 3 3 none=3);decide),?_⟩;walk_at"f b hb H1 s1 t1";exact q b H1 s1 t1
theorem j1P(T:Txt K mg t)(Ji:FnOk P w K mg base CX0 1 t.J1 t.qb ["named"] (sp_numbers_of))(yi:FnOk P w K mg base CX0 1 t.zG t.zN ["form"] (sp_names_in)):FnOk P w K mg base CX0 2 t.yI t.yM ["book"] (sp_inner):=by
 specialize T.YZ.F.ok ZR;obtain⟨b,pl,pp,a1,G,ls,o,rfl,B,W,q⟩:=h;refine⟨_,(jb (jm (i:=1) ZR.nd rfl (.inr rfl) (jk T.Qa Ji hr (ja (jh jo (pv 0) jd) jc)))
  (jb (jm (i:=2) ZR.nd rfl (.inl rfl) (jE jc))
  (jb (Jt PassesOwn.never rfl (jI (jh jo (pv 0) jd)) (Jy rfl (jr (ji (i:=3) ZR.nd rfl (.inl rfl)) (jr (ji (i:=4) ZR.nd rfl (.inl rfl)) Jb)))
   (jf (jW (qp PySem.F.plainAttrs_list PySem.F.slot_list_append PySem.F.type_list_append jV (pv 2) (ja (j5 (ow:=["other"]) (ci:=[1]) rfl (CompScope.of (defScope Y8) ["book","numbers","found","name","form"] rfl rfl (by decide +kernel)) (jZ (by decide)) (Xu (jk T.kc yi hr (ja (pv 4) jc))) (fun _ _ _ _ _=>⟨(ji (i:=0) (jK ["book","numbers","found","name","form"] rfl (by decide +kernel)) rfl (.inl rfl)),Jx,(j01 (X1 hr) (pv 1) (pv 0))⟩)) jc)))))
  (jf (jw (pv 2)))))),?_⟩
 refine ju (σ':=[some _,none,none,none,none]) rfl ?_
 try dsimp only[cxOf,Cx.nox]
 have sz:(200:Nat)<sizeLine:=by decide
 have a2:=W.p61;have pa:=B.pa.1;exists ixTm (SqT.of B.t) rfl ?_;exists⟨pp,G,nmsOf o,rfl,B.p,by rw[nmsOf,vt];exact pa,fun i a x ea U=>?_,W.pn,by rw[nmsOf,vt];lia,fun d H1 I hd ed=>?_⟩
 ·unfold nmsOf at U;rw[vv]at U;obtain⟨p,ep,rfl⟩:=vf.mp U;obtain⟨fb,hb,_⟩:=B.pa.2 i a p ea ep;exact⟨_,hb⟩
 exists⟨vA _,?_⟩;walk_at"f l hl H2 s2 t2";have nl:=none_of I hl;have J:=I.trans s2;exists ixTm (SqT.of (J _ _ B.t)) rfl ?_;refine⟨pp,rfl,⟨_,SqL.of (J _ _ B.p)⟩,?_⟩;refine Ju (xs:=G.map V.ref) (fun i σ f=>IvE3 fun(m:List Addr) (N O:Option V)=>IvA4 (σ=[some (.ref b),some (.ref d),some (.ref l),N,O]) (Same H1 f) (f l=some (.lst (m.map V.ref))) ((∀a∈m,H a=none/\a≠l)/\ListsAt f m ((o.take i).map fun p=>(inP o p.2).map fun j:Nat=>(j:Int))))
  ⟨[],_,_,rfl,s2,t2,(fun a h=>nomatch h),.nil⟩ ?_ ?_ ?_
 ·rintro i σ f _ ⟨m,N,O,rfl,v,z,F,C⟩;exact SqL.of ((I.trans v) _ _ B.p)
 ·rintro i x σ f M ⟨m,N,O,rfl,v,z,F,C⟩;obtain⟨a,p,rfl,Z,fb,Y,hf⟩:=B.pa.at_ref M;have hi:=(vx.mp Z).1;have s0:=I.trans v;obtain⟨wn,w8⟩:=W.f i p Z;have a0:=C.1;rw[vt,vh]at a0;refine qj (SqT.of (s0 _ _ Y)) ?_;exists⟨.inl ⟨rfl,_,SqL.of z⟩,?_⟩;exists⟨fb,p.2,rfl,FormAt.same s0 hf,fun c L R hc=>?_⟩;refine⟨c,rfl,⟨_,SqT.of hc⟩,?_⟩;refine kr (xs:=p.2.ns.map V.str) (fun j S f=>S=((p.2.ns.take j).map fun x=>(ixOf (nmsOf o) x:Int)).map V.int/\L=f) ⟨rfl,rfl⟩ ?_ ?_ ?_
  ·rintro j S f _ ⟨rfl,rfl⟩;exact SqT.of hc
  ·rintro j x S f M ⟨rfl,rfl⟩;rw[vv]at M;obtain⟨y,X,rfl⟩:=vf.mp M;have hj:=(vx.mp X).1;obtain⟨k,hk,ek⟩:=wn y (vj X);refine jX (σ':=[none,some _]) rfl ?_;exists iteT ?_;walk_at"g";have g:DGet L d (.str y) (some (.int (k:Nat))):=by
    have g:=DGet.k (k:=Sum.inr y) ((v.trans R) _ _ ed);rw[W0 W.pn ek]at g;exact g
   refine⟨d,_,rfl,g,?_⟩;refine⟨by rw[vt,vt,vh];lia,?_,rfl⟩;rw[take_snoc X,vi,vi,<-QY W.pn ek];rfl
  rintro S f ⟨rfl,rfl⟩;rw[show(p.2.ns.map V.str).length=p.2.ns.length from vt _,v7];refine⟨by rw[vt,vt];lia,?_⟩;walk_at"f 4 t";have r:=R.trans s4;exists⟨l,_,_,rfl,rfl,r _ _ z,by rw[vt];lia,?_⟩;have D:p4≠l:=(je (R _ _ z) hp4).symm;have n4:H p4=none:=none_of (s0.trans R) hp4;refine⟨m++[p4],_,_,rfl,fun c u h=>(jg (je h hl)).trans ((v.trans r) _ _ h),?_,fun c n=>?_,?_⟩
  ·rw[jt,vi];rfl
  ·rcases vg.mp n with e | e
   ·exact F c e
   ·rw[vo.mp e];exact⟨n4,D⟩
  ·rw[take_snoc Z,vi];refine All2.snoc (All2.monoM C fun c n ks h=>(jg (F c n).2).trans (r _ _ h)) ?_;have eq:List.map (fun j:Nat=>(j:Int)) (inP o p.2)=p.2.ns.map fun x=>(ixOf (nmsOf o) x:Int):=by
    unfold inP;rw[v8];rfl
   show upd H4 l _ p4=some (.lst (List.map V.int (List.map (fun j:Nat=>(j:Int)) (inP o p.2))));rw[jg D,t4,eq]
 rintro σ' L ⟨m,N,O,rfl,v,z,F,C⟩;rw[vt,pa,v7]at C;walk_at"g";exact q l m L (I.trans v) nl z (fun a ha=>(F a ha).1) C
theorem j3s(T:Txt K mg t)(Ji:FnOk P w K mg base CX0 1 t.J1 t.qb ["named"] (sp_numbers_of))(Qd:FnOk P w K mg base CX0 2 t.yI t.yM ["book"] (sp_inner)):FnOk P w K mg base CX0 3 t.K6 t.wB ["book"] (sp_ends):=by
 specialize T.xF.F.ok Q5;obtain⟨b,pl,pp,an,au,ls,ps,rfl,B,W,q⟩:=h;refine⟨_,(jb (jm (i:=1) Q5.nd rfl (.inl rfl) (jk T.Qa Ji hr (ja (jh jo (pv 0) jd) jc)))
  (jb (jm (i:=2) Q5.nd rfl (.inl rfl) (jE jc))
  (jb (Jt PassesOwn.never rfl (kR (by rfl) T.WI (ja (jh jo (pv 0) jd) (ja (jk T.YZ Qd hr (ja (pv 0) jc)) jc))) (Jy rfl (jr (ji (i:=3) Q5.nd rfl (.inl rfl)) (jr (ji (i:=4) Q5.nd rfl (.inl rfl)) Jb)))
   (jb (jm (i:=5) Q5.nd rfl (.inl rfl) (jh jo (pv 3) jd))
   (jb (jm (i:=6) Q5.nd rfl (.inl rfl) W9)
   (jb (QA (jp Jo (jh jo (pv 5) jd) jD (nomark _))
    (jf (j05 (X1 hr) (pv 6) (j01 (X1 hr) (pv 1) (jh jo (pv 5) jd)) (jh jo (pv 5) jd) rfl))
    jy)
   (jb (Jt PassesOwn.never rfl (jI (pv 4)) (ji (i:=7) Q5.nd rfl (.inl rfl))
    (jf (jW (qp PySem.F.plainAttrs_dict PySem.F.slot_dict_update PySem.F.type_dict_update j0G (pv 6) (ja (zl (xM rfl) (by rfl) T.j44 j2Y (ja (jh jA (pv 2) (pv 7)) jc)) jc)))))
   (jf (jW (qp PySem.F.plainAttrs_list PySem.F.slot_list_append PySem.F.type_list_append jV (pv 2) (ja (jB (wv rfl) (by rfl) T.WH j0l (ja (Wc PySem.F.plainAttrs_dict PySem.F.slot_dict_items PySem.F.type_dict_items j1L (pv 6)) jc)) jc)))))))))
  (jf (jw (pv 2)))))),?_⟩
 refine ju (σ':=[some _,none,none,none,none,none,none,none]) rfl ?_
 try dsimp only[cxOf,Cx.nox]
 have sz:(200:Nat)<sizeLine:=by decide
 have aK:=W.p61;have l8:=W.l8;have pa:=B.pa.1;have la:=B.la.1;exists ixTm (SqT.of B.t) rfl ?_;exists⟨pl,an,nmsOf ls,rfl,B.l,by rw[nmsOf,vt];exact la,fun i a x ea ex=>?_,W.ln,by rw[nmsOf,vt];lia,fun d H1 s1 hd ed=>?_⟩
 ·unfold nmsOf at ex;rw[vv]at ex;obtain⟨p,ep,rfl⟩:=vf.mp ex;exact⟨_,B.la.2 i a p ea ep⟩
 exists⟨vA _,?_⟩;walk_at"f l hl H2 s2 t2";have nl:=none_of s1 hl;have ac:=s1.trans s2;have aD:d≠l:=je ed hl;exists ixTm (SqT.of (ac _ _ B.t)) rfl ?_;exists⟨b,pl,pp,an,au,ls,ps,rfl,B.same ac,W,fun li am H3 s3 al af aF lia=>?_⟩;walk_at"g";have F:=ac.trans s3;have ao:=lia.1;rw[vt]at ao;have aG:li≠l:=fun z=>by rw[z,t2]at al;cases al
 refine⟨pp,li,_,_,rfl,SqL.of (F _ _ B.p),SqL.of af,?_⟩;have a9:∀{c u},H c=some u->c≠l:=fun h=>je h nl
 have t3:H3 l=some (.lst []):=s3 _ _ t2;refine XZ (xs:=au.map V.ref) (ys:=am.map V.ref) (fun i σ H'=>IvE7 fun(X:List Addr) (E:List (List (Int×Int))) (o3 o4 o5 o6 O:Option V)=>IvA6 (σ=[some (.ref b),some (.ref d),some (.ref l),o3,o4,o5,o6,O]) (∀c u,c≠l->H3 c=some u->H' c=some u) (H' l=some (.lst (X.map V.ref))) (∀a∈X,H a=none/\a≠l) (E.length=i) (EndsAt H' X E/\EndOk ls ps E))
  (by rw[vt,vt];lia) ⟨[],[],_,_,_,_,_,rfl,fun c u _ h=>h,t3,(fun a h=>nomatch h),rfl,.nil,fun i p e _ h=>by simp at h⟩ ?_ ?_ ?_
 ·rintro i σ H' _ ⟨X,E,o3,o4,o5,o6,O,rfl,sm,e1,na,lE,aE,oE⟩;exact⟨SqL.of (sm _ _ (a9 B.p) (F _ _ B.p)),SqL.of (sm _ _ aG af)⟩
 ·rintro i u v σ H' P U hu hv ⟨X,E,o3,o4,o5,o6,O,rfl,sm,e1,na,lE,aE,oE⟩ sP tP;obtain⟨a,p,rfl,hp,fb,ag,hf⟩:=B.pa.at_ref hu;obtain⟨ia,is,rfl,ak,ay⟩:=lia.at_ref hv;rw[vv,hp]at ak;cases ak;have hi:=(vx.mp hp).1;have aA:ia∈am:=by
   rw[vv]at hv;obtain⟨a',ea,e'⟩:=vf.mp hv;injection e' with e';subst e';exact vj ea
  have aq:ia≠l:=fun z=>by have:=aF ia aA;rw[z,t2]at this;cases this
  have C:∀c u,c≠l->H3 c=some u->U c=some u:=fun c u Y h=>sP _ _ (sm _ _ Y h)
  have ah:U a=_:=C _ _ (a9 ag) (F _ _ ag);have Z:U ia=_:=C _ _ aq ay;have aw:U d=_:=C _ _ aD (s3 _ _ (s2 _ _ ed));have I:=sP _ _ e1;have a3:FormAt U fb p.2:=by
   have J:=FormAt.same F hf;generalize p.2=f at J;have np:∀{c:Addr} {xs:List V},H3 c=some (.tup xs)->c≠l:=fun h=>ZF h t3 (fun z=>by cases z)
   cases f with
   | row ps=>obtain⟨c,y,M⟩:=J;exact⟨c,C _ _ (np y) y,C _ _ (np M) M⟩
   | side ps=>obtain⟨c,y,M⟩:=J;exact⟨c,C _ _ (np y) y,C _ _ (np M) M⟩
   | hold n=>exact C _ _ (np J) J
   | ring x n=>exact C _ _ (np J) J
   | rise x g n=>exact C _ _ (np J) J
   | again x n=>exact C _ _ (np J) J
  have w8:=(W.f i p hp).2;have wr:=fun x h n (e:p.2 = .rise x h n)=>W.r i p.1 x h n (by rw[hp,<-e])
  have aB:=fun j=>W.inP_lt (j:=j) hp
  have ad:=kB W (by lia) oE;have ae:∀(j:Nat) (e:List (Int×Int)),E[j]?=some e->e.length<=8:=fun j e h=>WP W (by lia) oE h
  refine qj (SqT.of tP) ?_;exists ixTm (SqT.of ah) rfl ?_;walk_at"g";walk_at"f dl hdl H5 s5 t5";exists⟨fun σ' H6=>σ'=[some (.ref b),some (.ref d),some (.ref l),some (.ref a),some (.ref ia),some (.ref fb),some (.ref dl),O]/\Same U H6/\H6 dl=some (.dK ((kv0 ls p.2).map iiK)),?_,?_⟩
  rotate_left
  ·by_cases a6:∃x h n,p.2 = .rise x h n
   ·obtain⟨x,h,n,e⟩:=a6;rw[e]at a3;have a4:H5 fb=some (.tup [.str "raise",.str x,.int h,.int n]):=s5 _ _ a3;obtain⟨j,N⟩:=wr x h n e;exists ixTm (SqT.of a4) rfl ?_;exists iteE1 ?_;exists ixTm (SqT.of a4) rfl ?_;exists ixTm (SqT.of a4) rfl ?_;have g:DGet H5 d (.str x) (some (.int (j:Nat))):=by
     have g:=DGet.k (k:=Sum.inr x) (s5 _ _ aw);rw[W0 W.ln N]at g;exact g
    refine⟨d,_,rfl,g,?_⟩;refine⟨dl,_,rfl,DPut.k (k:=Sum.inl (j:Int)) t5 (by show 0<sizeLine;lia),?_⟩;refine⟨rfl,fun c u h=>(jg (je h hdl)).trans (s5 _ _ h),?_⟩;rw[jt,e];show _=some (HO.dK [iiK ((ixOf (nmsOf ls) x:Nat),h)]);rw[QY W.ln N];rfl
   ·obtain⟨k,xs,hk,dk⟩:=j1w a3 fun x v n e=>a6 ⟨x,v,n,e⟩
    exists ixTm (SqT.of (s5 _ _ hk)) (at0) ?_;exists iteB0 dk ?_;exists⟨rfl,s5,?_⟩;rw[j39 fun x v n e=>a6 ⟨x,v,n,e⟩];exact t5
  rintro σ' H6 ⟨rfl,s6,t6⟩;walk_at"g";have ai:=s6 _ _ Z;have a8:∀{c u},U c=some u->c≠dl:=fun h=>je h hdl
  refine⟨ia,rfl,⟨_,SqL.of ai⟩,?_⟩;refine Ju (xs:=((inP ps p.2).map fun j:Nat=>(j:Int)).map V.int) (fun t σ H7=>IvE2 fun(m:List (Int×Int)) (O:Option V)=>IvA5 (σ=[some (.ref b),some (.ref d),some (.ref l),some (.ref a),some (.ref ia),some (.ref fb),some (.ref dl),O]) (Same U H7) (H7 dl=some (.dK (m.map iiK))) ((m.map (·.1)).Nodup) (∀k v,(k,v)∈m↔LastIn E ((inP ps p.2).take t) k v\/(k,v)∈kv0 ls p.2))
   ⟨_,_,rfl,s6,t6,j4n _,fun k v=>⟨.inr,fun h=>h.elim (fun⟨ab,j,a1,e,_⟩=>by cases ab<;>simp at e) id⟩⟩ ?_ ?_ ?_
  ·rintro t σ H7 _ ⟨m,O,rfl,G,t7,D,m7⟩;exact SqL.of (G _ _ Z)
  ·rintro t x σ H7 hx ⟨m,O,rfl,G,t7,D,m7⟩;rw[vv,vv]at hx;obtain⟨jj,az,rfl⟩:=vf.mp hx;obtain⟨j,N,rfl⟩:=vf.mp az;have aI:=aB j (vj N);have e0:kv0 ls p.2=[]:=by
    rcases j4m (ps:=ps) (ls:=ls) p.2 with z | z
    ·rw[z]at N;simp at N
    ·exact z
   rw[e0]at m7;have hE:E[j]?=some (E.getD j []):=by rw[vy,vz (by lia)];rfl
   obtain⟨aj,ax,bs,a2,R⟩:=aE.get hE;have ap:((E.getD j []).map (·.1)).Nodup:=((oE j _ _ (vz (by lia)) hE).1).imp fun h=>Int.ne_of_lt h
   have e8:=ae j _ hE;have k8:m.length<=8:=by
    have z:=qy (n:=ls.length) D fun k hk=>by
     obtain⟨L,a5,rfl⟩:=vL.mp hk;rcases(m7 L.1 L.2).mp a5 with⟨ab,i',a1,_,o,_⟩ | o
     ·exact ad i' _ o
     ·exact nomatch o
    rw[vt]at z;lia
   exists⟨.inr (.inr (.inl ⟨rfl,.inl ⟨_,t7⟩⟩)),?_⟩;exists ixLm (SqL.of (G _ _ I)) (qD (i:=(j:Int)) (by lia) ax) ?_;exists⟨aj,bs,E.getD j [],rfl,G _ _ (sP _ _ a2),R.1,fun i' c L y M=>G _ _ (sP _ _ (R.2 i' c L y M)),?_⟩;walk_at"f d2 hd2 H8 s8 t8";walk_at"g";rw[show([]:List (Key×V))=([]:List (Int×Int)).map iiK from rfl,yq,Xk ap]at t8;have n2:dl≠d2:=je t7 hd2;refine⟨dl,d2,_,_,rfl,rfl,s8 _ _ t7,t8,n2,by rw[vt,vt];lia,?_⟩;rw[yq];obtain⟨mn,mm⟩:=KQ D ap;refine⟨mergeI m (E.getD j []),_,rfl,fun c u h=>(jg (a8 h)).trans (s8 _ _ (G _ _ h)),jt,mn,fun k v=>?_⟩;rw[mm,m7,e0,take_snoc N,j0A];constructor
   ·rintro(h | ⟨y,h | h⟩)
    ·exact .inl (.inl h)
    ·exact .inl (.inr ⟨y,h⟩)
    ·exact nomatch h
   ·rintro((h | ⟨y,h⟩) | h)
    ·exact .inl h
    ·exact .inr ⟨y,.inl h⟩
    ·exact nomatch h
  rintro σ' H7 ⟨m,aJ,rfl,G,t7,D,m7⟩;rw[vt,vt,v7]at m7;have k8:m.length<=8:=by
   have z:=qy (n:=ls.length) D fun k hk=>by
    obtain⟨L,a5,rfl⟩:=vL.mp hk;rcases(m7 L.1 L.2).mp a5 with⟨ab,i',a1,_,o,_⟩ | o
    ·exact ad i' _ o
    ·obtain⟨x,n,e,ek⟩:=wM.mp o;obtain⟨j,N⟩:=wr x _ n e;have h3:=X3 (vj N);have h4:(nmsOf ls).length=ls.length:=vt _;rw[ek];lia
   rw[vt]at z;lia
  exists⟨.inl ⟨rfl,_,SqL.of (G _ _ I)⟩,?_⟩;exists⟨.inr (.inr (.inl ⟨rfl,.inl ⟨_,t7⟩⟩)),dl,_,rfl,rfl,t7,?_⟩;walk_at"f vw hvw H8 s8 t8";exists⟨vw,dl,m,rfl,t8,s8 _ _ t7,by lia,fun r cs ms H9 s9 a7 e9 n9 a0 pw aC av=>?_⟩;walk_at"g";have aH:=aE.1;refine⟨l,_,_,rfl,rfl,s9 _ _ (s8 _ _ (G _ _ I)),by rw[vt];lia,?_⟩;have S:=G.trans (s8.trans s9);have aa:r≠l:=(je (s8 _ _ (G _ _ I)) a7).symm;have nr:H r=none:=by
   cases z:H r with
   | none=>rfl
   | some u=>rw[s8 _ _ (G _ _ (C _ _ aa (F _ _ z)))]at a7;cases a7
  have ar:∀{c:Addr} {xs:List V},H9 c=some (.tup xs)->c≠l:=fun h=>ZF h (S _ _ I) (fun z=>by cases z)
  refine⟨X++[r],E++[ms],_,_,_,_,_,rfl,fun c u Y h=>(jg Y).trans (S _ _ (C _ _ Y h)),?_,fun c Y=>?_,by rw[vn,lE];rfl,?_,?_⟩
  ·rw[jt,vi];rfl
  ·rcases vg.mp Y with z | z
   ·exact na c z
   ·rw[vo.mp z];exact⟨nr,aa⟩
  ·refine All2.snoc (All2.monoM aE fun c Y e h=>?_) ?_
   ·obtain⟨bs,a2,R⟩:=h;refine⟨bs,(jg (na c Y).2).trans (S _ _ (sP _ _ a2)),All2.mono R fun c' L h'=>?_⟩;have h9:=S _ _ (sP _ _ h');exact(jg (ar h9)).trans h9
   ·exact⟨cs,(jg aa).trans e9,aC,fun i' c L y M=>(jg (ar (av i' c L y M))).trans (av i' c L y M)⟩
  ·refine EndOk.snoc W oE (p:=p) (by rw[lE];exact hp) ?_ fun k v=>?_
   ·exact j0Y (a0.map _) D pw
   ·rw[a0.mem_iff,m7];exact⟨fun h=>h.imp id wM.mp,fun h=>h.imp id wM.mpr⟩
 rintro σ' H' ⟨X,E,o3,o4,o5,o6,O,rfl,sm,e1,na,lE,aE,oE⟩;rw[vt]at lE;walk_at"g";exact q l X E H' (fun c u h=>sm _ _ (a9 h) (F _ _ h)) nl e1 (fun a ha=>(na a ha).1) (by lia) aE oE
theorem j1Q(T:Txt K mg t)(Yj:FnOk P w K mg base CX0 3 t.K6 t.wB ["book"] (sp_ends)):FnOk P w K mg base CX0 4 t.K7 t.wC ["book"] (sp_moved):=by
 specialize T.XL.F.ok Ka;obtain⟨b,pl,pp,Y,a2,ls,ps,rfl,B,W,q⟩:=h;refine⟨_,(jb (jm (i:=1) Ka.nd rfl (.inl rfl) (jE jc))
  (jb (Jt PassesOwn.never rfl (jI (jk T.xF Yj hr (ja (pv 0) jc))) (ji (i:=2) Ka.nd rfl (.inl rfl))
   (jf (jW (qp PySem.F.plainAttrs_list PySem.F.slot_list_append PySem.F.type_list_append jV (pv 1) (ja (j5 (ow:=["limb","height"]) (ci:=[]) rfl (CompScope.of (defScope Y9) ["book","found","left"] rfl rfl (by decide +kernel)) (Z1 (by decide) (by decide)) (jI (pv 2)) (fun _ _ _ _ _=>⟨(Jy rfl (jr (ji (i:=0) (jK ["book","found","left"] rfl (by decide +kernel)) rfl (.inl rfl)) (jr (ji (i:=1) (jK ["book","found","left"] rfl (by decide +kernel)) rfl (.inl rfl)) Jb))),Jx,(pv 0)⟩)) jc)))))
  (jf (jw (pv 1))))),?_⟩
 refine ju (σ':=[some _,none,none]) rfl ?_
 try dsimp only[cxOf,Cx.nox]
 have sz:(200:Nat)<sizeLine:=by decide
 have a5:=W.p61;exists⟨vA _,?_⟩;walk_at"f l hl H1 s1 t1";exists⟨b,pl,pp,Y,a2,ls,ps,rfl,B.same s1,W,fun e as E H2 s2 he ee ne lE aE oE=>?_⟩;have I:=aE.1;have a3:=s1.trans s2;have l2:H2 l=some (.lst []):=s2 _ _ t1;have a1:l≠e:=fun z=>by rw[z,he]at t1;cases t1
 refine⟨e,rfl,⟨_,SqL.of ee⟩,?_⟩;refine Ju (xs:=as.map V.ref) (fun i σ n=>IvE2 fun(g:List Addr) (F:Option V)=>IvA4 (σ=[some (.ref b),some (.ref l),F]) (∀c u,c≠l->H2 c=some u->n c=some u) (n l=some (.lst (g.map V.ref))) ((∀c∈g,H1 c=none/\c≠l)/\ListsAt n g ((E.take i).map fun e=>e.map (·.1))))
  ⟨[],_,rfl,fun c u _ h=>h,l2,(fun c h=>nomatch h),.nil⟩ ?_ ?_ ?_
 ·rintro i σ n _ ⟨g,F,rfl,m,p,C,r⟩;exact SqL.of (m _ _ a1.symm ee)
 ·rintro i x σ n S ⟨g,F,rfl,m,p,C,r⟩;obtain⟨a,M,rfl,f,J,O,D⟩:=aE.at_ref S;have hi:=(vx.mp f).1;have X:=r.1;rw[vt,vh]at X;have am:a∈as:=by
   rw[vv]at S;obtain⟨a',ea,L⟩:=vf.mp S;injection L with L;subst L;exact vj ea
  have Z:a≠l:=fun z=>by have:=ne a am;rw[z,t1]at this;cases this
  have v:n a=some (.lst (J.map V.ref)):=m _ _ Z O;have a4:=(oE i _ M (vz (by lia)) f).1;have N:=WP W (by lia) oE f;exists⟨.inl ⟨rfl,_,SqL.of p⟩,?_⟩;exists⟨a,rfl,⟨_,SqL.of v⟩,?_⟩;refine jR (xs:=J.map V.ref) (fun j G d=>G=((M.take j).map (·.1)).map V.int/\n=d) ⟨rfl,rfl⟩ ?_ ?_ ?_
  ·rintro j G d _ ⟨rfl,rfl⟩;exact SqL.of v
  ·rintro j x G d U ⟨rfl,rfl⟩;obtain⟨c,kv,rfl,y,R⟩:=D.at_ref U;have hj:=(vx.mp y).1;have a0:c≠l:=fun z=>by rw[z,l2]at R;cases R
   refine jX (σ':=[none,none]) rfl ?_;refine qj (SqT.of (m _ _ a0 R)) ?_;exists iteT ?_;exists⟨by rw[vt,vt,vh];lia,?_,rfl⟩;rw[take_snoc y,vi,vi];rfl
  rintro G d ⟨rfl,rfl⟩;rw[show(J.map V.ref).length=M.length by rw[vt];exact D.1,v7];refine⟨by rw[vt,vt];lia,?_⟩;walk_at"f 4 t";exists⟨l,_,_,rfl,rfl,s4 _ _ p,by rw[vt];lia,?_⟩;have o:p4≠l:=(je p hp4).symm;have n4:H1 p4=none:=by
   cases z:H1 p4 with
   | none=>rfl
   | some u=>rw[m _ _ o (s2 _ _ z)]at hp4;cases hp4
  refine⟨g++[p4],_,rfl,fun c u k h=>(jg k).trans (s4 _ _ (m _ _ k h)),?_,fun c k=>?_,?_⟩
  ·rw[jt,vi];rfl
  ·rcases vg.mp k with z | z
   ·exact C c z
   ·rw[vo.mp z];exact⟨n4,o⟩
  ·rw[take_snoc f,vi];exact All2.snoc (All2.monoM r fun c k ks h=>(jg (C c k).2).trans (s4 _ _ h)) ((jg o).trans t4)
 rintro σ' H3 ⟨g,F,rfl,m,p,C,r⟩;rw[vt,I,v7]at r;exists q l g (E.map fun e=>e.map (·.1)) H3 (fun c u h=>m _ _ (je h hl) (a3 _ _ h)) hl p (fun c k=>none_of s1 (C c k).1) (by rw[vt];exact lE) r (j4q lE oE)
theorem Kn(T:Txt K mg t):FnOk P w K mg base CX0 1 t.Qf t.Qk ["row","moves","limbs"] (sp_check_side):=by
 specialize T.yD.F.ok zh;obtain⟨r,l,L,J,F,M,rfl,B,D,X,O,g,G,q⟩:=h;refine⟨_,(jb (jY (jp (j4u hr.units) (jE jc) (pv 1) (by with_unfolding_all rfl))
   (jf QB)
   jy)
  (jf (Jt PassesOwn.never rfl (Wg (by rfl) T.Zx (ja (pv 2) jc)) (Jy rfl (jr (ji (i:=3) zh.nd rfl (.inr rfl)) (jr (ji (i:=4) zh.nd rfl (.inl rfl)) Jb)))
   (jf (jY (jp Q0 (jB Jg (by rfl) T.qW JQ (ja (j5 (ow:=["move"]) (ci:=[3]) rfl (CompScope.of (defScope Qo) ["row","moves","limbs","number","limb"] rfl rfl (by decide +kernel)) (jZ (by decide)) (jI (pv 1)) (fun _ _ _ _ _=>⟨(ji (i:=0) (jK ["row","moves","limbs","number","limb"] rfl (by decide +kernel)) rfl (.inl rfl)),(zV (jp (zT (K:=K) rfl) (pv 1) (pv 0) (by with_unfolding_all rfl))),j3Z⟩)) jc)) jd (nomark _))
    (jf QB)
    jy))))),?_⟩
 refine ju (σ':=[some _,some _,some _,none,none]) rfl ?_
 try dsimp only[cxOf,Cx.nox]
 have sz:(200:Nat)<sizeLine:=by decide
 have m:=D.1;exists⟨vA _,?_⟩;walk_at"f 0 t";exists⟨p0,l,J,M,rfl,rfl,t0,s0 _ _ B,m,fun i b e R S=>s0 _ _ (D.2 i b e R S),?_⟩;exists iteB0 (any_empty X) ?_;exists⟨L,_,rfl,SqL.of (s0 _ _ g),?_⟩;refine kC (xs:=F.map V.ref) (fun i I f=>IvE2 fun(p u:Option V)=>I=[some (.int r),some (.ref l),some (.ref L),p,u]/\Same H f) ⟨_,_,rfl,s0⟩ ?_ ?_ ?_
 ·rintro i I f _ ⟨p,u,rfl,n⟩;exact SqL.of (n _ _ g)
 ·rintro i v I f P N hx ⟨p,u,rfl,n⟩ Y Z;have y:=n.trans Y;refine qj (SqT.of Z) ?_;exists⟨l,rfl,⟨_,SqL.of (y _ _ B)⟩,?_⟩;refine jR (xs:=J.map V.ref) (fun j z c=>z.length=((M.take j).filter fun e=>decide ((i:Int)∈e)).length/\N=c) ⟨rfl,rfl⟩ ?_ ?_ ?_
  ·rintro j z c _ ⟨_,rfl⟩;exact SqL.of (y _ _ B)
  ·rintro j x z c C ⟨o,rfl⟩;obtain⟨a,e,rfl,k,U⟩:=D.at_ref C;refine jX (σ':=[none,some _]) rfl ?_;exists⟨a,_,rfl,.inl (SqL.of (y _ _ U)),rfl,flats e,?_⟩;rw[inI];walk_at"g";have W:((M.take j).filter fun e=>decide ((i:Int)∈e)).length<=8:=vY (length_filter_le _ _) (vY (List.length_take_le' _ _) O);refine iteD (fun d=>?_) (fun d=>?_)
   ·exists⟨by lia,?_,rfl⟩;rw[take_snoc k,filter_append,uz,vc (vH d),vn,vn,o];rfl
   ·refine⟨?_,rfl⟩;rw[take_snoc k,filter_append,uz,vb (by simpa using d),vn,o];rfl
  rintro z c ⟨o,rfl⟩;rw[vt,m,v7]at o;have o1:=G (i:Int);refine⟨by lia,?_⟩;walk_at"f 2 t";exists⟨_,_,rfl,.inl ⟨_,SqL.of t2,rfl⟩,?_⟩;exists iteD (fun d=>?_) (fun d=>?_)
  ·exfalso;lia
  ·walk_at"g";exact⟨_,_,rfl,y.trans s2⟩
 rintro σ' f ⟨p,u,rfl,n⟩;exact q f n
theorem wX(T:Txt K mg t):FnOk P w K mg base CX0 1 t.QN t.QV ["form","inside"] (sp_length_of):=by
 specialize T.YO.F.ok Wt;obtain⟨a,l,f,j,rfl,d,i,e,q⟩:=h;refine⟨_,(jb (jY (jp Jo (jh jo (pv 0) jd) jD (nomark _))
   (jf (jw (jB (Yn rfl) (by rfl) T.j1a xL (ja (pv 1) jc))))
   jy)
  (jb (jY (jp Jo (jh jo (pv 0) jd) jD (nomark _))
   (jf (jw (jB (KG rfl) (by rfl) T.j19 xJ (ja (pv 1) jc))))
   jy)
  (jb (jY (jp Jo (jh jo (pv 0) jd) jD (nomark _))
   (jf (jw (jq Ja (jh jo (pv 0) jd) (jh jA (pv 1) jd))))
   jy)
  (jf (jw (jh jo (pv 0) (zn qO jd))))))),?_⟩
 refine ju (σ':=[some _,some _]) rfl ?_
 try dsimp only[cxOf,Cx.nox]
 have B:(200:Nat)<sizeLine:=by decide
 cases f with
 | hold n=>
  have c:H a=some (.tup _):=d;exists ixTm (SqT.of c) rfl ?_;exists iteE0 ?_;exists ixTm (SqT.of c) rfl ?_;exists iteE0 ?_;exists ixTm (SqT.of c) rfl ?_;exists iteE0 ?_;exists ixTm (SqT.of c) rfl ?_;exact q _ rfl
 | ring x n=>
  have c:H a=some (.tup _):=d;exists ixTm (SqT.of c) rfl ?_;exists iteE0 ?_;exists ixTm (SqT.of c) rfl ?_;exists iteE0 ?_;exists ixTm (SqT.of c) rfl ?_;exists iteE0 ?_;exists ixTm (SqT.of c) rfl ?_;exact q _ rfl
 | rise x v n=>
  have c:H a=some (.tup _):=d;exists ixTm (SqT.of c) rfl ?_;exists iteE0 ?_;exists ixTm (SqT.of c) rfl ?_;exists iteE0 ?_;exists ixTm (SqT.of c) rfl ?_;exists iteE0 ?_;exists ixTm (SqT.of c) rfl ?_;exact q _ rfl
 | row ps=>
  obtain⟨b,c,p⟩:=d;exists ixTm (SqT.of c) rfl ?_;exists iteE1 ?_;exists⟨l,j,rfl,SqL.of i,?_⟩;exact q _ rfl
 | side ps=>
  obtain⟨b,c,p⟩:=d;exists ixTm (SqT.of c) rfl ?_;exists iteE0 ?_;exists ixTm (SqT.of c) rfl ?_;exists iteE1 ?_;exists⟨l,j,rfl,SqL.of i,List.length_pos_iff.mpr e,fun g m o=>?_⟩;exact q g ⟨m,o⟩
 | again k x=>
  have c:H a=some (.tup _):=d;obtain⟨y,r,rfl,u,z,C,D⟩:=e;exists ixTm (SqT.of c) rfl ?_;exists iteE0 ?_;exists ixTm (SqT.of c) rfl ?_;exists iteE0 ?_;exists ixTm (SqT.of c) rfl ?_;exists iteE1 ?_;exists ixTm (SqT.of c) rfl ?_;exists ixLm (SqL.of i) (at0) ?_;walk_at"g";exact q _ ⟨y,rfl,rfl⟩
theorem Xp(T:Txt K mg t)(Qd:FnOk P w K mg base CX0 2 t.yI t.yM ["book"] (sp_inner))(K1:FnOk P w K mg base CX0 4 t.K7 t.wC ["book"] (sp_moved))(zA:FnOk P w K mg base CX0 1 t.Qf t.Qk ["row","moves","limbs"] (sp_check_side))(Zr:FnOk P w K mg base CX0 1 t.QN t.QV ["form","inside"] (sp_length_of)):FnOk P w K mg base CX0 5 t.zj t.zk ["book"] (sp_lengths):=by
 specialize T.ZV.F.ok qv;obtain⟨b,pl,pp,Z,a7,ls,F,gs,hs,rfl,B,S,q⟩:=h;refine⟨_,(jb (jm (i:=1) qv.nd rfl (.inr rfl) (jk T.XL K1 hr (ja (pv 0) jc)))
  (jb (jm (i:=2) qv.nd rfl (.inr rfl) (jE jc))
  (jb (Jt PassesOwn.never rfl (Wg (by rfl) T.Zx (ja (jk T.YZ Qd hr (ja (pv 0) jc)) jc)) (Jy rfl (jr (ji (i:=3) qv.nd rfl (.inl rfl)) (jr (ji (i:=4) qv.nd rfl (.inl rfl)) Jb)))
   (jb (jm (i:=5) qv.nd rfl (.inl rfl) (jh jo (jh jA (jh jo (pv 0) jd) (pv 3)) jd))
   (jb (QA (jp Jo (jh jo (pv 5) jd) jD (nomark _))
    (jf (jW (jk T.yD zA hr (ja (pv 3) (ja (j5 (ow:=["part"]) (ci:=[1]) rfl (CompScope.of (defScope zo) ["book","moves","found","row","inside","form","length"] rfl rfl (by decide +kernel)) (jZ (by decide)) (jI (pv 4)) (fun _ _ _ _ _=>⟨(ji (i:=0) (jK ["book","moves","found","row","inside","form","length"] rfl (by decide +kernel)) rfl (.inl rfl)),Jx,(jh (Jd (K:=K) rfl) (pv 1) (pv 0))⟩)) (ja (jh jo (pv 0) jd) jc))))))
    jy)
   (jb (jm (i:=6) qv.nd rfl (.inl rfl) (jk T.YO Zr hr (ja (pv 5) (ja (j5 (ow:=["part"]) (ci:=[2]) rfl (CompScope.of (defScope zo) ["book","moves","found","row","inside","form","length"] rfl rfl (by decide +kernel)) (jZ (by decide)) (jI (pv 4)) (fun _ _ _ _ _=>⟨(ji (i:=0) (jK ["book","moves","found","row","inside","form","length"] rfl (by decide +kernel)) rfl (.inl rfl)),Jx,(jh (Jd (K:=K) rfl) (pv 1) (pv 0))⟩)) jc))))
   (jb (jY (jp Q0 (pv 6) (jq YB jd jd) (nomark _))
    (jf QB)
    jy)
   (jf (jW (qp PySem.F.plainAttrs_list PySem.F.slot_list_append PySem.F.type_list_append jV (pv 2) (ja (pv 6) jc)))))))))
  (jf (jw (pv 2)))))),?_⟩
 refine ju (σ':=[some _,none,none,none,none,none,none]) rfl ?_
 try dsimp only[cxOf,Cx.nox]
 have sz:(200:Nat)<sizeLine:=by decide
 have W:=S.w;have pa:=B.pa.1;have gl:=S.gl;have aw:=W.p61;exists⟨b,pl,pp,Z,a7,_,_,rfl,B,W,fun lm ab M H1 s1 ar ae av Ml aM oM=>?_⟩;have mg:=S.mv M Ml oM;have aq:=aM.1;exists⟨vA _,?_⟩;walk_at"f l hl H2 s2 t2";have nl:=none_of s1 hl;have a8:=s1.trans s2;exists⟨b,pl,pp,Z,a7,_,_,rfl,B.same a8,W,fun li a3 H3 s3 a2 a1 al lia=>?_⟩;walk_at"g";have a9:=a8.trans s3;have ao:=s2.trans s3;have J:=lia.1;rw[vt]at J;have am:li≠l:=fun z=>by rw[z,t2]at a2;cases a2
 have t3:H3 l=some (.lst []):=s3 _ _ t2;have a6:∀{c u},H c=some u->c≠l:=fun h=>je h nl
 have an:∀{c u},H1 c=some u->c≠l:=fun h=>je h hl
 refine⟨li,_,rfl,SqL.of a1,?_⟩;refine kC (xs:=a3.map V.ref) (fun i σ r=>IvE4 fun(o3 o4 o5 o6:Option V)=>IvA2 (σ=[some (.ref b),some (.ref lm),some (.ref l),o3,o4,o5,o6]) ((∀c u,c≠l->H3 c=some u->r c=some u)/\r l=some (.lst ((gs.take i).map V.int))))
  ⟨_,_,_,_,rfl,fun c u _ h=>h,t3⟩ ?_ ?_ ?_
 ·rintro i σ r _ ⟨o3,o4,o5,o6,rfl,sm,e1⟩;exact SqL.of (sm _ _ am a1)
 ·rintro i v σ r P C hv ⟨o3,o4,o5,o6,rfl,sm,e1⟩ sP tP;obtain⟨X,as,rfl,O,ah⟩:=lia.at_ref hv;have hi:i<F.length:=by
   have:=(vx.mp O).1;rw[vt]at this;exact this
  obtain⟨p,hp⟩:∃p,F[i]?=some p:=⟨_,vz hi⟩
  rw[vv,hp]at O;cases O;obtain⟨a,ea,fb,af,hf⟩:=B.pa.get hp;have aj:X∈a3:=by
   rw[vv]at hv;obtain⟨a',ad,e'⟩:=vf.mp hv;injection e' with e';subst e';exact vj ad
  have a5:X≠l:=fun z=>by have:=al X aj;rw[z,t2]at this;cases this
  have k4:∀c u,c≠l->H3 c=some u->C c=some u:=fun c u I h=>sP _ _ (sm _ _ I h)
  have y:∀c u,H c=some u->C c=some u:=fun c u h=>k4 _ _ (a6 h) (a9 _ _ h)
  have a4:∀c u,H1 c=some u->C c=some u:=fun c u h=>k4 _ _ (an h) (ao _ _ h)
  have o:C X=some (.lst (((inP F p.2).map fun j:Nat=>(j:Int)).map V.int)):=k4 _ _ a5 ah;have ac:=sP _ _ e1;have m:FormAt C fb p.2:=FormAt.same y hf;have Y:=fun j=>W.inP_lt (j:=j) hp
  have w8:(inP F p.2).length<=8:=by unfold inP;rw[vt];exact(W.f i p hp).2
  obtain⟨lp,ak⟩:=S.ln i p hp;have au:=S.gb i hi;refine qj (SqT.of tP) ?_;exists ixTm (SqT.of (y _ _ B.t)) rfl ?_;exists ixLm (SqL.of (y _ _ B.p)) (qD (i:=(i:Int)) (by lia) ea) ?_;exists ixTm (SqT.of (y _ _ af)) rfl ?_;exists⟨fun σ' H5=>σ'=[some (.ref b),some (.ref lm),some (.ref l),some (.int i),some (.ref X),some (.ref fb),o6]/\Same C H5,?_,?_⟩
  rotate_left
  ·by_cases U:∃qs,p.2 = .side qs
   ·obtain⟨qs,e⟩:=U;have ap:=S.sd i p qs hp e;generalize inP F p.2=is at o Y ap w8;rw[e]at m;obtain⟨nb,ag,_⟩:=m;exists ixTm (SqT.of ag) rfl ?_;exists iteE1 ?_;exists⟨X,rfl,⟨_,SqL.of o⟩,?_⟩;have aa:∀j∈is,∃c,ab[j]?=some c/\C c=some (.lst ((hs.getD j []).map V.int)):=fun j D=>by
     have jl:=Y j D;obtain⟨c,I,h1⟩:=aM.get (i:=j) (x:=M.getD j []) (by rw[vy,vz (by lia)];rfl);rw[mg j (by lia)]at h1;exact⟨c,I,a4 _ _ h1⟩
    refine jR (xs:=(is.map fun j:Nat=>(j:Int)).map V.int) (fun t G r=>IvE1 fun(L:List Addr)=>IvA2 (G=L.map V.ref) (ListsAt C L ((is.take t).map fun j=>hs.getD j [])/\C=r)) ⟨[],rfl,.nil,rfl⟩ ?_ ?_ ?_
    ·rintro t G r _ ⟨L,rfl,lc,rfl⟩;exact SqL.of o
    ·rintro t x G r hx ⟨L,rfl,lc,rfl⟩;rw[vv,vv]at hx;obtain⟨jj,R,rfl⟩:=vf.mp hx;obtain⟨j,D,rfl⟩:=vf.mp R;obtain⟨c,I,h1⟩:=aa j (vj D);have a0:=lc.1;rw[vt,vh]at a0;refine jX (σ':=[none,some _]) rfl ?_;exists iteT ?_;exists ixLm (SqL.of (a4 _ _ ae)) (qD (i:=(j:Int)) (by lia) I) ?_;refine⟨by rw[vt];lia,L++[c],by rw[vi];rfl,?_,rfl⟩;rw[take_snoc D,vi];exact All2.snoc lc h1
    rintro G r ⟨L,rfl,lc,rfl⟩;rw[vt,vt,v7]at lc;have a0:=lc.1;rw[vt]at a0;refine⟨by rw[vt];lia,?_⟩;walk_at"f 5 t";exists ixTm (SqT.of (s5 _ _ (y _ _ B.t))) rfl ?_;exists⟨_,p5,pl,L,Z,(is.map fun j=>hs.getD j []),rfl,t5,All2.mono lc fun c ks h=>s5 _ _ h,fun ks ai=>?_,by rw[vt];lia,s5 _ _ (y _ _ B.l),ap.2,fun H6 s6=>?_⟩
    ·obtain⟨j,D,rfl⟩:=vL.mp ai;exact ap.1 j D
    walk_at"g";exact⟨rfl,s5.trans s6⟩
   ·have kd:∃k xs,C fb=some (.tup (.str k::xs))/\decide (k=("side" : Str))=false:=by
     generalize p.2=f at m U;cases f with
     | side qs=>exact uB ⟨qs,rfl⟩ U
     | hold n=>exact⟨_,_,m,by decide +kernel⟩
     | ring x n=>exact⟨_,_,m,by decide +kernel⟩
     | rise x v n=>exact⟨_,_,m,by decide +kernel⟩
     | row qs=>obtain⟨_,h1,_⟩:=m;exact⟨_,_,h1,by decide +kernel⟩
     | again k x=>exact⟨_,_,m,by decide +kernel⟩
    obtain⟨k,xs,hk,dk⟩:=kd;exists ixTm (SqT.of hk) (at0) ?_;exists iteB0 dk ?_;walk_at"g";exact⟨rfl,Same.refl _⟩
  rintro σ' H5 ⟨rfl,s5⟩;exists⟨X,rfl,⟨_,SqL.of (s5 _ _ o)⟩,?_⟩;have N:=s5 _ _ ac;refine jR (xs:=((inP F p.2).map fun j:Nat=>(j:Int)).map V.int) (fun t G r=>G=(((inP F p.2).take t).map fun j=>gs.getD j 0).map V.int/\H5=r) ⟨rfl,rfl⟩ ?_ ?_ ?_
  ·rintro t G r _ ⟨rfl,rfl⟩;exact SqL.of (s5 _ _ o)
  ·rintro t x G r hx ⟨rfl,rfl⟩;rw[vv,vv]at hx;obtain⟨jj,R,rfl⟩:=vf.mp hx;obtain⟨j,D,rfl⟩:=vf.mp R;have jl:=Y j (vj D);refine jX (σ':=[none,some _]) rfl ?_;exists iteT ?_;exists ixLm (SqL.of N) (j1t (by lia) jl) ?_;refine⟨by rw[vt,vt,vh];lia,?_,rfl⟩;rw[take_snoc D,vi,vi];rfl
  rintro G r ⟨rfl,rfl⟩;rw[show(((inP F p.2).map fun j:Nat=>(j:Int)).map V.int).length=(inP F p.2).length by rw[vt,vt],v7];refine⟨by rw[vt,vt];lia,?_⟩;walk_at"f 6 t";exists⟨fb,p6,p.2,_,rfl,FormAt.same (s5.trans s6) m,t6,lp,fun g hg=>?_⟩;have eg:=ak g hg;subst eg;exists iteD (fun d=>?_) (fun d=>?_)
  ·exfalso;lia
  exists⟨.inl ⟨rfl,_,SqL.of (s6 _ _ N)⟩,?_⟩;exists⟨l,_,_,rfl,rfl,s6 _ _ N,by rw[vt,vh];lia,?_⟩;refine⟨_,_,_,_,rfl,fun c u I h=>(jg I).trans (s6 _ _ (s5 _ _ (k4 _ _ I h))),?_⟩;rw[jt,j38 (by lia),vi];rfl
 rintro σ' r ⟨o3,o4,o5,o6,rfl,sm,e1⟩;rw[vt,J,<-gl,v7]at e1;walk_at"g";exact q l r (fun c u h=>sm _ _ (a6 h) (a9 _ _ h)) nl e1
theorem wY(T:Txt K mg t):FnOk P w K mg base CX0 1 t.QO t.QW ["form","inside","sizes"] (sp_pieces_in):=by
 specialize T.YQ.F.ok JI;obtain⟨a,l,s0,f,g,C,rfl,o,el,es,i8,hj,a2,q⟩:=h;refine⟨_,(jb (jY (jp Jo (jh jo (pv 0) jd) jD (nomark _))
   (jb (jm (i:=3) JI.nd rfl (.inl rfl) (jh jA (pv 1) jd))
   (jb (jm (i:=4) JI.nd rfl (.inl rfl) (ZG (jp Q0 (jh jo (pv 0) jd) jd (nomark _)) (jE (ja (jN (ja (pv 3) (ja (jq qZ (jh jo (pv 0) jd) jd) (ja (jh jA (pv 2) (pv 3)) jc)))) jc)) (jE jc)))
   (jf (jw (jq w4 (jE (ja (jN (ja (pv 3) (ja jd (ja jd jc)))) jc)) (pv 4))))))
   jy)
  (jb (jm (i:=5) JI.nd rfl (.inl rfl) (jE jc))
  (jb (jm (i:=6) JI.nd rfl (.inl rfl) jd)
  (jb (Jt PassesOwn.never rfl (jI (pv 1)) (ji (i:=3) JI.nd rfl (.inl rfl))
   (jb (jW (qp PySem.F.plainAttrs_list PySem.F.slot_list_append PySem.F.type_list_append jV (pv 5) (ja (jN (ja (pv 3) (ja jd (ja (pv 6) jc)))) jc)))
   (jf (jY (jp Jo (jh jo (pv 0) jd) jD (nomark _))
    (jf (Xw (i:=6) JI.nd rfl (.inl rfl) (jh jA (pv 2) (pv 3)) Xd))
    jy))))
  (jf (jw (pv 5))))))),?_⟩
 refine ju (σ':=[some _,some _,some _,none,none,none,none]) rfl ?_
 try dsimp only[cxOf,Cx.nox]
 have sz:(10000:Nat)<sizeLine:=by decide
 have S:∀j,j<C.length->C[j]?=some (C.getD j 0):=fun j h=>by
  rw[vy,vz h];rfl
 by_cases ha:∃k x,f = .again k x
 ·obtain⟨k,x,rfl⟩:=ha;have o:H a=some (.tup [.str "again",.int k,.str x]):=o;obtain⟨j,r,rfl⟩:=List.exists_cons_of_ne_nil (a2 k x rfl);have lj:=hj j vq;exists ixTm (SqT.of o) rfl ?_;exists iteE1 ?_;exists ixLm (SqL.of el) (at0) ?_;exists ixTm (SqT.of o) rfl ?_;exists iteD (fun c=>?_) (fun c=>?_)
  ·exists ixTm (SqT.of o) rfl ?_;exists ixLm (SqL.of es) (jL (j:=j) (by rw[vv,S j lj];rfl)) ?_;exists⟨uE,?_⟩;walk_at"f 1 t";exists⟨uC,?_⟩;walk_at"f 2 t";exists⟨uE,?_⟩;walk_at"f 3 t";exists⟨uC,?_⟩;walk_at"f 4 t";exists⟨p4,p2,_,_,rfl,rfl,t4,s4 _ _ (s3 _ _ t2),uD,?_⟩;walk_at"f 5 t";have O:=s1.trans (s2.trans (s3.trans (s4.trans s5)));refine q p5 [p3,p1] _ O (none_of (s1.trans (s2.trans (s3.trans s4))) hp5) t5 ?_;show PcsAt H5 _ ((j,1,0)::(if 1<k then[(j,k-1,C.getD j 0)]else[]));rw[vc c];exact .cons (s5 _ _ (s4 _ _ t3)) (.cons (s5 _ _ (s4 _ _ (s3 _ _ (s2 _ _ t1)))) .nil)
  ·exists⟨vA _,?_⟩;walk_at"f 2 t";exists⟨uE,?_⟩;walk_at"f 3 t";exists⟨uC,?_⟩;walk_at"f 4 t";exists⟨p4,p2,_,_,rfl,rfl,t4,s4 _ _ (s3 _ _ t2),uC,?_⟩;walk_at"f 5 t";have O:=s2.trans (s3.trans (s4.trans s5));refine q p5 [p3] _ O (none_of (s2.trans (s3.trans s4)) hp5) t5 ?_;show PcsAt H5 _ ((j,1,0)::(if 1<k then[(j,k-1,C.getD j 0)]else[]));rw[vb c];exact .cons (s5 _ _ (s4 _ _ t3)) .nil
 have a3:∃W xs,H a=some (.tup (.str W::xs))/\decide (W=("again" : Str))=false/\((decide (W=("row" : Str))=true/\∃xs,f = .row xs)\/(decide (W=("row" : Str))=false/\∀g,pcsI C f g=g.map fun j=>(j,1,0))):=by
  cases f with
  | hold n=>exact⟨_,_,o,by decide +kernel,.inr ⟨by decide +kernel,fun _=>rfl⟩⟩
  | ring x n=>exact⟨_,_,o,by decide +kernel,.inr ⟨by decide +kernel,fun _=>rfl⟩⟩
  | rise x v n=>exact⟨_,_,o,by decide +kernel,.inr ⟨by decide +kernel,fun _=>rfl⟩⟩
  | row ps=>obtain⟨b,F,_⟩:=o;exact⟨_,_,F,by decide +kernel,.inl ⟨by decide +kernel,_,rfl⟩⟩
  | side ps=>obtain⟨b,F,_⟩:=o;exact⟨_,_,F,by decide +kernel,.inr ⟨by decide +kernel,fun _=>rfl⟩⟩
  | again k x=>exact uB ⟨k,x,rfl⟩ ha
 obtain⟨W,xs,Z,dk,y⟩:=a3;exists ixTm (SqT.of Z) (at0) ?_;exists iteB0 dk ?_;exists⟨vA _,?_⟩;walk_at"f p hp H1 s1 t1";walk_at"g";have np:∀{c u},H c=some u->c≠p:=fun h=>je h hp
 refine⟨l,rfl,⟨_,SqL.of (s1 _ _ el)⟩,?_⟩;refine Ju (xs:=(g.map fun j:Nat=>(j:Int)).map V.int) (fun i σ I=>IvE4 fun(o3:Option V) (D:Int) (d:List Addr) (B:List Pc)=>IvA6 (σ=[some (.ref a),some (.ref l),some (.ref s0),o3,none,some (.ref p),some (.int D)]) (Same H I) (I p=some (.lst (d.map V.ref))) (d.length=i) (PcsAt I d B) (((∃xs,f = .row xs)->rowPc C g 0=B++rowPc C (g.drop i) D)/\(¬(∃xs,f = .row xs)->D=0/\B=(g.take i).map fun j=>(j,1,0))))
  ⟨_,0,[],[],rfl,s1,t1,rfl,.nil,fun _=>rfl,fun _=>⟨rfl,rfl⟩⟩ ?_ ?_ ?_
 ·rintro i σ I _ ⟨o3,D,d,B,rfl,X,J,la,hq,F,U⟩;exact SqL.of (X _ _ el)
 ·rintro i v σ I hv ⟨o3,D,d,B,rfl,X,J,la,hq,F,U⟩;rw[vv,vv]at hv;obtain⟨jj,a1,rfl⟩:=vf.mp hv;obtain⟨j,G,rfl⟩:=vf.mp a1;have il:=(vx.mp G).1;have ed:g.drop i=j::g.drop (i+1):=by
   obtain⟨h,rfl⟩:=vx.mp G;exact List.drop_eq_getElem_cons h
  have lj:=hj j (vj G);exists⟨.inl ⟨rfl,_,SqL.of J⟩,?_⟩;exists⟨uE,?_⟩;walk_at"f 2 t";exists⟨p,_,_,rfl,rfl,s2 _ _ J,by rw[vt];lia,?_⟩;have n2:p2≠p:=fun z=>by rw[z,s2 _ _ J]at t2;cases t2
  have s3:Same H (upd H2 p (.lst (d.map V.ref++[.ref p2]))):=fun c u h=>(jg (np h)).trans (s2 _ _ (X _ _ h))
  have e3:upd H2 p (.lst (d.map V.ref++[.ref p2])) p=some (.lst ((d++[p2]).map V.ref)):=by rw[jt,vi];rfl
  have M:PcsAt (upd H2 p (.lst (d.map V.ref++[.ref p2]))) (d++[p2]) (B++[(j,1,D)]):=by
   refine All2.snoc (All2.mono hq fun c x h=>?_) ((jg n2).trans t2);exact(jg (fun z=>by rw[z,J]at h;cases h)).trans (s2 _ _ h)
  generalize upd H2 p (.lst (d.map V.ref++[.ref p2]))=H3 at s3 e3 M|-;exists ixTm (SqT.of (s3 _ _ Z)) (at0) ?_;walk_at"g";rcases y with⟨Y,m,R⟩ | ⟨Y,L⟩
  ·refine iteB1 Y ?_;exists ixLm (SqL.of (s3 _ _ es)) (jL (j:=j) (by rw[vv,S j lj];rfl)) ?_;exists⟨_,_,d++[p2],B++[(j,1,D)],rfl,s3,e3,by rw[vn,la];rfl,M,fun h=>?_,fun h=>uB ⟨m,R⟩ h⟩;rw[F h,ed,List.append_assoc];rfl
  ·refine iteB0 Y ?_;exists⟨_,_,d++[p2],B++[(j,1,D)],rfl,s3,e3,by rw[vn,la];rfl,M,fun h=>?_,fun h=>?_⟩
   ·obtain⟨m,R⟩:=h;subst R;have:=L [0,0];obtain⟨bb,a0,_⟩:=o;rw[a0]at Z;cases Z;exact uB Y (by decide +kernel)
   ·obtain⟨b0,eq⟩:=U h;refine⟨b0,?_⟩;rw[take_snoc G,vi,eq,b0];rfl
 rintro σ' I ⟨o3,D,d,B,rfl,X,J,la,hq,F,U⟩;rw[show((g.map fun j:Nat=>(j:Int)).map V.int).length=g.length by rw[vt,vt]]at F U;exists q p d I X hp J ?_;have e:pcsI C f g=B:=by
  by_cases N:∃xs,f = .row xs
  ·obtain⟨m,rfl⟩:=N;show rowPc C g 0=B;rw[F ⟨m,rfl⟩,List.drop_length];exact append_nil _
  ·rcases y with⟨_,m,R⟩ | ⟨_,L⟩
   ·exact uB ⟨m,R⟩ N
   ·rw[L,(U N).2,v7]
 rw[e];exact hq
theorem wZ(T:Txt K mg t)(Qd:FnOk P w K mg base CX0 2 t.yI t.yM ["book"] (sp_inner))(Zs:FnOk P w K mg base CX0 1 t.QO t.QW ["form","inside","sizes"] (sp_pieces_in)):FnOk P w K mg base CX0 3 t.QP t.QX ["book","sizes"] (sp_pieces_of):=by
 specialize T.Zk.F.ok Wu;obtain⟨b,pl,pp,s0,Z,C,ls,D,gs,rfl,B,W,es,gl,q⟩:=h;refine⟨_,(jf (jw (j5 (ow:=["part","inside"]) (ci:=[1]) rfl (CompScope.of (defScope Q4) ["book","sizes"] rfl rfl (by decide +kernel)) (Z1 (by decide) (by decide)) (kR (by rfl) T.WI (ja (jh jo (pv 0) jd) (ja (jk T.YZ Qd hr (ja (pv 0) jc)) jc))) (fun _ _ _ _ _=>⟨(Jy rfl (jr (ji (i:=0) (jK ["book","sizes"] rfl (by decide +kernel)) rfl (.inl rfl)) (jr (ji (i:=1) (jK ["book","sizes"] rfl (by decide +kernel)) rfl (.inl rfl)) Jb))),Jx,(jk T.YQ Zs hr (ja (jh (Jf (K:=K) rfl) (pv 0) jd) (ja (pv 1) (ja (pv 2) jc))))⟩)))),?_⟩;refine ju (σ':=[some _,some _]) rfl ?_
 try dsimp only[cxOf,Cx.nox]
 have sz:(10000:Nat)<sizeLine:=by decide
 have a3:=W.p61;have pa:=B.pa.1;exists ixTm (SqT.of B.t) rfl ?_;exists⟨b,pl,pp,Z,C,ls,D,rfl,B,W,fun li Y H3 F a0 n a2 lia=>?_⟩;walk_at"g";have y:=lia.1;rw[vt]at y;refine⟨pp,li,_,_,rfl,SqL.of (F _ _ B.p),SqL.of n,?_⟩;refine kx (xs:=C.map V.ref) (zs:=Y.map V.ref) (fun i J m=>IvE1 fun(d:List Addr)=>IvA4 (J=d.map V.ref) (d.length=i) (Same H3 m) ((∀a∈d,H a=none)/\PssAt m d ((D.take i).map fun p=>pcsI gs p.2 (inP D p.2)))) (by rw[vt,vt];lia) ⟨[],rfl,rfl,Same.refl _,(fun a h=>nomatch h),.nil⟩ ?_ ?_ ?_
 ·rintro i J m _ ⟨d,rfl,G,g,I,l⟩;exact⟨SqL.of (g _ _ (F _ _ B.p)),SqL.of (g _ _ n)⟩
 ·rintro i u v J m T0 H4 hu hv ⟨d,rfl,G,g,I,l⟩ sP tP;have hi:=(vx.mp hu).1;rw[vt]at hi;obtain⟨a,p,rfl,r,fb,R,hf⟩:=B.pa.at_ref hu;obtain⟨ia,is,rfl,o,S⟩:=lia.at_ref hv;rw[vv,r]at o;cases o;have a1:=(vx.mp r).1;have s4:=g.trans sP;have f:=F.trans s4;have i8:(inP D p.2).length<=8:=by unfold inP;rw[vt];exact(W.f i p r).2
  refine jX (σ':=[none,none,some _]) rfl ?_;refine qj (SqT.of tP) ?_;exists iteT ?_;exists ixTm (SqT.of (f _ _ R)) rfl ?_;exists⟨fb,ia,s0,p.2,inP D p.2,gs,rfl,FormAt.same f hf,s4 _ _ S,f _ _ es,i8,fun j hj=>by have:=W.inP_lt r hj;lia,fun k x e=>by rw[e];exact List.cons_ne_nil _ _,fun p5 L H5 s5 U e5 X=>?_⟩;refine⟨by rw[vt];lia,d++[p5],by rw[vi];rfl,by rw[vn,G];rfl,s4.trans s5,fun c hc=>(vg.mp hc).elim (I c) fun z=>by rw[vo.mp z];exact none_of f U,?_⟩;rw[take_snoc r,vi];refine All2.snoc (All2.mono l fun c x h=>?_) ⟨L,e5,X⟩;obtain⟨M,N,O⟩:=h;exact⟨M,s5 _ _ (sP _ _ N),All2.mono O fun c x h=>s5 _ _ (sP _ _ h)⟩
 rintro J m ⟨d,rfl,G,g,I,l⟩;rw[vt]at G l;refine⟨by rw[vt];lia,?_⟩;walk_at"f 4 t";refine q _ d _ (F.trans (g.trans s4)) (none_of (F.trans g) hp4) t4 ?_ I;rw[pa,v7]at l;refine All2.mono l fun c x h=>?_
 obtain⟨M,N,O⟩:=h;exact⟨M,s4 _ _ N,All2.mono O fun c x h=>s4 _ _ h⟩
theorem Zh(T:Txt K mg t)(JX:FnOk P w K mg base CX0 5 t.zj t.zk ["book"] (sp_lengths))(qw:FnOk P w K mg base CX0 3 t.QP t.QX ["book","sizes"] (sp_pieces_of)):FnOk P w K mg base CX0 6 t.jP t.jU ["self","book","word"] (sp_initR t.jx):=by
 specialize T.Zl.ok Js;obtain⟨a,g,b,pl,pp,ad,a1,ls,ps,gs,hs,x,rfl,ha,B,N,wx,wf,q⟩:=h;refine⟨_,(jb (ze (pv 0) (jk T.ZV JX hr (ja (pv 1) jc)) rfl)
  (jb (ze (pv 0) (jh jA (Je (pv 0) rfl) (zn qO jd)) rfl)
  (jb (ze (pv 0) (jk T.Zk qw hr (ja (pv 1) (ja (Je (pv 0) rfl) jc))) rfl)
  (jb (ze (pv 0) (jE jc) rfl)
  (jf (Jt PassesOwn.never rfl (kR (by rfl) T.WI (ja (jh jo (pv 1) jd) (ja (Je (pv 0) rfl) jc))) (Jy rfl (jr (ji (i:=3) Js.nd rfl (.inl rfl)) (jr (ji (i:=4) Js.nd rfl (.inl rfl)) Jb)))
   (jb (jm (i:=5) Js.nd rfl (.inl rfl) (ZG (jp (j1S hr.units) (Qz j4H (jh jo (pv 3) jd) zW (Q1 jd)) (jN (ja jD (ja (pv 2) jc))) (nomark _)) jd jd))
   (jf (jW (qp PySem.F.plainAttrs_list PySem.F.slot_list_append PySem.F.type_list_append jV (Je (pv 0) rfl) (ja (jq j7 (pv 5) (jB (Yn rfl) (by rfl) T.j1a xL (ja (j5 (ow:=["other","turns","begin"]) (ci:=[0]) rfl (CompScope.of (defScope Jv) ["self","book","word","part","pieces","own"] rfl rfl (by decide +kernel)) (j37 (by decide) (by decide) (by decide)) (jI (pv 4)) (fun _ _ _ _ _=>⟨(Jy rfl (jr (ji (i:=0) (jK ["self","book","word","part","pieces","own"] rfl (by decide +kernel)) rfl (.inl rfl)) (jr (ji (i:=1) (jK ["self","book","word","part","pieces","own"] rfl (by decide +kernel)) rfl (.inl rfl)) (jr (ji (i:=2) (jK ["self","book","word","part","pieces","own"] rfl (by decide +kernel)) rfl (.inl rfl)) Jb)))),Jx,(jq Ja (pv 1) (jh (Jd (K:=K) rfl) (Y6 (K:=K) rfl (pv 3) rfl) (pv 0)))⟩)) jc))) jc))))))))))),?_⟩
 refine ju (σ':=[some _,some _,some _,none,none,none]) rfl ?_
 try dsimp only[cxOf,Cx.nox]
 have sz:(200:Nat)<sizeLine:=by decide
 have W:=N.s.w;have gl:=N.s.gl;have aE:=W.p61;have ne:=N.ne;have au:=B.pa.1;obtain⟨H0,D,n0,B0⟩:=B.less ha;have z0:Same H0 H:=D H fun c u _ h=>h
 exists⟨b,pl,pp,ad,a1,ls,ps,gs,hs,rfl,B,N.s,fun l5 H5 s5 aa e5=>?_⟩;exists⟨a,_,g,[],rfl,s5 _ _ ha,T.jv,T.jO,(by show 0<1000;decide),?_⟩;have o:l5≠a:=fun z=>by rw[z,ha]at aa;cases aa
 generalize e6:upd H5 a _=H6;have k6:∀c u,c≠a->H5 c=some u->H6 c=some u:=fun c u n h=>e6▸(jg n).trans h
 have a6:=yd e6;clear e6;have z6:Same H0 H6:=D H6 fun c u n h=>k6 _ _ n (s5 _ _ h)
 exists⟨a,_,g,_,_,rfl,a6,T.jv,T.jO,qY,?_⟩;exists ixLm (SqL.of (k6 _ _ o e5)) (zI ne gl) ?_;exists⟨a,_,g,_,rfl,a6,T.jv,T.JB,Rm.few (j4 _ _ _) (by decide),?_⟩;generalize e7:upd H6 a _=H7;have k7:∀c u,c≠a->H6 c=some u->H7 c=some u:=fun c u n h=>e7▸(jg n).trans h
 have M:=yd e7;clear e7;have z7:Same H0 H7:=fun c u h=>k7 _ _ (n0 h) (z6 _ _ h)
 exists⟨a,_,g,_,_,rfl,M,T.jv,T.jO,(j6 (by decide +kernel)).trans qY,?_⟩;exists⟨b,pl,pp,l5,ad,a1,ls,ps,gs,rfl,B0.same z7,W,k7 _ _ o (k6 _ _ o e5),gl,fun l8 m J G ab e8 U ae=>?_⟩;have n8:l8≠a:=fun z=>by rw[z,M]at ab;cases ab
 exists⟨a,_,g,_,rfl,G _ _ M,T.jv,T.jT,vE (j4 _ _ _) (vE (Nat.succ_le_succ (j4 _ _ _)) (by decide)),?_⟩;generalize e9:upd J a _=H9;have k9:∀c u,c≠a->J c=some u->H9 c=some u:=fun c u n h=>e9▸(jg n).trans h
 have a9:=yd e9;clear e9;exists⟨vA _,?_⟩;walk_at"f pw hpw H10 s10 t10";have nw:pw≠a:=fun z=>by rw[z,a9]at hpw;cases hpw
 exists⟨a,_,g,_,rfl,s10 _ _ a9,T.jv,T.jC,few3,?_⟩;generalize R:upd H10 a _=H11;have ac:∀c u,c≠a->H10 c=some u->H11 c=some u:=fun c u n h=>R▸(jg n).trans h
 have L:H11 a=some (.ins t.jx g (fldR ⟨l5,l8,pw,m⟩ (gs.getD (ps.length-1) 0))):=yd R;clear R;have C:∀c u,c≠a->J c=some u->H11 c=some u:=fun c u n h=>ac _ _ n (s10 _ _ (k9 _ _ n h))
 have ah:Same H0 H11:=fun c u h=>C _ _ (n0 h) (G _ _ (z7 _ _ h))
 have F:∀{c u},c≠a->J c=some u->c≠pw:=fun n h=>je (k9 _ _ n h) hpw
 have af:∀{c u},H0 c=some u->c≠pw:=fun h=>F (n0 h) (G _ _ (z7 _ _ h))
 have ay:=ac _ _ nw t10;have I:=B0.same ah;exists ixTm (SqT.of I.t) rfl ?_;exists⟨a,_,g,_,_,rfl,L,T.jv,T.jT,Z0,?_⟩;walk_at"g";have av:=U.1;rw[vt]at av;refine⟨pp,l8,_,_,rfl,SqL.of I.p,SqL.of (C _ _ n8 e8),?_⟩;refine XZ (xs:=a1.map V.ref) (ys:=m.map V.ref) (fun i σ H'=>IvE4 fun(o3 o4 o5:Option V) (l:List Int)=>IvA3 (σ=[some (.ref a),some (.ref b),some (.str x),o3,o4,o5]) (∀c u,c≠pw->H11 c=some u->H' c=some u) (H' pw=some (.lst (l.map V.int))/\WPre ps gs x l i)) (by rw[vt,vt];lia) ⟨_,_,_,[],rfl,fun c u _ h=>h,ay,rfl,fun j p h=>uB h (Nat.not_lt_zero _)⟩ ?_ ?_ ?_
 ·rintro i σ H' _ ⟨o3,o4,o5,l,rfl,f,e,O⟩;exact⟨SqL.of (f _ _ (af B0.p) I.p),SqL.of (f _ _ (F n8 e8) (C _ _ n8 e8))⟩
 ·rintro i u v σ H' T0 a3 hu hv ⟨o3,o4,o5,l,rfl,f,ew,O⟩ sP tP;obtain⟨pa,p,rfl,hp,fb,al,hf⟩:=B0.pa.at_ref hu;obtain⟨c0,qs,rfl,Y,bs,an,a8⟩:=U.at_ref hv;rw[vv,hp]at Y;have ao:=(vx.mp hp).1;have S:qs=pcB ps gs i:=by
   unfold pcB;rw[hp];exact(vM Y).symm
  clear Y;have ai:c0∈m:=by
   rw[vv]at hv;obtain⟨a',ea,e'⟩:=vf.mp hv;injection e' with e';subst e';exact vj ea
  have ar:c0≠a:=fun z=>by have:=ae c0 ai;rw[z,M]at this;cases this
  have a0:∀c u,H0 c=some u->a3 c=some u:=fun c u h=>sP _ _ (f _ _ (af h) (ah _ _ h))
  have ag:∀c u,c≠a->J c=some u->a3 c=some u:=fun c u n h=>sP _ _ (f _ _ (F n h) (C _ _ n h))
  have r:∀{c:Addr} {xs:List V},J c=some (.tup xs)->c≠a:=fun h=>ZF h (G _ _ M) (fun z=>by cases z)
  obtain⟨xs,ak,aq,az⟩:=j2C (x:=x) hf (wf p (vj hp));refine qj (SqT.of tP) ?_;exists ixTm (SqT.of (a0 _ _ al)) rfl ?_;exists j3H (a0 _ _ ak) aq fun cc aB aw aj=>?_
  exists⟨uD,?_⟩;walk_at"f 14 t";have s1:=aw.trans s14;obtain⟨d,dv,sh,ev⟩:=az H14 cc (fun c u h=>s1 _ _ (a0 _ _ h)) (s14 _ _ aj);have ax:SeqAt.shaped (.tuple [.str "ring",.str x])=true:=(Shp.tup (n:=0) (Yb (xs:=["ring",x]) fun y Z=>by
   rcases mem_cons.mp Z with rfl | Z
   ·decide +kernel
   ·rw[vo.mp Z];exact wx)).ok (by decide)
  refine⟨d,_,dv,.tup t14 (.cons (.str _) (.cons (.str _) .nil)),sh,ax,?_⟩;refine⟨_,rfl,?_⟩;rw[ev];have as:ownW x p.2=0\/ownW x p.2=1:=by
   unfold ownW;split
   ·split
    ·exact .inr rfl
    ·exact .inl rfl
   ·exact .inl rfl
  have a4:H14 a=_:=s1 _ _ (sP _ _ (f _ _ (Ne.symm nw) L));have a2:H14 pw=_:=s1 _ _ (sP _ _ ew);have a5:H14 c0=_:=s1 _ _ (ag _ _ ar an);have am:=a8.1;have q8:qs.length<=8:=S▸Y4 N i;have aC:=O.1;refine iteD (fun c=>?A) (fun c=>?B)
  case' A=>have eo:ownW x p.2=1:=c
  case' B=>have eo:ownW x p.2=0:=as.resolve_right c
  all_goals
   exists⟨a,_,g,_,_,rfl,a4,T.jv,T.jC,qx,.inl ⟨rfl,_,SqL.of a2⟩,?_⟩;exists⟨c0,rfl,⟨_,SqL.of a5⟩,?_⟩;refine jR (xs:=bs.map V.ref) (fun j ys k=>ys=((qs.take j).map fun q=>q.2.1*l.getD q.1 0).map V.int/\H14=k) ⟨rfl,rfl⟩ ?_ ?_ ?_
   ·rintro j ys k _ ⟨rfl,rfl⟩;exact SqL.of a5
   ·rintro j v ys k ap ⟨rfl,rfl⟩;obtain⟨cq,y,rfl,Z,X⟩:=a8.at_ref ap;have aD:=(vx.mp Z).1;have ym:y∈pcB ps gs i:=S▸vj Z;have aA:=qi W ym;obtain⟨_,_,_,k4,k5,_,_⟩:=N.pcOk ym;have bw:=O.b250 N (v3 ao) aA;have ey:l[y.1]?=some (l.getD y.1 0):=by rw[vy,vz (by lia)];rfl
    refine jX (σ':=[none,none,none,some (.ref a)]) rfl ?_;refine Xy (SqT.of (s1 _ _ (ag _ _ (r X) X))) ?_;exists iteT ?_;exists⟨a,_,g,_,_,rfl,a4,T.jv,T.jC,qx,?_⟩;exists ixLm (SqL.of a2) (jL (j:=y.1) (by rw[vv,ey];rfl)) ?_;exists⟨by rw[vt,vt,vh];lia,?_,rfl⟩;rw[take_snoc Z,vi,vi];rfl
   rintro ys k ⟨rfl,rfl⟩;rw[show(bs.map V.ref).length=qs.length from(vt _).trans am,v7];refine⟨by rw[vt,vt];lia,?_⟩;walk_at"f 15 t";exists⟨p15,_,rfl,SqL.of t15,?_⟩;exists⟨pw,_,_,rfl,rfl,s15 _ _ a2,by rw[vt];lia,?_⟩;walk_at"g";have O2:=O.snoc W hp;rw[eo]at O2;refine⟨_,_,_,_,rfl,fun c u X h=>(jg X).trans (s15 _ _ (s1 _ _ (sP _ _ (f _ _ X h)))),?_,O2⟩;rw[jt,vi,<-S];rfl
 ·rintro σ H' ⟨o3,o4,o5,l,rfl,f,ew,O⟩;rw[vt,au]at O;exists q ⟨l5,l8,pw,m⟩ l H' (fun c u n h=>?_) O ⟨⟨g,f _ _ (Ne.symm nw) L⟩,f _ _ (F o (G _ _ (k7 _ _ o (k6 _ _ o e5)))) (C _ _ o (G _ _ (k7 _ _ o (k6 _ _ o e5)))),f _ _ (F n8 e8) (C _ _ n8 e8),?_,ew⟩
  ·have h8:=G _ _ (k7 _ _ n (k6 _ _ n (s5 _ _ h)));exact f _ _ (F n h8) (C _ _ n h8)
  ·refine All2.monoM U fun c X e ⟨bs,h1,h2⟩=>?_
   have r:∀{c:Addr} {xs:List V},J c=some (.tup xs)->c≠a:=fun h=>ZF h (G _ _ M) (fun z=>by cases z)
   have nc:c≠a:=fun z=>by have:=ae c X;rw[z,M]at this;cases this
   exact⟨bs,f _ _ (F nc h1) (C _ _ nc h1),All2.mono h2 fun b' q' h=>f _ _ (F (r h) h) (C _ _ (r h) h)⟩
theorem W5(T:Txt K mg t):FnOk P w K mg base CX0 1 t.Qt t.Qv ["pieces","sizes","gone"] (sp_progress):=by
 specialize T.yf.F.ok JV;obtain⟨l,s0,b,bs,O,a,rfl,S,W,U,q8,ok,t1,t2,q⟩:=h;refine⟨_,(jb (jm (i:=3) JV.nd rfl (.inl rfl) (jE jc))
  (jb (Jt PassesOwn.never rfl (jI (pv 0)) (Jy rfl (jr (ji (i:=4) JV.nd rfl (.inl rfl)) (jr (ji (i:=5) JV.nd rfl (.inl rfl)) (jr (ji (i:=6) JV.nd rfl (.inl rfl)) Jb))))
   (jf (jY (jp W7 (pv 6) (pv 2) (nomark _))
    (jb (jm (i:=7) JV.nd rfl (.inl rfl) (jB (Ym rfl) (by rfl) T.XN xK (ja (jq qo (jq qZ (pv 2) (pv 6)) (jh jA (pv 1) (pv 4))) (ja (pv 5) jc))))
    (jb (jm (i:=8) JV.nd rfl (.inl rfl) (ZG (jp YU (pv 7) (pv 5) (nomark _)) (jq qZ (jq qZ (pv 2) (pv 6)) (jq Ja (pv 7) (jh jA (pv 1) (pv 4)))) Qy))
    (jf (jW (qp PySem.F.plainAttrs_list PySem.F.slot_list_append PySem.F.type_list_append jV (pv 3) (ja (jN (ja (pv 4) (ja (pv 6) (ja (pv 7) (ja (pv 8) jc))))) jc))))))
    jy)))
  (jf (jw (pv 3))))),?_⟩
 refine ju (σ':=[some _,some _,some _,none,none,none,none,none,none]) rfl ?_
 try dsimp only[cxOf,Cx.nox]
 have sz:(10000:Nat)<sizeLine:=by decide
 have B:∀j,j<a.length->a[j]?=some (a.getD j 0):=fun j h=>by
  rw[vy,vz h];rfl
 have bl:=W.1;exists⟨vA _,?_⟩;walk_at"f p hp H1 s1 e1";have Y:∀{c u},H c=some u->c≠p:=fun h=>je h hp
 exists⟨l,rfl,⟨_,SqL.of (s1 _ _ S)⟩,?_⟩;refine Ju (xs:=bs.map V.ref) (fun i R m=>IvE6 fun(F G I J L:Option V) (d:List Addr)=>IvA4 (R=[some (.ref l),some (.ref s0),some (.int b),some (.ref p),F,G,I,J,L]) (Same H m) (m p=some (.lst (d.map V.ref))) (d.length<=i/\PrgAt m d (prg a b (O.take i))))
  ⟨_,_,_,_,_,[],rfl,s1,e1,va _,.nil⟩ ?_ ?_ ?_
 ·rintro i R m _ ⟨F,G,I,J,L,d,rfl,k,e,X,n⟩;exact SqL.of (k _ _ S)
 ·rintro i v R m hv ⟨F,G,I,J,L,d,rfl,k,e,X,n⟩;obtain⟨c,x,rfl,N,hc⟩:=W.at_ref hv;have hi:=(vx.mp N).1;have C:=ok x (vj N);have D:=C;obtain⟨Z,g1,g2,n1,n2,b1,b2⟩:=D;have g:prg a b (O.take (i+1))=prg a b (O.take i)++(prg1 a b x).toList:=by
   rw[take_snoc N];unfold prg;rw[filterMap_append];congr 1
  refine Xy (SqT.of (k _ _ hc)) ?_;exists iteD (fun r=>?_) (fun r=>?_)
  ·have a1:=j1W C r;exists ixLm (SqL.of (k _ _ U)) (jL (j:=x.1) (by rw[vv,B _ Z];rfl)) ?_;walk_at"g";have eo:(if x.2.1<(b-x.2.2)/a.getD x.1 0 then x.2.1 else(b-x.2.2)/a.getD x.1 0)=ov a b x:=rfl;have a0:(if(b-x.2.2)/a.getD x.1 0>x.2.1 then x.2.1 else(b-x.2.2)/a.getD x.1 0)=ov a b x:=rfl;refine⟨_,_,rfl,?_⟩;rw[eo];exists iteD (fun M=>?_) (fun M=>?_)
   ·exists ixLm (SqL.of (k _ _ U)) (jL (j:=x.1) (by rw[vv,B _ Z];rfl)) ?_;exists⟨.inl ⟨rfl,_,SqL.of e⟩,?_⟩;exists⟨uF,?_⟩;walk_at"f 2 e";exists⟨p,_,_,rfl,rfl,s2 _ _ e,by rw[vt];lia,?_⟩;have o:p2≠p:=fun z=>by rw[z,s2 _ _ e]at e2;cases e2
    refine⟨_,_,_,_,_,d++[p2],rfl,fun c u h=>(jg (Y h)).trans (s2 _ _ (k _ _ h)),by rw[jt,vi];rfl,by rw[vn];show d.length+1<=_;lia,?_⟩;have f:prg1 a b x=some (x.1,x.2.2,ov a b x,some (b-x.2.2-ov a b x*a.getD x.1 0)):=by
     unfold prg1;rw[vc r,vc M]
    rw[g,f];refine All2.snoc (All2.mono n fun c y h=>?_) ((jg o).trans e2);exact(jg (fun z=>by rw[z,e]at h;cases h)).trans (s2 _ _ h)
   ·exists⟨.inl ⟨rfl,_,SqL.of e⟩,?_⟩;exists⟨uF,?_⟩;walk_at"f 2 e";exists⟨p,_,_,rfl,rfl,s2 _ _ e,by rw[vt];lia,?_⟩;have o:p2≠p:=fun z=>by rw[z,s2 _ _ e]at e2;cases e2
    refine⟨_,_,_,_,_,d++[p2],rfl,fun c u h=>(jg (Y h)).trans (s2 _ _ (k _ _ h)),by rw[jt,vi];rfl,by rw[vn];show d.length+1<=_;lia,?_⟩;have f:prg1 a b x=some (x.1,x.2.2,ov a b x,none):=by
     unfold prg1;rw[vc r,vb M]
    rw[g,f];refine All2.snoc (All2.mono n fun c y h=>?_) ((jg o).trans e2);exact(jg (fun z=>by rw[z,e]at h;cases h)).trans (s2 _ _ h)
  ·exists⟨_,_,_,_,_,d,rfl,k,e,by lia,?_⟩;have f:prg1 a b x=none:=by
    unfold prg1;rw[vb r]
   rw[g,f];show PrgAt m d (_++[]);rw[append_nil];exact n
 rintro σ' m ⟨F,G,I,J,L,d,rfl,k,e,X,n⟩;rw[vt,bl,v7]at n;walk_at"g";exact q p d m k hp e n
theorem yt(T:Txt K mg t)(qL:FnOk P w K mg base CX0 1 t.Qt t.Qv ["pieces","sizes","gone"] (sp_progress)):FnOk P w K mg base CX0 2 t.JM t.JN ["self","beat"] (sp_aheadR t.jx):=by
 specialize T.yF.ok jH;obtain⟨a,z,ls,ps,gs,C,hs,x,Z,rfl,U,N,O,b0,b1,q⟩:=h;refine⟨_,(jb (jm (i:=2) jH.nd rfl (.inl rfl) jd)
  (jb (jm (i:=3) jH.nd rfl (.inl rfl) (jE (ja (jN (ja (jq qZ (jB Jg (by rfl) T.qW JQ (ja (Je (pv 0) rfl) jc)) jd) (ja (pv 1) jc))) jc)))
  (jb (yW PassesOwn.never (kT (pv 3) (fun _=>rfl))
   (jb (jm (i:=4) jH.nd rfl (.inl rfl) (Wc PySem.F.plainAttrs_list PySem.F.slot_list_pop PySem.F.type_list_pop Xm (pv 3)))
   (jb (QA (PW.pt (ZH (Wk (kT (jh jA (Je (pv 0) rfl) (jh jo (pv 4) jd)) (fun _=>rfl))) (zY (jp Q0 (jh jo (pv 4) jd) jd (nomark _)))))
    (jf (Xw (i:=2) jH.nd rfl (.inl rfl) (jh jA (Je (pv 0) rfl) (jh jo (pv 4) jd)) Xd))
    jy)
   (jf (Jt PassesOwn.never rfl (jI (jk T.yf qL hr (ja (jh jA (Je (pv 0) rfl) (jh jo (pv 4) jd)) (ja (Je (pv 0) rfl) (ja (jh jo (pv 4) jd) jc))))) (Jy rfl (jr (ji (i:=5) jH.nd rfl (.inl rfl)) (jr (ji (i:=6) jH.nd rfl (.inl rfl)) (jr (ji (i:=7) jH.nd rfl (.inl rfl)) (jr (ji (i:=8) jH.nd rfl (.inl rfl)) Jb)))))
    (jb (Xw (i:=2) jH.nd rfl (.inl rfl) (jq Ja (pv 7) (jh jA (Je (pv 0) rfl) (pv 5))) Xd)
    (jf (jY (jp w6 (pv 8) Qy (nomark _))
     (jf (jW (qp PySem.F.plainAttrs_list PySem.F.slot_list_append PySem.F.type_list_append jV (pv 3) (ja (jN (ja (pv 5) (ja (pv 8) jc))) jc))))
     jy))))))))
  (jf (jw (pv 2)))))),?_⟩
 refine ju (σ':=[some _,some _,none,none,none,none,none,none,none]) rfl ?_
 try dsimp only[cxOf,Cx.nox]
 have sz:(20000:Nat)<sizeLine:=by decide
 have W:=N.s.w;have gl:=N.s.gl;have ne:=N.ne;have wl:=O.1;have av:=W.p61;have ar:=N.g (show ps.length-1<ps.length by lia);have M8:∀i,i<ps.length->(hs.getD i []).length<=8:=fun i hi=>X8 W N.hl N.m (KL N.s N.hl hi)
 have wb:∀j,j<ps.length->0<=C.getD j 0/\C.getD j 0<=10^60*8^62:=fun j hj=>by
  have b:=O.bnd N (va _) j hj;have g:=N.g hj;have e:(8:Int)^(j+1)<=8^62:=by
   have:=Nat.pow_le_pow_right (show 0<8 by decide) (show j+1<=62 by lia)
   exact_mod_cast this
  exact⟨b.1,vZ b.2 (Int.mul_le_mul g.2 e (Int.le_of_lt (Int.pow_pos (by decide))) (by decide))⟩
 obtain⟨dx,ob⟩:=U.o;exists⟨a,_,dx,_,_,rfl,ob,T.jv,T.jO,yO,?_⟩;exists⟨_,_,rfl,.inl ⟨_,SqL.of U.s,rfl⟩,?_⟩;rw[vt,gl];exists⟨uD,?_⟩;walk_at"f 3 e";exists⟨uC,?_⟩;walk_at"f 4 e";rw[show((ps.length:Nat):Int)-1=((ps.length-1:Nat):Int) by lia]at e3;have ap:=s3.trans s4;have m4:∀{c u},H c=some u->c≠p4:=fun h=>je (s3 _ _ h) hp4
 exists⟨fun m σ l=>IvE8 fun(o4 D F G I:Option V) (d:List Addr) (S:List (Nat×Int)) (R:Int)=>IvA5 (σ=[some (.ref a),some (.int Z),some (.int R),some (.ref p4),o4,D,F,G,I]) (Same H l) (l p4=some (.lst (d.map V.ref))) (GonAt l d S) (AhS ps gs C (RA ps gs C (ps.length-1) Z) R S/\m=(S.map fun s=>nodes ps gs s.1 s.2).sum),
  ⟨_,none,none,none,none,none,[p3],[(ps.length-1,Z)],0,rfl,ap,e4,All2.snoc (as:=[]) (xs:=[]) .nil (s4 _ _ e3),⟨by simp,fun s aj=>by rw[vo.mp aj];exact⟨by show ps.length-1<_;lia,b0,by show Z<=_;lia⟩,by have:=N.nodes M8 (i:=ps.length-1) (t:=Z) (by lia) b0;simpa using this⟩,rfl⟩,?_⟩
 rintro m σ l ⟨o4,D,F,G,I,d,S,R,rfl,sm,eT,gT,A,rfl⟩;have tl:=gT.1;have af:S.length<=(S.map fun x=>nodes ps gs x.1 x.2).sum:=XF fun x _=>Z6 (ps:=ps) (gs:=gs) x.1 x.2
 have an:=A.n;exists⟨_,.inl ⟨_,SqL.of eT,rfl⟩,?_⟩;rcases eq_nil_or_concat S with rfl | ⟨S0,y,rfl⟩
 ·have et:d=[]:=length_eq_zero_iff.mp tl;subst et;refine iteF ?_;walk_at"g";have e:=A.e;rw[map_nil,sum_nil,ut]at e;rw[e];exact q _ sm
 rw[List.concat_eq_append]at *;obtain⟨f,ax,rfl,a9,ab⟩:=All2.last gT;rw[vi]at eT|-;refine iteB1 (by simp) ?_;obtain⟨y1,y2,y3⟩:=A.ok y (mem_append_right _ vq);have A':=A.next N;have nx:=kY (i:=y.1) (t:=y.2) N;have a8:([y].map fun s:Nat×Int=>nodes ps gs s.1 s.2).sum=nodes ps gs y.1 y.2:=by simp
 rw[vi,sum_append,a8];have aw:=a9.1;rw[vn,vU]at af;refine⟨fun σ l=>IvE8 fun(o4 D F G I:Option V) (d:List Addr) (S:List (Nat×Int)) (R:Int)=>IvA5 (σ=[some (.ref a),some (.int Z),some (.int R),some (.ref p4),o4,D,F,G,I]) (Same H l) (l p4=some (.lst (d.map V.ref))) (GonAt l d S) (AhS ps gs C (RA ps gs C (ps.length-1) Z) R S/\(S.map fun s=>nodes ps gs s.1 s.2).sum<(S0.map fun s=>nodes ps gs s.1 s.2).sum+nodes ps gs y.1 y.2),
  fun σ' l ⟨o4,D,F,G,I,d,S,R,h1,h2,h3,h4,h5,h6⟩=>⟨_,h6,o4,D,F,G,I,d,S,R,h1,h2,h3,h4,h5,rfl⟩,?_⟩
 exists⟨.inl ⟨rfl,_,SqL.of eT⟩,?_⟩;refine⟨p4,_,.ref ax,rfl,rfl,eT,by simp,?_⟩;rw[show((f.map V.ref)++[ax].map V.ref).dropLast=f.map V.ref by simp];have a3:∀{c:Addr} {xs:List V},l c=some (.tup xs)->c≠p4:=fun h z=>by rw[z,eT]at h;cases h
 have M:Same H (upd l p4 (.lst (f.map V.ref))):=fun c u h=>(jg (m4 h)).trans (sm _ _ h)
 have a2:upd l p4 (.lst (f.map V.ref)) p4=some (.lst (f.map V.ref)):=jt;have aa:GonAt (upd l p4 (.lst (f.map V.ref))) f S0:=All2.mono a9 fun c y h=>(jg (a3 h)).trans h
 have B:=(jg (o:=HO.lst (f.map V.ref)) (a3 ab)).trans ab;generalize upd l p4 (.lst (f.map V.ref))=H5 at M a2 aa B|-;clear a3;have Y:=M _ _ ob;obtain⟨p,hp⟩:∃p,ps[y.1]?=some p:=⟨_,vz y1⟩
 have ag:pcB ps gs y.1=pcsI gs p.2 (inP ps p.2):=by unfold pcB;rw[hp]
 have ai:(ps.map fun p=>pcsI gs p.2 (inP ps p.2))[y.1]?=some (pcB ps gs y.1):=by rw[vv,hp,ag];rfl
 obtain⟨al,a7,bs,ad,hq⟩:=U.pa.get ai;have ac:=hq.1;have ao:=Y4 N y.1;have iw:∀{j:Nat},j<ps.length->atI (C.map V.int) (j:Int)=some (.int (C.getD j 0)):=fun {j} hj=>jL (j:=j) (by rw[vv,vz (by lia),vy,vz (by lia)];rfl)
 generalize eX:(if pcB ps gs y.1=[]then(if 0<y.2 then C.getD y.1 0 else 0)else 0)=X at A';exists⟨fun σ' H6=>σ'=[some (.ref a),some (.int Z),some (.int (R+X)),some (.ref p4),some (.ref ax),D,F,G,I]/\H5=H6,?_,?_⟩
 rotate_left
 ·exists⟨a,_,dx,_,_,rfl,Y,T.jv,T.jT,Z0,?_⟩;exists ixTm (SqT.of B) rfl ?_;exists ixLm (SqL.of (M _ _ U.p)) (jL (j:=y.1) (by rw[vv,a7];rfl)) ?_;exists⟨_,.inl ⟨_,SqL.of (M _ _ ad),rfl⟩,?_⟩;by_cases cb:pcB ps gs y.1=[]
  ·have eb:bs=[]:=length_eq_zero_iff.mp (by rw[ac,cb];rfl);subst eb;refine iteT ?_;exists ixTm (SqT.of B) rfl ?_;exists iteD (fun c=>?_) (fun c=>?_)
   ·exists⟨a,_,dx,_,_,rfl,Y,T.jv,T.jC,qx,?_⟩;exists ixTm (SqT.of B) rfl ?_;exists ixLm (SqL.of (M _ _ U.w)) (iw y1) ?_;walk_at"g";rw[vc cb,vc (by lia)]at eX;exact⟨by rw[eX],rfl⟩
   ·walk_at"g";rw[vc cb,vb (by lia)]at eX;exact⟨by rw[<-eX,ut],rfl⟩
  ·have ak:¬bs.map V.ref=[]:=fun z=>by
    have:=congrArg List.length z;rw[vt,ac]at this;exact cb (length_eq_zero_iff.mp this)
   refine iteB0 (by simpa using ak) ?_;refine iteF ?_;walk_at"g";rw[vb cb]at eX;exact⟨by rw[<-eX,ut],rfl⟩
 rintro σ' H6 ⟨rfl,rfl⟩;exists⟨a,_,dx,_,_,rfl,Y,T.jv,T.jT,Z0,?_⟩;exists ixTm (SqT.of B) rfl ?_;exists ixLm (SqL.of (M _ _ U.p)) (jL (j:=y.1) (by rw[vv,a7];rfl)) ?_;exists⟨a,_,dx,_,_,rfl,Y,T.jv,T.jO,yO,?_⟩;exists ixTm (SqT.of B) rfl ?_;exists⟨al,z.s,y.2,bs,pcB ps gs y.1,gs,rfl,M _ _ ad,All2.mono hq fun c x h=>M _ _ h,M _ _ U.s,ao,fun u hu=>N.pcOk hu,y2,by lia,fun p6 a1 H6 s6 ae e6 g6=>?_⟩;have ah:GonAt H6 f S0:=All2.mono aa fun c y h=>s6 _ _ h
 have a5:=s6 _ _ a2;have a0:=g6.1;have n6:p6≠p4:=fun z=>by rw[z,a2]at ae;cases ae
 have au:=wK (gs:=gs) (t:=y.2) (pcB ps gs y.1);have a4:=M.trans s6;refine⟨p6,rfl,⟨_,SqL.of e6⟩,?_⟩;refine Ju (xs:=a1.map V.ref) (fun k σ l=>IvE5 fun(D F G I:Option V) (d:List Addr)=>IvA4 (σ=[some (.ref a),some (.int Z),some (.int (R+X+ovs C ((prg gs y.2 (pcB ps gs y.1)).take k))),some (.ref p4),some (.ref ax),D,F,G,I]) (∀c u,c≠p4->H6 c=some u->l c=some u) (l p4=some (.lst (d.map V.ref))) (d.length<=f.length+k/\GonAt l d (S0++rsts ((prg gs y.2 (pcB ps gs y.1)).take k))))
  ⟨_,_,_,_,f,by rw[show ovs C ((prg gs y.2 (pcB ps gs y.1)).take 0)=0 from rfl,ut],fun c u _ h=>h,a5,va _,by rw[show rsts ((prg gs y.2 (pcB ps gs y.1)).take 0)=[]from rfl,append_nil];exact ah⟩ ?_ ?_ ?_
 ·rintro k σ l _ ⟨D,F,G,I,d,rfl,n,_⟩;exact SqL.of (n _ _ n6 e6)
 ·rintro k v σ H7 hv ⟨D,F,G,I,d,rfl,n,J,aq,L⟩;obtain⟨c,u,rfl,hu,hc⟩:=g6.at_ref hv;have ku:=(vx.mp hu).1;have um:=vj hu;have ul:=Wi W um;have uo:=j4z N um;have wu:=wb u.1 (by lia);have am:c≠p4:=fun z=>by rw[z,a5]at hc;cases hc
  refine j28 (SqT.of (n _ _ am hc)) ?_;exists⟨a,_,dx,_,_,rfl,n _ _ (m4 ob) (a4 _ _ ob),T.jv,T.jC,qx,?_⟩;exists ixLm (SqL.of (n _ _ (m4 U.w) (a4 _ _ U.w))) (iw (by lia)) ?_;walk_at"g";have eo:=j1Y (W:=C) hu;cases er:u.2.2.2 with
  | none=>
   refine⟨rfl,_,rfl,?_⟩;refine iteB0 (by simp[optV]) ?_;exists⟨_,_,_,_,d,by rw[eo,Int.add_assoc],n,J,by lia,?_⟩;rw[j0U hu er];exact L
  | some r=>
   refine⟨rfl,_,rfl,?_⟩;refine iteB1 (by simp[optV]) ?_;exists⟨.inl ⟨rfl,_,SqL.of J⟩,?_⟩;exists⟨uD,?_⟩;walk_at"f 8 e";have a6:=s8 _ _ J;exists⟨p4,_,_,rfl,rfl,a6,by rw[vt];lia,?_⟩;have nt:∀{c:Addr} {xs:List V},H8 c=some (.tup xs)->c≠p4:=fun h z=>by rw[z,a6]at h;cases h
   exists⟨_,_,_,_,d++[p8],by rw[eo,Int.add_assoc],fun c u hc h=>(jg hc).trans (s8 _ _ (n _ _ hc h)),by rw[jt,vi];rfl,by rw[vn,vU];lia,?_⟩;rw[j0V hu er,<-List.append_assoc];exact All2.snoc (All2.mono L fun c y h=>(jg (nt (s8 _ _ h))).trans (s8 _ _ h)) ((jg (nt e8)).trans e8)
 ·rintro σ H7 ⟨D,F,G,I,d,rfl,n,J,aq,L⟩;rw[show(a1.map V.ref).length=(prg gs y.2 (pcB ps gs y.1)).length by rw[vt];exact a0,v7]at L;rw[show(a1.map V.ref).length=(prg gs y.2 (pcB ps gs y.1)).length by rw[vt];exact a0,v7];exists⟨_,_,_,_,_,d,_,_,rfl,fun c u h=>n _ _ (m4 h) (a4 _ _ h),J,L,A',?_⟩;rw[vi,sum_append];lia
theorem W3(T:Txt K mg t)(n:FnOk P w K mg base CX0 2 t.JM t.JN ["self","beat"] (sp_aheadR t.jx)):FnOk P w K mg base CX0 3 t.yk t.yn ["tally","beat"] (sp_aheadR t.jx):=by
 specialize T.ka.F.ok xg;obtain⟨a,z,l,m,j,i,k,x,o,rfl,b,N,O,d,e,q⟩:=h;refine⟨_,(jb (jY (Wk (xa W7 W7 jd (pv 1) (jq j7 (Je (pv 0) rfl) jd)))
   (jf QB)
   jy)
  (jf (jw (Wd (pv 0) T.jv T.yp (n.mono (by decide)) hr T.yz .nil pass0 (ja (pv 1) jc))))),?_⟩
 refine ju (σ':=[some _,some _]) rfl ?_
 try dsimp only[cxOf,Cx.nox]
 obtain⟨f,g⟩:=b.o;exists iteB1 (vH d) ?_;exists⟨a,_,f,_,_,rfl,g,T.jv,T.JB,X0,?_⟩;exists iteN (fun c=>uB e c) (fun _=>?_);exists⟨a,f,_,rfl,g,j1p,?_⟩;walk_at"g";exact⟨a,z,l,m,j,i,k,x,o,rfl,b,N,O,d,e,q⟩
theorem Kp(T:Txt K mg t)(D:FnOk P w K mg base CX0 6 t.jP t.jU ["self","book","word"] (sp_initR t.jx))(M:FnOk P w K mg base CX0 3 t.yk t.yn ["tally","beat"] (sp_aheadR t.jx)):FnOk P w K mg base CX0 8 t.Qg t.Ql ["book","word","beat"] (sp_ringC):=by
 specialize T.Qb.F.ok Ku;obtain⟨b,G,I,e,f,m,n,j,l,x,L,rfl,r,N,C,B,i,y,q⟩:=h;refine⟨_,(jf (jw (jk T.ka M hr (ja (Y7 T.Zt (D.mono (by decide)) hr (by rfl) T.zS T.JO .nil pass0 (ja (pv 0) (ja (pv 1) jc))) (ja (pv 2) jc))))),?_⟩;refine ju (σ':=[some _,some _,some _]) rfl ?_
 try dsimp only[cxOf,Cx.nox]
 walk_at"g";intro o a k d S;have p:Same H (upd (upd H a (.own o)) o (.ins t.jx a [])):=fun c u h=>(jg (je h k)).trans ((jg (je h d)).trans h)
 refine⟨o,a,b,G,I,e,f,m,n,j,l,x,rfl,jt,r.same p,N,C,B,fun z W v F O A=>⟨rfl,?_⟩⟩;have g:Same H v:=fun c u h=>F _ _ (je h k) (p _ _ h)
 exists⟨o,z,m,n,j,W,l,x,L,rfl,A,N,O,i,y,fun R J=>?_⟩;rw[WE N O i];exact q _ (g.trans J)
theorem j0M(T:Txt K mg t):FnOk P w K mg base CX0 1 t.yH t.yL ["pieces","sizes","beat"] (sp_begins):=by
 specialize T.WB.F.ok zp;obtain⟨l,ss,m,Z,o,f,rfl,S,X,es,ok,bl,q⟩:=h;refine⟨_,(jb (jm (i:=3) zp.nd rfl (.inl rfl) (jE jc))
  (jb (Jt PassesOwn.never rfl (jI (pv 0)) (Jy rfl (jr (ji (i:=4) zp.nd rfl (.inr rfl)) (jr (ji (i:=5) zp.nd rfl (.inl rfl)) (jr (ji (i:=6) zp.nd rfl (.inr rfl)) Jb))))
   (jf (jW (qp PySem.F.plainAttrs_list PySem.F.slot_list_extend PySem.F.type_list_extend Yy (pv 3) (ja (j5 (ow:=["turn"]) (ci:=[4,2,6,1]) rfl (CompScope.of (defScope yX) ["pieces","sizes","beat","found","part","turns","begin"] rfl rfl (by decide +kernel)) (jZ (by decide)) (qe (by rfl) T.Qi (ja (pv 5) jc)) (fun _ _ _ _ _=>⟨(ji (i:=0) (jK ["pieces","sizes","beat","found","part","turns","begin"] rfl (by decide +kernel)) rfl (.inl rfl)),Jx,(jN (ja (pv 1) (ja (jq j7 (jq j7 (pv 2) (pv 3)) (jq Ja (pv 0) (jh (Jd (K:=K) rfl) (pv 4) (pv 1)))) jc)))⟩)) jc)))))
  (jf (jw (pv 3))))),?_⟩
 refine ju (σ':=[some _,some _,some _,none,none,none,none]) rfl ?_
 try dsimp only[cxOf,Cx.nox]
 have sz:(100000:Nat)<sizeLine:=by decide
 have O:=X.1;exists⟨vA _,?_⟩;walk_at"f p hp H1 s1 e1";exists⟨l,rfl,⟨_,SqL.of (s1 _ _ S)⟩,?_⟩;have np:∀{c u},H c=some u->c≠p:=fun h=>je h hp
 refine Ju (xs:=Z.map V.ref) (fun i M n=>IvE4 fun(I J L:Option V) (r:List Addr)=>IvA3 (M=[some (.ref l),some (.ref ss),some (.int m),some (.ref p),I,J,L]) (Same H n) (n p=some (.lst (r.map V.ref))/\GonAt n r (bgs f m (o.take i)))) ⟨_,_,_,[],rfl,s1,e1,.nil⟩ ?_ ?_ ?_
 ·rintro i M n _ ⟨I,J,L,r,rfl,B,D,C⟩;exact SqL.of (B _ _ S)
 ·rintro i v M n hv ⟨I,J,L,r,rfl,B,D,C⟩;obtain⟨a,k,rfl,U,N⟩:=X.at_ref hv;obtain⟨k1,k2,k3,k4,k5,k6,k7⟩:=ok k (vj U);have al:=C.1;have Y:bgs f m (o.take (i+1))=bgs f m (o.take i)++(List.range k.2.1.toNat).map fun u:Nat=>(k.1,m+k.2.2+(u:Int)*f.getD k.1 0):=by
   rw[take_snoc U];unfold bgs;rw[flatMap_append,flatMap_cons,flatMap_nil,append_nil]
  have dl:(bgs f m (o.take (i+1))).length<=(bgs f m o).length:=by
   have e:bgs f m o=bgs f m (o.take (i+1))++bgs f m (o.drop (i+1)):=by
    unfold bgs;rw[<-flatMap_append,List.take_append_drop]
   rw[e,vn];lia
  rw[Y,vn,vt,length_range]at dl;have hg:f[k.1]?=some (f.getD k.1 0):=by rw[vy,vz k1];rfl
  refine Xy (SqT.of (B _ _ N)) ?_;exists⟨.inl ⟨rfl,_,SqL.of D⟩,?_⟩;exists⟨_,rfl,by lia,by lia,?_⟩;refine qM (fun u R G=>IvE1 fun(d:List Addr)=>IvA2 (R=d.map V.ref) (Same n G/\GonAt G d ((List.range u).map fun u:Nat=>(k.1,m+k.2.2+(u:Int)*f.getD k.1 0)))) ⟨[],rfl,Same.refl _,.nil⟩ ?_ ?_
  ·rintro u R G hu ⟨d,rfl,b,g⟩;have x:=g.1;rw[vt,length_range]at x;refine jX (σ':=[none,some _,some _,some _,some _]) rfl ?_;exists iteT ?_;exists ixLm (SqL.of (b _ _ (B _ _ es))) (jL (j:=k.1) (by rw[vv,hg];rfl)) ?_;exists⟨uD,?_⟩;walk_at"f 3 e";refine⟨by rw[vt];lia,d++[p3],by rw[vi];rfl,b.trans s3,?_⟩;rw[range_succ,vi];rw[uv]at e3;exact All2.snoc (All2.mono g fun c y h=>s3 _ _ h) e3
  ·rintro R G ⟨d,rfl,b,g⟩;have x:=g.1;rw[vt,length_range]at x;refine⟨by rw[vt];lia,?_⟩;walk_at"f 3 e";walk_at"g";have F:=s3 _ _ (b _ _ D);refine⟨p,p3,_,_,rfl,rfl,F,e3,by rw[vt,vt];lia,?_⟩;have W:∀{c:Addr} {xs:List V},H3 c=some (.tup xs)->c≠p:=fun h z=>by rw[z,F]at h;cases h
   exists⟨_,_,_,r++d,rfl,fun c u h=>(jg (np h)).trans (s3 _ _ (b _ _ (B _ _ h))),by rw[jt,vi],?_⟩;rw[Y];exact All2.app (All2.mono C fun c y h=>(jg (W (s3 _ _ (b _ _ h)))).trans (s3 _ _ (b _ _ h))) (All2.mono g fun c y h=>(jg (W (s3 _ _ h))).trans (s3 _ _ h))
 ·rintro M n ⟨I,J,L,r,rfl,B,D,C⟩;rw[vt,O,v7]at C;walk_at"g";exact q p r n B hp D C
theorem Km(T:Txt K mg t)(kf:FnOk P w K mg base CX0 1 t.yH t.yL ["pieces","sizes","beat"] (sp_begins)):FnOk P w K mg base CX0 2 t.zF t.zM ["tally"] (sp_rung t.jx):=by
 specialize T.yC.F.ok qt;obtain⟨a,z,ls,ps,gs,f,hs,x,rfl,M,N,O,few,q⟩:=h;refine⟨_,(jb (jm (i:=1) qt.nd rfl (.inl rfl) (jE jc))
  (jb (jm (i:=2) qt.nd rfl (.inl rfl) (ZG (jp Q0 (jh jA (Je (pv 0) rfl) (zn qO jd)) jd (nomark _)) (jE (ja (jN (ja (jq qZ (jB Jg (by rfl) T.qW JQ (ja (Je (pv 0) rfl) jc)) jd) (ja jd jc))) jc)) (jE jc)))
  (jb (yW PassesOwn.never (kT (pv 2) (fun _=>rfl))
   (jb (jm (i:=3) qt.nd rfl (.inl rfl) (Wc PySem.F.plainAttrs_list PySem.F.slot_list_pop PySem.F.type_list_pop Xm (pv 2)))
   (jb (zX (i:=4) (ow:=["piece"]) (ci:=[0]) rfl (CompScope.of (defScope Qn) ["tally","found","todo","now","ringing"] rfl rfl (by decide +kernel)) (jZ (by decide)) qt.nd rfl (.inl rfl) (jI (jh jA (Je (pv 0) rfl) (jh jo (pv 3) jd))) (fun _ _ _ _ _=>⟨(ji (i:=0) (jK ["tally","found","todo","now","ringing"] rfl (by decide +kernel)) rfl (.inl rfl)),(zV (jp Q0 (jh (Jd (K:=K) rfl) (Y6 (K:=K) rfl (pv 1) rfl) (jh (Jf (K:=K) rfl) (pv 0) jd)) jd (nomark _))),(pv 0)⟩))
   (jf (jY (kT (pv 4) (fun _=>rfl))
    (jf (jW (qp PySem.F.plainAttrs_list PySem.F.slot_list_extend PySem.F.type_list_extend Yy (pv 2) (ja (jk T.WB kf hr (ja (pv 4) (ja (Je (pv 0) rfl) (ja (jh jo (pv 3) jd) jc)))) jc))))
    (jf (jW (qp PySem.F.plainAttrs_list PySem.F.slot_list_append PySem.F.type_list_append jV (pv 1) (ja (jh jo (pv 3) jd) jc)))))))))
  (jf (jw (Xt rfl (by rfl) T.WH (by rfl) T.j4R (pv 1))))))),?_⟩
 refine ju (σ':=[some _,none,none,none,none]) rfl ?_
 try dsimp only[cxOf,Cx.nox]
 have sz:(20000:Nat)<sizeLine:=by decide
 have W:=N.s.w;have gl:=N.s.gl;have ne:=N.ne;have wl:=O.1;obtain⟨dx,ob⟩:=M.o;exists⟨vA _,?_⟩;walk_at"f pf hpf H1 s1 e1";exists⟨a,_,dx,_,_,rfl,s1 _ _ ob,T.jv,T.jC,qx,?_⟩;exists ixLm (SqL.of (s1 _ _ M.w)) (zI ne wl) ?_;exists iteD (fun c=>?A) (fun c=>?B)
 case' A=>
  exists⟨a,_,dx,_,_,rfl,s1 _ _ ob,T.jv,T.jO,yO,?_⟩;exists⟨_,_,rfl,.inl ⟨_,SqL.of (s1 _ _ M.s),rfl⟩,?_⟩;rw[vt,gl];exists⟨uD,?_⟩;walk_at"f 3 e";exists⟨uC,?_⟩;walk_at"f 4 e";rw[show((ps.length:Nat):Int)-1=((ps.length-1:Nat):Int) by lia]at e3;have X:=s3.trans s4;have st:∃(e:List Addr) (S:List (Nat×Int)),H4 p4=some (.lst (e.map V.ref))/\GonAt H4 e S/\RgS ps gs f (fun y=>0<f.getD (ps.length-1) 0/\y∈RB ps gs f (ps.length-1) 0) [] S:=
   ⟨[p3],[(ps.length-1,0)],e4,All2.snoc (as:=[]) (xs:=[]) .nil (s4 _ _ e3),⟨fun y=>⟨fun h=>.inr ⟨_,vq,h.2⟩,fun h=>⟨c,h.elim (fun z=>nomatch z) fun⟨u,k,z⟩=>by rw[vo.mp k]at z;exact z⟩⟩,fun u k=>by rw[vo.mp k];exact⟨by show ps.length-1<_;lia,c⟩,by simpa using few⟩⟩
  have n4:pf≠p4:=je (s3 _ _ e1) hp4;have m4:∀{c u},H c=some u->c≠p4:=fun h=>je (s3 _ _ (s1 _ _ h)) hp4
 case' B=>
  exists⟨vA _,?_⟩;walk_at"f 4 e";have X:=s4;have st:∃(e:List Addr) (S:List (Nat×Int)),H4 p4=some (.lst (e.map V.ref))/\GonAt H4 e S/\RgS ps gs f (fun y=>0<f.getD (ps.length-1) 0/\y∈RB ps gs f (ps.length-1) 0) [] S:=
   ⟨[],[],e4,.nil,⟨fun y=>⟨fun h=>uB h.1 c,fun h=>h.elim (fun z=>nomatch z) fun⟨u,k,_⟩=>nomatch k⟩,(fun u k=>nomatch k),(show(0:Int)+0<=12 by decide)⟩⟩
  have n4:pf≠p4:=je e1 hp4;have m4:∀{c u},H c=some u->c≠p4:=fun h=>je (s1 _ _ h) hp4
 all_goals
  obtain⟨e,S,e4,gT,L⟩:=st;have mf:∀{c u},H c=some u->c≠pf:=fun h=>je h hpf
  exists⟨fun m σ g=>IvE5 fun(Y Z:Option V) (e:List Addr) (S:List (Nat×Int)) (F:List Int)=>IvA6 (σ=[some (.ref a),some (.ref pf),some (.ref p4),Y,Z]) (Same H g) (g pf=some (.lst (F.map V.int))) (g p4=some (.lst (e.map V.ref))) (GonAt g e S) (RgS ps gs f (fun y=>0<f.getD (ps.length-1) 0/\y∈RB ps gs f (ps.length-1) 0) F S/\m=(S.map fun s=>NR ps gs f s.1).sum),
   ⟨_,none,none,e,S,[],rfl,s1.trans X,X _ _ e1,e4,gT,L,rfl⟩,?_⟩
  clear gT L e4 e S;rintro m σ g ⟨Y,Z,e,S,F,rfl,sm,ef,eT,gT,L,rfl⟩;have few4:=L.few;have tl:=gT.1;exists⟨_,.inl ⟨_,SqL.of eT,rfl⟩,?_⟩;rcases eq_nil_or_concat S with rfl | ⟨S0,y,rfl⟩
  ·have et:e=[]:=length_eq_zero_iff.mp tl;subst et;refine iteF ?_;exists j51 ?_;exists⟨pf,F,F,rfl,SqL.of ef,by lia,fun y hy=>hy,?_⟩;intro l ms hl up mm;have ml:ms.length<=12:=by
    have:=len_sub (a:=ms) (b:=F) (up.imp fun h=>by lia) fun y hy=>(mm y).mp hy
    lia
   exact q l ms _ (sm.trans (Wq hl rfl)) (none_of sm hl) jt up (fun y=>(mm y).trans (L.done y).symm) ml
  rw[List.concat_eq_append]at *;obtain⟨d,ax,rfl,a6,a9⟩:=All2.last gT;rw[vi]at eT|-;refine iteB1 (by simp) ?_;obtain⟨y1,y2⟩:=L.ok y (mem_append_right _ vq);have nr:=j2P (gs:=gs) (W:=f) (ps:=ps) W (i:=y.1) (t:=y.2);rw[vi,sum_append];have a4:([y].map fun s:Nat×Int=>NR ps gs f s.1).sum=NR ps gs f y.1:=by simp
  rw[a4];have ar:=a6.1;rw[vn,vU]at few4;refine⟨fun σ g=>IvE5 fun(Y Z:Option V) (e:List Addr) (S:List (Nat×Int)) (F:List Int)=>IvA6 (σ=[some (.ref a),some (.ref pf),some (.ref p4),Y,Z]) (Same H g) (g pf=some (.lst (F.map V.int))) (g p4=some (.lst (e.map V.ref))) (GonAt g e S) (RgS ps gs f (fun y=>0<f.getD (ps.length-1) 0/\y∈RB ps gs f (ps.length-1) 0) F S/\(S.map fun s=>NR ps gs f s.1).sum<(S0.map fun s=>NR ps gs f s.1).sum+NR ps gs f y.1),
   fun σ' g ⟨Y,Z,e,S,F,h1,h2,h3,h4,h5,h6,h7⟩=>⟨_,h7,Y,Z,e,S,F,h1,h2,h3,h4,h5,h6,rfl⟩,?_⟩
  exists⟨.inl ⟨rfl,_,SqL.of eT⟩,?_⟩;refine⟨p4,_,.ref ax,rfl,rfl,eT,by simp,?_⟩;rw[show((d.map V.ref)++[ax].map V.ref).dropLast=d.map V.ref by simp];have n:∀{c:Addr} {xs:List V},g c=some (.tup xs)->c≠p4:=fun h z=>by rw[z,eT]at h;cases h
  have I:Same H (upd g p4 (.lst (d.map V.ref))):=fun c u h=>(jg (m4 h)).trans (sm _ _ h)
  have a1:upd g p4 (.lst (d.map V.ref)) p4=some (.lst (d.map V.ref)):=jt;have a3:=(jg (o:=HO.lst (d.map V.ref)) n4).trans ef;have a7:GonAt (upd g p4 (.lst (d.map V.ref))) d S0:=All2.mono a6 fun c y h=>(jg (n h)).trans h
  have R:=(jg (o:=HO.lst (d.map V.ref)) (n a9)).trans a9;generalize upd g p4 (.lst (d.map V.ref))=H5 at I a1 a3 a7 R|-;clear n;have ab:=I _ _ ob;obtain⟨p,hp⟩:∃p,ps[y.1]?=some p:=⟨_,vz y1⟩
  have ag:pcB ps gs y.1=pcsI gs p.2 (inP ps p.2):=by unfold pcB;rw[hp]
  have ai:(ps.map fun p=>pcsI gs p.2 (inP ps p.2))[y.1]?=some (pcB ps gs y.1):=by rw[vv,hp,ag];rfl
  obtain⟨al,ad,bs,aa,hq⟩:=M.pa.get ai;have ah:=hq.1;have aq:=Y4 N y.1;exists⟨a,_,dx,_,_,rfl,ab,T.jv,T.jT,Z0,?_⟩;exists ixTm (SqT.of R) rfl ?_;exists ixLm (SqL.of (I _ _ M.p)) (jL (j:=y.1) (by rw[vv,ad];rfl)) ?_;exists⟨al,rfl,⟨_,SqL.of (I _ _ aa)⟩,?_⟩;refine jR (xs:=bs.map V.ref) (fun j ys C=>IvE1 fun(r:List Addr)=>IvA3 (ys=r.map V.ref) (r.length<=j) (PcsAt H5 r (rq f ((pcB ps gs y.1).take j))/\H5=C)) ⟨[],rfl,va _,.nil,rfl⟩ ?_ ?_ ?_
  ·rintro j ys C _ ⟨r,rfl,fl,J,rfl⟩;exact SqL.of (I _ _ aa)
  ·rintro j v ys C aj ⟨r,rfl,fl,J,rfl⟩;obtain⟨cq,u,rfl,k,hc⟩:=hq.at_ref aj;have ao:=(vx.mp k).1;have au:=qi W (vj k);have ey:f[u.1]?=some (f.getD u.1 0):=by rw[vy,vz (by lia)];rfl
   refine jX (σ':=[none,some (.ref a)]) rfl ?_;exists⟨a,_,dx,_,_,rfl,ab,T.jv,T.jC,qx,?_⟩;exists ixTm (SqT.of (I _ _ hc)) rfl ?_;exists ixLm (SqL.of (I _ _ M.w)) (jL (j:=u.1) (by rw[vv,ey];rfl)) ?_;walk_at"g";have ef:rq f ((pcB ps gs y.1).take (j+1))=rq f ((pcB ps gs y.1).take j)++(if decide (0<f.getD u.1 0)=true then[u]else[]):=by
    unfold rq;rw[take_snoc k,filter_append];congr 1;rw[uz,filter_nil]
   refine iteD (fun c=>?_) (fun c=>?_)
   ·exists⟨by rw[vt];lia,r++[cq],by rw[vi];rfl,by rw[vn,vU];lia,?_,rfl⟩;rw[ef,vc (vH c)];exact All2.snoc J (I _ _ hc)
   ·refine⟨r,rfl,by lia,?_,rfl⟩;rw[ef,vb (by rw[decide_eq_true_eq];exact c),append_nil];exact J
  rintro ys C ⟨r,rfl,fl,J,rfl⟩;rw[vt]at fl J;rw[ah,v7]at J;refine⟨by rw[vt];lia,?_⟩;walk_at"f 6 e";have G:=I.trans s6;have U:=s6 _ _ a1;have D:=s6 _ _ a3;have a0:=s6 _ _ R;have a8:GonAt H6 d S0:=All2.mono a7 fun c y h=>s6 _ _ h
  have a5:=J.1;exists⟨_,.inl ⟨_,SqL.of e6,rfl⟩,?_⟩;by_cases c1:rq f (pcB ps gs y.1)=[]
  ·have af:r=[]:=length_eq_zero_iff.mp (by rw[a5,c1];rfl);subst af;refine iteF ?_;exists⟨.inl ⟨rfl,_,SqL.of D⟩,?_⟩;exists ixTm (SqT.of a0) rfl ?_;exists⟨pf,_,_,rfl,rfl,D,by rw[vt];lia,?_⟩;walk_at"g";have ak:∀{c:Addr} {xs:List V},H6 c=some (.tup xs)->c≠pf:=fun h z=>by rw[z,D]at h;cases h
   refine⟨_,_,d,S0,F++[y.2],rfl,fun c u h=>(jg (mf h)).trans (G _ _ h),by rw[jt,vi];rfl,(jg (Ne.symm n4)).trans U,All2.mono a8 fun c y h=>(jg (ak h)).trans h,L.leaf c1,?_⟩;have:=j42 (ps:=ps) (gs:=gs) (W:=f) y.1;lia
  ·have am:¬r.map V.ref=[]:=fun z=>by
    have:=congrArg List.length z;rw[vt,a5]at this;exact c1 (length_eq_zero_iff.mp this)
   refine iteB1 (by simpa using am) ?_;have rN:=L.node N O c1;have few5:=rN.few;rw[vn]at few5;exists⟨.inl ⟨rfl,_,SqL.of U⟩,?_⟩;exists⟨a,_,dx,_,_,rfl,G _ _ ob,T.jv,T.jO,yO,?_⟩;exists ixTm (SqT.of a0) rfl ?_;exists⟨p6,z.s,y.2,r,rq f (pcB ps gs y.1),gs,rfl,e6,All2.mono J fun c q h=>s6 _ _ h,G _ _ M.s,fun u k=>N.pcOk (vQ.mp k).1,by lia,fun p7 ac H7 s7 ap e7 g7=>?_⟩;have a2:=s7 _ _ U;have ae:=s7 _ _ D;have an:=g7.1;exists⟨p4,p7,_,_,rfl,rfl,a2,e7,by rw[vt,vt];lia,?_⟩;walk_at"g";have n:∀{c:Addr} {xs:List V},H7 c=some (.tup xs)->c≠p4:=fun h z=>by rw[z,a2]at h;cases h
   refine⟨_,_,d++ac,_,F,rfl,fun c u h=>(jg (m4 h)).trans (s7 _ _ (G _ _ h)),(jg n4).trans ae,by rw[jt,vi],All2.app (All2.mono a8 fun c y h=>(jg (n (s7 _ _ h))).trans (s7 _ _ h)) (All2.mono g7 fun c y h=>(jg (n h)).trans h),rN,?_⟩;rw[vi,sum_append,nr];lia
theorem wW(T:Txt K mg t):FnOk P w K mg base CX0 1 t.QM t.QU ["one","other"] (sp_common):=by
 specialize T.YM.F.ok qf;obtain⟨r,s,rfl,N,X,O,Y,q⟩:=h;refine⟨_,(jb (jm (i:=2) qf.nd rfl (.inl rfl) (jN (ja (pv 0) (ja (pv 1) jc))))
  (jb (jm (i:=3) qf.nd rfl (.inl rfl) (jN (ja jd (ja jd jc))))
  (jb (yW PassesOwn.never (jp Q0 (jh jo (pv 2) jd) jd (nomark _))
   (jb (jm (i:=4) qf.nd rfl (.inl rfl) (jq qo (jh jo (pv 2) jd) (jh jo (pv 2) jd)))
   (jb (jm (i:=2) qf.nd rfl (.inl rfl) (jN (ja (jh jo (pv 2) jd) (ja (jq qZ (jh jo (pv 2) jd) (jq Ja (pv 4) (jh jo (pv 2) jd))) jc))))
   (jf (jm (i:=3) qf.nd rfl (.inl rfl) (jN (ja (jh jo (pv 3) jd) (ja (jq qZ (jh jo (pv 3) jd) (jq Ja (pv 4) (jh jo (pv 3) jd))) jc))))))))
  (jf (jw (jN (ja (jh jo (pv 2) jd) (ja (jh jo (pv 3) jd) jc)))))))),?_⟩
 refine ju (σ':=[some _,some _,none,none,none]) rfl ?_
 try dsimp only[cxOf,Cx.nox]
 have g:(2:Nat)<=sizeLine:=by decide
 exists⟨g,?_⟩;walk_at"f p1 hp1 H1 z1 e1";exists⟨g,?_⟩;walk_at"f p2 hp2 H2 z2 e2";exists⟨fun n σ' f=>IvE7 fun(m o:Addr) (a b x y:Int) (v:Option V)=>IvA5 (σ'=[some (.int r),some (.int s),some (.ref m),some (.ref o),v]) (Same H f) (f m=some (.tup [.int a,.int b])) (f o=some (.tup [.int x,.int y])) (Ct.Ce r s a b x y/\n=b.toNat),
  ⟨_,p1,p2,_,_,_,_,_,rfl,z1.trans z2,z2 _ _ e1,e2,Ct.Ce.start N O,rfl⟩,?_⟩
 rintro n σ' f ⟨m,o,a,b,x,y,v,rfl,p,d,u,C,rfl⟩;obtain⟨R,D,F,z,G,j,k,I,J,_⟩:=id C;exists ixTm (SqT.of d) rfl ?_;exists iteD (fun c=>?_) (fun c=>?_)
 ·have l:1<=b:=by lia
  have S:=C.step l;have W:=Y2 (x:=a) (b:=b) (B:=10^200) (by lia) (by lia) (by lia);have Z:=S.b0;have L:=Int.emod_add_mul_ediv a b;have M:=ve a (show 0<b by lia);have U:a/b*b=b*(a/b):=Int.mul_comm ..;refine⟨_,fun σ' f h=>h,?_⟩;exists ixTm (SqT.of d) rfl ?_;exists ixTm (SqT.of d) rfl ?_;exists ixTm (SqT.of d) rfl ?_;exists ixTm (SqT.of d) rfl ?_;exists ixTm (SqT.of d) rfl ?_;exists⟨g,?_⟩;walk_at"f p3 hp3 H3 z3 e3";have e:=z3 _ _ u;exists ixTm (SqT.of e) rfl ?_;exists ixTm (SqT.of e) rfl ?_;exists ixTm (SqT.of e) rfl ?_;exists⟨g,?_⟩;walk_at"f p4 hp4 H4 z4 e4";exists⟨(a-a/b*b).toNat,by lia,p3,p4,_,_,_,_,_,rfl,p.trans (z3.trans z4),z4 _ _ e3,e4,S,rfl⟩
 ·have l:b=0:=by lia
  subst l;exists ixTm (SqT.of d) rfl ?_;exists ixTm (SqT.of u) rfl ?_;exists⟨g,?_⟩;walk_at"f p3 hp3 H3 z3 e3";exact q p3 a x H3 (p.trans z3) (none_of p hp3) e3 C.done j k
theorem W6(T:Txt K mg t)(Zq:FnOk P w K mg base CX0 1 t.QM t.QU ["one","other"] (sp_common)):FnOk P w K mg base CX0 2 t.yl t.yo ["rung","other"] (sp_together):=by
 specialize T.ke.F.ok qz;obtain⟨a,b,la,lb,B,O,TT,d,S,S',rfl,Y,N,eb,Z,tB,tO,T2,a4,a7,q⟩:=h;refine⟨_,(jb (jm (i:=2) qz.nd rfl (.inr rfl) (jk T.YM Zq hr (ja (jh jo (pv 0) jd) (ja (jh jo (pv 1) jd) jc))))
  (jb (jm (i:=3) qz.nd rfl (.inl rfl) (jq qo (jh jo (pv 1) jd) (jh jo (pv 2) jd)))
  (jb (jm (i:=4) qz.nd rfl (.inl rfl) (jE jc))
  (jb (Jt PassesOwn.never rfl (jI (jh jo (pv 0) jd)) (ji (i:=5) qz.nd rfl (.inr rfl))
   (jf (Jt PassesOwn.never rfl (jI (j5 (ow:=["one"]) (ci:=[5,2]) rfl (CompScope.of (defScope Zf) ["rung","other","common","steps","beats","beat","wanted"] rfl rfl (by decide +kernel)) (jZ (by decide)) (jI (jh jo (pv 1) jd)) (fun _ _ _ _ _=>⟨(ji (i:=0) (jK ["rung","other","common","steps","beats","beat","wanted"] rfl (by decide +kernel)) rfl (.inl rfl)),(zV (jp Jo (jq Jp (jq qZ (pv 0) (pv 1)) (jh (Jf (K:=K) rfl) (pv 2) jd)) jd (nomark _))),(pv 0)⟩))) (ji (i:=6) qz.nd rfl (.inl rfl))
    (jf (jW (qp PySem.F.plainAttrs_list PySem.F.slot_list_append PySem.F.type_list_append jV (pv 4) (ja (jq j7 (pv 5) (jq Ja (jq Jp (jq Ja (jq qo (jq qZ (pv 6) (pv 5)) (jh jo (pv 2) jd)) (jh jo (pv 2) jd)) (pv 3)) (jh jo (pv 0) jd))) jc)))))))
  (jf (jw (jN (ja (pv 4) (ja (jq Ja (jh jo (pv 0) jd) (pv 3)) jc))))))))),?_⟩
 refine ju (σ':=[some _,some _,none,none,none,none,none]) rfl ?_
 try dsimp only[cxOf,Cx.nox]
 have sz:(5000:Nat)<sizeLine:=by decide
 have T1:=tB.t1;have L1:=tO.t1;exists ixTm (SqT.of Y) rfl ?_;exists ixTm (SqT.of eb) rfl ?_;exists⟨TT,d,rfl,T1,by lia,L1,by lia,fun p g f H1 z a6 e1 G f1 f2=>?_⟩;have g1:=G.1;have g2:g<=d:=Int.le_of_dvd (by lia) G.2.2.1;have st:=Ct.KW L1 G;have a9:=Y2 (x:=d) (b:=g) (B:=10^61) (by lia) (by lia) (by lia);exists ixTm (SqT.of (z _ _ eb)) rfl ?_;exists ixTm (SqT.of e1) rfl ?_;exists⟨vA _,?_⟩;walk_at"f pb hpb H2 s2 e2";have U:=z.trans s2;have nb:∀{c u},H1 c=some u->c≠pb:=fun h=>je h hpb
 exists ixTm (SqT.of (U _ _ Y)) rfl ?_;exists⟨la,rfl,⟨_,SqL.of (U _ _ N)⟩,?_⟩;have pl:∀i,(((B.take i).flatMap fun b=>(O.filter fun w=>decide ((w-b)%g=0)).map (mtV TT d g f b)).length)<=(B.take i).length*O.length:=fun i=>by
  generalize B.take i=l
  induction l with
  | nil=>exact vA _
  | cons y r ih=>
   rw[flatMap_cons,vn,vt,vS,Nat.add_mul,Nat.one_mul];have:=length_filter_le (fun w=>decide ((w-y)%g=0)) O;lia
 refine Ju (xs:=B.map V.int) (fun i J M=>IvE2 fun(o5 I:Option V)=>IvA2 (J=[some (.ref a),some (.ref b),some (.ref p),some (.int (d/g)),some (.ref pb),o5,I]) ((∀c u,c≠pb->H2 c=some u->M c=some u)/\M pb=some (.lst (((B.take i).flatMap fun b=>(O.filter fun w=>decide ((w-b)%g=0)).map (mtV TT d g f b)).map V.int)))) ⟨_,_,rfl,fun c u _ h=>h,e2⟩ ?_ ?_ ?_
 ·rintro i J M _ ⟨o5,I,rfl,X,e⟩;exact SqL.of (X _ _ (nb (z _ _ N)) (U _ _ N))
 ·rintro i v J H3 hv ⟨o5,I,rfl,X,e⟩;rw[vv]at hv;obtain⟨k,R,rfl⟩:=vf.mp hv;have hi:=(vx.mp R).1;have bb:=tB.b k (vj R);have C:∀{c u},H1 c=some u->H3 c=some u:=fun h=>X _ _ (nb h) (s2 _ _ h)
  have a1:=C (z _ _ eb);have a5:=C (z _ _ Y);have a2:=C e1;exists ixTm (SqT.of a1) rfl ?_;exists⟨lb,rfl,⟨_,SqL.of (C (z _ _ Z))⟩,?_⟩;refine jR (xs:=O.map V.int) (fun j ys D=>ys=((O.take j).filter fun w=>decide ((w-k)%g=0)).map V.int/\H3=D) ⟨rfl,rfl⟩ ?_ ?_ ?_
  ·rintro j ys D _ ⟨rfl,rfl⟩;exact SqL.of (C (z _ _ Z))
  ·rintro j v ys D o ⟨rfl,rfl⟩;rw[vv]at o;obtain⟨L,m,rfl⟩:=vf.mp o;have hj:=(vx.mp m).1;refine jX (σ':=[none,some (.int k),some (.ref p)]) rfl ?_;exists ixTm (SqT.of a2) rfl ?_;walk_at"g";have ef:(O.take (j+1)).filter (fun w=>decide ((w-k)%g=0))=((O.take j).filter fun w=>decide ((w-k)%g=0))++(if decide ((L-k)%g=0)=true then[L]else[]):=by
    rw[take_snoc m,filter_append];congr 1;rw[uz,filter_nil]
   refine iteD (fun c=>?_) (fun c=>?_)
   ·exists⟨?_,?_,rfl⟩
    ·have:=length_filter_le (fun w=>decide ((w-k)%g=0)) (O.take j);rw[vh]at this;have:O.length<=B.length*O.length:=Nat.le_mul_of_pos_left _ (by lia);rw[vt];lia
    ·rw[ef,vc (vH c),vi];rfl
   ·refine⟨?_,rfl⟩;rw[ef,vb (by rw[decide_eq_true_eq];exact c),append_nil]
  rintro ys D ⟨rfl,rfl⟩;rw[show(O.map V.int).length=O.length from vt _,v7];have fl:=length_filter_le (fun w=>decide ((w-k)%g=0)) O;have ol:O.length<=B.length*O.length:=Nat.le_mul_of_pos_left _ (by lia);refine⟨by first | lia | (rw[vt];lia),?_⟩;walk_at"f 4 e";walk_at"g";have n4:p4≠pb:=(je e hp4).symm;generalize hF:O.filter (fun w=>decide ((w-k)%g=0))=F at e4 fl|-;refine⟨p4,rfl,⟨_,SqL.of e4⟩,?_⟩;have pi:=pl i;rw[vh]at pi;have a8:min i B.length*O.length+O.length<=B.length*O.length:=by
   have:=Nat.mul_le_mul_right O.length (show i+1<=B.length by lia);rw[Nat.add_mul,Nat.one_mul]at this;rw[Nat.min_eq_left (by lia)];exact this
  generalize hA:(B.take i).flatMap (fun b=>(O.filter fun w=>decide ((w-b)%g=0)).map (mtV TT d g f b))=Ac at e pi;refine Ju (xs:=F.map V.int) (fun j J M=>IvE1 fun(I:Option V)=>IvA2 (J=[some (.ref a),some (.ref b),some (.ref p),some (.int (d/g)),some (.ref pb),some (.int k),I]) ((∀c u,c≠pb->H4 c=some u->M c=some u)/\M pb=some (.lst ((Ac++(F.take j).map (mtV TT d g f k)).map V.int)))) ⟨_,rfl,fun c u _ h=>h,by rw[List.take_zero,map_nil,append_nil];exact s4 _ _ e⟩ ?_ ?_ ?_
  ·rintro j J M _ ⟨I,rfl,n,W⟩;exact SqL.of (n _ _ n4 e4)
  ·rintro j v J H5 o ⟨I,rfl,n,W⟩;rw[vv]at o;obtain⟨L,m,rfl⟩:=vf.mp o;have hj:=(vx.mp m).1;have wm:L∈O:=by
    have:=vj m;rw[<-hF]at this;exact(vQ.mp this).1
   have wb:=tO.b L wm;have k5:∀{c u},H1 c=some u->H5 c=some u:=fun h=>n _ _ (nb h) (s4 _ _ (C h))
   have a0:=k5 e1;have d1:=Y2 (x:=L-k) (b:=g) (B:=10^130) (by lia) (by lia) (by lia);have r1:=vd ((L-k)/g*f) (show d/g≠0 by lia);have r2:=ve ((L-k)/g*f) (show 0<d/g by lia);exists⟨.inl ⟨rfl,_,SqL.of W⟩,?_⟩;exists ixTm (SqT.of a0) rfl ?_;exists ixTm (SqT.of a0) rfl ?_;exists ixTm (SqT.of (k5 (z _ _ Y))) rfl ?_;exists⟨pb,_,_,rfl,rfl,W,by rw[vt,vn,vt,vh];lia,?_⟩;exists⟨_,rfl,fun c u hc h=>(jg hc).trans (n _ _ hc h),?_⟩;rw[jt,take_snoc m,vi (f:=mtV TT d g f k),<-List.append_assoc,vi (l₁:=Ac++_)];rfl
  ·rintro J H5 ⟨I,rfl,n,W⟩;rw[vt,v7]at W;exists⟨_,_,rfl,fun c u hc h=>n _ _ hc (s4 _ _ (X _ _ hc h)),?_⟩;rw[W,take_snoc R,flatMap_append,flatMap_cons,flatMap_nil,append_nil,hA,hF]
 ·rintro J H3 ⟨o5,I,rfl,X,e⟩;rw[vt,v7]at e;have C:∀{c u},H1 c=some u->H3 c=some u:=fun h=>X _ _ (nb h) (s2 _ _ h)
  have pe:=pl B.length;rw[v7]at pe;exists ixTm (SqT.of (C (z _ _ Y))) rfl ?_;exists⟨uD,?_⟩;walk_at"f 6 e";have a3:Same H H6:=fun c u h=>s6 _ _ (C (z _ _ h))
  have n6:H p6=none:=by
   cases hh:H p6 with
   | none=>rfl
   | some u=>rw[C (z _ _ hh)]at hp6;cases hp6
  have up:TT*(d/g)<=TT*d:=by
   have:d/g<=d:=by
    have:=Int.ediv_le_self g (show 0<=d by lia);exact this
   exact Int.mul_le_mul_of_nonneg_left this (by lia)
  exact q p6 pb _ _ H6 a3 n6 e6 (s6 _ _ e) (j3L tB tO G) pe up
theorem W1(T:Txt K mg t)(jF:FnOk P w K mg base CX0 6 t.jP t.jU ["self","book","word"] (sp_initR t.jx)):FnOk P w K mg base (CX1 P w) 8 t.J0 t.JJ ["books","words","beat"] (xl t.J2):=by
 refine T.Qp.okR JU (fun vs H Q E h=>?_) (fun a0 A X s H vs Q E hr h=>?_)
 ·obtain⟨a,b,as,n,t0,rfl,L,G,M,d3,U,x,q⟩:=h;rfl
 obtain⟨a,b,as,n,t0,rfl,L,G,M,d3,U,x,q⟩:=h;refine⟨_,(j2e (zX (i:=3) (ow:=["book","word"]) (ci:=[]) rfl (CompScope.of (defScope JD) ["books","words","beat","tallies","rung","tally","begin"] rfl rfl (by decide +kernel)) (Z1 (by decide) (by decide)) JU.nd rfl (.inl rfl) (kR (by rfl) T.WI (ja (pv 0) (ja (pv 1) jc))) (fun _ _ _ _ _=>⟨(Jy rfl (jr (ji (i:=0) (jK ["books","words","beat","tallies","rung","tally","begin"] rfl (by decide +kernel)) rfl (.inl rfl)) (jr (ji (i:=1) (jK ["books","words","beat","tallies","rung","tally","begin"] rfl (by decide +kernel)) rfl (.inl rfl)) Jb))),Jx,(Y7 T.Zt (jF.mono (by decide)) hr (by rfl) T.zS T.JO .nil pass0 (ja (pv 0) (ja (pv 1) jc)))⟩))
  (kW (j52 (Xx (jB (KD rfl) (by rfl) T.j3T j1b (ja (j5 (ow:=["tally"]) (ci:=[]) rfl (CompScope.of (defScope JD) ["books","words","beat","tallies","rung","tally","begin"] rfl rfl (by decide +kernel)) (jZ (by decide)) (jI (pv 3)) (fun _ _ _ _ _=>⟨(ji (i:=0) (jK ["books","words","beat","tallies","rung","tally","begin"] rfl (by decide +kernel)) rfl (.inl rfl)),Jx,(zU Q0 (jh (Jd (K:=K) rfl) (Y6 (K:=K) rfl (pv 0) rfl) (zn qO jd)) jd (nomark _))⟩)) jc)))
   (kW (j2d PySem.F.excBase_ValueError ⟨rfl,rfl,rfl,rfl⟩ (by rfl) T.WW T.ZU))
   j0T))),?_⟩
 refine j0S (σ':=[some _,some _,some _,none,none,none,none]) rfl ?_;have sz:(20000:Nat)<sizeLine:=by decide
 have bl:=G.1;refine j3y ?_;exists⟨a,b,_,_,rfl,SqL.of L,SqL.of M,?_⟩;refine kx (xs:=as.map V.ref) (zs:=n.map fun d=>V.str d.x) (fun i l r=>IvE1 fun(f:List Addr)=>IvA3 (l=f.map V.ref) (f.length=i) (Same H r/\All2 (TlA t.jx r) f (n.take i))) (by rw[vt,vt];exact bl) ⟨[],rfl,rfl,Same.refl _,.nil⟩ ?_ ?_ ?_
 ·rintro i l r _ ⟨f,rfl,D,p,m⟩;exact⟨SqL.of (p _ _ L),SqL.of (p _ _ M)⟩
 ·rintro i u v l r T0 I hu F ⟨f,rfl,D,p,m⟩ sP tP;obtain⟨ba,d,rfl,g,pl,pp,S,Y,Bd⟩:=G.at_ref hu;rw[vv,g]at F;cases F;have hi:=(vx.mp g).1;have k:=U d (vj g);refine jX (σ':=[none,none]) rfl ?_;refine qj (SqT.of tP) ?_;exists iteT ?_;walk_at"g";intro o y ho R ne;have s3:Same I (upd (upd I y (.own o)) o (.ins t.jx y [])):=fun c u h=>(jg (je h ho)).trans ((jg (je h R)).trans h)
  have B:=p.trans sP;refine⟨o,y,ba,pl,pp,S,Y,d.ls,d.ps,d.gs,d.hs,d.x,rfl,jt,Bd.same (B.trans s3),k.sn,k.x1,k.x2,fun z W H5 k5 O A=>⟨rfl,?_⟩⟩;have eW:=xy k.sn.s.w (va _) O k.w;subst eW;have C:Same I H5:=fun c u h=>k5 _ _ (je h ho) (s3 _ _ h)
  refine⟨by rw[vt];lia,f++[o],by rw[vi];rfl,by rw[vn,D];rfl,B.trans C,?_⟩;rw[take_snoc g];exact All2.snoc (All2.mono m fun c e ⟨z,h⟩=>⟨z,h.keep (sP.trans C)⟩) ⟨z,A⟩
 rintro l r ⟨f,rfl,D,p,m⟩;rw[vt]at D;rw[vt,bl,v7]at m;refine⟨by rw[vt];lia,?_⟩;walk_at"f 1 e";have Z:=p.trans s1;have J:All2 (TlA t.jx H1) f n:=All2.mono m fun c e ⟨z,h⟩=>⟨z,h.keep s1⟩
 clear m;walk_at"g";dsimp only
 with_reducible refine j4C ?_
 exists⟨p1,rfl,⟨_,SqL.of e1⟩,?_⟩;refine jR (xs:=f.map V.ref) (fun i l j=>l=((n.take i).map fun d=>decide (12<d.W.getD d.n 0)).map V.bl/\H1=j) ⟨rfl,rfl⟩ ?_ ?_ ?_
 ·rintro i l j _ ⟨rfl,rfl⟩;exact SqL.of e1
 ·rintro i v l j F ⟨rfl,rfl⟩;obtain⟨ta,d,rfl,g,z,A⟩:=J.at_ref F;have hi:=(vx.mp g).1;have k:=U d (vj g);obtain⟨y,ob⟩:=A.o;refine jX (σ':=[none]) rfl ?_;exists iteT ?_;exists⟨ta,_,y,_,_,rfl,ob,T.jv,T.jC,qx,?_⟩;exists ixLm (SqL.of A.w) (zI k.sn.ne k.w.1) ?_;exists⟨by rw[vt,vt,vh];lia,?_,rfl⟩;rw[take_snoc g,vi,vi];rfl
 rintro l j ⟨rfl,rfl⟩;refine⟨by rw[vt,vt,vh];lia,?_⟩;walk_at"f 2 e";exists⟨p2,_,rfl,SqL.of e2,?_⟩;have eA:(((n.take (f.map V.ref).length).map fun d=>decide (12<d.W.getD d.n 0)).any id)=true:=by
  rw[vt,List.take_of_length_le (by lia)];obtain⟨d,g,N⟩:=x;exact any_eq_true.mpr ⟨true,vL.mpr ⟨d,g,vH N⟩,rfl⟩
 rw[eA];refine⟨_,rfl,iteT ?_⟩;exact q _ (Z.trans s2)
theorem Xq(T:Txt K mg t)(jF:FnOk P w K mg base CX0 6 t.jP t.jU ["self","book","word"] (sp_initR t.jx))(zy:FnOk P w K mg base CX0 2 t.zF t.zM ["tally"] (sp_rung t.jx))(yj:FnOk P w K mg base CX0 2 t.yl t.yo ["rung","other"] (sp_together)):FnOk P w K mg base CX0 8 t.J0 t.JJ ["books","words","beat"] (sp_meeting):=by
 specialize T.Qp.ok JU;obtain⟨a,b,as,C,t0,rfl,ea,Bk,eb,d3,ok,q⟩:=h;refine⟨_,(jb (zX (i:=3) (ow:=["book","word"]) (ci:=[]) rfl (CompScope.of (defScope JD) ["books","words","beat","tallies","rung","tally","begin"] rfl rfl (by decide +kernel)) (Z1 (by decide) (by decide)) JU.nd rfl (.inl rfl) (kR (by rfl) T.WI (ja (pv 0) (ja (pv 1) jc))) (fun _ _ _ _ _=>⟨(Jy rfl (jr (ji (i:=0) (jK ["books","words","beat","tallies","rung","tally","begin"] rfl (by decide +kernel)) rfl (.inl rfl)) (jr (ji (i:=1) (jK ["books","words","beat","tallies","rung","tally","begin"] rfl (by decide +kernel)) rfl (.inl rfl)) Jb))),Jx,(Y7 T.Zt (jF.mono (by decide)) hr (by rfl) T.zS T.JO .nil pass0 (ja (pv 0) (ja (pv 1) jc)))⟩))
  (jb (jY (Xx (jB (KD rfl) (by rfl) T.j3T j1b (ja (j5 (ow:=["tally"]) (ci:=[]) rfl (CompScope.of (defScope JD) ["books","words","beat","tallies","rung","tally","begin"] rfl rfl (by decide +kernel)) (jZ (by decide)) (jI (pv 3)) (fun _ _ _ _ _=>⟨(ji (i:=0) (jK ["books","words","beat","tallies","rung","tally","begin"] rfl (by decide +kernel)) rfl (.inl rfl)),Jx,(zU Q0 (jh (Jd (K:=K) rfl) (Y6 (K:=K) rfl (pv 0) rfl) (zn qO jd)) jd (nomark _))⟩)) jc)))
   (jf QB)
   jy)
  (jb (jm (i:=4) JU.nd rfl (.inr rfl) (jN (ja (jE (ja jd jc)) (ja jd jc))))
  (jb (Jt PassesOwn.never rfl (jI (pv 3)) (ji (i:=5) JU.nd rfl (.inl rfl))
   (jf (jm (i:=4) JU.nd rfl (.inr rfl) (jk T.ke yj hr (ja (pv 4) (ja (jN (ja (jk T.yC zy hr (ja (pv 5) jc)) (ja (Je (pv 5) rfl) jc))) jc))))))
  (jb (jm (i:=6) JU.nd rfl (.inr rfl) (jB (j0m rfl) (by rfl) T.j19 xJ (ja (pv 2) (ja jd jc))))
  (jf (jw (j3v rfl (by rfl) T.XN (j5 (ow:=["one"]) (ci:=[6,4]) rfl (CompScope.of (defScope JD) ["books","words","beat","tallies","rung","tally","begin"] rfl rfl (by decide +kernel)) (jZ (by decide)) (jI (jh jo (pv 4) jd)) (fun _ _ _ _ _=>⟨(ji (i:=0) (jK ["books","words","beat","tallies","rung","tally","begin"] rfl (by decide +kernel)) rfl (.inl rfl)),Jx,(jq j7 (pv 1) (jq Jp (jq qZ (pv 0) (pv 1)) (jh (Jf (K:=K) rfl) (pv 2) jd)))⟩)) Qy)))))))),?_⟩
 refine ju (σ':=[some _,some _,some _,none,none,none,none]) rfl ?_
 try dsimp only[cxOf,Cx.nox]
 have sz:(20000:Nat)<sizeLine:=by decide
 have bl:=Bk.1;exists⟨a,b,_,_,rfl,SqL.of ea,SqL.of eb,?_⟩;refine kx (xs:=as.map V.ref) (zs:=C.map fun d=>V.str d.x) (fun i n x=>IvE1 fun(f:List Addr)=>IvA3 (n=f.map V.ref) (f.length=i) (Same H x/\All2 (TlA t.jx x) f (C.take i))) (by rw[vt,vt];exact bl) ⟨[],rfl,rfl,Same.refl _,.nil⟩ ?_ ?_ ?_
 ·rintro i n x _ ⟨f,rfl,hl,X,U⟩;exact⟨SqL.of (X _ _ ea),SqL.of (X _ _ eb)⟩
 ·rintro i u v n x T0 H4 hu F ⟨f,rfl,hl,X,U⟩ sP tP;obtain⟨ba,d,rfl,r,pl,pp,a7,a8,Bd⟩:=Bk.at_ref hu;rw[vv,r]at F;cases F;have hi:=(vx.mp r).1;have k:=ok d (vj r);refine jX (σ':=[none,none]) rfl ?_;refine qj (SqT.of tP) ?_;exists iteT ?_;walk_at"g";intro o M ho a6 ne;have s3:Same H4 (upd (upd H4 M (.own o)) o (.ins t.jx M [])):=fun c u h=>(jg (je h ho)).trans ((jg (je h a6)).trans h)
  have a0:=X.trans sP;refine⟨o,M,ba,pl,pp,a7,a8,d.ls,d.ps,d.gs,d.hs,d.x,rfl,jt,Bd.same (a0.trans s3),k.sn,k.x1,k.x2,fun z W H5 k5 O A=>⟨rfl,?_⟩⟩;have eW:=xy k.sn.s.w (va _) O k.w;subst eW;have a3:Same H4 H5:=fun c u h=>k5 _ _ (je h ho) (s3 _ _ h)
  refine⟨by rw[vt];lia,f++[o],by rw[vi];rfl,by rw[vn,hl];rfl,a0.trans a3,?_⟩;rw[take_snoc r];exact All2.snoc (All2.mono U fun c e ⟨z,h⟩=>⟨z,h.keep (sP.trans a3)⟩) ⟨z,A⟩
 rintro n x ⟨f,rfl,hl,X,U⟩;rw[vt]at hl;rw[vt,bl,v7]at U;refine⟨by rw[vt];lia,?_⟩;walk_at"f 1 e";have a9:=X.trans s1;have I:All2 (TlA t.jx H1) f C:=All2.mono U fun c e ⟨z,h⟩=>⟨z,h.keep s1⟩
 clear U;exists⟨p1,rfl,⟨_,SqL.of e1⟩,?_⟩;refine jR (xs:=f.map V.ref) (fun i n g=>n=(List.replicate i false).map V.bl/\H1=g) ⟨rfl,rfl⟩ ?_ ?_ ?_
 ·rintro i n g _ ⟨rfl,rfl⟩;exact SqL.of e1
 ·rintro i v n g F ⟨rfl,rfl⟩;obtain⟨ta,d,rfl,r,z,A⟩:=I.at_ref F;have hi:=(vx.mp r).1;have k:=ok d (vj r);obtain⟨M,ob⟩:=A.o;refine jX (σ':=[none]) rfl ?_;exists iteT ?_;exists⟨ta,_,M,_,_,rfl,ob,T.jv,T.jC,qx,?_⟩;exists ixLm (SqL.of A.w) (zI k.sn.ne k.w.1) ?_;walk_at"g";have few:d.W.getD (d.ps.length-1) 0<=12:=k.few;refine⟨by rw[vt,List.length_replicate];lia,?_,rfl⟩;rw[List.replicate_succ',vi,vI (by lia)];rfl
 rintro n g ⟨rfl,rfl⟩;refine⟨by rw[vt,List.length_replicate,vt];lia,?_⟩;walk_at"f 2 e";exists⟨p2,_,rfl,SqL.of e2,?_⟩;rw[show(List.replicate (f.map V.ref).length false).any id=false by rw[List.any_replicate];simp];exists iteF ?_;exists⟨uC,?_⟩;walk_at"f 3 e";exists⟨uD,?_⟩;walk_at"f 4 e";have a2:=s2.trans (s3.trans s4);exists⟨p1,rfl,⟨_,SqL.of (a2 _ _ e1)⟩,?_⟩;refine Ju (xs:=f.map V.ref) (fun i σ x=>IvE5 fun(o5:Option V) (R N:Addr) (B:List Int) (TT:Int)=>IvA6 (σ=[some (.ref a),some (.ref b),some (.int t0),some (.ref p1),some (.ref R),o5,none]) (Same H1 x) (x R=some (.tup [.ref N,.int TT])) (x N=some (.lst (B.map V.int))) (Tg B TT (fun y=>∀d∈C.take i,d.R y)) (B.length<=12^i/\TT<=(10^60)^i))
  ⟨_,p4,p3,[0],1,rfl,a2,e4,s4 _ _ e3,?_,va _,vB _⟩ ?_ ?_ ?_
 ·rw[show(fun y=>∀d∈C.take 0,Mb.R d y)=fun _=>True from funext fun y=>propext ⟨fun _=>trivial,fun _ d h=>nomatch h⟩];exact j2z
 ·rintro i σ x _ ⟨o5,R,N,B,TT,rfl,p,_⟩;exact SqL.of (p _ _ e1)
 ·rintro i v σ H5 F ⟨o5,R,N,B,TT,rfl,p,er,D,G,Y,J⟩;obtain⟨ta,d,rfl,r,z,A⟩:=I.at_ref F;have hi:=(vx.mp r).1;have k:=ok d (vj r);have A5:=A.keep p;obtain⟨M,ob⟩:=A5.o;have bL:=(k.sn.g (show d.n<d.ps.length by have:=k.sn.ne;unfold Mb.n;lia)).2;exists⟨ta,z,d.ls,d.ps,d.gs,d.W,d.hs,d.x,rfl,A5,k.sn,k.w,k.few,fun l ms H6 s6 ae e6 up mm ml=>?_⟩;exists⟨ta,_,M,_,_,rfl,s6 _ _ ob,T.jv,T.JB,X0,?_⟩;exists⟨uD,?_⟩;walk_at"f 7 e";have S:=s6.trans s7;have i2:i<=2:=by lia
  have Z:B.length<=144:=vY Y (Nat.pow_le_pow_right (by decide) i2);have L:TT<=10^130:=by
   have:i=0\/i=1\/i=2:=by lia
   rcases this with e | e | e<;>rw[e]at J<;>exact vZ J (by decide)
  have ad:B.length*ms.length<=144*12:=Nat.mul_le_mul Z ml;have aa:B.length*ms.length<=12^(i+1):=by rw[Nat.pow_succ];exact Nat.mul_le_mul Y ml
  have tO:Tg ms d.L d.R:=k.tg mm;exists⟨R,p7,N,l,B,ms,TT,d.L,_,d.R,rfl,S _ _ er,S _ _ D,e7,s7 _ _ e6,G,tO,L,by show d.gs.getD d.n 0<=_;lia,by lia,fun p8 l8 B8 T8 H8 s8 af e8 a5 a4 ab ac=>?_⟩;walk_at"g";rw[j3M r]at a4;refine⟨_,p8,l8,B8,T8,rfl,p.trans (S.trans s8),e8,a5,a4,by lia,?_⟩;have t1:=G.t1;have:=Int.mul_le_mul J (show d.L<=10^60 from bL) (by have:=tO.t1;lia) (Int.le_of_lt (Int.pow_pos (by decide)));rw[Int.pow_succ];lia
 ·rintro σ H5 ⟨o5,R,N,B,TT,rfl,p,er,D,G,Y,J⟩;have tl:=I.1;rw[show(f.map V.ref).length=C.length from(vt _).trans tl]at G Y J;rw[v7]at G;have L:TT<=10^190:=by
   have:C.length=0\/C.length=1\/C.length=2\/C.length=3:=by lia
   rcases this with e | e | e | e<;>rw[e]at J<;>exact vZ J (by decide)
  have Z:B.length<=12^3:=vY Y (Nat.pow_le_pow_right (by decide) d3);have t1:=G.t1;exists⟨_,_,rfl,?_⟩;rw[max0];exists j4Z ?_;exists ixTm (SqT.of er) rfl ?_;exists⟨N,rfl,⟨_,SqL.of D⟩,?_⟩;refine jR (xs:=B.map V.int) (fun j n g=>n=((B.take j).map (cnd (max t0 0) TT)).map V.int/\H5=g) ⟨rfl,rfl⟩ ?_ ?_ ?_
  ·rintro j n g _ ⟨rfl,rfl⟩;exact SqL.of D
  ·rintro j v n g F ⟨rfl,rfl⟩;rw[vv]at F;obtain⟨y,hy,rfl⟩:=vf.mp F;have hj:=(vx.mp hy).1;refine jX (σ':=[none,some (.int (max t0 0)),some (.ref R)]) rfl ?_;exists iteT ?_;exists ixTm (SqT.of er) rfl ?_;exists⟨by rw[vt,vt,vh];lia,?_,rfl⟩;rw[take_snoc hy,vi,vi];rfl
  rintro n g ⟨rfl,rfl⟩;rw[show(B.map V.int).length=B.length from vt _,v7];refine⟨by rw[vt,vt];lia,?_⟩;walk_at"f 6 e";have a1:=a9.trans (p.trans s6);refine⟨p6,_,rfl,SqL.of e6,fun e=>?_,fun m hm=>?_⟩
  ·exact q _ _ a1 (j3f G (List.map_eq_nil_iff.mp e))
  ·exact q _ _ a1 (j1G G L hm)
theorem YX(T:Txt K mg t):FnOk P w K mg base CX0 1 t.qC t.qE ["_law_script","_law_k"] (Pr.sp_cell_at K):=by
 specialize T.Qr.F.ok YY;obtain⟨a,g,k,rfl,b,f,d,q⟩:=h;refine⟨_,(jb (jY (jp YU (pv 1) (jB Jg (by rfl) T.qW JQ (ja (pv 0) jc)) (nomark _))
   (jf (jw (jh jA (pv 0) (pv 1))))
   jy)
  (jf (jw jd))),?_⟩
 refine ju (σ':=[some _,some _]) rfl ?_
 try dsimp only[cxOf,Cx.nox]
 exists⟨_,_,rfl,.inl ⟨_,b,rfl⟩,?_⟩;exists iteD (fun c=>?_) (fun c=>?_)
 ·walk_at"g";exact⟨a,_,k,_,rfl,rfl,b,Pr.j2U d (by rw[vt]at c;exact c),q⟩
 ·walk_at"g";have e:Pr.cell g k=0:=by
   rw[vt]at c;unfold Pr.cell;rw[vy,List.getElem?_eq_none (by lia)];rfl
  rw[e]at q;exact q
theorem wT(T:Txt K mg t):FnOk P w K mg base CX0 1 t.QK t.QS ["_law_script","_law_k"] (sp_poolC K):=by
 specialize T.Zi.F.ok Jj;obtain⟨a,e,k,rfl,m,C,G,J,q⟩:=h;refine⟨_,(jb (jm (i:=2) Jj.nd rfl (.inl rfl) jd)
  (jb (QA (jp YU (pv 1) (jB Jg (by rfl) T.qW JQ (ja (pv 0) jc)) (nomark _))
   (jf (jm (i:=2) Jj.nd rfl (.inl rfl) (jh jA (pv 0) (pv 1))))
   jy)
  (jb (jY (jp j1T (pv 2) (jq YB jd jd) (nomark _))
   (jf (jw (jE (ja (jq Jp (pv 2) (jq YB jd jd)) jc))))
   jy)
  (jb (jm (i:=3) Jj.nd rfl (.inl rfl) (jq j7 (jq j7 (jq Jp (pv 2) jd) (jq Ja (jq Ja jd (pv 1)) (pv 1))) jd))
  (jb (jm (i:=4) Jj.nd rfl (.inl rfl) jd)
  (jb (Jt PassesOwn.never rfl (qe (by rfl) T.Qi (ja jd jc)) (ji (i:=5) Jj.nd rfl (.inl rfl))
   (jb (jm (i:=3) Jj.nd rfl (.inl rfl) (jq Jp (jq j7 (jq Ja (pv 3) jd) (jq Ja jd (pv 5))) jd))
   (jb (jm (i:=3) Jj.nd rfl (.inl rfl) (jq Jp (jq Ja (pv 3) (pv 3)) jd))
   (jf (jm (i:=4) Jj.nd rfl (.inl rfl) (jq j7 (jq j3t (pv 4) jd) (pv 3)))))))
  (jf (jw (jE (ja (pv 4) jc)))))))))),?_⟩
 refine ju (σ':=[some _,some _,none,none,none,none]) rfl ?_
 try dsimp only[cxOf,Cx.nox]
 have M:(200:Nat)<sizeLine:=by decide
 exists⟨fun σ' d=>∃c:Int,σ'=[some (.ref a),some (.int k),some (.int c),none,none,none]/\H=d,?_,?_⟩
 rotate_left
 ·exists⟨_,_,rfl,.inl ⟨_,m,rfl⟩,?_⟩;rw[vt];exists iteD (fun c=>?_) (fun c=>?_)
  ·walk_at"g";have F:e[k.toNat]?=some e[k.toNat]:=vz (by lia);refine⟨a,_,_,_,rfl,rfl,m,(show atI (e.map V.int) k=some (.int e[k.toNat])from ?_),?_⟩
   ·have:=jL (xs:=e.map V.int) (j:=k.toNat) (v:=.int e[k.toNat]) (by rw[vv,F];rfl);rw[Int.toNat_of_nonneg G]at this;exact this
   exact⟨_,rfl,rfl⟩
  ·walk_at"g";exact⟨_,rfl,rfl⟩
 rintro σ' d ⟨c,rfl,rfl⟩;exists iteD (fun _=>?_) (fun _=>?_)
 ·exists⟨uC,?_⟩;walk_at"f p hp H1 s1 t1";exact q _ _ _ s1 hp t1
 have L:=Xn (A:=4827100) (B:=100) (show -4827100<=48271*k by lia) (by lia) (show -100<=k by lia) (by lia);walk_at"g";have I:0<=c%2147483647/\c%2147483647<2147483647:=by lia
 have f : -10^12<=c%2147483647+48271*k*k+11/\c%2147483647+48271*k*k+11<=10^12:=by lia
 generalize c%2147483647+48271*k*k+11=sd0 at f|-;refine⟨_,rfl,by lia,by lia,?_⟩;refine Yu (fun i n d=>IvE3 fun(l:Option V) (b g:Int)=>IvA3 (n=[some (.ref a),some (.int k),some (.int c),some (.int b),some (.int g),l]) (H=d) (-10^12<=b/\b<=10^12)) ⟨_,_,_,rfl,rfl,f.1,f.2⟩ ?_ ?_
 ·rintro i n d D ⟨l,b,g,rfl,rfl,o,r⟩;have D:i<7:=by lia
  walk_at"g";have u:=vd (b*69621+7919*(0+(i:Int))) (show(2147483629:Int)≠0 by decide);have x:=ve (b*69621+7919*(0+(i:Int))) (show(0:Int)<2147483629 by decide);generalize(b*69621+7919*(0+(i:Int)))%2147483629=s2 at u x|-;walk_at"g";have y:=vd (s2*s2) (show(2147483587:Int)≠0 by decide);have z:=ve (s2*s2) (show(0:Int)<2147483587 by decide);generalize s2*s2%2147483587=s3 at y z|-;walk_at"g";exact⟨_,_,_,rfl,rfl,by lia,by lia⟩
 rintro σ' d ⟨l,b,g,rfl,rfl,o,r⟩;exists⟨uC,?_⟩;walk_at"f p hp H1 s1 t1";exact q _ _ _ s1 hp t1
theorem wU(T:Txt K mg t):FnOk P w K mg base CX0 1 t.JP t.JR ["_law_pool_here","_law_many"] (sp_takeD):=by
 specialize T.jJ.F.ok y9;obtain⟨p,x,m,rfl,a,d,e,q⟩:=h;refine⟨_,(jb (jm (i:=2) y9.nd rfl (.inl rfl) (jq Jp (jh jA (pv 0) jd) (pv 1)))
  (jb (Wj (jq qo (jh jA (pv 0) jd) (pv 1)) (j1Z (pv 0) jd set_list))
  (jf (jw (pv 2))))),?_⟩
 refine ju (σ':=[some _,some _,none]) rfl ?_
 try dsimp only[cxOf,Cx.nox]
 exists ixLm (SqL.of a) rfl ?_;exists ixLm (SqL.of a) rfl ?_;exists⟨p,_,_,0,rfl,rfl,a,rfl,?_⟩;walk_at"g";exact q _ _ _ (vd x (by lia)) (ve x d) (fun c u b h=>(jg b).trans h) jt
theorem wV(T:Txt K mg t):FnOk P w K mg base CX0 1 t.QL t.QT ["_law_place","_law_k"] (sp_wordC):=by
 specialize T.Zj.F.ok Wr;obtain⟨p,k,rfl,e,d,q⟩:=h;refine⟨_,(jf (jw (jq yu (jq yu (jq yu (Qz j2p jD zW (Q1 (pv 0))) (jh j4g jD (jq Jp (pv 1) jd))) (Qz j2p jD (Q1 (pv 0)) zW)) (jh jA (jE (ja jD (ja jD (ja jD jc)))) (jq qo (pv 1) jd))))),?_⟩;refine ju (σ':=[some _,some _]) rfl ?_
 try dsimp only[cxOf,Cx.nox]
 have i:(200:Nat)<sizeLine:=by decide
 have b:(Str.ofString "abcdefghijklnopqrstuvwxyz").cps.toList[((k:Nat):Int).toNat]?=some (abcC.cps.toList.getD k 97):=by
  have l:(Str.ofString "abcdefghijklnopqrstuvwxyz").cps.toList.length=25:=by decide +kernel
  show _=some ((Str.ofString "abcdefghijklnopqrstuvwxyz").cps.toList.getD k 97);rw[Int.toNat_natCast,vy,vz (by lia)];rfl
 have f:(Txt.slice (Str.ofString "mmmm") none (some ((p:Nat):Int))).length<=4:=vY XQ (by decide +kernel);have g:(Txt.slice (Str.ofString "mmm") (some ((p:Nat):Int)) none).length<=4:=vY XQ (by decide +kernel);have a:∀c,(⟨#[c]⟩:Str).length=1:=fun c=>rfl
 exists⟨(by decide +kernel),?_⟩;walk_at"g";rw[show((k:Nat):Int)%25=((k:Nat):Int) by lia];refine⟨_,_,_,rfl,rfl,(by decide +kernel),j18 (by lia) b,?_⟩;refine⟨_,_,rfl,rfl,by rw[a];lia,?_⟩;exists⟨(by decide +kernel),?_⟩;refine⟨_,_,rfl,rfl,by rw[Str.length_append,a];lia,?_⟩;exists⟨uE,?_⟩;walk_at"f 5 t";walk_at"g";rw[show((k:Nat):Int)/25=0 by lia];refine ixLm (SqL.of t5) rfl ?_;refine⟨_,_,rfl,rfl,by rw[Str.length_append,Str.length_append,a,show(Str.ofString "").length=0 by decide +kernel];lia,?_⟩;exact q H5 s5
theorem kP(T:Txt K mg t)(f:FnOk P w K mg base CX0 1 t.JP t.JR ["_law_pool_here","_law_many"] (sp_takeD)):FnOk P w K mg base CX0 2 t.qk t.qm ["_law_pool_here","_law_most"] (sp_takeD):=by
 specialize T.Jk.F.ok ZQ;obtain⟨p,x,m,rfl,l,n,o,q⟩:=h;refine⟨_,(jb (jm (i:=2) ZQ.nd rfl (.inl rfl) (jk T.jJ f hr (ja (pv 0) (ja jd jc))))
  (jb (jY (jp Jo (pv 2) jd (nomark _))
   (jf (jw (jk T.jJ f hr (ja (pv 0) (ja (jB (Ym rfl) (by rfl) T.XN xK (ja (pv 1) (ja jd jc))) jc)))))
   jy)
  (jb (jY (jp Jo (pv 2) jd (nomark _))
   (jf (jw (jk T.jJ f hr (ja (pv 0) (ja (jB (Ym rfl) (by rfl) T.XN xK (ja (pv 1) (ja jd jc))) jc)))))
   jy)
  (jf (jw (jk T.jJ f hr (ja (pv 0) (ja (pv 1) jc)))))))),?_⟩
 refine ju (σ':=[some _,some _,none]) rfl ?_
 try dsimp only[cxOf,Cx.nox]
 exists⟨p,x,3,rfl,l,by lia,by lia,fun w y u v z k g=>?_⟩;exists iteD (fun _=>?_) (fun _=>?_)
 ·exists⟨_,_,rfl,?_⟩;exists⟨p,y,_,rfl,g,by lia,by lia,fun r e a c j d b=>q r e a c (by lia) (k.trans d) b⟩
 exists iteD (fun _=>?_) (fun _=>?_)
 ·exists⟨_,_,rfl,?_⟩;exists⟨p,y,_,rfl,g,by lia,by lia,fun r e a c j d b=>q r e a c (by lia) (k.trans d) b⟩
 walk_at"g";exact⟨p,y,m,rfl,g,n,o,fun r e a c j d b=>q r e a c j (k.trans d) b⟩
theorem wS(T:Txt K mg t):FnOk P w K mg base CX0 1 t.QJ t.QR ["_law_moves","_law_at"] (sp_pairC):=by
 specialize T.YL.F.ok qI;obtain⟨m,a,M,d,rfl,l,D,W,n1,a3,a0,a1,q⟩:=h;refine⟨_,(jb (jm (i:=2) qI.nd rfl (.inl rfl) (jB Jg (by rfl) T.qW JQ (ja (pv 0) jc)))
  (jb (Jt PassesOwn.never rfl (qe (by rfl) T.Qi (ja (jq Ja (pv 2) (pv 2)) jc)) (ji (i:=3) qI.nd rfl (.inl rfl))
   (jb (jm (i:=4) qI.nd rfl (.inl rfl) (jq Jp (jq qo (jq j7 (pv 1) (pv 3)) (pv 2)) (pv 2)))
   (jb (jm (i:=5) qI.nd rfl (.inr rfl) (jq Jp (jq j7 (pv 1) (pv 3)) (pv 2)))
   (jf (jY (PW.pt (ZH (jp (Xs hr.units) (jh jA (pv 0) (pv 4)) (jE jc) (nomark _)) (ZH (jp (Xs hr.units) (jh jA (pv 0) (pv 5)) (jE jc) (nomark _)) (zY (jp (j1S hr.units) (j5 (ow:=["_law_limb"]) (ci:=[0,5]) rfl (CompScope.of (defScope Q3) ["_law_moves","_law_at","_law_many","_law_k","_law_one","_law_other"] rfl rfl (by decide +kernel)) (jZ (by decide)) (jI (jh jA (pv 0) (pv 4))) (fun _ _ _ _ _=>⟨(ji (i:=0) (jK ["_law_moves","_law_at","_law_many","_law_k","_law_one","_law_other"] rfl (by decide +kernel)) rfl (.inl rfl)),(zV (jp (zT (K:=K) rfl) (pv 0) (jh (Jd (K:=K) rfl) (pv 1) (pv 2)) (by with_unfolding_all rfl))),(pv 0)⟩)) (jE jc) (nomark _))))))
    (jf (jw (jN (ja (pv 4) (ja (pv 5) jc)))))
    jy)))))
  (jf (jw Qy)))),?_⟩
 refine ju (σ':=[some _,some _,none,none,none,none]) rfl ?_
 try dsimp only[cxOf,Cx.nox]
 have sz:(200:Nat)<sizeLine:=by decide
 have Y:=D.1;have nn:=Xn (A:=60) (B:=60) (show -60<=(a.length:Int) by lia) (by lia) (show -60<=(a.length:Int) by lia) (by lia);have v:∀{u:Nat},u<M.length->M[u]?=some (M.getD u []):=fun {u} hu=>by rw[vy,vz hu];rfl
 exists⟨_,_,rfl,.inl ⟨_,SqL.of l,rfl⟩,?_⟩;rw[vt];exists⟨_,rfl,by lia,by lia,?_⟩;refine Yu (fun i X f=>IvE3 fun(I J L:Option V)=>X=[some (.ref m),some (.int d),some (.int (a.length:Nat)),I,J,L]/\Same H f) ⟨_,_,_,rfl,Same.refl _⟩ ?_ ?_
 ·rintro i X f hi ⟨I,J,L,rfl,z⟩;have Z:(i:Int)<=3600:=by lia
  walk_at"g";have u0:=vd ((d+(0+(i:Int)))/(a.length:Nat)) (show((a.length:Nat):Int)≠0 by lia);have u1:=ve ((d+(0+(i:Int)))/(a.length:Nat)) (show(0:Int)<((a.length:Nat):Int) by lia);have w0:=vd (d+(0+(i:Int))) (show((a.length:Nat):Int)≠0 by lia);have w1:=ve (d+(0+(i:Int))) (show(0:Int)<((a.length:Nat):Int) by lia);generalize(d+(0+(i:Int)))/(a.length:Nat)%(a.length:Nat)=uu at u0 u1|-;generalize(d+(0+(i:Int)))%(a.length:Nat)=ww at w0 w1|-;obtain⟨u,rfl⟩:∃u:Nat,uu=(u:Int):=⟨uu.toNat,by lia⟩
  obtain⟨e,rfl⟩:∃e:Nat,ww=(e:Int):=⟨ww.toNat,by lia⟩
  have N:u<M.length:=by lia
  have O:e<M.length:=by lia
  obtain⟨ua,n,j⟩:=D.get (v N);obtain⟨wa,o,p⟩:=D.get (v O);have k8:=W _ (vj (v N));have a2:=W _ (vj (v O));refine ixLm (SqL.of (z _ _ l)) (qD (i:=(u:Int)) (by lia) n) ?_;exists⟨vA _,?_⟩;walk_at"f 3 t";have g:=z.trans s3;refine⟨_,_,j1i (g _ _ j),j33 t3,shp _,shp0,?_⟩;rw[j1k];exists iteN (fun R=>?_) (fun R=>?_)
  ·exists ixLm (SqL.of (g _ _ l)) (qD (i:=(e:Int)) (by lia) o) ?_;exists⟨vA _,?_⟩;walk_at"f 4 t";have b:=g.trans s4;refine⟨_,_,j1i (b _ _ p),j33 t4,shp _,shp0,?_⟩;rw[j1k];exists iteN (fun S=>?_) (fun S=>?_)
   ·exists ixLm (SqL.of (b _ _ l)) (qD (i:=(u:Int)) (by lia) n) ?_;refine⟨ua,rfl,⟨_,SqL.of (b _ _ j)⟩,?_⟩;refine jR (xs:=(M.getD u []).map V.int) (fun i C f=>C=(((M.getD u []).take i).filter fun k=>decide (k∈M.getD e [])).map V.int/\H4=f) ⟨rfl,rfl⟩ ?_ ?_ ?_
    ·rintro i C f _ ⟨rfl,rfl⟩;exact SqL.of (b _ _ j)
    ·rintro i x C f U ⟨rfl,rfl⟩;rw[vv]at U;obtain⟨k,y,rfl⟩:=vf.mp U;have ik:=(vx.mp y).1;refine jX (σ':=[none,some _,some _]) rfl ?_;exists ixLm (SqL.of (b _ _ l)) (qD (i:=(e:Int)) (by lia) o) ?_;refine⟨wa,_,rfl,.inl (SqL.of (b _ _ p)),rfl,flats _,?_⟩;rw[inI];walk_at"g";rw[take_snoc y,filter_append];have lf:(((M.getD u []).take i).filter fun k=>decide (k∈M.getD e [])).length<=8:=vY (length_filter_le _ _) (by rw[vh];lia);refine iteD (fun c=>?_) (fun c=>?_)
     ·exists⟨by rw[vt];lia,?_,rfl⟩;rw[vi,uz,vc (vH c),filter_nil];rfl
     ·refine⟨?_,rfl⟩;rw[uz,vb (by rw[vI c];exact vG),filter_nil,append_nil]
    rintro C f ⟨rfl,rfl⟩;rw[show((M.getD u []).map V.int).length=(M.getD u []).length from vt _,v7];have lf:((M.getD u []).filter fun k=>decide (k∈M.getD e [])).length<=8:=vY (length_filter_le _ _) k8;refine⟨by rw[vt];lia,?_⟩;walk_at"f 5 t";exists⟨vA _,?_⟩;walk_at"f 6 t";have r:=b.trans (s5.trans s6);refine⟨_,_,j1i (s6 _ _ t5),j33 t6,shp _,shp0,?_⟩;rw[j1k];exists iteD (fun c=>?_) (fun c=>?_)
    ·have G:∀k∈M.getD u [],¬k∈M.getD e []:=fun k y F=>by
      have:k∈(M.getD u []).filter fun k=>decide (k∈M.getD e []):=vQ.mpr ⟨y,vH F⟩
      rw[c]at this;exact nomatch this
     exists⟨uD,?_⟩;walk_at"f 7 t";exact q _ H7 (r.trans s7) (.inr ⟨p7,u,e,rfl,t7,N,O,R,S,G⟩)
    ·walk_at"g";exact⟨_,_,_,rfl,r⟩
   ·walk_at"g";exact⟨_,_,_,rfl,b⟩
  ·walk_at"g";exact⟨_,_,_,rfl,g⟩
 rintro σ' f ⟨I,J,L,rfl,z⟩;walk_at"g";exact q _ f z (.inl rfl)
theorem kO(T:Txt K mg t)(jz:FnOk P w K mg base CX0 1 t.JP t.JR ["_law_pool_here","_law_many"] (sp_takeD))(jM:FnOk P w K mg base CX0 2 t.qk t.qm ["_law_pool_here","_law_most"] (sp_takeD))(Zp:FnOk P w K mg base CX0 1 t.QJ t.QR ["_law_moves","_law_at"] (sp_pairC)):FnOk P w K mg base CX0 3 t.Q8 t.za ["_law_pool_here","_law_way","_law_names","_law_moves","_law_longs","_law_most"] (sp_namingC):=by
 specialize T.yc.F.ok JT;obtain⟨p,nl,m,g,x,a9,o,a,n,a6,Mv,gs,rfl,ep,C,m1,m2,q⟩:=h;refine⟨_,(jb (jY (jp Jo (pv 1) jd (nomark _))
   (jf (jw (jN (ja jD (ja (zl Q9 (by rfl) T.wg km (ja (j5 (ow:=["_law_k"]) (ci:=[2,0]) rfl (CompScope.of (defScope qr) ["_law_pool_here","_law_way","_law_names","_law_moves","_law_longs","_law_most","_law_pair_here","_law_at","_law_times"] rfl rfl (by decide +kernel)) (jZ (by decide)) (qe (by rfl) T.Qi (ja (jq j7 jd (jk T.jJ jz hr (ja (pv 0) (ja jd jc)))) jc)) (fun _ _ _ _ _=>⟨(ji (i:=0) (jK ["_law_pool_here","_law_way","_law_names","_law_moves","_law_longs","_law_most","_law_pair_here","_law_at","_law_times"] rfl (by decide +kernel)) rfl (.inl rfl)),Jx,(jh (Jd (K:=K) rfl) (pv 1) (jk T.jJ jz hr (ja (pv 2) (ja (jB (KF (K:=K) rfl) (by rfl) T.qW JQ (ja (pv 1) jc)) jc))))⟩)) jc)) jc)))))
   jy)
  (jb (jY (jp Jo (pv 1) jd (nomark _))
   (jb (jm (i:=6) JT.nd rfl (.inl rfl) (jk T.YL Zp hr (ja (pv 3) (ja (jk T.jJ jz hr (ja (pv 0) (ja (jq Ja (jB Jg (by rfl) T.qW JQ (ja (pv 2) jc)) (jB Jg (by rfl) T.qW JQ (ja (pv 2) jc))) jc))) jc))))
   (jb (jY (jp Xr (pv 6) Qy (nomark _))
    (jf (jw (jN (ja jD (ja (jq j7 jd (jk T.Jk jM hr (ja (pv 0) (ja (pv 5) jc)))) jc)))))
    jy)
   (jf (jw (jN (ja jD (ja (zl Q9 (by rfl) T.wg km (ja (j5 (ow:=["_law_one"]) (ci:=[2]) rfl (CompScope.of (defScope qr) ["_law_pool_here","_law_way","_law_names","_law_moves","_law_longs","_law_most","_law_pair_here","_law_at","_law_times"] rfl rfl (by decide +kernel)) (jZ (by decide)) (Xu (pv 6)) (fun _ _ _ _ _=>⟨(ji (i:=0) (jK ["_law_pool_here","_law_way","_law_names","_law_moves","_law_longs","_law_most","_law_pair_here","_law_at","_law_times"] rfl (by decide +kernel)) rfl (.inl rfl)),Jx,(jh (Jd (K:=K) rfl) (pv 1) (pv 0))⟩)) jc)) jc)))))))
   jy)
  (jb (jm (i:=7) JT.nd rfl (.inl rfl) (jk T.jJ jz hr (ja (pv 0) (ja (jB Jg (by rfl) T.qW JQ (ja (pv 2) jc)) jc))))
  (jb (jm (i:=8) JT.nd rfl (.inl rfl) (jq j7 jd (jk T.Jk jM hr (ja (pv 0) (ja (pv 5) jc)))))
  (jb (QA (jp Q0 (jq Ja (pv 8) (jh jA (pv 4) (pv 7))) (jq YB jd jd) (nomark _))
   (jf (jm (i:=8) JT.nd rfl (.inl rfl) (jq j7 jd (jq Jp (pv 8) jd))))
   jy)
  (jf (jw (jN (ja jD (ja (pv 8) (ja (jh jA (pv 2) (pv 7)) jc))))))))))),?_⟩
 refine ju (σ':=[some _,some _,some _,some _,some _,some _,none,none,none]) rfl ?_
 try dsimp only[cxOf,Cx.nox]
 have sz:(200:Nat)<sizeLine:=by decide
 have n1:=C.n1;have aa:=C.n60;have nn:=C.nn;have F:((a.take n).map V.str).length=n:=by rw[vt,vh];lia
 exists iteD (fun c5=>?_) (fun c5=>?_)
 ·exists⟨p,x,4,rfl,ep,by lia,by lia,fun r R H1 r0 r1 L f=>?_⟩;have C1:=C.ex L;exists⟨_,rfl,by lia,by lia,?_⟩;refine qM (fun i G d=>IvE2 fun(J:List Nat) (y:Int)=>IvA4 (G=J.map (fun j=>V.str (a.getD j ⟨#[]⟩))) (J.length=i) (∀j∈J,j<n) (Ex p H1 d/\d p=some (.lst [.int y]))) ⟨[],R,rfl,rfl,(fun j h=>nomatch h),.refl _,f⟩ ?_ ?_
  ·rintro i G d hi ⟨J,y,rfl,M,X,xx,a3⟩;have I:=C1.ex xx;refine jX (σ':=[none,some _,some _]) rfl ?_;exists iteT ?_;exists⟨_,_,rfl,.inl ⟨_,SqL.of I.en,rfl⟩,?_⟩;rw[F];exists⟨p,y,_,rfl,a3,by lia,by lia,fun r' y3 H3 ad ae O l=>?_⟩;obtain⟨j,hj⟩:∃j:Nat,r'=(j:Int):=⟨r'.toNat,by lia⟩
   subst hj;have N:j<n:=by lia
   refine ixLm (SqL.of (I.ex O).en) (C.at' N) ?_;refine⟨by rw[vt];lia,J++[j],y3,by rw[vi];rfl,by rw[vn,M];rfl,fun j' a4=>?_,xx.trans O,l⟩;rcases vg.mp a4 with z | z
   ·exact X j' z
   ·rw[vo.mp z];exact N
  rintro G H3 ⟨J,y3,rfl,M,X,O,l⟩;refine⟨by rw[vt];lia,?_⟩;walk_at"f b hb H4 s4 t4";exists⟨b,_,rfl,.inl ⟨SqL.of t4,?_⟩⟩;walk_at"f b5 hb5 H5 s5 t5";exists⟨uD,?_⟩;walk_at"f b6 hb6 H6 s6 t6";have a2:=s6 _ _ (s5 _ _ (s4 _ _ l));refine q b6 (.row J) y3 H6 (L.trans (O.trans (.of (s4.trans (s5.trans s6))))) a2 ⟨b5,t6,?_⟩ (fun Ls=>⟨fun z=>?_,by lia,X⟩) (fun k j e=>by cases e)
  ·rw[s6 _ _ t5,v8];rfl
  ·rw[z]at M;have:(0:Nat)=_:=M;lia
 exists iteD (fun c6=>?_) (fun c6=>?_)
 ·walk_at"g";have ab:0<(n:Int)*(n:Int):=Int.mul_pos (by lia) (by lia);have ac:=Xn (A:=60) (B:=60) (show -60<=(n:Int) by lia) (by lia) (show -60<=(n:Int) by lia) (by lia);refine⟨_,_,rfl,.inl ⟨_,SqL.of C.en,rfl⟩,?_⟩;rw[F];exists⟨_,_,rfl,.inl ⟨_,SqL.of C.en,rfl⟩,?_⟩;rw[F];exists⟨p,x,_,rfl,ep,by lia,by lia,fun r R H1 r0 r1 L f=>?_⟩;have C1:=C.ex L;exists⟨m,a6,Mv,r,rfl,C1.em,C1.am,C.m8,by rw[C.ml];lia,by rw[C.ml];lia,r0,by lia,fun v H2 s2 pr=>?_⟩;have x2:=L.trans (.of s2);have D:=s2 _ _ f;have I:=C.ex x2;exists⟨rfl,?_⟩;refine⟨_,rfl,?_⟩;rcases pr with rfl | ⟨pa,i,j,rfl,S,M,X,d1,d2,a0⟩
  ·rw[vH (show V.non=V.non from rfl)];refine iteT ?_;exists⟨p,R,o,rfl,D,by lia,by lia,fun r2 y2 H3 a7 a8 O l=>?_⟩;exists⟨uD,?_⟩;walk_at"f b6 hb6 H6 s6 t6";exact q b6 (.hold (1+r2)) y2 H6 (x2.trans (O.trans (.of s6))) (s6 _ _ l) t6 (fun Ls=>⟨by lia,by lia⟩) (fun k j e=>by cases e)
  ·rw[vI (show¬V.ref pa=V.non from fun z=>by cases z)];refine iteF ?_;exists⟨pa,rfl,⟨_,SqT.of S⟩,?_⟩;have W:i<n:=by rw[<-C.ml];exact M
   have Y:j<n:=by rw[<-C.ml];exact X
   refine kr (xs:=[V.int (i:Nat),V.int (j:Nat)]) (fun t G d=>G=(([i,j]:List Nat).take t).map (fun j=>V.str (a.getD j ⟨#[]⟩))/\H2=d) ⟨rfl,rfl⟩ ?_ ?_ ?_
   ·rintro t G d _ ⟨rfl,rfl⟩;exact SqT.of S
   ·rintro t v G d U ⟨rfl,rfl⟩;obtain⟨k,u,rfl,kn⟩:∃k:Nat,([i,j]:List Nat)[t]?=some k/\v = .int (k:Nat)/\k<n:=by
     match t,U with
     | 0,U=>exact⟨i,rfl,(vM U).symm,W⟩
     | 1,U=>exact⟨j,rfl,(vM U).symm,Y⟩
    have t2:t<2:=(vx.mp u).1;refine jX (σ':=[none,some _]) rfl ?_;exists iteT ?_;exists ixLm (SqL.of I.en) (C.at' kn) ?_;refine⟨by rw[vt,vh];exact vE (Nat.min_le_left _ _) (by lia),?_,rfl⟩;rw[take_snoc u,vi];rfl
   rintro G d ⟨rfl,rfl⟩;refine⟨uD,?_⟩;walk_at"f b4 hb4 H4 s4 t4";exists⟨b4,_,rfl,.inl ⟨SqL.of t4,?_⟩⟩;walk_at"f b5 hb5 H5 s5 t5";exists⟨uD,?_⟩;walk_at"f b6 hb6 H6 s6 t6";refine q b6 (.side [i,j]) R H6 (x2.trans (.of (s4.trans (s5.trans s6)))) (s6 _ _ (s5 _ _ (s4 _ _ D))) ⟨b5,t6,s6 _ _ t5⟩ (fun Ls=>⟨by show 2<=2;lia,by show 2<=8;lia,fun k u=>?_,fun k u=>?_,?_⟩) (fun k j e=>by cases e)
   ·rcases mem_cons.mp u with rfl | u
    ·exact W
    ·rw[vo.mp u];exact Y
   ·rcases mem_cons.mp u with rfl | u
    ·exact d1
    ·rw[vo.mp u];exact d2
   ·refine pairwise_cons.mpr ⟨fun b hb=>?_,pairwise_singleton ..⟩;rw[vo.mp hb];exact a0
 exists⟨_,_,rfl,.inl ⟨_,SqL.of C.en,rfl⟩,?_⟩;rw[F];exists⟨p,x,_,rfl,ep,by lia,by lia,fun r R H1 r0 r1 L f=>?_⟩;obtain⟨j,hj⟩:∃j:Nat,r=(j:Int):=⟨r.toNat,by lia⟩
 subst hj;have N:j<n:=by lia
 have g0:=C.g0 j N;have a1:gs[j]?=some (gs.getD j 0):=by
  have:=C.gl;rw[vy,vz (by lia)];rfl
 exists⟨p,R,o,rfl,f,by lia,by lia,fun r2 y2 H2 a7 a8 x2 D=>?_⟩;have Z:=L.trans x2;have I:=C.ex Z;exists⟨fun σ' d=>IvE1 fun(k:Int)=>IvA4 (σ'=[some (.ref p),some (.int a9),some (.ref nl),some (.ref m),some (.ref g),some (.int o),none,some (.int (j:Nat)),some (.int k)]) (H2=d) (1<=k) (k<=10^18/\(k*gs.getD j 0<=10^40\/k<=3)),?_,?_⟩
 rotate_left
 ·exists ixLm (SqL.of I.eg) (jL (j:=j) (by rw[vv,a1];rfl)) ?_;exists iteD (fun c=>?_) (fun c=>?_)
  ·walk_at"g";exact⟨_,rfl,rfl,by lia,by lia,.inr (by lia)⟩
  ·walk_at"g";exact⟨_,rfl,rfl,by lia,by lia,.inl (by lia)⟩
 rintro σ' d ⟨k,rfl,rfl,k1,a5,kb⟩;exists ixLm (SqL.of I.en) (C.at' N) ?_;exists⟨uE,?_⟩;walk_at"f b6 hb6 H6 s6 t6";exact q b6 (.again k j) y2 H6 (Z.trans (.of s6)) (s6 _ _ D) t6 (fun Ls=>⟨k1,a5,N⟩) (fun k' j' e=>by cases e;exact kb)
theorem wQ(T:Txt K mg t)(jz:FnOk P w K mg base CX0 1 t.JP t.JR ["_law_pool_here","_law_many"] (sp_takeD))(jM:FnOk P w K mg base CX0 2 t.qk t.qm ["_law_pool_here","_law_most"] (sp_takeD))(Q7:FnOk P w K mg base CX0 3 t.Q8 t.za ["_law_pool_here","_law_way","_law_names","_law_moves","_law_longs","_law_most"] (sp_namingC)):FnOk P w K mg base CX0 4 t.Zv t.ZB ["_law_pool_here","_law_book_here","_law_moves","_law_longs","_law_most"] (sp_formC):=by
 specialize T.YJ.F.ok JH;obtain⟨p,b,pl,pp,m,g,x,u,a9,J,aa,ls,l,F,Mv,gs,rfl,ep,C,nb,a0,a1,Z,Y,X,m1,m2,hW,q⟩:=h;refine⟨_,(jb (jm (i:=5) JH.nd rfl (.inl rfl) (jk T.jJ jz hr (ja (pv 0) (ja jd jc))))
  (jb (zX (i:=6) (ow:=["_law_part"]) (ci:=[]) rfl (CompScope.of (defScope Q2) ["_law_pool_here","_law_book_here","_law_moves","_law_longs","_law_most","_law_way","_law_names","_law_limb","_law_goal","_law_some","_law_word_here"] rfl rfl (by decide +kernel)) (jZ (by decide)) JH.nd rfl (.inl rfl) (jI (jh jo (pv 1) jd)) (fun _ _ _ _ _=>⟨(ji (i:=0) (jK ["_law_pool_here","_law_book_here","_law_moves","_law_longs","_law_most","_law_way","_law_names","_law_limb","_law_goal","_law_some","_law_word_here"] rfl (by decide +kernel)) rfl (.inl rfl)),Jx,(jh (Jf (K:=K) rfl) (pv 0) jd)⟩))
  (jb (jY (PW.pt (ZH (jp Q0 (pv 5) jd (nomark _)) (zY (jp (Xs hr.units) (pv 6) (jE jc) (nomark _)))))
   (jf (jw (jk T.yc Q7 hr (ja (pv 0) (ja (pv 5) (ja (pv 6) (ja (pv 2) (ja (pv 3) (ja (pv 4) jc)))))))))
   jy)
  (jb (jY (jp YU (pv 5) jd (nomark _))
   (jb (jm (i:=7) JH.nd rfl (.inl rfl) (jh jo (jh jA (jh jo (pv 1) jd) (jk T.jJ jz hr (ja (pv 0) (ja (jB Jg (by rfl) T.qW JQ (ja (jh jo (pv 1) jd) jc)) jc)))) jd))
   (jb (jm (i:=8) JH.nd rfl (.inl rfl) (jk T.Jk jM hr (ja (pv 0) (ja (jq j7 (pv 4) jd) jc))))
   (jf (jw (jN (ja jD (ja (pv 7) (ja (pv 8) (ja (jq j7 jd (jk T.Jk jM hr (ja (pv 0) (ja (pv 4) jc)))) jc)))))))))
   jy)
  (jb (jY (jp Jo (pv 5) jd (nomark _))
   (jb (jm (i:=9) JH.nd rfl (.inl rfl) (jq w4 (jE (ja jD (ja jD (ja jD jc)))) (Qz Wv (pv 6) zW (Q1 jd))))
   (jb (jm (i:=10) JH.nd rfl (.inl rfl) (jh jA (pv 9) (jk T.jJ jz hr (ja (pv 0) (ja (jB Jg (by rfl) T.qW JQ (ja (pv 9) jc)) jc)))))
   (jf (jw (jN (ja jD (ja (pv 10) (ja (jq j7 jd (jk T.Jk jM hr (ja (pv 0) (ja (pv 4) jc)))) jc))))))))
   jy)
  (jf (jw (jN (ja jD (ja (jq j7 jd (jk T.Jk jM hr (ja (pv 0) (ja (pv 4) jc)))) jc)))))))))),?_⟩
 refine ju (σ':=[some _,some _,some _,some _,some _,none,none,none,none,none,none]) rfl ?_
 try dsimp only[cxOf,Cx.nox]
 have sz:(200:Nat)<sizeLine:=by decide
 have B:=C.bk;have ae:J.length=F.length:=B.pa.1.trans qc;have a8:=B.la.1;have ab:=C.n60;have nn:=C.nn;have l1:=C.l1;have l8:=C.l8;exists⟨p,x,8,rfl,ep,by lia,by lia,fun ak y1 H1 w0 w1 x1 S=>?_⟩;have nt:∀{c:Addr} {xs:List V},H c=some (.tup xs)->c≠p:=fun h=>ZF h ep (fun z=>by cases z)
 exists ixTm (SqT.of (x1 _ _ nb B.t)) rfl ?_;exists⟨pp,rfl,⟨_,SqL.of (x1 _ _ a1 B.p)⟩,?_⟩;refine jR (xs:=J.map V.ref) (fun i ys O=>ys=(l.take i).map V.str/\H1=O) ⟨rfl,rfl⟩ ?_ ?_ ?_
 ·rintro i ys O _ ⟨rfl,rfl⟩;exact SqL.of (x1 _ _ a1 B.p)
 ·rintro i v ys O hv ⟨rfl,rfl⟩;obtain⟨c,pt,rfl,a6,fb,W,hf⟩:=B.pa.at_ref hv;obtain⟨f,a4,rfl⟩:=JA a6;have il:=(vx.mp a4).1;refine jX (σ':=[none]) rfl ?_;exists iteT ?_;exists ixTm (SqT.of (x1 _ _ (nt W) W)) rfl ?_;refine⟨by rw[vt,vh];lia,?_,rfl⟩;rw[take_snoc (show l[i]?=some (l.getD i ⟨#[]⟩) by rw[vy,vz (by lia)];rfl),vi];rfl
 rintro ys O ⟨rfl,rfl⟩;rw[show(J.map V.ref).length=F.length by rw[vt];exact ae];refine⟨by rw[vt,vh];lia,?_⟩;walk_at"f nl hnl H2 s2 t2";have M:=x1.trans (.of s2);have n:=s2 _ _ S;have ad:nl≠p:=(je S hnl).symm;have U:∀w∈l.take F.length,Ws.isW w=true:=fun w hw=>hW w (mem_of_mem_take hw)
 exists iteD (fun c4=>?_) (fun c4=>?_)
 ·exists⟨vA _,?_⟩;walk_at"f e3 he3 H3 s3 t3";have N:=M.trans (.of s3);have D:=s3 _ _ n;refine⟨_,_,.lst (s3 _ _ t2) (Y1 _),j33 t3,j54 U,shp0,?_⟩;rw[j4U];exists iteN (fun d=>?_) (fun d=>?_)
  ·have n1:1<=F.length:=by
    rcases Nat.eq_zero_or_pos F.length with z | z
    ·rw[z]at d;exact uB rfl d
    ·exact z
   walk_at"g";exact⟨p,nl,m,g,y1,ak,u,l,F.length,aa,Mv,gs,rfl,D,⟨s3 _ _ t2,N _ _ Z C.em,All2.monoM C.am fun a ha ks h=>N _ _ (X a ha) h,N _ _ Y C.eg,nn,C.ml,C.gl,n1,ab,C.m8,C.g0,ad,Z,Y,X⟩,m1,m2,fun a f y O x' e' hf af ag=>q a f y O (N.trans x') e' hf (af _) ag⟩
  ·exists iteD (fun c=>?_) (fun _=>?_)
   ·exact uB c (by lia)
   exists iteD (fun c=>?_) (fun _=>?_)
   ·exact uB c (by lia)
   exists⟨p,y1,u,rfl,D,by lia,by lia,fun r2 y2 H4 ah ai x4 o=>?_⟩;exists⟨uD,?_⟩;walk_at"f b6 hb6 H6 s6 t6";exact q b6 (.hold (1+r2)) y2 H6 (N.trans (x4.trans (.of s6))) (s6 _ _ o) t6 ⟨by lia,by lia⟩ (fun k j e=>by cases e)
 refine iteF ?_;exists iteD (fun c3=>?_) (fun c3=>?_)
 ·exists ixTm (SqT.of (M _ _ nb B.t)) rfl ?_;exists ixTm (SqT.of (M _ _ nb B.t)) rfl ?_;refine⟨_,_,rfl,.inl ⟨_,SqL.of (M _ _ a0 B.l),rfl⟩,?_⟩;rw[show(a9.map V.ref).length=ls.length by rw[vt];exact a8];exists⟨p,y1,_,rfl,n,by lia,by lia,fun r y3 H3 r0 r1 N D=>?_⟩;obtain⟨j,hj⟩:∃j:Nat,r=(j:Int):=⟨r.toNat,by lia⟩
  subst hj;have L:=M.trans N;obtain⟨lk,a5,R⟩:=B.la.get (vz (show j<ls.length by lia));refine ixLm (SqL.of (L _ _ a0 B.l)) (jL (j:=j) (by rw[vv,a5];rfl)) ?_;exists ixTm (SqT.of (L _ _ (nt R) R)) rfl ?_;exists⟨p,y3,_,rfl,D,by lia,by lia,fun r4 y4 H4 aj al x4 o=>?_⟩;exists⟨p,y4,_,rfl,o,by lia,by lia,fun r5 y5 H5 am an x5 G=>?_⟩;exists⟨uF,?_⟩;walk_at"f b6 hb6 H6 s6 t6";refine q b6 (.rise ls[j].1 r4 (1+r5)) y5 H6 (L.trans (x4.trans (x5.trans (.of s6)))) (s6 _ _ G) t6 ⟨⟨j,?_⟩,aj,by lia,by lia,by lia⟩ (fun k j e=>by cases e);unfold nmsOf;rw[vv,vz (show j<ls.length by lia)];rfl
 exists iteD (fun c=>?_) (fun c=>?_)
 ·exists⟨uE,?_⟩;walk_at"f b3 hb3 H3 s3 t3";exists⟨nl,_,rfl,SqL.of (s3 _ _ t2),?_⟩;walk_at"f b4 hb4 H4 s4 t4";have cl:=Zz ((l.take F.length).map V.str) none (some 2);rw[vt,vh]at cl;refine⟨b3,b4,_,_,rfl,rfl,s4 _ _ t3,t4,by show 3+_<=sizeLine;lia,?_⟩;walk_at"f b5 hb5 H5 s5 t5";have x5:=M.trans (.of (s3.trans (s4.trans s5)));have G:=s5 _ _ (s4 _ _ (s3 _ _ n));exists⟨_,_,rfl,.inl ⟨_,SqL.of t5,rfl⟩,?_⟩;exists⟨p,y1,_,rfl,G,by rw[vn];show 0<(((3+_:Nat)):Int);lia,by rw[vn];show(((3+_:Nat)):Int)<=_;lia,fun r y6 H6 r0 r1 x6 a2=>?_⟩;have ac:b5≠p:=(je (s4 _ _ (s3 _ _ n)) hb5).symm;have a7:∀v∈[V.str "bell",V.str "bells",V.str "gong"]++cutV ((l.take F.length).map V.str) none (some 2),∃w:Str,v = .str w/\Ws.isW w=true:=fun v hv=>by
   rcases vg.mp hv with z | z
   ·rcases mem_cons.mp z with rfl | z
    ·exact⟨_,rfl,by decide +kernel⟩
    ·rcases mem_cons.mp z with rfl | z
     ·exact⟨_,rfl,by decide +kernel⟩
     ·rw[vo.mp z];exact⟨_,rfl,by decide +kernel⟩
   ·obtain⟨w',I,rfl⟩:=vL.mp (j4b z);exact⟨w',rfl,U w' I⟩
  obtain⟨w',I,ww⟩:=j2V a7 r0 r1;refine ixLm (SqL.of (x6 _ _ ac t5)) (I) ?_;exists⟨p,y6,_,rfl,a2,by lia,by lia,fun r7 y7 H7 ao ap x7 a3=>?_⟩;exists⟨uE,?_⟩;walk_at"f b8 hb8 H8 s8 t8";exact q b8 (.ring w' (1+r7)) y7 H8 (x5.trans (x6.trans (x7.trans (.of s8)))) (s8 _ _ a3) t8 ⟨by lia,by lia,ww⟩ (fun k j e=>by cases e)
 exists⟨p,y1,u,rfl,n,by lia,by lia,fun r2 y2 H4 ah ai x4 o=>?_⟩;exists⟨uD,?_⟩;walk_at"f b6 hb6 H6 s6 t6";exact q b6 (.hold (1+r2)) y2 H6 (M.trans (x4.trans (.of s6))) (s6 _ _ o) t6 ⟨by lia,by lia⟩ (fun k j e=>by cases e)
theorem W2(T:Txt K mg t):FnOk P w K mg base CX0 1 t.zE t.zL ["_law_book_here","_law_moves","_law_longs","_law_name","_law_form_here"] (sp_putC):=by
 specialize T.ye.F.ok Jn;obtain⟨b,pl,pp,m,g,a,au,N,a6,J,names,l,Mv,gs,f,B,rfl,C,S,mo,hf,ab,ag,nl,aM,nd,B0,B1,gB,q⟩:=h;refine⟨_,(jb (zX (i:=5) (ow:=["_law_k"]) (ci:=[4,0]) rfl (CompScope.of (defScope JG) ["_law_book_here","_law_moves","_law_longs","_law_name","_law_form_here","_law_numbers","_law_limbs","_law_k","_law_long"] rfl rfl (by decide +kernel)) (jZ (by decide)) Jn.nd rfl (.inl rfl) (qe (by rfl) T.Qi (ja (jB Jg (by rfl) T.qW JQ (ja (jh jo (pv 0) jd) jc)) jc)) (fun _ _ _ _ _=>⟨(ji (i:=0) (jK ["_law_book_here","_law_moves","_law_longs","_law_name","_law_form_here","_law_numbers","_law_limbs","_law_k","_law_long"] rfl (by decide +kernel)) rfl (.inl rfl)),(zV (PW.pt (ZH (jp (zT (K:=K) rfl) (jh (Jf (K:=K) rfl) (pv 1) jd) (jN (ja jD (ja jD jc))) (by with_unfolding_all rfl)) (zY (jp (zT (K:=K) rfl) (jh (Jf (K:=K) rfl) (jh (Jd (K:=K) rfl) (jh (Jf (K:=K) rfl) (pv 2) jd) (pv 0)) jd) (jh (Jf (K:=K) rfl) (pv 1) jd) (by with_unfolding_all rfl)))))),(pv 0)⟩))
  (jb (QA (jp Jo (jh jo (pv 4) jd) jD (nomark _))
   (jf (zX (i:=5) (ow:=["_law_k"]) (ci:=[4,0]) rfl (CompScope.of (defScope JG) ["_law_book_here","_law_moves","_law_longs","_law_name","_law_form_here","_law_numbers","_law_limbs","_law_k","_law_long"] rfl rfl (by decide +kernel)) (jZ (by decide)) Jn.nd rfl (.inl rfl) (qe (by rfl) T.Qi (ja (jB Jg (by rfl) T.qW JQ (ja (jh jo (pv 0) jd) jc)) jc)) (fun _ _ _ _ _=>⟨(ji (i:=0) (jK ["_law_book_here","_law_moves","_law_longs","_law_name","_law_form_here","_law_numbers","_law_limbs","_law_k","_law_long"] rfl (by decide +kernel)) rfl (.inl rfl)),(zV (jp Jo (jh (Jf (K:=K) rfl) (jh (Jd (K:=K) rfl) (jh (Jf (K:=K) rfl) (pv 2) jd) (pv 0)) jd) (jh (Jf (K:=K) rfl) (pv 1) jd) (nomark _))),(pv 0)⟩)))
   jy)
  (jb (jm (i:=6) Jn.nd rfl (.inr rfl) (j5 (ow:=["_law_k"]) (ci:=[4,0]) rfl (CompScope.of (defScope JG) ["_law_book_here","_law_moves","_law_longs","_law_name","_law_form_here","_law_numbers","_law_limbs","_law_k","_law_long"] rfl rfl (by decide +kernel)) (jZ (by decide)) (qe (by rfl) T.Qi (ja (jB Jg (by rfl) T.qW JQ (ja (jh jo (pv 0) jd) jc)) jc)) (fun _ _ _ _ _=>⟨(ji (i:=0) (jK ["_law_book_here","_law_moves","_law_longs","_law_name","_law_form_here","_law_numbers","_law_limbs","_law_k","_law_long"] rfl (by decide +kernel)) rfl (.inl rfl)),(zV (PW.pt (ZH (jp Jo (jh (Jf (K:=K) rfl) (pv 1) jd) jD (nomark _)) (zY (jp Jo (jh (Jf (K:=K) rfl) (jh (Jd (K:=K) rfl) (jh (Jf (K:=K) rfl) (pv 2) jd) (pv 0)) jd) (jh (Jf (K:=K) rfl) (pv 1) jd) (nomark _)))))),(pv 0)⟩)))
  (jb (Jt PassesOwn.never rfl (jI (pv 5)) (ji (i:=7) Jn.nd rfl (.inl rfl))
   (jf (jm (i:=6) Jn.nd rfl (.inr rfl) (jq w4 (pv 6) (j5 (ow:=["_law_limb"]) (ci:=[6]) rfl (CompScope.of (defScope JG) ["_law_book_here","_law_moves","_law_longs","_law_name","_law_form_here","_law_numbers","_law_limbs","_law_k","_law_long"] rfl rfl (by decide +kernel)) (jZ (by decide)) (jI (jh jA (pv 1) (pv 7))) (fun _ _ _ _ _=>⟨(ji (i:=0) (jK ["_law_book_here","_law_moves","_law_longs","_law_name","_law_form_here","_law_numbers","_law_limbs","_law_k","_law_long"] rfl (by decide +kernel)) rfl (.inl rfl)),(zV (jp (Kr (K:=K) rfl) (pv 0) (pv 1) (by with_unfolding_all rfl))),(pv 0)⟩))))))
  (jb (jm (i:=8) Jn.nd rfl (.inl rfl) (jh jo (pv 4) (zn qO jd)))
  (jb (QA (jp Jo (jh jo (pv 4) jd) jD (nomark _))
   (jf (jm (i:=8) Jn.nd rfl (.inl rfl) (jB (Yn rfl) (by rfl) T.j1a xL (ja (j5 (ow:=["_law_k"]) (ci:=[2,4,0]) rfl (CompScope.of (defScope JG) ["_law_book_here","_law_moves","_law_longs","_law_name","_law_form_here","_law_numbers","_law_limbs","_law_k","_law_long"] rfl rfl (by decide +kernel)) (jZ (by decide)) (jI (pv 5)) (fun _ _ _ _ _=>⟨(ji (i:=0) (jK ["_law_book_here","_law_moves","_law_longs","_law_name","_law_form_here","_law_numbers","_law_limbs","_law_k","_law_long"] rfl (by decide +kernel)) rfl (.inr rfl)),Jx,(jq Ja (jh (Jd (K:=K) rfl) (pv 1) (pv 0)) (jB (KF (K:=K) rfl) (by rfl) T.qW JQ (ja (j5 (ow:=["_law_one"]) (ci:=[0,3]) rfl (CompScope.ofB ["_law_k","_law_longs","_law_form_here","_law_book_here"] rfl (by decide +kernel)) (jZ (by decide)) (j3w (K:=K) rfl (jh (Jf (K:=K) rfl) (pv 2) jd)) (fun _ _ _ _ _=>⟨(ji (i:=0) (jK ["_law_k","_law_longs","_law_form_here","_law_book_here"] rfl (by decide +kernel)) rfl (.inl rfl)),(zV (jp Jo (pv 0) (jh (Jf (K:=K) rfl) (jh (Jd (K:=K) rfl) (jh (Jf (K:=K) rfl) (pv 2) jd) (pv 1)) jd) (nomark _))),(pv 0)⟩)) jc)))⟩)) jc))))
   jy)
  (jb (QA (jp Jo (jh jo (pv 4) jd) jD (nomark _))
   (jf (jm (i:=8) Jn.nd rfl (.inl rfl) (jB (KG rfl) (by rfl) T.j19 xJ (ja (j5 (ow:=["_law_k"]) (ci:=[2]) rfl (CompScope.of (defScope JG) ["_law_book_here","_law_moves","_law_longs","_law_name","_law_form_here","_law_numbers","_law_limbs","_law_k","_law_long"] rfl rfl (by decide +kernel)) (jZ (by decide)) (jI (pv 5)) (fun _ _ _ _ _=>⟨(ji (i:=0) (jK ["_law_book_here","_law_moves","_law_longs","_law_name","_law_form_here","_law_numbers","_law_limbs","_law_k","_law_long"] rfl (by decide +kernel)) rfl (.inl rfl)),Jx,(jh (Jd (K:=K) rfl) (pv 1) (pv 0))⟩)) jc))))
   jy)
  (jb (QA (jp Jo (jh jo (pv 4) jd) jD (nomark _))
   (jf (jm (i:=8) Jn.nd rfl (.inl rfl) (jq Ja (jh jo (pv 4) jd) (jh jA (pv 2) (jh jA (pv 5) jd)))))
   jy)
  (jb (jW (qp PySem.F.plainAttrs_list PySem.F.slot_list_append PySem.F.type_list_append jV (jh jo (pv 0) jd) (ja (jN (ja (pv 3) (ja (pv 4) jc))) jc)))
  (jb (jW (qp PySem.F.plainAttrs_list PySem.F.slot_list_append PySem.F.type_list_append jV (pv 1) (ja (pv 6) jc)))
  (jf (jW (qp PySem.F.plainAttrs_list PySem.F.slot_list_append PySem.F.type_list_append jV (pv 2) (ja (pv 8) jc)))))))))))))),?_⟩
 refine ju (σ':=[some _,some _,some _,some _,some _,none,none,none,none]) rfl ?_
 try dsimp only[cxOf,Cx.nox]
 have sz:(200:Nat)<sizeLine:=by decide
 have r:=C.bk;have ax:N.length=l.length:=r.pa.1.trans qc;have aF:=r.la.1;have aN:=C.n60;have nn:=C.nn;have l1:=C.l1;have l8:=C.l8;obtain⟨fb,D,ae⟩:=j1o hf;have js:=ab.js;have hn:∀{k:Nat},k<l.length->k<names.length:=fun h=>by lia
 have ao:∀j∈f.js,j<names.length:=fun j hj=>hn (js.2 j hj)
 have ad:∀j,j<l.length->gs[j]?=some (gs.getD j 0):=fun j h=>by
  rw[vy,vz (by rw[C.gl];exact h)];rfl
 have a2:=C.g0;have ak:∀{k:Nat},k<l.length->∃c fc,atI (N.map V.ref) (0+(k:Int))=some (.ref c)/\H c=some (.tup [.str (names.getD k ⟨#[]⟩),.ref fc]):=fun {k} hk=>by
  have ap:k<(drawnPs names l).length:=by rw[qc];exact hk
  obtain⟨c,ec,fc,hc,_⟩:=r.pa.get (vz ap);obtain⟨f',_,e'⟩:=JA (vz ap);rw[e']at hc;exact⟨c,fc,by rw[uv];exact jL (by rw[vv,ec];rfl),hc⟩
 exists ixTm (SqT.of r.t) rfl ?_;refine⟨_,_,rfl,.inl ⟨_,SqL.of r.p,rfl⟩,?_⟩;rw[show(N.map V.ref).length=l.length by rw[vt];exact ax];refine⟨_,rfl,by lia,by lia,?_⟩;rw[show((l.length:Nat):Int).toNat=l.length from Int.toNat_natCast _];refine qM (fun i p o=>p=((List.range i).filter fun k=>f.rs&&decide (k∈f.js)).map vN/\Same H o) ⟨rfl,Same.refl _⟩ ?_ ?_
 ·rintro i p o hi ⟨rfl,sm⟩;obtain⟨c,fc,ec,hc⟩:=ak hi;refine jX (σ':=[none,some _,some _]) rfl ?_;exists ixTm (SqT.of (sm _ _ D)) (ya) ?_;exists⟨uD,?_⟩;walk_at"f 1 t";have G:=sm.trans s1;refine⟨p1,_,rfl,.inr (SqT.of t1),rfl,flatS ["row","side"],?_⟩;rw[inRS];walk_at"g";have lf:((List.range i).filter fun k=>f.rs&&decide (k∈f.js)).length<=30:=vY (length_filter_le _ _) (by rw[length_range];lia);refine iteBl (fun c=>?_) (fun c=>?_)
  ·exists ixTm (SqT.of (G _ _ r.t)) rfl ?_;exists ixLm (SqL.of (G _ _ r.p)) (ec) ?_;exists ixTm (SqT.of (G _ _ hc)) rfl ?_;exists ixTm (SqT.of (G _ _ D)) (j3N c) ?_;refine⟨fb,_,rfl,.inr (SqT.of (G _ _ (ae c))),rfl,flatS _,?_⟩;rw[inS];exists iteD (fun d=>?_) (fun d=>?_)
   ·have d':=(WZ nd (hn hi) ao).mp d;exists⟨by rw[vt];lia,?_,G⟩;rw[JS,vc (by rw[c,vH d'];rfl),vi,uv];rfl
   ·have d':=fun z=>d ((WZ nd (hn hi) ao).mpr z)
    refine⟨?_,G⟩;rw[JS,vb (by rw[vI d',Bool.and_false];exact vG)]
  ·refine iteF ?_;refine⟨?_,G⟩;rw[JS,vb (by rw[c,Bool.false_and];exact vG)]
 rintro p H1 ⟨rfl,G⟩;have lf:((List.range l.length).filter fun k=>f.rs&&decide (k∈f.js)).length<=30:=vY (length_filter_le _ _) (by rw[length_range];lia);refine⟨by rw[vt];lia,?_⟩;walk_at"f nu1 hnu1 H2 s2 t2";have O:=G.trans s2;clear lf;exists⟨fun σ o=>IvE1 fun nu=>IvA2 (σ=[some (.ref b),some (.ref m),some (.ref g),some (.str (names.getD l.length ⟨#[]⟩)),some (.ref a),some (.ref nu),none,none,none]) (Same H o/\o nu=some (.lst ((numsC l.length f).map vN))),?_,?_⟩
 rotate_left
 ·exists ixTm (SqT.of (O _ _ D)) (ya) ?_;walk_at"g";rw[j2y];refine iteBl (fun c=>?_) (fun c=>?_)
  ·obtain⟨k0,j0,rfl⟩:=j3W c;have a7:=js.2 j0 vq;exists ixTm (SqT.of (O _ _ r.t)) rfl ?_;refine⟨_,_,rfl,.inl ⟨_,SqL.of (O _ _ r.p),rfl⟩,?_⟩;rw[show(N.map V.ref).length=l.length by rw[vt];exact ax];refine⟨_,rfl,by lia,by lia,?_⟩;rw[show((l.length:Nat):Int).toNat=l.length from Int.toNat_natCast _];refine qM (fun i p o=>p=((List.range i).filter fun k=>decide (k∈[j0])).map vN/\H2=o) ⟨rfl,rfl⟩ ?_ ?_
   ·rintro i p o hi ⟨rfl,rfl⟩;obtain⟨c',fc,ec,hc⟩:=ak hi;have lf:((List.range i).filter fun k=>decide (k∈[j0])).length<=30:=vY (length_filter_le _ _) (by rw[length_range];lia);refine jX (σ':=[none,some _,some _]) rfl ?_;exists ixTm (SqT.of (O _ _ r.t)) rfl ?_;exists ixLm (SqL.of (O _ _ r.p)) (ec) ?_;exists ixTm (SqT.of (O _ _ hc)) rfl ?_;exists ixTm (SqT.of (O _ _ D)) rfl ?_;exists iteD (fun d=>?_) (fun d=>?_)
    ·have d':i∈[j0]:=vo.mpr (getD_inj nd (hn hi) (hn a7) d);exists⟨by rw[vt];lia,?_,rfl⟩;rw[JS,vc (vH d'),vi,uv];rfl
    ·have d':¬i∈[j0]:=fun z=>d (by rw[vo.mp z])
     refine⟨?_,rfl⟩;rw[JS,vb (by rw[vI d'];exact vG)]
   rintro p o ⟨rfl,rfl⟩;have lf:((List.range l.length).filter fun k=>decide (k∈[j0])).length<=30:=vY (length_filter_le _ _) (by rw[length_range];lia);refine⟨by rw[vt];lia,?_⟩;walk_at"f nu2 hnu2 H3 s3 t3";walk_at"g";exact⟨nu2,rfl,O.trans s3,t3⟩
  ·exact⟨nu1,rfl,O,by rw[t2,j3q c]⟩
 clear t2 s2 hnu1 O G;rintro σ' H3 ⟨nu,rfl,I,aC⟩;clear H2 H1 nu1;have aG:∀{k:Nat},k<J.length->∃c v,atI (au.map V.ref) (0+(k:Int))=some (.ref c)/\H c=some (.tup [.str ((nmsOf J).getD k ⟨#[]⟩),.int v]):=fun {k} hk=>by
  obtain⟨c,ec,hc⟩:=r.la.get (vz hk);refine⟨c,J[k].2,by rw[uv];exact jL (by rw[vv,ec];rfl),?_⟩;have e:(nmsOf J).getD k ⟨#[]⟩=J[k].1:=by
   unfold nmsOf;rw[vy,vv,vz hk];rfl
  rw[e];exact hc
 have Ll:(nmsOf J).length=J.length:=vt _;exists ixTm (SqT.of (I _ _ r.t)) rfl ?_;refine⟨_,_,rfl,.inl ⟨_,SqL.of (I _ _ r.l),rfl⟩,?_⟩;rw[show(au.map V.ref).length=J.length by rw[vt];exact aF];refine⟨_,rfl,by lia,by lia,?_⟩;rw[show((J.length:Nat):Int).toNat=J.length from Int.toNat_natCast _];refine qM (fun i p o=>p=((List.range i).filter fun k=>f.rz&&decide ((nmsOf J).getD k ⟨#[]⟩=f.x)).map vN/\H3=o) ⟨rfl,rfl⟩ ?_ ?_
 ·rintro i p o hi ⟨rfl,rfl⟩;obtain⟨c',v',ec,hc⟩:=aG hi;have lf:((List.range i).filter fun k=>f.rz&&decide ((nmsOf J).getD k ⟨#[]⟩=f.x)).length<=30:=vY (length_filter_le _ _) (by rw[length_range];lia);refine jX (σ':=[none,some _,some _]) rfl ?_;exists ixTm (SqT.of (I _ _ D)) (ya) ?_;walk_at"g";rw[j4L];refine iteBl (fun c=>?_) (fun c=>?_)
  ·exists ixTm (SqT.of (I _ _ r.t)) rfl ?_;exists ixLm (SqL.of (I _ _ r.l)) (ec) ?_;exists ixTm (SqT.of (I _ _ hc)) rfl ?_;exists ixTm (SqT.of (I _ _ D)) (j2A c) ?_;exists iteD (fun d=>?_) (fun d=>?_)
   ·exists⟨by rw[vt];lia,?_,rfl⟩;rw[JS,vc (by rw[c,vH d];rfl),vi,uv];rfl
   ·refine⟨?_,rfl⟩;rw[JS,vb (by rw[vI d,Bool.and_false];exact vG)]
  ·refine iteF ?_;refine⟨?_,rfl⟩;rw[JS,vb (by rw[c,Bool.false_and];exact vG)]
 rintro p o ⟨rfl,rfl⟩;rw[show((List.range J.length).filter fun k=>f.rz&&decide ((nmsOf J).getD k ⟨#[]⟩=f.x))=limC (nmsOf J) f by unfold limC;rw[Ll]];rw[show(limC (nmsOf J) f).map vN=((limC (nmsOf J) f).map fun i:Nat=>(i:Int)).map V.int by rw[v8];rfl];have aa:=j3d (L:=nmsOf J) (f:=f);have lr:=j3c (L:=nmsOf J) (f:=f);have ai:=fun ks=>j3j (L:=nmsOf J) (M:=Mv) (f:=f) (ks:=ks) js.2
 generalize(limC (nmsOf J) f).map (fun i:Nat=>(i:Int))=h0 at aa lr ai|-;rw[Ll]at lr;have aB:=qy aa lr;refine⟨by rw[vt];lia,?_⟩;walk_at"f lb0 hlb0 H4 s4 t4";have al:=I.trans s4;have a3:=s4 _ _ aC;have aK:=j0J (n:=l.length) (f:=f);exists⟨nu,rfl,⟨_,SqL.of a3⟩,?_⟩;refine Ju (xs:=(numsC l.length f).map vN) (fun i σ o=>IvE3 fun(o7:Option V) (R:Addr) (hs:List Int)=>IvA8 (σ=[some (.ref b),some (.ref m),some (.ref g),some (.str (names.getD l.length ⟨#[]⟩)),some (.ref a),some (.ref nu),some (.ref R),o7,none]) (Same H4 o) (o R=some (.lst (hs.map V.int))) (R≠pp) (R≠m) (R≠g) hs.Nodup (∀k,k∈hs↔k∈h0\/∃x∈(numsC l.length f).take i,k∈Mv.getD x []))
  ⟨_,lb0,h0,rfl,Same.refl _,t4,(je (I _ _ r.p) hlb0).symm,(je (I _ _ C.em) hlb0).symm,(je (I _ _ C.eg) hlb0).symm,aa,fun k=>⟨.inl,fun z=>z.elim id fun⟨x,hx,_⟩=>by simp at hx⟩⟩ ?_ ?_ ?_
 ·rintro i σ o _ ⟨o7,R,hs,rfl,sm,et,z1,z2,z3,tn,tm⟩;exact SqL.of (sm _ _ a3)
 ·rintro i v σ o hv ⟨o7,R,hs,rfl,sm,et,z1,z2,z3,tn,tm⟩;obtain⟨j,hj,rfl,aA⟩:=j2F hv;have a4:=kM aA;have W:=al.trans sm;obtain⟨aj,ay,am⟩:=C.am.get (show Mv[j]?=some (Mv.getD j []) by rw[vy,vz (by rw[C.ml];exact a4)];rfl);have mj:=X9 mo j;have k8:=qy mj.1 mj.2;have as:=qy (n:=J.length) tn fun k hk=>by
   rcases(tm k).mp hk with z | ⟨x,_,z⟩
   ·exact lr k z
   ·exact(X9 mo x).2 k z
  exists ixLm (SqL.of (W _ _ C.em)) (qD (i:=(j:Int)) (by lia) ay) ?_;refine⟨aj,rfl,⟨_,SqL.of (W _ _ am)⟩,?_⟩;refine jR (xs:=(Mv.getD j []).map V.int) (fun i p U=>p=(((Mv.getD j []).take i).filter fun k=>!decide (k∈hs)).map V.int/\o=U) ⟨rfl,rfl⟩ ?_ ?_ ?_
  ·rintro i p U _ ⟨rfl,rfl⟩;exact SqL.of (W _ _ am)
  ·rintro i x p U hx ⟨rfl,rfl⟩;rw[vv]at hx;obtain⟨k,hk,rfl⟩:=vf.mp hx;have ik:=(vx.mp hk).1;refine jX (σ':=[none,some _]) rfl ?_;exists⟨R,_,rfl,.inl (SqL.of et),rfl,flats _,?_⟩;rw[notInI];walk_at"g";rw[take_snoc hk,filter_append];have lf:(((Mv.getD j []).take i).filter fun k=>!decide (k∈hs)).length<=8:=vY (length_filter_le _ _) (by rw[vh];lia);refine iteN (fun c=>?_) (fun c=>?_)
   ·exists⟨by rw[vt];lia,?_,rfl⟩;rw[vi];simp[c]
   ·refine⟨?_,rfl⟩;simp[c]
  rintro p U ⟨rfl,rfl⟩;rw[show((Mv.getD j []).map V.int).length=(Mv.getD j []).length from vt _,v7];have lf:((Mv.getD j []).filter fun k=>!decide (k∈hs)).length<=8:=vY (length_filter_le _ _) (by lia);refine⟨by rw[vt];lia,?_⟩;walk_at"f 5 t";refine⟨R,p5,_,_,rfl,rfl,s5 _ _ et,t5,by rw[vt,vt];lia,?_⟩;walk_at"f 6 t";have a1:=W.trans s5;obtain⟨n1,n2⟩:=j0F hj tm tn mj.1;walk_at"g";exact⟨_,p6,hs++((Mv.getD j []).filter fun k=>!decide (k∈hs)),rfl,sm.trans (s5.trans s6),by rw[t6,vi],(je (a1 _ _ r.p) hp6).symm,(je (a1 _ _ C.em) hp6).symm,(je (a1 _ _ C.eg) hp6).symm,n1,n2⟩
 rintro σ' H5 ⟨o7,R,hs,rfl,s5,et,z1,z2,z3,tn,tm⟩;rw[show((numsC l.length f).map vN).length=(numsC l.length f).length from vt _,v7]at tm;have ar:=ai hs tn tm;have W:=al.trans s5;have a8:=s5 _ _ a3;clear tm tn ai lr aa aB t4 hlb0 s4 s5 a3 al;exists ixTm (SqT.of (W _ _ D)) (j3O) ?_;walk_at"g";have ll:=j1z (names:=names) (b:=fb) (f:=f) (gs:=gs);generalize lastF names fb f=v0 at ll|-;refine⟨fun σ o=>IvE1 fun v1=>IvA2 (σ=[some (.ref b),some (.ref m),some (.ref g),some (.str (names.getD l.length ⟨#[]⟩)),some (.ref a),some (.ref nu),some (.ref R),o7,some v1]) (Same H5 o/\((∃Z,v1 = .int Z/\LenN gs f Z)\/f.ag=true\/f.sd=true)),?_,?_⟩
 rotate_left
 ·exists ixTm (SqT.of (W _ _ D)) (ya) ?_;walk_at"g";rw[j4K];refine iteBl (fun c=>?_) (fun c=>?_)
  ·obtain⟨F,rfl⟩:=j4V c;have i8:F.length<=8:=js.1;have a4:∀j∈F,j<l.length:=js.2;exists⟨nu,rfl,⟨_,SqL.of a8⟩,?_⟩;refine jR (xs:=(numsC l.length (.row F)).map vN) (fun i p o=>p=(((numsC l.length (.row F)).take i).map fun k=>gs.getD k 0*((F.filter fun j=>decide (j=k)).length:Nat)).map V.int/\Same H5 o) ⟨rfl,Same.refl _⟩ ?_ ?_ ?_
   ·rintro i p o _ ⟨rfl,sm⟩;exact SqL.of (sm _ _ a8)
   ·rintro i x p o hx ⟨rfl,sm⟩;obtain⟨k,hk,rfl,af⟩:=j2F hx;have il:=(vx.mp hk).1;have a5:=kM af;have a0:=W.trans sm;obtain⟨c',fc,ec,hc⟩:=ak a5;rw[uv]at ec;refine jX (σ':=[none,some _,some _,some _]) rfl ?_;exists iteT ?_;exists ixLm (SqL.of (a0 _ _ C.eg)) (jL (j:=k) (by rw[vv,ad k a5];rfl)) ?_;exists ixTm (SqT.of (a0 _ _ D)) rfl ?_;refine⟨fb,rfl,⟨_,SqT.of (a0 _ _ (ae rfl))⟩,?_⟩;refine kr (xs:=(F.map fun j=>names.getD j ⟨#[]⟩).map V.str) (fun i p U=>p=(((F.take i).filter fun j=>decide (j=k)).map fun j=>V.str (names.getD j ⟨#[]⟩))/\o=U) ⟨rfl,rfl⟩ ?_ ?_ ?_
    ·rintro i p U _ ⟨rfl,rfl⟩;exact SqT.of (a0 _ _ (ae rfl))
    ·rintro i x p U hx ⟨rfl,rfl⟩;rw[vv,vv]at hx;obtain⟨y,hy,rfl⟩:=vf.mp hx;obtain⟨j,hj,rfl⟩:=vf.mp hy;have ij:=(vx.mp hj).1;have lf:((F.take i).filter fun j=>decide (j=k)).length<=8:=vY (length_filter_le _ _) (by rw[vh];lia);refine jX (σ':=[none,some _,some _]) rfl ?_;exists ixTm (SqT.of (a0 _ _ r.t)) rfl ?_;exists ixLm (SqL.of (a0 _ _ r.p)) (ec) ?_;exists ixTm (SqT.of (a0 _ _ hc)) rfl ?_;walk_at"g";rw[take_snoc hj,filter_append];refine iteD (fun d=>?_) (fun d=>?_)
     ·have d':j=k:=getD_inj nd (hn (a4 j (vj hj))) (hn a5) d;exists⟨by rw[vt];lia,?_,rfl⟩;rw[vi,uz,vc (vH d'),filter_nil];rfl
     ·have d':¬j=k:=fun z=>d (by rw[z])
      refine⟨?_,rfl⟩;rw[uz,vb (by rw[vI d'];exact vG),filter_nil,append_nil]
    rintro p U ⟨rfl,rfl⟩;rw[show((F.map fun j=>names.getD j ⟨#[]⟩).map V.str).length=F.length by rw[vt,vt],v7];have lf:(F.filter fun j=>decide (j=k)).length<=8:=vY (length_filter_le _ _) i8;refine⟨by rw[vt];lia,?_⟩;walk_at"f 6 t";exists⟨_,_,rfl,.inl ⟨_,SqL.of t6,rfl⟩,?_⟩;rw[show(List.map (fun j=>V.str (names.getD j ⟨#[]⟩)) (F.filter fun j=>decide (j=k))).length=(F.filter fun j=>decide (j=k)).length from vt _];have gk:=a2 k a5;exists⟨by rw[vt,vt,vh];lia,?_,sm.trans s6⟩;rw[take_snoc hk,vi,vi];rfl
   rintro p o ⟨rfl,sm⟩;rw[show((numsC l.length (.row F)).map vN).length=(numsC l.length (.row F)).length from vt _,v7];refine⟨by rw[vt,vt];lia,?_⟩;walk_at"f 7 t";exists⟨p7,_,rfl,SqL.of t7,?_⟩;walk_at"g";exact⟨_,rfl,sm.trans s7,.inl ⟨_,rfl,j3C (gs:=gs) a4⟩⟩
  ·refine⟨v0,rfl,Same.refl _,?_⟩;rcases ll with z | z | z | z
   ·exact .inl z
   ·exact .inr (.inl z)
   ·exact .inr (.inr z)
   ·rw[c]at z;cases z
 rintro σ' H6 ⟨v1,rfl,s6,aD⟩;have a1:=W.trans s6;have a9:=s6 _ _ a8;exists⟨fun σ o=>IvE1 fun v2=>IvA2 (σ=[some (.ref b),some (.ref m),some (.ref g),some (.str (names.getD l.length ⟨#[]⟩)),some (.ref a),some (.ref nu),some (.ref R),o7,some v2]) (Same H6 o/\((∃Z,v2 = .int Z/\LenN gs f Z)\/f.ag=true)),?_,?_⟩
 rotate_left
 ·exists ixTm (SqT.of (a1 _ _ D)) (ya) ?_;walk_at"g";rw[j4M];refine iteBl (fun c=>?_) (fun c=>?_)
  ·obtain⟨F,rfl⟩:=j4W c;have a4:∀j∈F,j<l.length:=js.2;have ne:F≠[]:=fun z=>by have:=ab.1;rw[z]at this;exact uB this (by decide)
   exists⟨nu,rfl,⟨_,SqL.of a9⟩,?_⟩;refine jR (xs:=(numsC l.length (.side F)).map vN) (fun i p o=>p=(((numsC l.length (.side F)).take i).map fun k=>gs.getD k 0).map V.int/\H6=o) ⟨rfl,rfl⟩ ?_ ?_ ?_
   ·rintro i p o _ ⟨rfl,rfl⟩;exact SqL.of a9
   ·rintro i x p o hx ⟨rfl,rfl⟩;obtain⟨k,hk,rfl,af⟩:=j2F hx;have il:=(vx.mp hk).1;have a5:=kM af;refine jX (σ':=[none,some _]) rfl ?_;exists iteT ?_;exists ixLm (SqL.of (a1 _ _ C.eg)) (jL (j:=k) (by rw[vv,ad k a5];rfl)) ?_;refine⟨by rw[vt,vt,vh];lia,?_,rfl⟩;rw[take_snoc hk,vi,vi];rfl
   rintro p o ⟨rfl,rfl⟩;rw[show((numsC l.length (.side F)).map vN).length=(numsC l.length (.side F)).length from vt _,v7];refine⟨by rw[vt,vt];lia,?_⟩;walk_at"f 7 t";have nm:=Z7 (f:=.side F) a4;exists⟨p7,_,rfl,SqL.of t7,?_,fun mx hm aq=>?_⟩
   ·rw[vt];obtain⟨j,hj⟩:=List.exists_mem_of_ne_nil F ne;exact List.length_pos_of_mem ((nm j).mpr hj)
   obtain⟨j,hj,rfl⟩:=vL.mp hm;walk_at"g";exact⟨_,rfl,s7,.inl ⟨_,rfl,⟨j,(nm j).mp hj,rfl⟩,fun j' an=>aq _ (vL.mpr ⟨j',(nm j').mpr an,rfl⟩)⟩⟩
  ·refine⟨v1,rfl,Same.refl _,?_⟩;rcases aD with z | z | z
   ·exact .inl z
   ·exact .inr z
   ·rw[c]at z;cases z
 rintro σ' H7 ⟨v2,rfl,s7,aE⟩;have X:=a1.trans s7;have ac:=s7 _ _ a9;exists⟨fun σ o=>IvE1 fun Z=>IvA2 (σ=[some (.ref b),some (.ref m),some (.ref g),some (.str (names.getD l.length ⟨#[]⟩)),some (.ref a),some (.ref nu),some (.ref R),o7,some (.int Z)]) (H7=o/\LenN gs f Z),?_,?_⟩
 rotate_left
 ·exists ixTm (SqT.of (X _ _ D)) (ya) ?_;walk_at"g";rw[j2y];refine iteBl (fun c=>?_) (fun c=>?_)
  ·obtain⟨k0,j0,rfl⟩:=j3W c;have a7:=js.2 j0 vq;obtain⟨k1,k2,_⟩:=ab;have gk:=a2 j0 a7;rw[j0K a7]at ac;exists ixTm (SqT.of (X _ _ D)) rfl ?_;exists ixLm (SqL.of ac) rfl ?_;refine ixLm (SqL.of (X _ _ C.eg)) (jL (j:=j0) (by rw[vv,ad j0 a7];rfl)) ?_;walk_at"g";exact⟨_,rfl,rfl,rfl⟩
  ·rcases aE with⟨Z,rfl,z⟩ | z
   ·exact⟨Z,rfl,rfl,z⟩
   ·rw[c]at z;cases z
 rintro σ' H8 ⟨Z,rfl,rfl,aw⟩;have av:=j3a ab ag aw B0 fun j hj=>⟨(a2 j hj).1,gB j hj⟩
 have ah:=ar.ok (by rw[Ll];exact mo);have as:=qy ah.1 ah.2;rw[Ll]at as ah;have ml:=C.ml;have gl:=C.gl;have aL:=C.am.1;have az:=(s6.trans s7) _ _ et;exists ixTm (SqT.of (X _ _ r.t)) rfl ?_;refine⟨.inl ⟨rfl,_,SqL.of (X _ _ r.p)⟩,?_⟩;exists⟨uD,?_⟩;walk_at"f pc hpc H9 s9 t9";have Y:=X.trans s9;have nt:∀{c:Addr} {xs:List V},H c=some (.tup xs)->c≠pp/\c≠m/\c≠g:=fun h=>⟨ZF h r.p (fun z=>by cases z),ZF h C.em (fun z=>by cases z),ZF h C.eg (fun z=>by cases z)⟩
 have aJ:pc≠pp:=(je (X _ _ r.p) hpc).symm;have aI:pc≠m:=(je (X _ _ C.em) hpc).symm;have aH:pc≠g:=(je (X _ _ C.eg) hpc).symm;refine⟨pp,_,_,rfl,rfl,Y _ _ r.p,by rw[vt];lia,?_⟩;exists⟨.inl ⟨rfl,_,SqL.of ((jg S.pm.symm).trans (Y _ _ C.em))⟩,?_⟩;exists⟨m,_,_,rfl,rfl,(jg S.pm.symm).trans (Y _ _ C.em),by rw[vt];lia,?_⟩;exists⟨.inl ⟨rfl,_,SqL.of ((jg S.mg.symm).trans ((jg S.pg.symm).trans (Y _ _ C.eg)))⟩,?_⟩;exists⟨g,_,_,rfl,rfl,(jg S.mg.symm).trans ((jg S.pg.symm).trans (Y _ _ C.eg)),by rw[vt];lia,?_⟩;walk_at"g";show Q V.non _;have k9:∀x u,x≠pp->x≠m->x≠g->H9 x=some u->upd (upd (upd H9 pp (.lst (N.map V.ref++[.ref pc]))) m (.lst (a6.map V.ref++[.ref R]))) g (.lst (gs.map V.int++[.int Z])) x=some u:=fun x u h1 h2 h3 h=>(jg h3).trans ((jg h2).trans ((jg h1).trans h))
 have ep:upd (upd (upd H9 pp (.lst (N.map V.ref++[.ref pc]))) m (.lst (a6.map V.ref++[.ref R]))) g (.lst (gs.map V.int++[.int Z])) pp=some (.lst ((N++[pc]).map V.ref)):=(jg S.pg).trans ((jg S.pm).trans (by rw[jt,vi];rfl));have em:upd (upd (upd H9 pp (.lst (N.map V.ref++[.ref pc]))) m (.lst (a6.map V.ref++[.ref R]))) g (.lst (gs.map V.int++[.int Z])) m=some (.lst ((a6++[R]).map V.ref)):=(jg S.mg).trans (by rw[jt,vi];rfl);have eg:upd (upd (upd H9 pp (.lst (N.map V.ref++[.ref pc]))) m (.lst (a6.map V.ref++[.ref R]))) g (.lst (gs.map V.int++[.int Z])) g=some (.lst ((gs++[Z]).map V.int)):=by rw[jt,vi];rfl
 generalize upd (upd (upd H9 pp (.lst (N.map V.ref++[.ref pc]))) m (.lst (a6.map V.ref++[.ref R]))) g (.lst (gs.map V.int++[.int Z]))=Hf at k9 ep em eg|-;have kt:∀c xs,H c=some (.tup xs)->Hf c=some (.tup xs):=fun c xs h=>k9 _ _ (nt h).1 (nt h).2.1 (nt h).2.2 (Y _ _ h)
 refine q pc R hs Z Hf (fun x u h1 h2 h3 h=>k9 x u h1 h2 h3 (Y _ _ h)) ⟨⟨kt _ _ r.t,k9 _ _ S.lp S.lm S.lg (Y _ _ r.l),r.la.mono fun c x h=>kt _ _ h,ep,?_⟩,em,?_,eg,by rw[vn];exact nl,by rw[vn,vn,ml];rfl,by rw[vn,vn,gl];rfl,by rw[vn];show l.length+1<=60;lia,fun ks hk=>?_,fun j hj=>?_,l1,l8⟩ ⟨S.lp,S.lm,S.lg,S.pm,S.pg,S.mg,fun x hx=>?_⟩ ar aw av.2
 ·rw[xV];exact(r.pa.mono fun c x h=>PartAt.keep kt h).snoc ⟨a,k9 _ _ aJ aI aH t9,FormAt.keep kt hf⟩
 ·exact(All2.monoM C.am fun c hc ks h=>k9 _ _ (S.ma c hc).1 (S.ma c hc).2.1 (S.ma c hc).2.2 (Y _ _ h)).snoc (k9 _ _ z1 z2 z3 (s9 _ _ az))
 ·rcases vg.mp hk with z | z
  ·exact C.m8 ks z
  ·rw[vo.mp z];lia
 ·rw[vn]at hj;have an:j<l.length+1:=hj;by_cases c:j<l.length
  ·rw[qF (by lia)];exact a2 j c
  ·rw[show j=gs.length by lia,JF];exact⟨av.1,by lia⟩
 ·rcases vg.mp hx with z | z
  ·exact S.ma x z
  ·rw[vo.mp z];exact⟨z1,z2,z3⟩
theorem wP(T:Txt K mg t)(QF:FnOk P w K mg base CX0 1 t.QK t.QS ["_law_script","_law_k"] (sp_poolC K))(jz:FnOk P w K mg base CX0 1 t.JP t.JR ["_law_pool_here","_law_many"] (sp_takeD))(QG:FnOk P w K mg base CX0 1 t.QL t.QT ["_law_place","_law_k"] (sp_wordC))(jM:FnOk P w K mg base CX0 2 t.qk t.qm ["_law_pool_here","_law_most"] (sp_takeD))(Zo:FnOk P w K mg base CX0 4 t.Zv t.ZB ["_law_pool_here","_law_book_here","_law_moves","_law_longs","_law_most"] (sp_formC))(zw:FnOk P w K mg base CX0 1 t.zE t.zL ["_law_book_here","_law_moves","_law_longs","_law_name","_law_form_here"] (sp_putC)):FnOk P w K mg base CX0 5 t.Zu t.ZA ["_law_script","_law_start","_law_most"] (sp_bookC K):=by
 specialize T.YI.F.ok jQ;obtain⟨a,ns,start,R,rfl,hS,aB,bc,br,b7,b8,q⟩:=h;refine⟨_,(jb (jm (i:=3) jQ.nd rfl (.inr rfl) (jk T.Zi QF hr (ja (pv 0) (ja (pv 1) jc))))
  (jb (jm (i:=4) jQ.nd rfl (.inl rfl) (jk T.jJ jz hr (ja (pv 3) (ja jd jc))))
  (jb (jm (i:=5) jQ.nd rfl (.inl rfl) (jk T.jJ jz hr (ja (pv 3) (ja jd jc))))
  (jb (jm (i:=6) jQ.nd rfl (.inr rfl) (jh jA (jE (ja (jE (ja jD (ja jD (ja jD jc)))) (ja (jE (ja jD (ja jD (ja jD jc)))) (ja (jE (ja jD (ja jD (ja jD jc)))) jc)))) (jk T.jJ jz hr (ja (pv 3) (ja jd jc)))))
  (jb (jm (i:=7) jQ.nd rfl (.inl rfl) (jq j7 jd (jk T.jJ jz hr (ja (pv 3) (ja jd jc)))))
  (jb (jm (i:=8) jQ.nd rfl (.inl rfl) (jN (ja (j5 (ow:=["_law_k"]) (ci:=[6,3,2]) rfl (CompScope.of (defScope qX) ["_law_script","_law_start","_law_most","_law_pool_here","_law_place","_law_called","_law_order","_law_many","_law_book_here","_law_moves","_law_longs","_law_k","_law_name","_law_last"] rfl rfl (by decide +kernel)) (jZ (by decide)) (qe (by rfl) T.Qi (ja (jq j7 jd (jk T.jJ jz hr (ja (pv 3) (ja jd jc)))) jc)) (fun _ _ _ _ _=>⟨(ji (i:=0) (jK ["_law_script","_law_start","_law_most","_law_pool_here","_law_place","_law_called","_law_order","_law_many","_law_book_here","_law_moves","_law_longs","_law_k","_law_name","_law_last"] rfl (by decide +kernel)) rfl (.inl rfl)),Jx,(jN (ja (jh (Jd (K:=K) rfl) (pv 1) (pv 0)) (ja (jk T.Jk jM hr (ja (pv 2) (ja (jq j7 (pv 3) jd) jc))) jc)))⟩)) (ja (jE jc) jc))))
  (jb (jm (i:=9) jQ.nd rfl (.inl rfl) (jE jc))
  (jb (jm (i:=10) jQ.nd rfl (.inl rfl) (jE jc))
  (jb (Jt PassesOwn.never rfl (qe (by rfl) T.Qi (ja (pv 7) jc)) (ji (i:=11) jQ.nd rfl (.inl rfl))
   (jb (jm (i:=12) jQ.nd rfl (.inl rfl) (jk T.Zj QG hr (ja (pv 4) (ja (pv 11) jc))))
   (jb (QA (PW.pt (ZH (jp Jo (pv 5) jd (nomark _)) (zY (jp Jo (pv 11) jd (nomark _)))))
    (jf (jm (i:=12) jQ.nd rfl (.inl rfl) (jh jo (jh jA (jh jo (pv 8) jd) jd) jd)))
    jy)
   (jf (jW (jk T.ye zw hr (ja (pv 8) (ja (pv 9) (ja (pv 10) (ja (pv 12) (ja (jk T.YJ Zo hr (ja (jk T.Zi QF hr (ja (pv 0) (ja (jq j7 (jq j7 (pv 1) jd) (pv 11)) jc))) (ja (pv 8) (ja (pv 9) (ja (pv 10) (ja (pv 2) jc)))))) jc)))))))))))
  (jb (zX (i:=13) (ow:=["_law_part"]) (ci:=[]) rfl (CompScope.of (defScope qX) ["_law_script","_law_start","_law_most","_law_pool_here","_law_place","_law_called","_law_order","_law_many","_law_book_here","_law_moves","_law_longs","_law_k","_law_name","_law_last"] rfl rfl (by decide +kernel)) (jZ (by decide)) jQ.nd rfl (.inl rfl) (jI (Qz Wv (jh jo (pv 8) jd) (Q1 (zn qO jd)) zW)) (fun _ _ _ _ _=>⟨(ji (i:=0) (jK ["_law_script","_law_start","_law_most","_law_pool_here","_law_place","_law_called","_law_order","_law_many","_law_book_here","_law_moves","_law_longs","_law_k","_law_name","_law_last"] rfl (by decide +kernel)) rfl (.inl rfl)),Jx,(jh (Jf (K:=K) rfl) (pv 0) jd)⟩))
  (jb (jW (jk T.ye zw hr (ja (pv 8) (ja (pv 9) (ja (pv 10) (ja (jk T.Zj QG hr (ja (pv 4) (ja (pv 7) jc))) (ja (jN (ja jD (ja (zl Q9 (by rfl) T.wg km (ja (jq w4 (pv 13) (Qz Wv (pv 13) zW (Q1 jd))) jc)) jc))) jc)))))))
  (jf (jw (jN (ja (pv 8) (ja (jh jA (pv 10) (zn qO jd)) jc)))))))))))))))),?_⟩
 refine ju (σ':=[some _,some _,some _,none,none,none,none,none,none,none,none,none,none,none]) rfl ?_
 try dsimp only[cxOf,Cx.nox]
 have sz:(200:Nat)<sizeLine:=by decide
 exists⟨a,ns,start,rfl,hS,aB,bc,by lia,fun p y0 H1 s1 hp e1=>?_⟩;exists⟨p,y0,4,rfl,e1,by lia,by lia,fun aH y1 H2 l0 l1 x2 e2=>?_⟩;exists⟨p,y1,2,rfl,e2,by lia,by lia,fun cl y2 H3 c0 c1 x3 e3=>?_⟩;obtain⟨U,rfl,ad⟩:∃U:Nat,aH=(U:Int)/\U<4:=⟨aH.toNat,by lia,by lia⟩
 obtain⟨C2,rfl,aV⟩:∃C2:Nat,cl=(C2:Int)/\C2<2:=⟨cl.toNat,by lia,by lia⟩
 have sp:∀{G G':Hp},Same H G->Ex p G G'->Same H G':=fun s x c u h=>x _ _ (je h hp) (s _ _ h)
 have s3:Same H H3:=sp (sp s1 x2) x3;clear x2 x3 e1 e2 s1;clear H1 H2;exists⟨uE,?_⟩;walk_at"f o0 ho0 H4 s4 t4";exists⟨uE,?_⟩;walk_at"f o1 ho1 H5 s5 t5";exists⟨uE,?_⟩;walk_at"f o2 ho2 H6 s6 t6";exists⟨uE,?_⟩;walk_at"f oo hoo H7 s7 t7";have am:=s4.trans (s5.trans (s6.trans s7));exists⟨p,y2,3,rfl,am _ _ e3,by lia,by lia,fun tt y3 H8 t0 t1 x8 e8=>?_⟩;obtain⟨I,rfl,aC⟩:∃I:Nat,tt=(I:Int)/\I<3:=⟨tt.toNat,by lia,by lia⟩
 have s8:=sp (s3.trans am) x8;have np:∀{c u} {G:Hp},G p=some u->G c=none->c≠p:=fun h1 h2=>(je h1 h2).symm
 have z0:o0≠p:=np e3 ho0;have z1:o1≠p:=np (s4 _ _ e3) ho1;have z2:o2≠p:=np (s5 _ _ (s4 _ _ e3)) ho2;have z3:oo≠p:=np (s6 _ _ (s5 _ _ (s4 _ _ e3))) hoo;have a3:∃oi,atI [V.ref o0,V.ref o1,V.ref o2] (I:Int)=some (.ref oi)/\H8 oi=some (.lst ((ordB I).map V.str))/\oi≠p:=by
  have h:I=0\/I=1\/I=2:=by lia
  rcases h with rfl | rfl | rfl
  ·exact⟨o0,rfl,x8 _ _ z0 (s7 _ _ (s6 _ _ (s5 _ _ t4))),z0⟩
  ·exact⟨o1,rfl,x8 _ _ z1 (s7 _ _ (s6 _ _ t5)),z1⟩
  ·exact⟨o2,rfl,x8 _ _ z2 (s7 _ _ t6),z2⟩
 obtain⟨oi,aA,a3,aM⟩:=a3;refine ixLm (SqL.of (x8 _ _ z3 t7)) (aA) ?_;clear z0 z1 z2 z3 hoo ho2 ho1 ho0 t4 t5 t6 t7 aA;have a9:=s8;have ax:=e8;have aq:oi≠p:=aM;have a4:=a3;clear a3 aM e8 e3 s8 am s3;exists⟨p,y3,9,rfl,ax,by lia,by lia,fun mn y4 bd bp bq ao ay=>?_⟩;have aI:=sp a9 ao;have a5:=ao _ _ aq a4;clear a9 ax ao a4;obtain⟨o,rfl,m2,bo⟩:∃o:Nat,mn=(o:Int)-2/\2<=o/\o<=10:=⟨(mn+2).toNat,by lia,by lia,by lia⟩
 exists⟨p,y4,3,rfl,ay,by lia,by lia,fun lm y5 aP bl bm ap az=>?_⟩;have aJ:=sp aI ap;have a6:=ap _ _ aq a5;clear aI a5 ay ap;obtain⟨LL,aW,L1,L8⟩:∃LL:Nat,1+lm=(LL:Int)/\1<=LL/\LL<=3:=⟨(1+lm).toNat,by lia,by lia,by lia⟩
 have o8:=j1V (t:=I);have ac:∀{k:Nat},k<8->(ordC I)[k]?=some ((ordC I).getD k ⟨#[]⟩):=fun {k} hk=>by
  rw[vy,vz (by lia)];rfl
 have av:∀{k:Nat},k<3->(ordB I)[k]?=some ((ordC I).getD k ⟨#[]⟩):=fun {k} hk=>by
  have h3:(ordB I).length=3:=by
   have:=o8;unfold ordC at this;rw[vn]at this;have:([("leg" : Str),"wing","tail","eye","paw"]:List Str).length=5:=rfl;lia
  rw[<-ac (show k<8 by lia)];unfold ordC;rw[vC (by lia)]
 walk_at"g";rw[aW];refine⟨_,rfl,by lia,by lia,?_⟩;rw[Int.toNat_natCast];refine qM (fun i ys O=>IvE3 fun(F:List Addr) (B:List (Str×Int)) (y:Int)=>IvA7 (ys=F.map V.ref) (F.length=i) (All2 (LimbAt O) F B) (nmsOf B=(ordC I).take i) (∀q∈B,0<=q.2/\q.2<=10^18) (Same H O) (O oi=some (.lst ((ordB I).map V.str))/\O p=some (.lst [.int y]))) ⟨[],[],y5,rfl,rfl,.nil,rfl,(fun q hq=>nomatch hq),aJ,a6,az⟩ ?_ ?_
 ·rintro i ys O hi ⟨F,B,y,rfl,ll,al,nm,lh,sm,eo,ep⟩;have i8:i<8:=by lia
  have i3:i<3:=by lia
  refine jX (σ':=[none,some _,some _,some _]) rfl ?_;exists iteT ?_;exists ixLm (SqL.of eo) (by rw[uv];exact jL (by rw[vv,av i3];rfl)) ?_;exists⟨p,y,R+1,rfl,ep,by lia,by lia,fun v y' au v0 v1 x' aS=>?_⟩;exists⟨uD,?_⟩;walk_at"f pc hpc H3 s3 t3";have kt:∀c xs,O c=some (.tup xs)->H3 c=some (.tup xs):=fun c xs h=>s3 _ _ (x' _ _ (ZF h ep fun z=>by cases z) h)
  refine⟨by rw[vt];lia,F++[pc],B++[((ordC I).getD i ⟨#[]⟩,v)],y',by rw[vi];rfl,by rw[vn,ll];rfl,(al.mono fun c x h=>kt _ _ h).snoc t3,?_,fun q hq=>?_,(sp sm x').trans s3,s3 _ _ (x' _ _ aq eo),s3 _ _ aS⟩
  ·rw[take_snoc (ac i8),<-nm];unfold nmsOf;rw[vi];rfl
  ·rcases vg.mp hq with z | z
   ·exact lh q z
   ·rw[vo.mp z];exact⟨v0,by show v<=10^18;lia⟩
 rintro ys be ⟨F,B,y6,rfl,ll,al,nm,lh,sm,eo,ep⟩;clear aJ a6 az aP;have bn:B.length=LL:=by rw[<-al.1];exact ll
 refine⟨by rw[vt];lia,?_⟩;walk_at"f pl hpl H14 s14 t14";exists⟨vA _,?_⟩;walk_at"f pp hpp H15 s15 t15";exists⟨uD,?_⟩;walk_at"f b hb H16 s16 t16";exists⟨vA _,?_⟩;walk_at"f m hm H17 s17 t17";exists⟨vA _,?_⟩;walk_at"f g hg H18 s18 t18";obtain⟨nd,nW⟩:=j4s ad aV aC;obtain⟨b5,lW⟩:=j3u aC;have ng:∀{k:Nat},k<13->(nmC U C2 ((ordC I).getD 0 ⟨#[]⟩)).getD k ⟨#[]⟩=if C2=1/\k=1 then(ordC I).getD 0 ⟨#[]⟩else wdC U k:=fun h=>j3n h
 have nl:=j3o (p:=U) (c:=C2) (x:=(ordC I).getD 0 ⟨#[]⟩);generalize nmC U C2 ((ordC I).getD 0 ⟨#[]⟩)=names at nd nW ng nl;have a8:(nmsOf B).Nodup:=by rw[nm];exact b5.sublist (take_sublist _ _)
 have b3:∀x∈nmsOf B,Ws.isW x=true:=fun x hx=>lW x (by rw[nm]at hx;exact mem_of_mem_take hx)
 have f0:∃v0,B[0]?=some ((ordC I).getD 0 ⟨#[]⟩,v0):=by
  have e:(nmsOf B)[0]?=some ((ordC I).getD 0 ⟨#[]⟩):=by rw[nm,uf (by lia),ac (by lia)]
  unfold nmsOf at e;rw[vv]at e;obtain⟨z,hz,ez⟩:=vf.mp e;exact⟨z.2,by rw[hz,<-ez]⟩
 obtain⟨v0,f0⟩:=f0;have aa:=sm.trans (s14.trans (s15.trans (s16.trans (s17.trans s18))));have BC:BkC b pl pp m g F [] [] B names [] [] [] H18:=⟨⟨s18 _ _ (s17 _ _ t16),s18 _ _ (s17 _ _ (s16 _ _ (s15 _ _ t14))),al.mono fun c x h=>s18 _ _ (s17 _ _ (s16 _ _ (s15 _ _ (s14 _ _ h)))),s18 _ _ (s17 _ _ (s16 _ _ t15)),.nil⟩,s18 _ _ t17,.nil,t18,vA _,rfl,rfl,vA _,(fun ks hk=>nomatch hk),fun j hj=>uB hj (Nat.not_lt_zero j),by lia,by lia⟩
 have SP:Sep pl pp m g []:=⟨je t14 hpp,je (s16 _ _ (s15 _ _ t14)) hm,je (s17 _ _ (s16 _ _ (s15 _ _ t14))) hg,je (s16 _ _ t15) hm,je (s17 _ _ (s16 _ _ t15)) hg,je t17 hg,fun x hx=>by cases hx⟩
 have a7:H pp=none:=by
  cases e:H pp with
  | none=>rfl
  | some u=>rw[s14 _ _ (sm _ _ e)]at hpp;cases hpp
 have aE:H m=none:=by
  cases e:H m with
  | none=>rfl
  | some u=>rw[s16 _ _ (s15 _ _ (s14 _ _ (sm _ _ e)))]at hm;cases hm
 have aD:H g=none:=by
  cases e:H g with
  | none=>rfl
  | some u=>rw[s17 _ _ (s16 _ _ (s15 _ _ (s14 _ _ (sm _ _ e))))]at hg;cases hg
 clear sm eo ep hpl hpp hb hm hg t14 t15 t16 t17 t18 s14 s15 s16 s17 s18 al ll;exists⟨_,rfl,by lia,by lia,?_⟩;refine Yu (fun i σ O=>IvE7 fun(ai aj:Option V) (J L:List Addr) (l:List Fn) (W:List (List Int)) (gs:List Int)=>IvA6 (σ=[some (.ref a),some (.int start),some (.int R),some (.ref p),some (.int (U:Nat)),some (.int (C2:Nat)),some (.ref oi),some (.int (2+((o:Nat)-2))),some (.ref b),some (.ref m),some (.ref g),ai,aj,none]) (Same H O) (BkC b pl pp m g F J L B names l W gs O) (Sep pl pp m g L) (MvOk B.length W) (DUk (nmsOf B) l W gs/\l.length=i))
  ⟨_,_,[],[],[],[],[],rfl,aa,BC,SP,(fun ks hk=>nomatch hk),.nil,rfl⟩ ?_ ?_
 ·rintro i σ O hi ⟨ai,aj,J,L,l,W,gs,rfl,sm,C,S,mo,D,fl⟩;have bk:i<10:=by lia
  exists⟨U,i,by rw[uv];rfl,ad,by lia,fun H1 s1=>?_⟩;have N:=C.same s1;exists⟨fun σ au=>σ=[some (.ref a),some (.int start),some (.int R),some (.ref p),some (.int (U:Nat)),some (.int (C2:Nat)),some (.ref oi),some (.int (2+((o:Nat)-2))),some (.ref b),some (.ref m),some (.ref g),some (.int (0+(i:Int))),some (.str (names.getD i ⟨#[]⟩)),none]/\H1=au,?_,?_⟩
  rotate_left
  ·exists iteD (fun c=>?_) (fun c=>?_)
   ·exists iteD (fun d=>?_) (fun d=>?_)
    ·exists ixTm (SqT.of N.bk.t) rfl ?_;walk_at"g";obtain⟨c0,aR,ae⟩:=N.bk.la.get f0
     replace ae:H1 c0=some (.tup [.str ((ordC I).getD 0 ⟨#[]⟩),.int v0]):=ae
     refine ixLm (SqL.of N.bk.l) (jL (j:=0) (by rw[vv,aR];rfl)) ?_;exists ixTm (SqT.of ae) rfl ?_;exists⟨?_,rfl⟩;rw[ng (by lia),vc ⟨by lia,by lia⟩]
    ·refine⟨?_,rfl⟩;rw[ng (by lia),vb (by lia)]
   ·refine iteF ?_;refine⟨?_,rfl⟩;rw[ng (by lia),vb (by lia)]
  rintro σ' H2 ⟨rfl,rfl⟩;have an:=sm.trans s1;have Y:(10:Int)^40*8^l.length>=10^40:=vZ (by decide) (pow8 (vA l.length));have af:8*((10:Int)^40*8^l.length)=10^40*8^(l.length+1):=by
   have e:(8:Int)^(l.length+1)=8^l.length*8:=Int.pow_succ _ _;rw[e];lia
  have ah:=Wh (n:=l.length+1) (by lia);exists⟨a,ns,_,rfl,an.seq hS,aB,by lia,by lia,fun p' y2 H2 s2 b0 e2=>?_⟩;have ar:=N.same s2;have Z:∀{c u},H1 c=some u->c≠p':=fun h=>je h b0
  have aG:∀c∈L,c≠p':=fun c hc=>by
   obtain⟨j,hj⟩:=List.mem_iff_getElem?.mp hc;have jl:=(vx.mp hj).1;have bi:=N.am.1;exact Z (N.am.2 j c (W.getD j []) hj (by rw[vy,vz (by lia)];rfl))
  exists⟨p',b,pl,pp,m,g,y2,R,F,J,L,B,names,l,W,gs,rfl,e2,ar,Z N.bk.t,Z N.bk.l,Z N.bk.p,Z N.em,Z N.eg,aG,b7,b8,nW,fun fa f y3 H3 x3 e3 hf a0 ag=>?_⟩;have C3:=ar.ex x3 e2 (Z N.bk.l) (Z N.bk.p) (Z N.em) (Z N.eg) aG;have bb:Same H H3:=fun c u h=>x3 _ _ (Z (an _ _ h)) (s2 _ _ (an _ _ h))
  exists⟨b,pl,pp,m,g,fa,F,J,L,B,names,l,W,gs,f,10^40*8^l.length,by rw[fl];rfl,C3,S,mo,hf,a0,ag,by lia,by lia,nd,Y,by lia,D.bnd,fun c a1 ks gg H4 k4 C4 S4 mv lg gb=>?_⟩;have X:=C4.g0 l.length (by rw[vn];exact Nat.lt_succ_self _);rw[<-D.gl,JF]at X;refine⟨_,_,J++[c],L++[a1],l++[f],W++[ks],gs++[gg],rfl,fun x u h=>k4 x u (je h a7) (je h aE) (je h aD) (bb _ _ h),C4,S4,mo.snoc (by have:=mv.ok (by rw[show(nmsOf B).length=B.length from vt _];exact mo);rw[show(nmsOf B).length=B.length from vt _]at this;exact this),D.add a0 mv lg ⟨X.1,by lia⟩,by rw[vn,fl];rfl⟩
 rintro σ' bf ⟨ai,aj,J,L,l,W,gs,rfl,sm,C,S,mo,D,fl⟩
 replace fl:l.length=o:=by lia
 clear BC SP aa;have ba:J.length=l.length:=C.bk.pa.1.trans qc;exists ixTm (SqT.of C.bk.t) rfl ?_;exists⟨pp,_,rfl,SqL.of C.bk.p,?_⟩;walk_at"f pc hpc H20 s20 t20";rw[j4S]at t20;rw[vt,ba,fl]at t20;have as:=C.same s20;have lc:=j0z m2;have b4:((J.map V.ref).drop (o-3)).length=(lastC o).length:=by
  unfold lastC;rw[length_drop,length_drop,vt,length_range];lia
 exists⟨pc,rfl,⟨_,SqL.of t20⟩,?_⟩;refine jR (xs:=(J.map V.ref).drop (o-3)) (fun i ys O=>ys=(((lastC o).take i).map fun j=>names.getD j ⟨#[]⟩).map V.str/\H20=O) ⟨rfl,rfl⟩ ?_ ?_ ?_
 ·rintro i ys O _ ⟨rfl,rfl⟩;exact SqL.of t20
 ·rintro i v ys O hv ⟨rfl,rfl⟩;have il:=(vx.mp hv).1;rw[List.getElem?_drop]at hv;obtain⟨c,pt,rfl,b1,fb,aX,hf⟩:=as.bk.pa.at_ref hv;obtain⟨f,aY,rfl⟩:=JA b1;have bj:=(vx.mp aY).1;refine jX (σ':=[none]) rfl ?_;exists iteT ?_;exists ixTm (SqT.of aX) rfl ?_;refine⟨by rw[vt,vt,vh];lia,?_,rfl⟩;rw[take_snoc (show(lastC o)[i]?=some (o-3+i) by unfold lastC;rw[List.getElem?_drop,List.getElem?_range (by lia)]),vi,vi];rfl
 rintro ys O ⟨rfl,rfl⟩;rw[b4,v7];refine⟨by rw[vt,vt];lia,?_⟩;walk_at"f la hla H21 s21 t21";have aN:=as.same s21;exists⟨U,o,by rw[show(2+((o:Int)-2))=o by lia];rfl,ad,by lia,fun bg ak=>?_⟩;exists⟨la,_,rfl,SqL.of (ak _ _ t21),?_⟩;walk_at"f l1 hl1 H23 s23 t23";rw[show(some 1:Option Int)=some ((1:Nat):Int)from rfl,j4c]at t23;refine⟨la,l1,_,_,rfl,rfl,s23 _ _ (ak _ _ t21),t23,by rw[vh,vt,vt];lia,?_⟩;walk_at"f l2 hl2 H24 s24 t24";exists⟨l2,_,rfl,.inl ⟨SqL.of t24,?_⟩⟩;walk_at"f tp htp H25 s25 t25";exists⟨uD,?_⟩;walk_at"f fa hfa H26 s26 t26";have a2:=ak.trans (s23.trans (s24.trans (s25.trans s26)));have aO:=aN.same a2;have aK:=sm.trans (s20.trans (s21.trans a2));have hf:FormAt H26 fa (toldF names (.row (lastC o++(lastC o).take 1))):=by
  refine⟨tp,t26,?_⟩;rw[s26 _ _ t25,vi,vi,List.map_take,List.map_take]
 have Y:(10:Int)^40*8^l.length>=10^40:=vZ (by decide) (pow8 (vA l.length));have af:8*((10:Int)^40*8^l.length)=10^40*8^(l.length+1):=by
  have e:(8:Int)^(l.length+1)=8^l.length*8:=Int.pow_succ _ _;rw[e];lia
 have ah:=Wh (n:=l.length+1) (by lia);have a0:PreN (nmsOf B) W l.length (.row (lastC o++(lastC o).take 1)):=by
  refine⟨fun z=>?_,?_,fun j hj=>?_⟩
  ·have:(lastC o++(lastC o).take 1).length=0:=by rw[z];rfl
   rw[vn]at this;lia
  ·rw[vn,vh];lia
  ·rw[fl];rcases vg.mp hj with z | z
   ·exact WR z
   ·exact WR (mem_of_mem_take z)
 have b9:names.getD l.length ⟨#[]⟩=wdC U o:=by rw[fl,ng (by lia),vb (by lia)]
 exists⟨b,pl,pp,m,g,fa,F,J,L,B,names,l,W,gs,_,10^40*8^l.length,by rw[b9];rfl,aO,S,mo,hf,a0,(fun k j z=>by cases z),by lia,by lia,nd,Y,by lia,D.bnd,fun c a1 ks gg aQ b2 ab bh mv lg gb=>?_⟩;have X:=ab.g0 l.length (by rw[vn];exact Nat.lt_succ_self _);rw[<-D.gl,JF]at X;have Ll:(nmsOf B).length=B.length:=vt _;have aF:=mv.ok (by rw[Ll];exact mo);rw[Ll]at aF;have b6:=mo.snoc aF;have D':=D.add a0 mv lg ⟨X.1,by lia⟩;have aL:Same H aQ:=fun x u h=>b2 x u (je h a7) (je h aE) (je h aD) (aK _ _ h)
 have M:(l++[Fn.row (lastC o++(lastC o).take 1)]).length=o+1:=by rw[vn,fl];rfl
 have aT:(gs++[gg]).length=o+1:=by rw[D'.gl];exact M
 have aU:(gs++[gg]).getD ((l++[Fn.row (lastC o++(lastC o).take 1)]).length-1) 0=gg:=by
  rw[M,Nat.add_sub_cancel,<-fl,<-D.gl,JF]
 have aZ:atI ((gs++[gg]).map V.int) (-1)=some (.int gg):=by
  rw[zI (gs:=gs++[gg]) (n:=o+1) (by lia) aT,Nat.add_sub_cancel,<-fl,<-D.gl,JF]
 have aw:=D'.sorted (by rw[Ll];exact b6) (by rw[Ll];lia) (by rw[M];lia);exists ixLm (SqL.of ab.eg) (aZ) ?_;exists⟨uD,?_⟩;walk_at"f r hr' H28 s28 t28";exact q r b pl pp F _ names B _ _ _ H28 (aL.trans s28) (by rw[aU];exact t28) (ab.bk.same s28) aw (aw.sn (by rw[M];lia) nd a8 (by lia) (by rw[M];lia) (by rw[M];lia) lh) (by rw[M];lia) (by rw[M];lia) nl nd nW (by lia) (by lia) a8 b3 S.lp
theorem wO(T:Txt K mg t):FnOk P w K mg base CX0 1 t.QI t.QQ ["_law_cell","_law_long"] (sp_beatZ):=by
 specialize T.YG.F.ok yZ;obtain⟨c,n,rfl,e,a,q⟩:=h;refine⟨_,(jb (jm (i:=2) yZ.nd rfl (.inl rfl) (jq Jp (jq qo (pv 0) jd) (jq YB jd jd)))
  (jb (jY (jp Jo (jq Jp (pv 0) jd) jd (nomark _))
   (jf (jw (jq Jp (pv 2) jd)))
   jy)
  (jb (jY (jp Jo (jq Jp (pv 0) jd) jd (nomark _))
   (jf (jw (jq j7 (jq Ja (jq Jp (pv 2) jd) (pv 1)) (jq Jp (jq qo (pv 2) jd) jd))))
   jy)
  (jb (jY (jp Jo (jq Jp (pv 0) jd) jd (nomark _))
   (jf (jw (jq Jp (pv 2) (pv 1))))
   jy)
  (jf (jw (pv 2))))))),?_⟩
 refine ju (σ':=[some _,some _,none]) rfl ?_
 try dsimp only[cxOf,Cx.nox]
 walk_at"g";have b:=vd (c/4) (show(10:Int)^60≠0 by decide);have d:=ve (c/4) (show(0:Int)<10^60 by decide);generalize c/4%10^60=v at b d|-;exists iteD (fun _=>?_) (fun _=>?_)
 ·exists q _ ?_ ?_<;>lia
 exists iteD (fun _=>?_) (fun _=>?_)
 ·walk_at"g";have:=Int.mul_le_mul (show v%5<=4 by lia) a (by lia) (by lia);have:=vO (show 0<=v%5 by lia) (show 0<=n by lia);refine q _ ?_ ?_<;>lia
 exists iteD (fun _=>?_) (fun _=>?_)
 ·walk_at"g";have:=vd v (show n≠0 by lia);have:=ve v (show 0<n by lia);refine q _ ?_ ?_<;>lia
 ·exists q _ ?_ ?_<;>lia
theorem Kk(T:Txt K mg t)(y:FnOk P w K mg base CX0 8 t.J0 t.JJ ["books","words","beat"] (sp_meeting))(f:FnOk P w K mg base (CX1 P w) 8 t.J0 t.JJ ["books","words","beat"] (xl t.J2)):FnOk P w K mg base CX0 9 t.zD t.zK ["_law_book_here","_law_word_here"] (sp_askedZ t.J2):=by
 specialize T.yA.F.ok JL;obtain⟨b,d,rfl,o,k,q⟩:=h;obtain⟨g,a,e⟩:=T.WC;refine⟨_,(jb (jm (i:=2) JL.nd rfl (.inl rfl) Qy)
  (jb (jm (i:=3) JL.nd rfl (.inl rfl) Qy)
  (jb (j3x (i:=4) ⟨rfl,rfl,rfl,rfl⟩ JL.nd rfl rfl (by rfl) T.wN
   (jf (jm (i:=3) JL.nd rfl (.inl rfl) (Y5 (y.mono (by decide)) hr (by rfl) T.Z3 T.Qp.kp a e pass0 (ja (jE (ja (pv 0) jc)) (ja (jE (ja (pv 1) jc)) jc)))))
   (kW (j4D (j3B (f.mono (by decide)) hr (by rfl) T.Z3 T.Qp.kp a e ⟨rfl,rfl,rfl,rfl⟩ (ja (jE (ja (pv 0) jc)) (ja (jE (ja (pv 1) jc)) jc)))))
   (fun _=>(jf (jm (i:=2) JL.nd rfl (.inl rfl) (pv 4)))))
  (jf (jw (jN (ja (pv 2) (ja (pv 3) jc)))))))),?_⟩
 refine ju (σ':=[some _,some _,none,none,none]) rfl ?_
 try dsimp only[cxOf,Cx.nox]
 have C:(200:Nat)<sizeLine:=by decide
 exists⟨fun σ' p=>IvE2 fun(j m:V)=>IvA2 (σ'=[some (.ref b),some (.str d.x),some j,some m,none]) (Same H p/\(if 12<d.W.getD d.n 0 then∃x,j = .ref x/\p x=some (XcO (.ref t.J2) x)else j = .non/\MeetR [d] 0 m)),?_,?_⟩
 ·by_cases c:12<d.W.getD d.n 0
  ·refine j3A ?_;refine j50 (j29 ?_);exists⟨uC,?_⟩;walk_at"f 1 t";exists⟨uC,?_⟩;walk_at"f 2 t";exists⟨p1,p2,[b],[d],0,rfl,s2 _ _ t1,All2.cons (BkA.same (s1.trans s2) o) .nil,t2,(by show 1<=3;decide),fun x l=>by rw[vo.mp l];exact k.ms,⟨d,vq,c⟩,fun r n=>⟨T.Jr,fun x l=>?_⟩⟩;refine ju (σ':=[some (.ref b),some (.str d.x),some .non,some .non,some (.ref x)]) rfl ?_;exists⟨_,_,rfl,fun c u h=>(jg (je (n _ _ (s2 _ _ (s1 _ _ h))) l)).trans (n _ _ (s2 _ _ (s1 _ _ h))),?_⟩;rw[vc c];exact⟨x,rfl,jt⟩
  ·refine j3z ?_;exists⟨uC,?_⟩;walk_at"f 1 t";exists⟨uC,?_⟩;walk_at"f 2 t";exists⟨p1,p2,[b],[d],0,rfl,s2 _ _ t1,All2.cons (BkA.same (s1.trans s2) o) .nil,t2,(by show 1<=3;decide),fun x l=>by rw[vo.mp l];exact k.ok (by lia),fun v r n M=>?_⟩;refine⟨_,_,rfl,s1.trans (s2.trans n),?_⟩;rw[vb c];exact⟨rfl,M⟩
 rintro σ' H1 ⟨j,m,rfl,s1,h⟩;exists⟨uD,?_⟩;walk_at"f 2 t";refine q p2 j m H2 (s1.trans s2) t2 ?_;by_cases c:12<d.W.getD d.n 0
 ·rw[vc c]at h|-;obtain⟨x,z,B⟩:=h;exact⟨x,z,s2 _ _ B⟩
 ·rw[vb c]at h|-;exact h
theorem yT(T:Txt K mg t)(Ji:FnOk P w K mg base CX0 1 t.J1 t.qb ["named"] (sp_numbers_of))(Yj:FnOk P w K mg base CX0 3 t.K6 t.wB ["book"] (sp_ends))(JX:FnOk P w K mg base CX0 5 t.zj t.zk ["book"] (sp_lengths))(qw:FnOk P w K mg base CX0 3 t.QP t.QX ["book","sizes"] (sp_pieces_of)):FnOk P w K mg base CX0 6 t.Jz t.J3 ["self","book"] (sp_initS t.j9):=by
 specialize T.Yh.ok yY;obtain⟨a,m,b,pl,pp,g,C,R,ps,gs,hs,rfl,ha,B,N,q⟩:=h;refine⟨_,(jb (ze (pv 0) (jk T.Qa Ji hr (ja (jh jo (pv 1) jd) jc)) rfl)
  (jb (ze (pv 0) (j5 (ow:=["name","height"]) (ci:=[]) rfl (CompScope.of (defScope JC) ["self","book"] rfl rfl (by decide +kernel)) (Z1 (by decide) (by decide)) (jI (jh jo (pv 1) jd)) (fun _ _ _ _ _=>⟨(Jy rfl (jr (ji (i:=0) (jK ["self","book"] rfl (by decide +kernel)) rfl (.inl rfl)) (jr (ji (i:=1) (jK ["self","book"] rfl (by decide +kernel)) rfl (.inl rfl)) Jb))),Jx,(pv 1)⟩)) rfl)
  (jb (ze (pv 0) (j5 (ow:=["name","form"]) (ci:=[]) rfl (CompScope.of (defScope JC) ["self","book"] rfl rfl (by decide +kernel)) (Z1 (by decide) (by decide)) (jI (jh jo (pv 1) jd)) (fun _ _ _ _ _=>⟨(Jy rfl (jr (ji (i:=0) (jK ["self","book"] rfl (by decide +kernel)) rfl (.inl rfl)) (jr (ji (i:=1) (jK ["self","book"] rfl (by decide +kernel)) rfl (.inl rfl)) Jb))),Jx,(pv 1)⟩)) rfl)
  (jb (ze (pv 0) (jk T.ZV JX hr (ja (pv 1) jc)) rfl)
  (jb (ze (pv 0) (jk T.xF Yj hr (ja (pv 1) jc)) rfl)
  (jf (ze (pv 0) (jk T.Zk qw hr (ja (pv 1) (ja (Je (pv 0) rfl) jc))) rfl))))))),?_⟩
 refine ju (σ':=[some _,some _]) rfl ?_
 try dsimp only[cxOf,Cx.nox]
 have sz:(200:Nat)<sizeLine:=by decide
 have W:=N.s.w;have gl:=N.s.gl;have l8:=W.l8;have ae:=W.p61;have la:=B.la.1;have ac:=B.pa.1;obtain⟨S,I,n0,X⟩:=B.less ha;have z0:Same S H:=I H fun c u _ h=>h
 exists ixTm (SqT.of B.t) rfl ?_;exists⟨pl,g,nmsOf R,rfl,B.l,by rw[nmsOf,vt];exact la,fun i a x ea ex=>?_,W.ln,by rw[nmsOf,vt];lia,fun d H1 s1 hd ed=>?_⟩
 ·unfold nmsOf at ex;rw[vv]at ex;obtain⟨p,ep,rfl⟩:=vf.mp ex;exact⟨_,B.la.2 i a p ea ep⟩
 exists⟨a,_,m,[],rfl,s1 _ _ ha,T.Jc,T.zc,(by show 0<1000;decide),?_⟩;have nd:d≠a:=fun z=>by rw[z,ha]at hd;cases hd
 generalize e2:upd H1 a _=H2;have k2:∀c u,c≠a->H1 c=some u->H2 c=some u:=fun c u n h=>e2▸(jg n).trans h
 have a2:=yd e2;clear e2;have z2:Same S H2:=I H2 fun c u n h=>k2 _ _ n (s1 _ _ h)
 have B2:=X.same z2;exists ixTm (SqT.of B2.t) rfl ?_;exists⟨pl,rfl,⟨_,SqL.of B2.l⟩,?_⟩;refine jR (xs:=g.map V.ref) (fun i F o=>F=((R.map (·.2)).take i).map V.int/\H2=o) ⟨rfl,rfl⟩ ?_ ?_ ?_
 ·rintro i F o _ ⟨rfl,rfl⟩;exact SqL.of B2.l
 ·rintro i v F o hv ⟨rfl,rfl⟩;obtain⟨a,p,rfl,hp,M⟩:=B2.la.at_ref hv;have hi:=(vx.mp hp).1;refine jX (σ':=[none,none]) rfl ?_;refine qj (SqT.of M) ?_;exists iteT ?_;exists⟨by rw[vt,vh,vt];lia,?_,rfl⟩;rw[take_snoc (show(R.map (·.2))[i]?=some p.2 by rw[vv,hp];rfl),vi];rfl
 rintro F o ⟨rfl,rfl⟩;rw[show(g.map V.ref).length=(R.map (·.2)).length by rw[vt,vt];exact la,v7];refine⟨by rw[vt,vt];lia,?_⟩;walk_at"f 3 t";exists⟨a,_,m,_,rfl,s3 _ _ a2,T.Jc,T.qS,Rm.few (j4 _ _ _) (by decide),?_⟩;have n3:p3≠a:=fun z=>by rw[z,a2]at hp3;cases hp3
 generalize e4:upd H3 a _=H4;have k4:∀c u,c≠a->H3 c=some u->H4 c=some u:=fun c u n h=>e4▸(jg n).trans h
 have a4:=yd e4;clear e4;have z4:Same S H4:=fun c u h=>k4 _ _ (n0 h) (s3 _ _ (z2 _ _ h))
 have B4:=X.same z4;exists ixTm (SqT.of B4.t) rfl ?_;exists⟨pp,rfl,⟨_,SqL.of B4.p⟩,?_⟩;refine jR (xs:=C.map V.ref) (fun i F o=>IvE1 fun(f:List Addr)=>IvA2 (F=f.map V.ref) (All2 (fun a p=>FormAt H4 a p.2) f (ps.take i)/\H4=o)) ⟨[],rfl,.nil,rfl⟩ ?_ ?_ ?_
 ·rintro i F o _ ⟨f,rfl,J,rfl⟩;exact SqL.of B4.p
 ·rintro i v F o hv ⟨f,rfl,J,rfl⟩;obtain⟨a',p,rfl,hp,fb,M,hf⟩:=B4.pa.at_ref hv;have hi:=(vx.mp hp).1;have a5:=J.1;rw[vh]at a5;refine jX (σ':=[none,none]) rfl ?_;refine qj (SqT.of M) ?_;exists iteT ?_;exists⟨by rw[vt];lia,f++[fb],by rw[vi];rfl,?_,rfl⟩;rw[take_snoc hp];exact All2.snoc J hf
 rintro F o ⟨f,rfl,J,rfl⟩;rw[vt,ac,v7]at J;have fl:=J.1;refine⟨by rw[vt];lia,?_⟩;walk_at"f 5 t";exists⟨a,_,m,_,rfl,s5 _ _ a4,T.Jc,T.qT,vE (j4 _ _ _) (vE (Nat.succ_le_succ (j4 _ _ _)) (by decide)),?_⟩;have n5:p5≠a:=fun z=>by rw[z,a4]at hp5;cases hp5
 generalize e6:upd H5 a _=H6;have k6:∀c u,c≠a->H5 c=some u->H6 c=some u:=fun c u n h=>e6▸(jg n).trans h
 have a6:=yd e6;clear e6;have z6:Same S H6:=fun c u h=>k6 _ _ (n0 h) (s5 _ _ (z4 _ _ h))
 exists⟨b,pl,pp,g,C,R,ps,gs,hs,rfl,X.same z6,N.s,fun l7 H7 s7 a1 e7=>?_⟩;exists⟨a,_,m,_,rfl,s7 _ _ a6,T.Jc,T.Jm,few3,?_⟩;have n7:l7≠a:=fun z=>by rw[z,a6]at a1;cases a1
 generalize e8:upd H7 a _=H8;have k8:∀c u,c≠a->H7 c=some u->H8 c=some u:=fun c u n h=>e8▸(jg n).trans h
 have a8:=yd e8;clear e8;have z8:Same S H8:=fun c u h=>k8 _ _ (n0 h) (s7 _ _ (z6 _ _ h))
 exists⟨b,pl,pp,g,C,R,ps,rfl,X.same z8,W,fun l9 as E Y U a3 e9 na lE aE oE=>?_⟩;exists⟨a,_,m,_,rfl,U _ _ a8,T.Jc,T.Qm,Rm.few4,?_⟩;have n9:l9≠a:=fun z=>by rw[z,a8]at a3;cases a3
 generalize L:upd Y a _=H10;have O:∀c u,c≠a->Y c=some u->H10 c=some u:=fun c u n h=>L▸(jg n).trans h
 have k:=yd L;clear L;have ad:Same S H10:=fun c u h=>O _ _ (n0 h) (U _ _ (z8 _ _ h))
 have w7:∀c u,c≠a->H7 c=some u->H10 c=some u:=fun c u n h=>O _ _ n (U _ _ (k8 _ _ n h))
 exists⟨a,_,m,_,_,rfl,k,T.Jc,T.Jm,(j6 (by decide +kernel)).trans qY,?_⟩;exists⟨b,pl,pp,l7,g,C,R,ps,gs,rfl,X.same ad,W,w7 _ _ n7 e7,gl,fun y l j D G a7 a0 _=>?_⟩;exists⟨a,_,m,_,rfl,D _ _ k,T.Jc,T.qG,Rm.few5,?_⟩;have a9:y≠a:=fun z=>by rw[z,k]at G;cases G
 have r:∀c u,c≠a->j c=some u->upd j a (.ins t.j9 m (fldS ⟨d,p3,p5,l7,l9,y,f,as,l⟩)) c=some u:=fun c u n h=>(jg n).trans h
 have u9:∀c u,c≠a->Y c=some u->upd j a (.ins t.j9 m (fldS ⟨d,p3,p5,l7,l9,y,f,as,l⟩)) c=some u:=fun c u n h=>r _ _ n (D _ _ (O _ _ n h))
 have u7:∀c u,c≠a->H7 c=some u->_=some u:=fun c u n h=>u9 _ _ n (U _ _ (k8 _ _ n h))
 have u5:∀c u,c≠a->H5 c=some u->_=some u:=fun c u n h=>u7 _ _ n (s7 _ _ (k6 _ _ n h))
 have u3:∀c u,c≠a->H3 c=some u->_=some u:=fun c u n h=>u5 _ _ n (s5 _ _ (k4 _ _ n h))
 have u1:∀c u,c≠a->H1 c=some u->_=some u:=fun c u n h=>u3 _ _ n (s3 _ _ (k2 _ _ n h))
 have nq:∀{c:Addr} {xs:List V},j c=some (.lst xs)->c≠a:=fun h z=>by rw[z,D _ _ k]at h;cases h
 have ab:∀{c:Addr} {xs:List V},j c=some (.tup xs)->c≠a:=fun h z=>by rw[z,D _ _ k]at h;cases h
 have nt:∀{c:Addr} {xs:List V},Y c=some (.tup xs)->c≠a:=fun h z=>by rw[z,U _ _ a8]at h;cases h
 have nl:∀{c:Addr} {xs:List V},Y c=some (.lst xs)->c≠a:=fun h z=>by rw[z,U _ _ a8]at h;cases h
 have aa:∀{c:Addr} {xs:List V},H4 c=some (.tup xs)->c≠a:=fun h z=>by rw[z,a4]at h;cases h
 exact q ⟨d,p3,p5,l7,l9,y,f,as,l⟩ E _ (fun c u n h=>u1 _ _ n (s1 _ _ h)) ⟨⟨m,jt⟩,u1 _ _ nd ed,u3 _ _ n3 t3,u5 _ _ n5 t5,All2.mono J fun c p h=>FormAt.put (fun b xs hb=>u5 _ _ (aa hb) (s5 _ _ hb)) h,u7 _ _ n7 e7,u9 _ _ n9 e9,lE,
  All2.mono aE fun c e ⟨bs,Z,h2⟩=>⟨bs,u9 _ _ (nl Z) Z,All2.mono h2 fun b q h=>u9 _ _ (nt h) h⟩,oE,r _ _ a9 a7,All2.mono a0 fun c e ⟨bs,Z,h2⟩=>⟨bs,r _ _ (nq Z) Z,All2.mono h2 fun b q h=>r _ _ (ab h) h⟩⟩
theorem j0N(T:Txt K mg t)(qL:FnOk P w K mg base CX0 1 t.Qt t.Qv ["pieces","sizes","gone"] (sp_progress)):FnOk P w K mg base CX0 2 t.kh t.kz ["pieces","sizes","gone"] (sp_within):=by
 specialize T.WD.F.ok Qq;obtain⟨l,S,n,bs,C,gs,rfl,el,hq,Y,q8,ok,t1,t2,q⟩:=h;refine⟨_,(jb (jm (i:=3) Qq.nd rfl (.inl rfl) (jE jc))
  (jb (Jt PassesOwn.never rfl (jI (jk T.yf qL hr (ja (pv 0) (ja (pv 1) (ja (pv 2) jc))))) (Jy rfl (jr (ji (i:=4) Qq.nd rfl (.inl rfl)) (jr (ji (i:=5) Qq.nd rfl (.inl rfl)) (jr (ji (i:=6) Qq.nd rfl (.inl rfl)) (jr (ji (i:=7) Qq.nd rfl (.inl rfl)) Jb)))))
   (jb (QA (jp Q0 (pv 6) jd (nomark _))
    (jf (jW (qp PySem.F.plainAttrs_list PySem.F.slot_list_append PySem.F.type_list_append jV (pv 3) (ja (jN (ja (pv 4) (ja (jh jA (pv 1) (pv 4)) jc))) jc))))
    jy)
   (jf (jY (jp w6 (pv 7) Qy (nomark _))
    (jf (jW (qp PySem.F.plainAttrs_list PySem.F.slot_list_append PySem.F.type_list_append jV (pv 3) (ja (jN (ja (pv 4) (ja (pv 7) jc))) jc))))
    jy))))
  (jf (jw (pv 3))))),?_⟩
 refine ju (σ':=[some _,some _,some _,none,none,none,none,none]) rfl ?_
 try dsimp only[cxOf,Cx.nox]
 have sz:(10000:Nat)<sizeLine:=by decide
 have a0:∀j,j<gs.length->gs[j]?=some (gs.getD j 0):=fun j h=>by
  rw[vy,vz h];rfl
 exists⟨vA _,?_⟩;walk_at"f p hp H1 s1 e1";have np:∀{c u},H c=some u->c≠p:=fun h=>je h hp
 exists⟨l,S,n,bs,C,gs,rfl,s1 _ _ el,All2.mono hq fun c x h=>s1 _ _ h,s1 _ _ Y,q8,ok,t1,t2,fun l2 W H2 s2 J e2 G=>?_⟩;have a4:=wK (gs:=gs) (t:=n) C;have U:=G.1;have a1:l2≠p:=fun z=>by rw[z,e1]at J;cases J
 have D:=s2 _ _ e1;exists⟨l2,rfl,⟨_,SqL.of e2⟩,?_⟩;refine Ju (xs:=W.map V.ref) (fun i σ f=>IvE5 fun(M N O R:Option V) (e:List Addr)=>IvA4 (σ=[some (.ref l),some (.ref S),some (.int n),some (.ref p),M,N,O,R]) (∀c u,c≠p->H2 c=some u->f c=some u) (f p=some (.lst (e.map V.ref))) (e.length<=2*i/\GonAt f e (((prg gs n C).take i).flatMap (wth1 gs))))
  ⟨_,_,_,_,[],rfl,fun c u _ h=>h,D,va _,.nil⟩ ?_ ?_ ?_
 ·rintro i σ f _ ⟨M,N,O,R,e,rfl,m,g,la,B⟩;exact SqL.of (m _ _ a1 e2)
 ·rintro i v σ f hv ⟨M,N,O,R,e,rfl,m,g,la,B⟩;obtain⟨c,y,rfl,hy,b⟩:=G.at_ref hv;have hi:=(vx.mp hy).1;have a2:c≠p:=fun z=>by rw[z,D]at b;cases b
  obtain⟨x,hx,ex⟩:=Z4 (vj hy);have y1:y.1<gs.length:=by rw[kS ex];exact(ok x hx).1
  have k:((prg gs n C).take (i+1)).flatMap (wth1 gs)=((prg gs n C).take i).flatMap (wth1 gs)++wth1 gs y:=by
   rw[take_snoc hy,flatMap_append,flatMap_cons,flatMap_nil,append_nil]
  have Z:f S=some (.lst (gs.map V.int)):=m _ _ (np Y) (s2 _ _ (s1 _ _ Y));refine j28 (SqT.of (m _ _ a2 b)) ?_;exists⟨fun σ' H3=>IvE1 fun(a:List Addr)=>IvA4 (σ'=[some (.ref l),some (.ref S),some (.int n),some (.ref p),some (.int (y.1:Nat)),some (.int y.2.1),some (.int y.2.2.1),some (optV y.2.2.2)]) (∀c u,c≠p->f c=some u->H3 c=some u) (H3 p=some (.lst (a.map V.ref))) (a.length<=2*i+1/\GonAt H3 a (((prg gs n C).take i).flatMap (wth1 gs)++(if 0<y.2.2.1 then[(y.1,gs.getD y.1 0)]else[]))),?_,?_⟩
  rotate_left
  ·exists iteD (fun X=>?_) (fun X=>?_)
   ·exists⟨.inl ⟨rfl,_,SqL.of g⟩,?_⟩;exists ixLm (SqL.of Z) (jL (j:=y.1) (by rw[vv,a0 _ y1];rfl)) ?_;exists⟨uD,?_⟩;walk_at"f p2 hp2 H3 s3 e3";exists⟨p,_,_,rfl,rfl,s3 _ _ g,by rw[vt];lia,?_⟩;have o:p2≠p:=fun z=>by rw[z,s3 _ _ g]at e3;cases e3
    refine⟨e++[p2],rfl,fun c u b h=>(jg b).trans (s3 _ _ h),by rw[jt,vi];rfl,by rw[vn];show e.length+1<=_;lia,?_⟩;rw[vc X];refine All2.snoc (All2.mono B fun c y h=>?_) ((jg o).trans e3);exact(jg (fun z=>by rw[z,g]at h;cases h)).trans (s3 _ _ h)
   ·exists⟨e,rfl,fun c u _ h=>h,g,by lia,?_⟩;rw[vb X,append_nil];exact B
  rintro σ' H3 ⟨a,rfl,L,d,a3,I⟩;have F:wth1 gs y=(if 0<y.2.2.1 then[(y.1,gs.getD y.1 0)]else[])++(match y.2.2.2 with | some r=>[(y.1,r)] | none=>[]):=rfl;cases er:y.2.2.2 with
  | none=>
   exists⟨rfl,_,rfl,?_⟩;refine iteB0 (by simp[optV]) ?_;exists⟨_,_,_,_,a,rfl,fun c u b h=>L _ _ b (m _ _ b h),d,by lia,?_⟩;rw[k,F,er,append_nil];exact I
  | some r=>
   exists⟨rfl,_,rfl,?_⟩;refine iteB1 (by simp[optV]) ?_;exists⟨.inl ⟨rfl,_,SqL.of d⟩,?_⟩;exists⟨uD,?_⟩;walk_at"f p2 hp2 H4 s4 e4";exists⟨p,_,_,rfl,rfl,s4 _ _ d,by rw[vt];lia,?_⟩;have o:p2≠p:=fun z=>by rw[z,s4 _ _ d]at e4;cases e4
   refine⟨_,_,_,_,a++[p2],rfl,fun c u b h=>(jg b).trans (s4 _ _ (L _ _ b (m _ _ b h))),by rw[jt,vi];rfl,by rw[vn];show a.length+1<=_;lia,?_⟩;rw[k,F,er,<-List.append_assoc];refine All2.snoc (All2.mono I fun c y h=>?_) ((jg o).trans e4);exact(jg (fun z=>by rw[z,d]at h;cases h)).trans (s4 _ _ h)
 rintro σ' f ⟨M,N,O,R,e,rfl,m,g,la,B⟩;rw[vt,U,v7]at B;walk_at"g";exact q p e f (fun c u h=>m _ _ (np h) (s2 _ _ (s1 _ _ h))) hp g B
theorem kN(T:Txt K mg t)(kg:FnOk P w K mg base CX0 2 t.kh t.kz ["pieces","sizes","gone"] (sp_within)):FnOk P w K mg base CX0 3 t.qP t.qR ["self","beat"] (sp_sceneS t.j9):=by
 specialize T.Kh.ok Jq;obtain⟨a,z,O,ps,gs,hs,E,t0,rfl,A,N,t1,t2,q⟩:=h;refine⟨_,(jb (jY (Wk (xa W7 W7 jd (pv 1) (jh jA (Je (pv 0) rfl) (zn qO jd))))
   (jf QB)
   jy)
  (jb (jm (i:=2) Jq.nd rfl (.inl rfl) (zl wo (by rfl) T.j45 j2Z (ja (Je (pv 0) rfl) jc)))
  (jb (jm (i:=3) Jq.nd rfl (.inl rfl) (jE jc))
  (jb (jm (i:=4) Jq.nd rfl (.inl rfl) (jE (ja (jN (ja (jq qZ (jB Jg (by rfl) T.qW JQ (ja (Je (pv 0) rfl) jc)) jd) (ja (pv 1) jc))) jc)))
  (jb (yW PassesOwn.never (kT (pv 4) (fun _=>rfl))
   (jb (jm (i:=5) Jq.nd rfl (.inl rfl) (Wc PySem.F.plainAttrs_list PySem.F.slot_list_pop PySem.F.type_list_pop Xm (pv 4)))
   (jf (jY (jp YU (jh jo (pv 5) jd) (jh jA (Je (pv 0) rfl) (jh jo (pv 5) jd)) (nomark _))
    (jb (jW (qp PySem.F.plainAttrs_list PySem.F.slot_list_append PySem.F.type_list_append jV (pv 3) (ja (pv 5) jc)))
    (jf (jW (qp PySem.F.plainAttrs_list PySem.F.slot_list_extend PySem.F.type_list_extend Yy (pv 4) (ja (j4x (jk T.WD kg hr (ja (jh jA (Je (pv 0) rfl) (jh jo (pv 5) jd)) (ja (Je (pv 0) rfl) (ja (jh jo (pv 5) jd) jc)))) (Q1 (zn qO jd))) jc)))))
    (jf (Jt PassesOwn.never rfl (jI (jh jA (Je (pv 0) rfl) (jh jo (pv 5) jd))) (Jy rfl (jr (ji (i:=6) Jq.nd rfl (.inl rfl)) (jr (ji (i:=7) Jq.nd rfl (.inl rfl)) Jb)))
     (jf (Wj (pv 7) (j1Z (pv 2) (pv 6) set_list)))))))))
  (jf (jw (jN (ja (pv 2) (ja (pv 3) jc)))))))))),?_⟩
 refine ju (σ':=[some _,some _,none,none,none,none,none,none]) rfl ?_
 try dsimp only[cxOf,Cx.nox]
 have sz:(10000:Nat)<sizeLine:=by decide
 have W:=N.s.w;have gl:=N.s.gl;have ne:=N.ne;have aZ:=W.p61;have lE:=A.el;have M8:∀i,i<ps.length->(hs.getD i []).length<=8:=fun i hi=>X8 W N.hl N.m (KL N.s N.hl hi)
 have ab:atI (gs.map V.int) (-1)=some (.int (gs.getD (ps.length-1) 0)):=zI (by lia) (by rw[gl]);have aP:∀j,j<ps.length->gs[j]?=some (gs.getD j 0):=fun j h=>N.j1t h
 obtain⟨dx,ob⟩:=A.ob;exists iteD (fun _=>?_) (fun c=>uB t1 c);exists⟨a,_,dx,_,_,rfl,ob,T.Jc,T.Jm,ZZ,?_⟩;exists ixLm (SqL.of A.hs) (ab) ?_;exists iteN (fun z=>uB t2 z) (fun _=>?_);exists⟨a,_,dx,_,_,rfl,ob,T.Jc,T.qS,j0q,?_⟩;exists⟨z.f,_,rfl,.inl (SqL.of A.hf),?_⟩;walk_at"f 1 e";exists⟨vA _,?_⟩;walk_at"f 2 e";have ah:=s1.trans s2;exists⟨a,_,dx,_,_,rfl,ah _ _ ob,T.Jc,T.Jm,ZZ,?_⟩;exists⟨_,_,rfl,.inl ⟨_,SqL.of (ah _ _ A.hs),rfl⟩,?_⟩;rw[vt,gl];exists⟨uD,?_⟩;walk_at"f 3 e";exists⟨uC,?_⟩;walk_at"f 4 e";rw[show((ps.length:Nat):Int)-1=((ps.length-1:Nat):Int) by lia]at e3;have aH:=ah.trans s3;have aV:=aH.trans s4;have ac:p1≠p2:=je e1 hp2;have ad:p1≠p4:=je (s3 _ _ (s2 _ _ e1)) hp4;have af:p2≠p4:=je (s3 _ _ e2) hp4;have m1:∀{c u},H c=some u->c≠p1:=fun h=>je h hp1
 have m2:∀{c u},H c=some u->c≠p2:=fun h=>je (s1 _ _ h) hp2
 have m4:∀{c u},H c=some u->c≠p4:=fun h=>je (aH _ _ h) hp4
 have aG:=N.nodes M8 (i:=ps.length-1) (t:=t0) (by lia) t1;have aJ:∀h∈O.map (·.2),0<=h/\h<=10^18:=fun h hh=>by
  obtain⟨q0,aR,rfl⟩:=vL.mp hh;exact N.l18 q0 aR
 exists⟨fun m σ B=>IvE8 fun(o5 J L:Option V) (d g:List Addr) (D P S:List (Nat×Int))=>IvA2 (σ=[some (.ref a),some (.int t0),some (.ref p1),some (.ref p2),some (.ref p4),o5,J,L]) (ScAt O ps gs E t0 H B p1 p2 p4 d g D P S/\m=(S.map fun x=>nodes ps gs x.1 x.2).sum),
  ⟨_,none,none,none,[],[p3],[],[],[(ps.length-1,t0)],rfl,⟨aV,s4 _ _ (s3 _ _ (s2 _ _ e1)),s4 _ _ (s3 _ _ e2),e4,.nil,All2.snoc (as:=[]) (xs:=[]) .nil (s4 _ _ e3),by simp,fun x hx=>by rw[vo.mp hx];exact⟨by show ps.length-1<_;lia,t1⟩,rfl,(fun x hx=>nomatch hx),by simpa using aG,by show(O.map (·.2)).length=_;rw[vt],aJ⟩,rfl⟩,?_⟩
 rintro m σ B ⟨o5,J,L,d,g,D,P,S,rfl,Sc,rfl⟩;obtain⟨sm,aj,am,eT,gP,gT,G,hS,hP,bP,aL,ll,hb⟩:=Sc;have a5:S.length<=(S.map fun x=>nodes ps gs x.1 x.2).sum:=XF fun x _=>Z6 (ps:=ps) (gs:=gs) x.1 x.2
 have pl:=gP.1;have tl:=gT.1;exists⟨_,.inl ⟨_,SqL.of eT,rfl⟩,?_⟩;rcases eq_nil_or_concat S with rfl | ⟨S0,x,rfl⟩
 ·have et:g=[]:=length_eq_zero_iff.mp tl;subst et;refine iteF ?_;walk_at"g";rw[show([]:List (Nat×Int)).reverse.flatMap (fun x=>reach ps gs x.1 x.2)=[]from rfl,append_nil]at G;subst G;have b0:([].map fun x:Nat×Int=>nodes ps gs x.1 x.2).sum=0:=rfl;refine⟨uD,?_⟩;walk_at"f 5 e";exact q p5 p1 p2 d P H5 (sm.trans s5) hp1 (none_of s1 hp2) e5 (s5 _ _ aj) ll hb (s5 _ _ am) ac (All2.mono gP fun c y h=>s5 _ _ h) (by lia) bP hP
 rw[List.concat_eq_append]at *;obtain⟨b,l,rfl,av,az⟩:=All2.last gT;rw[vi]at eT|-;refine iteB1 (by simp) ?_;obtain⟨x1,x2⟩:=hS x (mem_append_right _ vq);have ay:∀y∈S0,y.1<ps.length/\0<=y.2:=fun y hy=>hS y (mem_append_left _ hy)
 rw[List.reverse_append,flatMap_append,vi,sum_append]at *;have aY:=Z6 (ps:=ps) (gs:=gs) x.1 x.2;have aq:([x].map fun x:Nat×Int=>nodes ps gs x.1 x.2).sum=nodes ps gs x.1 x.2:=by simp
 have a8:([x].reverse.flatMap fun x=>reach ps gs x.1 x.2)=reach ps gs x.1 x.2:=by simp
 rw[aq]at a5 aL|-;have b1:S0.length<=5000:=by rw[vn]at a5;lia
 have b2:=av.1;rw[a8]at G;refine⟨fun σ B=>IvE8 fun(o5 J L:Option V) (d g:List Addr) (D P S:List (Nat×Int))=>IvA2 (σ=[some (.ref a),some (.int t0),some (.ref p1),some (.ref p2),some (.ref p4),o5,J,L]) (ScAt O ps gs E t0 H B p1 p2 p4 d g D P S/\(S.map fun x=>nodes ps gs x.1 x.2).sum<(S0.map fun x=>nodes ps gs x.1 x.2).sum+nodes ps gs x.1 x.2),
  fun σ' B ⟨o5,J,L,d,g,D,P,S,h1,h2,h3⟩=>⟨_,h3,o5,J,L,d,g,D,P,S,h1,h2,rfl⟩,?_⟩
 exists⟨.inl ⟨rfl,_,SqL.of eT⟩,?_⟩;refine⟨p4,_,.ref l,rfl,rfl,eT,by simp,?_⟩;rw[show((b.map V.ref)++[l].map V.ref).dropLast=b.map V.ref by simp];have a0:∀{c:Addr} {xs:List V},B c=some (.tup xs)->c≠p4:=fun h z=>by rw[z,eT]at h;cases h
 have s5:Same H (upd B p4 (.lst (b.map V.ref))):=fun c u h=>(jg (m4 h)).trans (sm _ _ h)
 have a6:upd B p4 (.lst (b.map V.ref)) p4=some (.lst (b.map V.ref)):=jt;have U:=(jg (o:=HO.lst (b.map V.ref)) ad).trans aj;have C:=(jg (o:=HO.lst (b.map V.ref)) af).trans am;have a9:GonAt (upd B p4 (.lst (b.map V.ref))) d P:=All2.mono gP fun c y h=>(jg (a0 h)).trans h
 have aa:GonAt (upd B p4 (.lst (b.map V.ref))) b S0:=All2.mono av fun c y h=>(jg (a0 h)).trans h
 have n:=(jg (o:=HO.lst (b.map V.ref)) (a0 az)).trans az;generalize upd B p4 (.lst (b.map V.ref))=H5 at s5 a6 U C a9 aa n|-;clear a0;have aO:H5 z.s=some (.lst (gs.map V.int)):=s5 _ _ A.hs;have aD:=s5 _ _ ob;exists ixTm (SqT.of n) rfl ?_;exists⟨a,_,dx,_,_,rfl,aD,T.Jc,T.Jm,ZZ,?_⟩;exists ixTm (SqT.of n) rfl ?_;exists ixLm (SqL.of aO) (jL (j:=x.1) (by rw[vv,aP _ x1];rfl)) ?_;walk_at"g";obtain⟨p,hp⟩:∃p,ps[x.1]?=some p:=⟨_,vz x1⟩
 have ap:pcB ps gs x.1=pcsI gs p.2 (inP ps p.2):=by unfold pcB;rw[hp]
 refine iteD (fun c1=>?_) (fun c1=>?_)
 ·have a1:ovB gs x=false:=vI (by lia);have aQ:(ps.map fun p=>pcsI gs p.2 (inP ps p.2))[x.1]?=some (pcB ps gs x.1):=by rw[vv,hp,ap];rfl
  obtain⟨al,aN,bs,Y,hq⟩:=A.pa.get aQ;have aW:=(N.g x1).2;have aT:(pcB ps gs x.1).length<=8:=by rw[ap];exact WU (N.i8 hp)
  have wl:=j3b (gs:=gs) (t:=x.2) (pcB ps gs x.1);exists⟨.inl ⟨rfl,_,SqL.of C⟩,?_⟩;exists⟨p2,_,_,rfl,rfl,C,by rw[vt];lia,?_⟩;have ag:∀{c:Addr} {xs:List V},H5 c=some (.tup xs)->c≠p2:=fun h z=>by rw[z,C]at h;cases h
  have s6:Same H (upd H5 p2 (.lst (d.map V.ref++[.ref l]))):=fun c u h=>(jg (m2 h)).trans (s5 _ _ h)
  have an:upd H5 p2 (.lst (d.map V.ref++[.ref l])) p2=some (.lst ((d++[l]).map V.ref)):=by rw[jt,vi];rfl
  have ak:=(jg (o:=HO.lst (d.map V.ref++[.ref l])) ac).trans U;have a7:=(jg (o:=HO.lst (d.map V.ref++[.ref l])) af.symm).trans a6;have R:=(jg (o:=HO.lst (d.map V.ref++[.ref l])) (ag n)).trans n;have ar:GonAt (upd H5 p2 (.lst (d.map V.ref++[.ref l]))) (d++[l]) (P++[x]):=All2.snoc (All2.mono a9 fun c y h=>(jg (ag h)).trans h) R;have aw:GonAt (upd H5 p2 (.lst (d.map V.ref++[.ref l]))) b S0:=All2.mono aa fun c y h=>(jg (ag h)).trans h
  generalize upd H5 p2 (.lst (d.map V.ref++[.ref l]))=H6 at s6 an ak a7 R ar aw|-;exists⟨.inl ⟨rfl,_,SqL.of a7⟩,?_⟩;exists⟨a,_,dx,_,_,rfl,s6 _ _ ob,T.Jc,T.qG,x9,?_⟩;exists ixTm (SqT.of R) rfl ?_;exists ixLm (SqL.of (s6 _ _ A.hp)) (qD (i:=(x.1:Int)) (by lia) aN) ?_;exists⟨a,_,dx,_,_,rfl,s6 _ _ ob,T.Jc,T.Jm,ZZ,?_⟩;exists ixTm (SqT.of R) rfl ?_;exists⟨al,z.s,x.2,bs,pcB ps gs x.1,gs,rfl,s6 _ _ Y,All2.mono hq fun c y h=>s6 _ _ h,s6 _ _ A.hs,aT,fun q hq=>N.pcOk hq,x2,by lia,fun lw aI H7 s7 aX ew hw=>?_⟩;exists⟨rfl,lw,_,rfl,SqL.of ew,?_⟩;walk_at"f lr hlr H8 s8 e8";have r:=s7.trans s8;have ao:=r _ _ a7;have b3:=hw.1;refine⟨p4,lr,_,_,rfl,rfl,ao,e8,by rw[vt,List.length_reverse,vt];lia,?_⟩;have a4:∀{c:Addr} {xs:List V},H8 c=some (.tup xs)->c≠p4:=fun h z=>by rw[z,ao]at h;cases h
  have au:=fun(c:Addr) (y:Nat×Int) (h:H6 c=some (.tup [.int (y.1:Nat),.int y.2]))=>(jg (o:=HO.lst (b.map V.ref++(aI.map V.ref).reverse)) (a4 (r _ _ h))).trans (r _ _ h)
  have aK:∀y∈P++[x],y.1<ps.length/\0<=y.2/\y.2<gs.getD y.1 0:=fun y hy=>by
   rcases vg.mp hy with h | h
   ·exact bP y h
   ·rw[vo.mp h];exact⟨x1,x2,c1⟩
  refine⟨_,_,_,d++[l],b++aI.reverse,if leafB ps gs x=true then D++[x]else D,P++[x],S0++(wth gs x.2 (pcB ps gs x.1)).reverse,rfl,⟨fun c u h=>(jg (m4 h)).trans (r _ _ (s6 _ _ h)),?_,(jg af).trans (r _ _ an),by rw[jt,vi,List.map_reverse],All2.mono ar au,?_,?_,?_,?_,aK,?_,?_,?_⟩,?_⟩
  ·rw[kD a1];exact(jg ad).trans (r _ _ ak)
  ·exact All2.app (All2.mono aw au) (All2.mono (All2.rev hw) fun c y h=>(jg (a4 (s8 _ _ h))).trans (s8 _ _ h))
  ·rw[List.reverse_append,List.reverse_reverse,flatMap_append,<-G];by_cases Z:leafB ps gs x=true
   ·have c2:pcB ps gs x.1=[]:=List.isEmpty_iff.mp Z;rw[vc Z,c2,QC (.inr c2),List.append_assoc];rfl
   ·have c2:¬(gs.getD x.1 0<=x.2\/pcB ps gs x.1=[]):=fun h=>h.elim (by lia) fun e=>Z (List.isEmpty_iff.mpr e)
    rw[vb Z,yv W c2]
  ·intro y hy;rcases vg.mp hy with h | h
   ·exact ay y h
   ·have h:=List.mem_reverse.mp h;have:=YF W h;exact⟨by lia,XJ (fun q hq=>N.pcOk hq) h⟩
  ·rw[filter_append,hP];by_cases Z:leafB ps gs x=true
   ·rw[vc Z,filter_append,List.filter_cons_of_pos Z,List.filter_cons_of_pos (by rw[a1];rfl)];rfl
   ·rw[vb Z,List.filter_cons_of_neg Z];exact append_nil _
  ·have:=Yz W (i:=x.1) (t:=x.2) c1;rw[vi,sum_append,List.map_reverse,List.sum_reverse,vn];show P.length+1+_<=_;lia
  ·rw[kD a1];exact ll
  ·rw[kD a1];exact hb
  ·have:=Yz W (i:=x.1) (t:=x.2) c1;rw[vi,sum_append,List.map_reverse,List.sum_reverse];lia
 ·have a2:ovB gs x=true:=vH (by lia);have hE:E[x.1]?=some (E.getD x.1 []):=by rw[vy,vz (by lia)];rfl
  obtain⟨ae,aM,bs,Y,aF⟩:=A.ea.get hE;have ai:=kB W (by lia) A.eo x.1;have eb:=j4d N lE A.eo x1;have a3:=s5 _ _ Y;exists⟨a,_,dx,_,_,rfl,aD,T.Jc,T.Qm,j1m,?_⟩;exists ixTm (SqT.of n) rfl ?_;exists ixLm (SqL.of (s5 _ _ A.hl)) (qD (i:=(x.1:Int)) (by lia) aM) ?_;refine⟨ae,rfl,⟨_,SqL.of a3⟩,?_⟩;have aU:=aF.1;have aS:ae≠p1:=m1 Y;refine Ju (xs:=bs.map V.ref) (fun k σ H7=>IvE2 fun(J L:Option V)=>IvA4 (σ=[some (.ref a),some (.int t0),some (.ref p1),some (.ref p2),some (.ref p4),some (.ref l),J,L]) (∀c u,c≠p1->H5 c=some u->H7 c=some u) (H7 p1=some (.lst ((setE ((E.getD x.1 []).take k) (hOf O gs E D)).map V.int))) ((setE ((E.getD x.1 []).take k) (hOf O gs E D)).length=O.length/\(∀h∈setE ((E.getD x.1 []).take k) (hOf O gs E D),0<=h/\h<=10^18)))
   ⟨_,_,rfl,fun c u _ h=>h,U,ll,hb⟩ ?_ ?_ ?_
  ·rintro k σ H7 _ ⟨J,L,rfl,f,F,_⟩;exact SqL.of (f _ _ aS a3)
  ·rintro k v σ H7 hv ⟨J,L,rfl,f,F,I,X⟩;obtain⟨c',y,rfl,hy,aA⟩:=aF.at_ref hv;have aB:=vj hy;have yb:=ai y aB;have yh:=eb y aB;refine qj (SqT.of (f _ _ (m1 aA) (s5 _ _ aA))) ?_;walk_at"g";have M:setE ((E.getD x.1 []).take (k+1)) (hOf O gs E D)=(setE ((E.getD x.1 []).take k) (hOf O gs E D)).set y.1.toNat y.2:=by
    unfold setE;rw[take_snoc hy,List.foldl_append];rfl
   refine⟨p1,_,_,y.1.toNat,rfl,rfl,F,ixZ yb.1 (by rw[vt,I];exact yb.2),?_⟩;refine⟨_,_,rfl,fun c u hc h=>(jg hc).trans (f _ _ hc h),jt.trans ?_,by rw[M,List.length_set];exact I,fun h hh=>?_⟩
   ·rw[M,List.map_set]
   ·rw[M]at hh;rcases List.mem_or_eq_of_mem_set hh with z | z
    ·exact X h z
    ·rw[z];exact yh
  rintro σ' H7 ⟨J,L,rfl,f,F,I,X⟩;rw[vt,aU,v7]at F I X;have aC:∀{c:Addr} {xs:List V},H5 c=some (.tup xs)->c≠p1:=fun h z=>by rw[z,U]at h;cases h
  have aE:gs.getD x.1 0<=x.2:=by lia
  refine⟨_,_,_,d,b,D++[x],P,S0,rfl,⟨fun c u h=>f _ _ (m1 h) (s5 _ _ h),?_,f _ _ ac.symm C,f _ _ ad.symm a6,All2.mono a9 fun c y h=>f _ _ (aC h) h,All2.mono aa fun c y h=>f _ _ (aC h) h,?_,ay,?_,bP,by lia,?_,?_⟩,by lia⟩
  ·rw[kE a2];exact F
  ·rw[<-G,QC (.inl aE),List.append_assoc]
  ·rw[hP,filter_append,List.filter_cons_of_neg (by rw[a2];decide)];exact(append_nil _).symm
  ·rw[kE a2];exact I
  ·rw[kE a2];exact X
theorem yU(T:Txt K mg t)(Q6:FnOk P w K mg base CX0 3 t.qP t.qR ["self","beat"] (sp_sceneS t.j9)):FnOk P w K mg base CX0 4 t.JZ t.qa ["self","beat"] (sp_wordsS t.j9):=by
 specialize T.Yi.ok Jw;obtain⟨a,z,ls,j,gs,hs,E,t0,rfl,A,N,t1,t2,q⟩:=h;refine⟨_,(jb (jm (i:=2) Jw.nd rfl (.inl rfl) (jE jc))
  (jb (Jt PassesOwn.never rfl (jI (jh jo (Wd (pv 0) T.Jc T.kH (Q6.mono (by decide)) hr T.Kg .nil pass0 (ja (pv 1) jc)) jd)) (Jy rfl (jr (ji (i:=3) Jw.nd rfl (.inl rfl)) (jr (ji (i:=4) Jw.nd rfl (.inl rfl)) Jb)))
   (jb (jm (i:=5) Jw.nd rfl (.inl rfl) (jh jA (Je (pv 0) rfl) (pv 3)))
   (jf (jY (PW.pt (ZH (jp Jo (jh jo (pv 5) jd) jD (nomark _)) (zY (jp Jo (pv 4) jd (nomark _)))))
    (jf (jW (qp PySem.F.plainAttrs_list PySem.F.slot_list_append PySem.F.type_list_append jV (pv 2) (ja (jh jo (pv 5) jd) jc))))
    jy))))
  (jf (jw (pv 2))))),?_⟩
 refine ju (σ':=[some _,some _,none,none,none,none]) rfl ?_
 try dsimp only[cxOf,Cx.nox]
 have sz:(10000:Nat)<sizeLine:=by decide
 obtain⟨dx,ob⟩:=A.ob;exists⟨vA _,?_⟩;walk_at"f p1 hp1 H0 s0 e0";exists⟨a,dx,_,rfl,s0 _ _ ob,j1n (by decide +kernel) (by decide +kernel) (by decide +kernel) (by decide +kernel) (by decide +kernel) (by decide +kernel),?_⟩;exists⟨a,z,ls,j,gs,hs,E,t0,rfl,A.same s0,N,t1,t2,fun r l1 l2 as P H1 s1 a0 I C M ll hb h2 a1 gP pl bP hP=>?_⟩;have F:=xq N hP;have J:=s0.trans s1;have e1:=s1 _ _ e0;have m1:∀{c u},H c=some u->c≠p1:=fun h=>je h hp1
 have n2:l2≠p1:=fun e=>by rw[e,e0]at I;cases I
 have al:=gP.1;have wl:∀xs:List (Nat×Int),(xs.flatMap (ringX j)).length<=xs.length:=fun xs=>by
  induction xs with
  | nil=>exact va _
  | cons x r ih=>
   rw[flatMap_cons,vn,vS];have:(ringX j x).length<=1:=by
    unfold ringX;split
    ·split<;>simp
    ·exact vA _
   lia
 exists ixTm (SqT.of C) rfl ?_;refine⟨l2,rfl,⟨_,SqL.of h2⟩,?_⟩;refine Ju (xs:=as.map V.ref) (fun i σ m=>IvE3 fun(O R S:Option V)=>IvA2 (σ=[some (.ref a),some (.int t0),some (.ref p1),O,R,S]) ((∀c u,c≠p1->H1 c=some u->m c=some u)/\m p1=some (.lst (((P.take i).flatMap (ringX j)).map V.str))))
  ⟨_,_,_,rfl,fun c u _ h=>h,e1⟩ ?_ ?_ ?_
 ·rintro i σ m _ ⟨O,R,S,rfl,o,B⟩;exact SqL.of (o _ _ n2 h2)
 ·rintro i v σ m hv ⟨O,R,S,rfl,o,B⟩;obtain⟨c,x,rfl,Y,D⟩:=gP.at_ref hv;have hi:=(vx.mp Y).1;obtain⟨x1,x0,x2⟩:=bP x (vj Y);obtain⟨p,X⟩:∃p,j[x.1]?=some p:=⟨_,vz x1⟩
  obtain⟨W,U,hf⟩:=A.fo.get X;have l:(P.take (i+1)).flatMap (ringX j)=(P.take i).flatMap (ringX j)++ringX j x:=by
   rw[take_snoc Y,flatMap_append,flatMap_cons,flatMap_nil,append_nil]
  have n3:∀{c u},H c=some u->m c=some u:=fun h=>o _ _ (m1 h) (J _ _ h)
  have nc:c≠p1:=fun z=>by rw[z,e1]at D;cases D
  have g:FormAt m W p.2:=FormAt.put (fun b xs hb=>n3 hb) hf;refine qj (SqT.of (o _ _ nc D)) ?_;exists⟨a,_,dx,_,_,rfl,n3 ob,T.Jc,T.qT,j0r,?_⟩;exists ixLm (SqL.of (n3 A.ho)) (qD (i:=(x.1:Int)) (by lia) U) ?_;walk_at"g";by_cases d:∃y n,p.2 = .ring y n
  ·obtain⟨y,n,C⟩:=d;rw[C]at g;have G:m W=some (.tup [.str "ring",.str y,.int n]):=g;have L:ringX j x=if x.2=0 then[y]else[]:=by
    unfold ringX;rw[X];obtain⟨pn,pf⟩:=p;have C:pf = .ring y n:=C;subst C;rfl
   refine ixTm (SqT.of G) rfl ?_;exists iteE1 ?_;exists iteD (fun c=>?_) (fun c=>?_)
   ·exists⟨.inl ⟨rfl,_,SqL.of B⟩,?_⟩;exists ixTm (SqT.of G) rfl ?_;have:=wl (P.take i);rw[vh]at this;refine⟨p1,_,_,rfl,rfl,B,by rw[vt];lia,?_⟩;refine⟨_,_,_,rfl,fun c u D h=>(jg D).trans (o _ _ D h),jt.trans ?_⟩;rw[l,L,vc c,vi];rfl
   ·exists⟨_,_,_,rfl,o,?_⟩;rw[l,L,vb c,append_nil];exact B
  ·have L:ringX j x=[]:=by
    unfold ringX;rw[X];obtain⟨pn,pf⟩:=p;cases pf with
    | ring y n=>exact uB ⟨y,n,rfl⟩ d
    | _=>rfl
   have Z:∃k xs,m W=some (.tup (.str k::xs))/\decide (k=("ring" : Str))=false:=by
    generalize p.2=f at g d;cases f with
    | hold n=>exact⟨_,_,g,by decide +kernel⟩
    | ring y n=>exact uB ⟨y,n,rfl⟩ d
    | rise y v n=>exact⟨_,_,g,by decide +kernel⟩
    | row j=>obtain⟨b',M,_⟩:=g;exact⟨_,_,M,by decide +kernel⟩
    | side j=>obtain⟨b',M,_⟩:=g;exact⟨_,_,M,by decide +kernel⟩
    | again k y=>exact⟨_,_,g,by decide +kernel⟩
   obtain⟨k,xs,hk,dk⟩:=Z;refine ixTm (SqT.of hk) (at0) ?_;exists iteB0 dk ?_;exists⟨_,_,_,rfl,o,?_⟩;rw[l,L,append_nil];exact B
 rintro σ' m ⟨O,R,S,rfl,o,B⟩;rw[vt,al,v7,F]at B;walk_at"g";have w1:=wl P;rw[F]at w1;exact q p1 m (fun c u h=>o _ _ (m1 h) (J _ _ h)) hp1 B (by lia)
theorem j1R(T:Txt K mg t)(L:FnOk P w K mg base CX0 6 t.Jz t.J3 ["self","book"] (sp_initS t.j9))(M:FnOk P w K mg base CX0 4 t.JZ t.qa ["self","beat"] (sp_wordsS t.j9)):FnOk P w K mg base CX0 8 t.K8 t.wD ["book","beat"] (sp_ringsG):=by
 specialize T.XM.F.ok j2j;obtain⟨b,I,J,e,f,k,m,g,j,R,rfl,B,N,S,U,q⟩:=h;refine⟨_,(jf (jw (Wd (Y7 T.j2O (L.mono (by decide)) hr (by rfl) T.j1J T.Yf .nil pass0 (ja (pv 0) jc)) T.Jc T.yS (M.mono (by decide)) hr T.Yg .nil pass0 (ja (pv 1) jc)))),?_⟩;refine ju (σ':=[some _,some _]) rfl ?_
 try dsimp only[cxOf,Cx.nox]
 walk_at"g";intro o a i d W;have n:Same H (upd (upd H a (.own o)) o (.ins t.j9 a [])):=fun c u h=>(jg (je h i)).trans ((jg (je h d)).trans h)
 refine⟨o,a,b,I,J,e,f,k,m,g,j,rfl,jt,B.same n,N,fun z E r D A=>⟨rfl,?_⟩⟩;obtain⟨x,G⟩:=A.ob;have p:Same H r:=fun c u h=>D _ _ (je h i) (n _ _ h)
 refine⟨o,x,_,rfl,G,j1n (by decide +kernel) (by decide +kernel) (by decide +kernel) (by decide +kernel) (by decide +kernel) (by decide +kernel),?_⟩;exists⟨o,z,k,m,g,j,E,R,rfl,A,N,S,U,fun l v O C y F=>?_⟩;exact q l v (p.trans O) (none_of p C) y F
theorem Xo(T:Txt K mg t)(i:FnOk P w K mg base CX0 5 t.zj t.zk ["book"] (sp_lengths)):FnOk P w K mg base CX0 6 t.Yl t.Yr ["book","beat"] (sp_goneE):=by
 specialize T.Ky.F.ok XB;obtain⟨b,p,r,a,d,n,e,k,m,x,rfl,B,N,y,q⟩:=h;refine⟨_,(jb (jY (jp YU (pv 1) jd (nomark _))
   (jf QB)
   jy)
  (jf (jw (jq Jp (pv 1) (jh jA (jk T.ZV i hr (ja (pv 0) jc)) (zn qO jd)))))),?_⟩
 refine ju (σ':=[some _,some _]) rfl ?_
 try dsimp only[cxOf,Cx.nox]
 have o:=N.ne;have g:=N.g (show e.length-1<e.length by lia);exists iteD (fun c=>uB c (by lia)) (fun _=>?_);exists⟨b,p,r,a,d,n,e,k,m,rfl,B,N.s,fun l f u v j=>?_⟩;exists ixLm (SqL.of j) (zI o N.s.gl) ?_;walk_at"g";exact q f u
theorem Kq(T:Txt K mg t)(o:FnOk P w K mg base CX0 8 t.K8 t.wD ["book","beat"] (sp_ringsG))(p:FnOk P w K mg base CX0 6 t.Yl t.Yr ["book","beat"] (sp_goneE)):FnOk P w K mg base CX0 9 t.zH t.zO ["book","beat"] (sp_ringsE):=by
 specialize T.yE.F.ok Kv;obtain⟨b,k,m,a,c,j,d,f,i,x,rfl,B,N,y,q⟩:=h;refine⟨_,(jf (jw (jk T.XM o hr (ja (pv 0) (ja (jk T.Ky p hr (ja (pv 0) (ja (pv 1) jc))) jc))))),?_⟩;refine ju (σ':=[some _,some _]) rfl ?_
 try dsimp only[cxOf,Cx.nox]
 have C:=N.ne;have g:=N.g (show d.length-1<d.length by lia);exists⟨b,k,m,a,c,j,d,f,i,x,rfl,B,N,y,fun z e=>?_⟩;exists⟨b,k,m,a,c,j,d,f,i,_,rfl,B.same e,N,vd _ (by lia),Int.le_of_lt (ve _ (by lia)),fun l n v u r _=>?_⟩;exact q l n (e.trans v) (none_of e u) r
theorem Kl(T:Txt K mg t):FnOk P w K mg base CX0 1 t.Qe t.Qj ["_law_found"] (Pr.xn):=by
 refine T.yB.F.ok Kt (fun c H Q E h=>?_) (fun b A a s H c Q E d h=>?_)
 ·obtain⟨i,rfl,q⟩:=h;rfl
 obtain⟨i,rfl,q⟩:=h;refine⟨_,(jf (jw (Wa (jB WK (by rfl) T.Qh qQ (ja (pv 0) (ja (Wb (v:=.ty "int") (by rfl) T.j4Q j48 rfl) jc))) (We (j4w (jB WK (by rfl) T.Qh qQ (ja (pv 0) (ja (Wb (v:=.ty "bool") (by rfl) T.j43 j2X rfl) jc)))))))),?_⟩;refine ju (σ':=[some _]) rfl ?_
 try dsimp only[cxOf,Cx.nox]
 exists⟨_,_,_,_,rfl,.int i,j0u,?_⟩;exists iteT ?_;exists⟨_,_,_,_,rfl,.int i,Xc,?_⟩;walk_at"g";exact q
theorem Kj(T:Txt K mg t)(f:FnOk P w K mg base CX0 8 t.Qg t.Ql ["book","word","beat"] (sp_ringC)):FnOk P w K mg base CX0 9 t.zC t.zJ ["_law_book_here","_law_word_here","_law_long","_law_beat_here"] (sp_aheadZ):=by
 specialize T.zt.F.ok Ks;obtain⟨b,d,e,rfl,m,k,C,D,u,q⟩:=h;refine⟨_,(jf (jw (jq j7 (jq Ja (jq qo (pv 3) (pv 2)) (jk T.Qb f hr (ja (pv 0) (ja (pv 1) (ja (pv 2) jc))))) (jk T.Qb f hr (ja (pv 0) (ja (pv 1) (ja (jq Jp (pv 3) (pv 2)) jc))))))),?_⟩;refine ju (σ':=[some _,some _,some _,some _]) rfl ?_
 try dsimp only[cxOf,Cx.nox]
 obtain⟨i,j,a,c,B⟩:=id m;have o:=k.L1;have p:=k.L2;have F:=k.w0;have y:=Y2 (x:=e) (b:=d.L) (B:=10^230) (by lia) (by lia) (by lia);have g:=vd e (show d.L≠0 by lia);have z:=ve e (show 0<d.L by lia);exists⟨b,i,j,a,c,d.ls,d.ps,d.gs,d.hs,d.x,d.L,rfl,B,k.ms.sn,k.ms.x1,k.ms.x2,by lia,(by show d.L<=d.L+1;lia),fun v l=>?_⟩;rw[Xz k (by lia),k.whole];exists⟨b,i,j,a,c,d.ls,d.ps,d.gs,d.hs,d.x,_,rfl,B.same l,k.ms.sn,k.ms.x1,k.ms.x2,g,(by show e%d.L<=d.L+1;lia),fun n r=>?_⟩;rw[Xz k g];walk_at"g";exact q n (l.trans r)
theorem wR(T:Txt K mg t)(O:FnOk P w K mg base CX0 8 t.J0 t.JJ ["books","words","beat"] (sp_meeting))(zB:FnOk P w K mg base CX0 9 t.zH t.zO ["book","beat"] (sp_ringsE))(zx:FnOk P w K mg base CX0 1 t.Qe t.Qj ["_law_found"] (Pr.xn))(G:FnOk P w K mg base CX0 9 t.zC t.zJ ["_law_book_here","_law_word_here","_law_long","_law_beat_here"] (sp_aheadZ)):FnOk P w K mg base CX0 10 t.Zw t.ZC ["_law_book_here","_law_word_here","_law_long","_law_beat_here"] (sp_nextZ):=by
 specialize T.QE.F.ok y8;obtain⟨b,d,e,rfl,n,k,L,t2,wp,f,q⟩:=h;refine⟨_,(jb (jm (i:=4) y8.nd rfl (.inl rfl) (Y5 (O.mono (by decide)) hr (by rfl) T.Z3 T.Qp.kp T.Kx .nil pass0 (ja (jE (ja (pv 0) jc)) (ja (jE (ja (pv 1) jc)) (ja (pv 3) jc)))))
  (jb (jY (PW.pt (j24 (Wk (Xx (jk T.yB zx hr (ja (pv 4) jc)))) (j24 (jp YU (pv 4) (pv 3) (nomark _)) (j25 (jp yV (pv 1) (jk T.yE zB hr (ja (pv 0) (ja (pv 4) jc))) (by with_unfolding_all rfl))))))
   (jf (jw (zn qO jd)))
   jy)
  (jb (jY (jp j4X (jk T.zt G hr (ja (pv 0) (ja (pv 1) (ja (pv 2) (ja (pv 4) jc))))) (jk T.zt G hr (ja (pv 0) (ja (pv 1) (ja (pv 2) (ja (pv 3) jc))))) (nomark _))
   (jf (jw (zn qO jd)))
   jy)
  (jf (jw (pv 4)))))),?_⟩
 refine ju (σ':=[some _,some _,some _,some _,none]) rfl ?_
 try dsimp only[cxOf,Cx.nox]
 have sz:(200:Nat)<sizeLine:=by decide
 obtain⟨Y,Z,C,D,B⟩:=id n;exists⟨uC,?_⟩;walk_at"f 1 e";exists⟨uC,?_⟩;walk_at"f 2 e";exists⟨p1,p2,[b],[d],e,rfl,s2 _ _ e1,All2.cons (BkA.same (s1.trans s2) n) .nil,e2,(by show 1<=3;decide),fun x g=>by rw[vo.mp g];exact k.ok f,fun v H3 s3 M=>?_⟩;rw[show max e 0=e by lia]at M;have a:=s1.trans (s2.trans s3);rcases M with⟨_,X⟩ | ⟨y,rfl,y0,y1,o,p⟩
 ·exfalso;obtain⟨y,W⟩:=k.some wp;exact X y fun x g=>by rw[vo.mp g];exact W
 have o:=o d vq;have p:∀m,e<=m->d.R m->y<=m:=fun m r I=>p m r fun x g=>by rw[vo.mp g];exact I
 have L1:=k.L1;have m0:=vd y (show d.L≠0 by lia);have u:d.x∈ringsW d.ps d.gs (y%d.gs.getD (d.ps.length-1) 0):=by
  have h:=(k.r y (by lia)).mp o;have h:0<(((ringsW d.ps d.gs (y%d.gs.getD (d.ps.length-1) 0)).count d.x:Nat):Int):=h;exact List.count_pos_iff.mp (by lia)
 have j:ahE d y=ahE d e:=by
  have:=WF k L (y-e).toNat fun z r I S=>by
   have:=p z r S;lia
  rw[show e+((y-e).toNat:Int)=y by lia]at this;exact this
 exists⟨y,rfl,⟨_,rfl,iteF ?_⟩⟩;exists iteD (fun c=>uB c (by lia)) (fun _=>?_);exists⟨b,Y,Z,C,D,d.ls,d.ps,d.gs,d.hs,y,rfl,B.same a,k.ms.sn,by lia,fun l H4 F U R=>?_⟩;refine⟨l,_,rfl,.inl (SqL.of R),rfl,flatZ _,?_⟩;rw[vc rfl,wI,vH u];exists iteF ?_;exists⟨b,d,y,rfl,BkA.same (a.trans F) n,k,by lia,by lia,f,fun H5 J=>?_⟩;exists⟨b,d,e,rfl,BkA.same (a.trans (F.trans J)) n,k,L,by lia,f,fun N s6=>?_⟩;rw[j];exists iteN (fun c=>uB rfl c) (fun _=>?_);walk_at"g";exact q y N (a.trans (F.trans (J.trans s6))) y0 y1 o p
theorem j4t(T:Txt K mg t)(JE:FnOk P w K mg base CX0 8 t.Qg t.Ql ["book","word","beat"] (sp_ringC))(JY:FnOk P w K mg base CX0 8 t.J0 t.JJ ["books","words","beat"] (sp_meeting))(qB:FnOk P w K mg base CX0 1 t.qC t.qE ["_law_script","_law_k"] (Pr.sp_cell_at K))(Zn:FnOk P w K mg base CX0 5 t.Zu t.ZA ["_law_script","_law_start","_law_most"] (sp_bookC K))(Zm:FnOk P w K mg base CX0 1 t.QI t.QQ ["_law_cell","_law_long"] (sp_beatZ))(zu:FnOk P w K mg base CX0 9 t.zD t.zK ["_law_book_here","_law_word_here"] (sp_askedZ t.J2))(qV:FnOk P w K mg base CX0 10 t.Zw t.ZC ["_law_book_here","_law_word_here","_law_long","_law_beat_here"] (sp_nextZ)):FnOk P w K mg base CX0 11 t.j16 t.XR ["_law_script"] (Pr.sp_law K):=by
 specialize T.j14.F.ok Zg;obtain⟨a,I,rfl,hS,g,hB,q⟩:=h;refine⟨_,(jb (Wj (jk T.YI Zn hr (ja (pv 0) (ja jd (ja (jq YB jd jd) jc)))) (Jy rfl (jr (ji (i:=1) Zg.nd rfl (.inl rfl)) (jr (ji (i:=2) Zg.nd rfl (.inl rfl)) Jb))))
  (jb (jm (i:=3) Zg.nd rfl (.inl rfl) (jh jA (jE (ja jD (ja jD (ja jD (ja jD (ja (jh jo (jh jA (jh jo (pv 1) jd) jd) jd) jc)))))) (jq Jp (jk T.Qr qB hr (ja (pv 0) (ja jd jc))) jd)))
  (jb (jm (i:=4) Zg.nd rfl (.inl rfl) (jk T.Qb JE hr (ja (pv 1) (ja (pv 3) (ja (pv 2) jc)))))
  (jb (Wj (jk T.yA zu hr (ja (pv 1) (ja (pv 3) jc))) (Jy rfl (jr (ji (i:=5) Zg.nd rfl (.inl rfl)) (jr (ji (i:=6) Zg.nd rfl (.inl rfl)) Jb))))
  (jb (jY (jp Q0 (pv 4) jd (nomark _))
   (jf (jw (Wa (jB KE (by rfl) T.Qh qQ (ja (pv 5) (ja (j02 (v:=.ref t.J2) (by rfl) T.WW rfl) jc))) (We (jB KE (by rfl) T.Qh qQ (ja (pv 5) (ja (Wb (v:=.ty "ValueError") (by rfl) T.we Ki rfl) jc)))))))
   jy)
  (jb (jY (jp w6 (pv 5) Qy (nomark _))
   (jf (jw j3Z))
   jy)
  (jb (jm (i:=7) Zg.nd rfl (.inl rfl) (jk T.YG Zm hr (ja (jk T.Qr qB hr (ja (pv 0) (ja jd jc))) (ja (pv 2) jc))))
  (jb (jY (jp Jo (pv 4) jd (nomark _))
   (jf (jw (Wa (zU Xr (pv 6) Qy (nomark _)) (We (zU Xr (Y5 (JY.mono (by decide)) hr (by rfl) T.Z3 T.Qp.kp T.Kx .nil pass0 (ja (jE (ja (pv 1) jc)) (ja (jE (ja (pv 3) jc)) (ja (pv 7) jc)))) Qy (nomark _))))))
   jy)
  (jb (jm (i:=8) Zg.nd rfl (.inl rfl) (jk T.QE qV hr (ja (pv 1) (ja (pv 3) (ja (pv 2) (ja (pv 7) jc))))))
  (jb (jY (PW.pt (j24 (jp YU (pv 8) jd (nomark _)) (j25 (jp Q0 (pv 4) jd (nomark _)))))
   (jf (jw (zU j1T (pv 8) jd (nomark _))))
   jy)
  (jf (jw (Wa (zU j1T (jk T.QE qV hr (ja (pv 1) (ja (pv 3) (ja (pv 2) (ja (jq j7 (pv 8) jd) jc))))) jd (nomark _)) (We (zU Jo (jk T.QE qV hr (ja (pv 1) (ja (pv 3) (ja (pv 2) (ja jd jc))))) (pv 6) (nomark _)))))))))))))))),?_⟩
 refine ju (σ':=[some _,none,none,none,none,none,none,none,none]) rfl ?_
 try dsimp only[cxOf,Cx.nox]
 have sz:(10000:Nat)<sizeLine:=by decide
 exists⟨a,I,_,_,rfl,hS,g,by lia,by lia,by lia,by lia,fun r b pl pp a1 a2 names ls m M gs H1 s1 er B D N f3 a8 nl nd nW l1 l8 a9 lW aa=>?_⟩;have fl:(drawnPs names m).length=m.length:=qc;have bk:=D.bkok (names:=names) l8 N.l18 lW nW (by lia) (by lia);refine qj (SqT.of er) ?_;obtain⟨U,p0,F⟩:∃(U:Str) (f0:Fm),(drawnPs names m)[0]?=some (U,f0):=⟨_,_,vz (by lia)⟩
 obtain⟨a0,Y,ab,Z,_⟩:=B.pa.get F;have a7:Ws.isW U=true:=(bk.pn _ (vj F)).1;exists ixTm (SqT.of B.t) rfl ?_;exists ixLm (SqL.of B.p) (jL (j:=0) (by rw[vv,Y];rfl)) ?_;exists ixTm (SqT.of Z) rfl ?_;exists⟨(by show 5<=sizeLine;lia),?_⟩;walk_at"f 2 t";exists⟨a,I,_,rfl,(s1.trans s2).seq hS,g,by lia,?_⟩;generalize Pr.cell I 13=c13;obtain⟨x,ex,xW⟩:∃x:Str,atI [V.str "bell",V.str "bells",V.str "gong",V.str "bel",V.str U] (c13%5)=some (.str x)/\Ws.isW x=true:=by
  rcases(show c13%5=0\/c13%5=1\/c13%5=2\/c13%5=3\/c13%5=4 by lia)with e | e | e | e | e<;>rw[e]
  ·exact⟨_,rfl,by decide +kernel⟩
  ·exact⟨_,rfl,by decide +kernel⟩
  ·exact⟨_,rfl,by decide +kernel⟩
  ·exact⟨_,rfl,by decide +kernel⟩
  ·exact⟨_,rfl,a7⟩
 exists ixLm (SqL.of t2) (ex) ?_;walk_at"g";obtain⟨W,hW⟩:=j0h N x _ (va _);have B2:=B.same s2;obtain⟨d,o⟩:∃d:Mb,d=⟨ls,drawnPs names m,gs,M,x,W⟩:=⟨_,rfl⟩
 have O:MbS d:=by rw[o];exact⟨N,hW,xW,fun p hp=>(bk.pn p hp).2⟩
 have Bd:BkA H2 b d:=by rw[o];exact⟨pl,pp,a1,a2,B2⟩
 have eL:gs.getD (m.length-1) 0=d.L:=by
  rw[o];show _=gs.getD ((drawnPs names m).length-1) 0;rw[fl]
 have C:x=d.x:=by rw[o]
 have k:=O.g;have a5:=s1.trans s2;rw[eL,C];obtain⟨a3,a4,G,J,Bx⟩:=id Bd;have L1:=k.L1;have X:=k.L2;have w0:=k.w0;clear o C eL;refine⟨b,a3,a4,G,J,d.ls,d.ps,d.gs,d.hs,d.x,d.L,rfl,Bx,O.sn,O.x1,O.x2,by lia,(by show d.L<=d.L+1;lia),fun H3 s3=>?_⟩;rw[Xz k (by lia),k.whole];have n:=BkA.same s3 Bd;exists⟨b,d,rfl,n,k,fun p4 ev fv H4 s4 t4 R=>?_⟩;have f:=BkA.same s4 n;refine qj (SqT.of t4) ?_;exists iteD (fun c=>?_) (fun c=>?_)
 ·rw[vc c]at R;obtain⟨x,rfl,h⟩:=R;exists j07 h T.xA T.JW ⟨_,rfl,iteT ?_⟩;walk_at"g";exact j07 h T.xA T.Jh (q _)
 rw[vb c]at R;obtain⟨rfl,R⟩:=R;exists⟨rfl,_,rfl,iteF ?_⟩;exists⟨a,I,_,rfl,(a5.trans (s3.trans s4)).seq hS,g,by lia,?_⟩;generalize Pr.cell I 14=c14;exists⟨c14,d.L,rfl,L1,X,fun u u0 u1=>?_⟩;exists iteD (fun z=>?_) (fun z=>?_)
 ·have no:∀y,¬d.R y:=fun y ⟨w,⟨S,_⟩,_⟩=>by lia
  have L:∀{t:Int} {v:V},MeetR [d] t v->v = .non:=fun M=>by
   rcases M with⟨e,_⟩ | ⟨y,_,_,_,h,_⟩
   ·exact e
   ·exact uB (h d vq) (no y)
  have e1:=L R;subst e1;exists⟨rfl,_,rfl,iteT ?_⟩;exists⟨uC,?_⟩;walk_at"f 5 t";exists⟨uC,?_⟩;walk_at"f 6 t";exists⟨p5,p6,[b],[d],u,rfl,s6 _ _ t5,All2.cons (BkA.same (s5.trans s6) f) .nil,t6,(by show 1<=3;decide),fun x hx=>by rw[vo.mp hx];exact k.ok (by lia),fun v H7 s7 M2=>?_⟩;have e2:=L M2;subst e2;walk_at"g";exact⟨rfl,q _⟩
 have S:0<d.W.getD d.n 0:=by lia
 exists⟨b,d,u,rfl,f,k,u0,by lia,S,by lia,fun y H5 s5 y0 y1 yR ym=>?_⟩;exists iteD (fun z=>uB z (by lia)) (fun _=>?_);exists iteD (fun z3=>?_) (fun z3=>?_)
 ·walk_at"g";rw[vH (show 0<=y by lia)];exact q _
 exists⟨b,d,y+1,rfl,BkA.same s5 f,k,by lia,by lia,S,by lia,fun y' H6 s6 z0 z1 zR zm=>?_⟩;exists iteD (fun _=>?_) (fun c=>uB (show 0<=y' by lia) c);exists⟨b,d,0,rfl,BkA.same (s5.trans s6) f,k,by lia,by lia,S,by lia,fun l H7 s7 a6 x1 xR xm=>?_⟩;have L:fv = .int l:=by
  rcases R with⟨_,h⟩ | ⟨v,rfl,v0,_,vR,vm⟩
  ·exact uB (fun e he=>by rw[vo.mp he];exact yR) (h y)
  ·have h1:=vm l a6 fun e he=>by rw[vo.mp he];exact xR
   have h2:=xm v v0 (vR d vq);rw[show v=l by lia]
 subst L;walk_at"g";rw[vH rfl];exact q _
theorem j2T(T:Txt K mg t):FnOk P w K mg base CX0 11 t.j16 t.XR ["_law_script"] (Pr.sp_law K):=by
 have e:FnOk P w K mg base CX0 1 t.J1 t.qb _ _:=Ko T;have U:FnOk P w K mg base CX0 1 t.zG t.zN _ _:=W4 T;have f:=j1P T e U;have k:=j3s T e f;have n:=j1Q T k;have X:FnOk P w K mg base CX0 1 t.Qf t.Qk _ _:=Kn T;have F:FnOk P w K mg base CX0 1 t.QN t.QV _ _:=wX T;have c:=Xp T f n X F;have G:FnOk P w K mg base CX0 1 t.QO t.QW _ _:=wY T;have m:=wZ T f G;have g:=Zh T c m;have l:FnOk P w K mg base CX0 1 t.Qt t.Qv _ _:=W5 T;have L:=yt T l;have S:=W3 T L;have j:=Kp T g S;have I:FnOk P w K mg base CX0 1 t.yH t.yL _ _:=j0M T;have zy:=Km T I;have D:FnOk P w K mg base CX0 1 t.QM t.QU _ _:=wW T;have W:=W6 T D;have d:=Xq T g zy W;have a:FnOk P w K mg base (CX1 P w) 8 t.J0 t.JJ _ _:=W1 T g;have M:FnOk P w K mg base CX0 1 t.qC t.qE _ _:=YX T;have r:FnOk P w K mg base CX0 1 t.QK t.QS _ _:=wT T;have b:FnOk P w K mg base CX0 1 t.JP t.JR _ _:=wU T;have u:FnOk P w K mg base CX0 1 t.QL t.QT _ _:=wV T;have i:=kP T b;have C:FnOk P w K mg base CX0 1 t.QJ t.QR _ _:=wS T;have q:=kO T b i C;have B:=wQ T b i q;have zw:FnOk P w K mg base CX0 1 t.zE t.zL _ _:=W2 T;have z:=wP T r b u i B zw;have y:FnOk P w K mg base CX0 1 t.QI t.QQ _ _:=wO T;have Z:=Kk T d a;have N:=yT T e k c m;have J:=j0N T l;have p:=kN T J;have O:=yU T p;have o:=j1R T N O;have x:=Xo T c;have Y:=Kq T o x;have zx:FnOk P w K mg base CX0 1 t.Qe t.Qj _ _:=Kl T;have v:=Kj T j;have R:=wR T d Y zx v;exact j4t T j d M z y Z R
end
@[elab_as_elim] theorem uu1{P:List Value->Prop}(us:List Value)(hl:us.length=1)(h:∀a0,P [a0]):P us:=match us,hl with | [a0],_=>h a0
theorem bb1{K:Frg}{x q:Str}{st:Stmt}{f:Addr}{k:FuncData}{l:Str}(F:Fun K x q st f k)(h:∀(kV j p:Value) (m:Option Addr) (i n:Value) (a0:Value),bindArgs (W.fnOf x q (defArgs st) (defBody st) (defScope st) .none kV j p m i n) ⟨[a0],[]⟩=pure ([l].zip [a0]):=by intros;rfl):Binds K k [l] []:=F.binds fun a b c d e g r o=>uu1 r o (h a b c d e g)
@[elab_as_elim] theorem uu2{P:List Value->Prop}(us:List Value)(hl:us.length=2)(h:∀a0 a1,P [a0,a1]):P us:=match us,hl with | [a0,a1],_=>h a0 a1
theorem bb2{K:Frg}{x q:Str}{st:Stmt}{f:Addr}{l:FuncData}{m n:Str}(F:Fun K x q st f l)(h:∀(kV j s:Value) (o:Option Addr) (i p:Value) (a0 k:Value),bindArgs (W.fnOf x q (defArgs st) (defBody st) (defScope st) .none kV j s o i p) ⟨[a0,k],[]⟩=pure ([m,n].zip [a0,k]):=by intros;rfl):Binds K l [m,n] []:=F.binds fun a b c d e g t r=>uu2 t r (h a b c d e g)
@[elab_as_elim] theorem uu3{P:List Value->Prop}(us:List Value)(hl:us.length=3)(h:∀a0 a1 a2,P [a0,a1,a2]):P us:=match us,hl with | [a0,a1,a2],_=>h a0 a1 a2
theorem bb3{K:Frg}{x q:Str}{st:Stmt}{f:Addr}{m:FuncData}{n o p:Str}(F:Fun K x q st f m)(h:∀(kV j u:Value) (r:Option Addr) (i s:Value) (a0 k l:Value),bindArgs (W.fnOf x q (defArgs st) (defBody st) (defScope st) .none kV j u r i s) ⟨[a0,k,l],[]⟩=pure ([n,o,p].zip [a0,k,l]):=by intros;rfl):Binds K m [n,o,p] []:=F.binds fun a b c d e g v t=>uu3 v t (h a b c d e g)
@[elab_as_elim] theorem uu4{P:List Value->Prop}(us:List Value)(hl:us.length=4)(h:∀a0 a1 a2 a3,P [a0,a1,a2,a3]):P us:=match us,hl with | [a0,a1,a2,a3],_=>h a0 a1 a2 a3
theorem bb4{K:Frg}{x q:Str}{st:Stmt}{f:Addr}{n:FuncData}{o p r s:Str}(F:Fun K x q st f n)(h:∀(kV j w:Value) (t:Option Addr) (i u:Value) (a0 k l m:Value),bindArgs (W.fnOf x q (defArgs st) (defBody st) (defScope st) .none kV j w t i u) ⟨[a0,k,l,m],[]⟩=pure ([o,p,r,s].zip [a0,k,l,m]):=by intros;rfl):Binds K n [o,p,r,s] []:=F.binds fun a b c d e g y v=>uu4 y v (h a b c d e g)
@[elab_as_elim] theorem uu5{P:List Value->Prop}(us:List Value)(hl:us.length=5)(h:∀a0 a1 a2 a3 a4,P [a0,a1,a2,a3,a4]):P us:=match us,hl with | [a0,a1,a2,a3,a4],_=>h a0 a1 a2 a3 a4
theorem bb5{K:Frg}{x q:Str}{st:Stmt}{f:Addr}{o:FuncData}{p r s t u:Str}(F:Fun K x q st f o)(h:∀(kV j z:Value) (v:Option Addr) (i w:Value) (a0 k l m n:Value),bindArgs (W.fnOf x q (defArgs st) (defBody st) (defScope st) .none kV j z v i w) ⟨[a0,k,l,m,n],[]⟩=pure ([p,r,s,t,u].zip [a0,k,l,m,n]):=by intros;rfl):Binds K o [p,r,s,t,u] []:=F.binds fun a b c d e g A y=>uu5 A y (h a b c d e g)
@[elab_as_elim] theorem uu6{P:List Value->Prop}(us:List Value)(hl:us.length=6)(h:∀a0 a1 a2 a3 a4 a5,P [a0,a1,a2,a3,a4,a5]):P us:=match us,hl with | [a0,a1,a2,a3,a4,a5],_=>h a0 a1 a2 a3 a4 a5
theorem bb6{K:Frg}{x q:Str}{st:Stmt}{f:Addr}{p:FuncData}{r s t u v w:Str}(F:Fun K x q st f p)(h:∀(kV j B:Value) (y:Option Addr) (i z:Value) (a0 k l m n o:Value),bindArgs (W.fnOf x q (defArgs st) (defBody st) (defScope st) .none kV j B y i z) ⟨[a0,k,l,m,n,o],[]⟩=pure ([r,s,t,u,v,w].zip [a0,k,l,m,n,o]):=by intros;rfl):Binds K p [r,s,t,u,v,w] []:=F.binds fun a b c d e g C A=>uu6 C A (h a b c d e g)
abbrev Ng(K:Frg)(x:Str)(f:Addr):Prop:=W.nsIn K mainGlobals x=some (some (.ref f))
abbrev N0(K:Frg)(x:Str):Prop:=W.nsIn K mainGlobals x=some none
abbrev Nn(K:Frg)(C:Addr)(x:Str):Prop:=W.findIn K (.ref C) x=some none
abbrev Nx(K:Frg)(C:Addr)(x:Str)(f:Addr):Prop:=W.findIn K (.ref C) x=some (some (.ref f))
abbrev Fn1(K:Frg)(x:Str)(st:Stmt)(f:Addr)(d:FuncData):Prop:=Fun K x x st f d
set_option autoImplicit true in
theorem j4O{K:Frg}{h:Heap}{mg:Str->Option Value}(X:K.In h)(G:h.Ns mainGlobals mg)
  {b:Addr}
  (z:Ng K "Stage" b) (E:W.plainGet K b Str.empty=true) (B:W.hasDictIn K b=true) (F:W.plainOver K b=true) (H:W.findIn K (.ref b) "__setattr__"= some (some (.builtin "object.__setattr__"))) (D:W.makesIn K b=true) (C:W.keepIn K (.ref b)=true) (zc:Nn K b "limbs") (qS:Nn K b "first") (qT:Nn K b "forms") (Jm:Nn K b "sizes") (Qm:Nn K b "left") (qG:Nn K b "pieces")
  {a:Addr}
  (g:Ng K "RingTally" a) (n:W.plainGet K a Str.empty=true) (k:W.hasDictIn K a=true) (o:W.plainOver K a=true) (p:W.findIn K (.ref a) "__setattr__"= some (some (.builtin "object.__setattr__"))) (m:W.makesIn K a=true) (l:W.keepIn K (.ref a)=true) (jO:Nn K a "sizes") (JB:Nn K a "last") (jT:Nn K a "pieces") (jC:Nn K a "wholes")
  (a1:Ng K "_wall" f1) (F1:Fn1 K "_wall" Wo f1 d1)
  (a2:Ng K "numbers_of" f2) (F2:Fn1 K "numbers_of" Zc f2 d2)
  (a3:Ng K "names_in" f3) (F3:Fn1 K "names_in" yx f3 d3)
  (a4:Ng K "inner" f4) (F4:Fn1 K "inner" Y8 f4 d4)
  (a5:Ng K "ends" f5) (F5:Fn1 K "ends" XA f5 d5)
  (a6:Ng K "moved" f6) (F6:Fn1 K "moved" Y9 f6 d6)
  (a7:Ng K "check_side" f7) (F7:Fn1 K "check_side" Qo f7 d7)
  (a8:Ng K "length_of" f8) (F8:Fn1 K "length_of" ZO f8 d8)
  (a9:Ng K "lengths" f9) (F9:Fn1 K "lengths" zo f9 d9)
  (aR:Ng K "pieces_in" f10) (a0:Fn1 K "pieces_in" ZP f10 d10)
  (aS:Ng K "pieces_of" f11) (aa:Fn1 K "pieces_of" Q4 f11 d11)
  (aT:Ng K "progress" f12) (ab:Fn1 K "progress" yy f12 d12)
  (aD:Nx K a "__init__" f13) (aI:W.isFn K (.ref f13)=true) (L:Fun K "__init__" "RingTally.__init__" Jv f13 d13)
  (aU:Nx K a "ahead" f14) (bq:W.isFn K (.ref f14)=true) (N:Fun K "ahead" "RingTally.ahead" qH f14 d14)
  (aV:Ng K "ahead_of" f15) (ac:Fn1 K "ahead_of" yw f15 d15)
  (aW:Ng K "ring_count" f16) (ad:Fn1 K "ring_count" Zd f16 d16)
  (aX:Ng K "begins" f17) (ae:Fn1 K "begins" yX f17 d17)
  (aY:Ng K "beats_rung" f18) (af:Fn1 K "beats_rung" Qn f18 d18)
  (aZ:Ng K "common_of" f19) (ag:Fn1 K "common_of" ZN f19 d19)
  (b0:Ng K "together" f20) (ah:Fn1 K "together" Zf f20 d20)
  {aM aF:Option Addr} {aP:Array (Option Value)} {aL aK aH aO J aG:Value} {I:Addr} {U:Addr} {aN:Value} {Z:Option Addr} {Y:Array (Option Value)} {bw:Nat} {y:Tok}
  (b1:Ng K "meeting" I) (bv:K.lookup I=some ⟨aL,aM,.func (W.fnOf "meeting" "meeting" (defArgs JD) (defBody JD) (defScope JD) (.ref U) aK aH aO aF J aG),aP⟩) (bp:W.codeIn K J "meeting"= true) (bu:W.keepIn K (.ref I)=true) (aQ:K.lookup U=some ⟨aN,Z,.seq #[.int 0 y] bw,Y⟩)
  (b2:Ng K "within" f22) (ai:Fn1 K "within" kZ f22 d22)
  (aE:Nx K b "__init__" f23) (aJ:W.isFn K (.ref f23)=true) (Q:Fun K "__init__" "Stage.__init__" JC f23 d23)
  (b3:Nx K b "scene" f24) (br:W.isFn K (.ref f24)=true) (R:Fun K "scene" "Stage.scene" zf f24 d24)
  (b4:Nx K b "heights_at" f25) (bs:W.isFn K (.ref f25)=true) (S:Fun K "heights_at" "Stage.heights_at" qu f25 d25)
  (b5:Nx K b "words_at" f26) (bt:W.isFn K (.ref f26)=true) (T:Fun K "words_at" "Stage.words_at" qN f26 d26)
  (b6:Ng K "rings" f27) (aj:Fn1 K "rings" Wp f27 d27)
  (b7:Ng K "gone_at" f28) (ak:Fn1 K "gone_at" YD f28 d28)
  (b8:Ng K "rings_ever" f29) (al:Fn1 K "rings_ever" Ze f29 d29)
  (b9:Ng K "_law_cell_at" f30) (am:Fn1 K "_law_cell_at" QD f30 d30)
  (ba:Ng K "_law_pool" f31) (an:Fn1 K "_law_pool" ZK f31 d31)
  (bb:Ng K "_law_take" f32) (ao:Fn1 K "_law_take" ZL f32 d32)
  (bc:Ng K "_law_word" f33) (ap:Fn1 K "_law_word" ZM f33 d33)
  (bd:Ng K "_law_number" f34) (aq:Fn1 K "_law_number" zg f34 d34)
  (be:Ng K "_law_pair" f35) (ar:Fn1 K "_law_pair" Q3 f35 d35)
  (bf:Ng K "_law_naming" f36) (as:Fn1 K "_law_naming" qr f36 d36)
  (bg:Ng K "_law_form" f37) (au:Fn1 K "_law_form" Q2 f37 d37)
  (bh:Ng K "_law_put" f38) (av:Fn1 K "_law_put" JG f38 d38)
  (bi:Ng K "_law_book" f39) (aw:Fn1 K "_law_book" qX f39 d39)
  (bj:Ng K "_law_whole" f40) (ax:Fn1 K "_law_whole" Zb f40 d40)
  (bk:Ng K "_law_beat" f41) (ay:Fn1 K "_law_beat" ZI f41 d41)
  (bl:Ng K "_law_asked" f42) (az:Fn1 K "_law_asked" Za f42 d42)
  (bm:Ng K "_law_ahead" f43) (aA:Fn1 K "_law_ahead" zZ f43 d43)
  (bn:Ng K "_law_next" f44) (aB:Fn1 K "_law_next" ZJ f44 d44)
  (bo:Ng K "law" f45) (aC:Fn1 K "law" j2i f45 d45)
  {qg:Addr}
  (j:Ng K "MOST_NAMES" qg) (kk_MOST_NAMES:TabK K qg [("row",.flat (.int 8)),("side",.flat (.int 4))])
  {c:Addr}
  {d:Addr}
  (A:Ng K "Broad" c)
  (i:Ng K "PlayError" d)
  (ZU:W.excIn K c [.type "ValueError",.type "Exception",.type "BaseException",.type "object"] "ValueError.__new__"= true)
  (s:W.findIn K (.ref c) "__getattribute__"= some (some (.builtin "BaseException.__getattribute__")))
  (v:Nn K c "__getattr__")
  (r:W.findIn K (.ref c) "__class__"= some (some (.builtin "object.__class__")))
  (q:W.subIn K (.ref c) (.type "BaseException")=some true)
  (w:W.subIn K (.ref c) (.type "object")=some true)
  (u:W.isClsIn K c=true)
  (Jr:W.exmOne K (.ref c) (.ref d)=some true)
  (Jh:W.kitOne K (.ref c) (.type "ValueError")=some true)
  (JW:W.kitOne K (.ref c) (.ref c)=some true)
  (z0:N0 K "ValueError") (z1:N0 K "any") (z2:N0 K "bool") (z3:N0 K "dict") (z4:N0 K "enumerate") (z5:N0 K "int") (z6:N0 K "isinstance") (z7:N0 K "len") (z8:N0 K "list") (z9:N0 K "max") (bx:N0 K "min") (bz:N0 K "range") (bA:N0 K "set") (bB:N0 K "sorted") (bC:N0 K "sum") (bD:N0 K "tuple") (bE:N0 K "zip") :
  ∃t:Ad,Txt K mg t:=by
 have P:=j35 (st:=JD) bv bp bu;have M:∀{x f},Ng K x f->mg x=some (.ref f):=fun e=>W.mg_of X G e
 have O:∀{x},N0 K x->mg x=none:=fun e=>W.mg_none_of X G e
 exact⟨⟨f1,_,f2,_,f3,_,f4,_,f5,_,f6,_,f7,_,f8,_,f9,_,f10,_,f11,_,f12,_,f13,_,f14,_,f15,_,f16,_,f17,_,f18,_,f19,_,f20,_,I,_,U,f22,_,f23,_,f24,_,f25,_,f26,_,f27,_,f28,_,f29,_,f30,_,f31,_,f32,_,f33,_,f34,_,f35,_,f36,_,f37,_,f38,_,f39,_,f40,_,f41,_,f42,_,f43,_,f44,_,f45,_,a,b,c,d,_⟩,⟨⟨F1,M a1,bb1 F1⟩,⟨F2,M a2,bb1 F2⟩,⟨F3,M a3,bb1 F3⟩,⟨F4,M a4,bb1 F4⟩,⟨F5,M a5,bb1 F5⟩,⟨F6,M a6,bb1 F6⟩,⟨F7,M a7,bb3 F7⟩,⟨F8,M a8,bb2 F8⟩,⟨F9,M a9,bb1 F9⟩,⟨a0,M aR,bb3 a0⟩,⟨aa,M aS,bb2 aa⟩,⟨ab,M aT,bb3 ab⟩,L,⟨aD,aI,L.kp⟩,bb3 L,N,⟨aU,bq,N.kp⟩,bb2 N,⟨ac,M aV,bb2 ac⟩,⟨ad,M aW,bb3 ad⟩,⟨ae,M aX,bb3 ae⟩,⟨af,M aY,bb1 af⟩,⟨ag,M aZ,bb2 ag⟩,⟨ah,M b0,bb2 ah⟩,P,M b1,(FunD.binds (ps:=["books","words","beat"]) (ds:=[]) 3 P aQ rfl rfl fun _ _ _ _ _ _ us hl=>match us,hl with | [_,_,_],_=>⟨_,rfl,rfl⟩),⟨[.int 0 y],(FunD.binds (ps:=["books","words","beat"]) 2 P aQ rfl rfl fun _ _ _ _ _ _ us hl=>match us,hl with | [_,_],_=>⟨_,rfl,rfl⟩),(.cons ⟨_,rfl⟩ .nil)⟩,⟨ai,M b2,bb3 ai⟩,Q,⟨aE,aJ,Q.kp⟩,bb2 Q,R,⟨b3,br,R.kp⟩,bb2 R,S,⟨b4,bs,S.kp⟩,bb2 S,T,⟨b5,bt,T.kp⟩,bb2 T,⟨aj,M b6,bb2 aj⟩,⟨ak,M b7,bb2 ak⟩,⟨al,M b8,bb2 al⟩,⟨am,M b9,bb2 am⟩,⟨an,M ba,bb2 an⟩,⟨ao,M bb,bb2 ao⟩,⟨ap,M bc,bb2 ap⟩,⟨aq,M bd,bb2 aq⟩,⟨ar,M be,bb2 ar⟩,⟨as,M bf,bb6 as⟩,⟨au,M bg,bb5 au⟩,⟨av,M bh,bb5 av⟩,⟨aw,M bi,bb3 aw⟩,⟨ax,M bj,bb1 ax⟩,⟨ay,M bk,bb2 ay⟩,⟨az,M bl,bb2 az⟩,⟨aA,M bm,bb4 aA⟩,⟨aB,M bn,bb4 aB⟩,⟨aC,M bo,bb1 aC⟩,⟨n,k,o,p⟩,⟨m,aD,aI,l⟩,M g,jO,JB,jT,jC,⟨E,B,F,H⟩,⟨D,aE,aJ,C⟩,M z,zc,qS,qT,Jm,Qm,qG,M A,M i,ZU,⟨s,v,r,q,w,u⟩,Jr,Jh,JW,O z0,O z1,O z2,O z3,O z4,O z5,O z6,O z7,O z8,O z9,O bx,O bz,O bA,O bB,O bC,O bD,O bE,M j,kk_MOST_NAMES⟩⟩
end K46
open PySem PySem.W PyProof.Rows
set_option maxRecDepth 100000 in
set_option maxHeartbeats 0 in
theorem PySem.Challenge.cw_camplay_k46_one_book_rings_holds : PySem.Challenge.rw_camplay_k46_one_book_rings.Holds := by
 w_on;o_law;k_head;(case hw=>w_witness2)
 k_fill
 refine L2.j2K (l:=PySem.Challenge.rw_camplay_k46_one_book_rings) (n:=63) (k:=11) (x:="_law_script") (CX:=L2.CX0) (sp:=Pr.sp_law) rfl (by decide) rfl ⟨rfl,by decide,by decide⟩ (fun w h Y=>PySem.W.kIn_of Y) ?F (fun K H a ns hl hb hO hS=>⟨a,ns,rfl,hS,hl,hb,fun _=>rfl⟩) (fun _ _ _ _ z=>z)
 case F=>
  intro w mg fa h KX G hmg;have TT:∃t:K46.Ad,K46.Txt (L2.KOf KX) mg t:=by
   dsimp only[L2.KOf];refine' K46.j4O KX G ?_ ?_ ?_ ?_ ?_ ?_ ?_ ?_ ?_ ?_ ?_ ?_ ?_ ?_ ?_ ?_ ?_ ?_ ?_ ?_ ?_ ?_ ?_ ?_ ?_ (L2.jG ?_ ?_ ?_) ?_ (L2.jG ?_ ?_ ?_) ?_ (L2.jG ?_ ?_ ?_) ?_ (L2.jG ?_ ?_ ?_) ?_ (L2.jG ?_ ?_ ?_) ?_ (L2.jG ?_ ?_ ?_) ?_ (L2.jG ?_ ?_ ?_) ?_ (L2.jG ?_ ?_ ?_) ?_ (L2.jG ?_ ?_ ?_) ?_ (L2.jG ?_ ?_ ?_) ?_ (L2.jG ?_ ?_ ?_) ?_ (L2.jG ?_ ?_ ?_) ?_ ?_ (L2.jG ?_ ?_ ?_) ?_ ?_ (L2.jG ?_ ?_ ?_) ?_ (L2.jG ?_ ?_ ?_) ?_ (L2.jG ?_ ?_ ?_) ?_ (L2.jG ?_ ?_ ?_) ?_ (L2.jG ?_ ?_ ?_) ?_ (L2.jG ?_ ?_ ?_) ?_ (L2.jG ?_ ?_ ?_) ?_ ?_ ?_ ?_ ?_ ?_ (L2.jG ?_ ?_ ?_) ?_ ?_ (L2.jG ?_ ?_ ?_) ?_ ?_ (L2.jG ?_ ?_ ?_) ?_ ?_ (L2.jG ?_ ?_ ?_) ?_ ?_ (L2.jG ?_ ?_ ?_) ?_ (L2.jG ?_ ?_ ?_) ?_ (L2.jG ?_ ?_ ?_) ?_ (L2.jG ?_ ?_ ?_) ?_ (L2.jG ?_ ?_ ?_) ?_ (L2.jG ?_ ?_ ?_) ?_ (L2.jG ?_ ?_ ?_) ?_ (L2.jG ?_ ?_ ?_) ?_ (L2.jG ?_ ?_ ?_) ?_ (L2.jG ?_ ?_ ?_) ?_ (L2.jG ?_ ?_ ?_) ?_ (L2.jG ?_ ?_ ?_) ?_ (L2.jG ?_ ?_ ?_) ?_ (L2.jG ?_ ?_ ?_) ?_ (L2.jG ?_ ?_ ?_) ?_ (L2.jG ?_ ?_ ?_) ?_ (L2.jG ?_ ?_ ?_) ?_ (L2.jG ?_ ?_ ?_) ?_ (L2.jG ?_ ?_ ?_) ?_ (L2.jG ?_ ?_ ?_) ?_ ?kk_MOST_NAMES ?_ ?_ ?ZU ?_ ?_ ?_ ?_ ?_ ?_ ?Jr ?Jh ?JW ?_ ?_ ?_ ?_ ?_ ?_ ?_ ?_ ?_ ?_ ?_ ?_ ?_ ?_ ?_ ?_ ?_
   any_goals first | (show PySem.W.nsIn _ _ _=_;k_is) | (show PySem.W.findIn _ _ _=_;k_is) | k_is
   (case kk_MOST_NAMES=>(show PyProof.Rows.KTD.tabLook _ _ _ _=true);kernel_rfl)
   (case ZU=>k_exc)
   (case Jr=>kts_exm)
   (case Jh=>kit_is)
   (case JW=>kit_is)
  obtain⟨t,T⟩:=TT;obtain⟨_,_,kV,dc,pm,an,cd,ct,_,e,_⟩:=T.j14.F.ex;have e0:=hmg.symm.trans T.j14.m;cases e0;refine⟨t.XR,fun s v=>?_,fun base _ _=>K46.j2T T⟩;rw[e];exact .of_eq rfl
#print axioms PySem.Challenge.cw_camplay_k46_one_book_rings_holds
